/-
  What the laws of layer 15 need of the program's table: its methods' contracts, over whatever lies behind its pointer (P S w B t: the table t behind block B, all that it has in S).
-/
import Derived.Test.YtphjlcogjalidaaTbSame
import Derived.Test.YtphjlcogjalidaaTbRefC
import Derived.Test.YtphjlcogjalidaaTbRefD
namespace Go.Proofs.Ytphjlcogjalidaa
open Go.RowKit
set_option linter.unusedSimpArgs false
set_option linter.unusedVariables false

/-- Rows that the call itself has made. -/
def NewRows (w : World) (l : List (Rw Int)) (e : Ending) (w' : World) : Prop :=
  ∃ A c, e = .returned (.slice A l.length c) ∧ SK trC 4 w' A l.length l ∧ l.length ≤ c ∧ c ≤ maxLen ∧ (∀ b off, A = some ⟨b, off, none⟩ → w.heap.size ≤ b) ∧ Below w.heap.size w w'
/-- What Drop makes. -/
def Tb.dropT {α : Type} (t : Tb α) (k : ByteArray) (i : Nat) : Tb α := if (getR t.l k).isSome then t.drop k i else t
structure Prg (P : (Nat → Prop) → World → Nat → Tb Int → Prop) : Prop where
  ok : ∀ {S w B t}, P S w B t → t.Ok
  mine : ∀ {S w B t}, P S w B t → S B
  lt : ∀ {S w B t}, P S w B t → B < w.heap.size
  but : ∀ {S S' : Nat → Prop} {w w' B t}, P S w B t → But S' w w' → (∀ k, S' k → ¬ S k) → P S w' B t
  narrow : ∀ {S S' : Nat → Prop} {w B t}, P S w B t → (∀ k, k < w.heap.size → S k → S' k) → P S' w B t
  new : ∀ (m : Int) (w : World), -9223372036854775808 ≤ m ∧ m ≤ 9223372036854775807 → Calls Try.prog 7 #[.int .i64 m] w fun e w' => ∃ B, e = .returned (.pointer (some ⟨B, 0, none⟩)) ∧ P (fun k => w.heap.size ≤ k) w' B ⟨mostT m, [], 0⟩ ∧ Below w.heap.size w w'
  put : ∀ {S B t} (k : ByteArray) (v : Int) (i : Nat) (w : World), P S w B t → i < 18446744073709551616 → k.size ≤ maxLen → Calls Try.prog 17 #[.pointer (some ⟨B, 0, none⟩), .string k, .int .i64 v, .int .u64 (i : Int)] w fun e w' => e = .returned (putV t k v i) ∧ P (fun k => S k ∨ w.heap.size ≤ k) w' B (t.putT k v i) ∧ But (· = B) w w'
  drop : ∀ {S B t} (k : ByteArray) (i : Nat) (w : World), P S w B t → i < 18446744073709551616 → k.size ≤ maxLen → Calls Try.prog 19 #[.pointer (some ⟨B, 0, none⟩), .string k, .int .u64 (i : Int)] w fun e w' => e = .returned (.bool (getR t.l k).isSome) ∧ P (fun k => S k ∨ w.heap.size ≤ k) w' B (t.dropT k i) ∧ But (· = B) w w'
  get : ∀ {S B t} (k : ByteArray) (w : World), P S w B t → k.size ≤ maxLen → Calls Try.prog 10 #[.pointer (some ⟨B, 0, none⟩), .string k] w fun e w' => e = .returned (gotR (getR t.l k)) ∧ Below w.heap.size w w'
  raise : ∀ {S B t} (i : Nat) (w : World), P S w B t → i < 18446744073709551616 → Calls Try.prog 20 #[.pointer (some ⟨B, 0, none⟩), .int .u64 (i : Int)] w fun e w' => e = .returned (.tuple #[]) ∧ P S w' B (t.raise i) ∧ But (· = B) w w'
  last : ∀ {S B t} (w : World), P S w B t → Calls Try.prog 13 #[.pointer (some ⟨B, 0, none⟩)] w fun e w' => e = .returned (.int .u64 (t.last : Int)) ∧ Below w.heap.size w w'
  count : ∀ {S B t} (w : World), P S w B t → Calls Try.prog 14 #[.pointer (some ⟨B, 0, none⟩)] w fun e w' => e = .returned (.int .i64 (t.l.length : Int)) ∧ Below w.heap.size w w'
  list : ∀ {S B t} (w : World), P S w B t → Calls Try.prog 15 #[.pointer (some ⟨B, 0, none⟩)] w (NewRows w t.l)
  under : ∀ {S B t} (p : ByteArray) (w : World), P S w B t → p.size ≤ maxLen → Calls Try.prog 21 #[.pointer (some ⟨B, 0, none⟩), .string p] w (NewRows w (undR t.l p))
  copy : ∀ {S B t} (w : World), P S w B t → Calls Try.prog 22 #[.pointer (some ⟨B, 0, none⟩)] w fun e w' => ∃ B' S', e = .returned (.pointer (some ⟨B', 0, none⟩)) ∧ w.heap.size ≤ B' ∧ P S' w' B' t ∧ Below w.heap.size w w'
section
variable {P : (Nat → Prop) → World → Nat → Tb Int → Prop}
theorem Prg.below (C : Prg P) {S : Nat → Prop} {w w' : World} {B : Nat} {t : Tb Int} (h : P S w B t) (hb : Below w.heap.size w w') : P S w' B t := C.but (S' := fun _ => False) h (But.of_below hb) (fun _ h => h.elim)

/-- Both tables, each with what is its own; none has anything outside O. -/
def Both (P : (Nat → Prop) → World → Nat → Tb Int → Prop) (O : Nat → Prop) (w : World) (Bp : Nat) (tp : Tb Int) (Bd : Nat) (td : Tb Int) : Prop :=
  ∃ Sp Sd : Nat → Prop, P Sp w Bp tp ∧ RtAt Sd w Bd td ∧ (∀ k, Sp k → O k ∧ k < w.heap.size ∧ ¬ Sd k) ∧ (∀ k, Sd k → O k ∧ k < w.heap.size) ∧ ∀ k, w.heap.size ≤ k → O k
theorem RtAt.narrow {S S' : Nat → Prop} {w : World} {B : Nat} {t : Tb Int} (h : RtAt S w B t) (hs : ∀ k, k < w.heap.size → S k → S' k) : RtAt S' w B t := by
  obtain ⟨h0, A, c, h1⟩ := h
  exact ⟨h0, A, c, h1.narrow hs⟩
theorem RtAt.mine {S : Nat → Prop} {w : World} {B : Nat} {t : Tb Int} (h : RtAt S w B t) : S B := by
  obtain ⟨_, A, c, h1⟩ := h
  exact h1.mine
section
variable {O O' : Nat → Prop} {Bp Bd : Nat} {tp td : Tb Int} {w w' : World}
theorem Both.below (C : Prg P) (h : Both P O w Bp tp Bd td) (hb : Below w.heap.size w w') : Both P O w' Bp tp Bd td := by
  obtain ⟨Sp, Sd, h1, h2, h3, h4, h5⟩ := h
  have hz := hb.size
  exact ⟨Sp, Sd, C.below h1 hb, h2.below hb, fun k hk => ⟨(h3 k hk).1, by have := (h3 k hk).2.1; omega, (h3 k hk).2.2⟩, fun k hk => ⟨(h4 k hk).1, by have := (h4 k hk).2; omega⟩, fun k hk => h5 k (by omega)⟩
/-- What the call itself has laid aside is none of theirs. -/
theorem Both.box (C : Prg P) (h : Both P O w Bp tp Bd td) (hb : Below w.heap.size w w') {X : Nat} (h1 : w.heap.size ≤ X) (h2 : X < w'.heap.size) : Both P (fun k => O k ∧ k ≠ X) w' Bp tp Bd td := by
  obtain ⟨Sp, Sd, k1, k2, k3, k4, k5⟩ := h
  have hz := hb.size
  exact ⟨Sp, Sd, C.below k1 hb, k2.below hb, fun k hk => ⟨⟨(k3 k hk).1, by have := (k3 k hk).2.1; omega⟩, by have := (k3 k hk).2.1; omega, (k3 k hk).2.2⟩, fun k hk => ⟨⟨(k4 k hk).1, by have := (k4 k hk).2; omega⟩, by have := (k4 k hk).2; omega⟩, fun k hk => ⟨k5 k (by omega), by omega⟩⟩
theorem Both.wide (h : Both P O w Bp tp Bd td) (hs : ∀ k, O k → O' k) : Both P O' w Bp tp Bd td := by
  obtain ⟨Sp, Sd, k1, k2, k3, k4, k5⟩ := h
  exact ⟨Sp, Sd, k1, k2, fun k hk => ⟨hs k (k3 k hk).1, (k3 k hk).2⟩, fun k hk => ⟨hs k (k4 k hk).1, (k4 k hk).2⟩, fun k hk => hs k (k5 k hk)⟩
/-- A call of the program's. -/
theorem Both.left (C : Prg P) (h : Both P O w Bp tp Bd td) : ∃ Sp, P Sp w Bp tp ∧ ∀ w' t', P (fun k => Sp k ∨ w.heap.size ≤ k) w' Bp t' → But (· = Bp) w w' → Both P O w' Bp t' Bd td ∧ But O w w' := by
  obtain ⟨Sp, Sd, h1, h2, h3, h4, h5⟩ := h
  refine ⟨Sp, h1, fun w' t' k1 kb0 => ?_⟩
  have kb : But Sp w w' := kb0.mono fun k e => by rw [e]; exact C.mine h1
  have hz := kb.size
  refine ⟨⟨fun k => (Sp k ∨ w.heap.size ≤ k) ∧ k < w'.heap.size, Sd, C.narrow k1 fun k hk hs => ⟨hs, hk⟩, h2.but kb fun k hk => (h3 k hk).2.2, fun k hk => ?_, fun k hk => ⟨(h4 k hk).1, by have := (h4 k hk).2; omega⟩, fun k hk => h5 k (by omega)⟩, kb.mono fun k hk => (h3 k hk).1⟩
  rcases hk with ⟨hs | hs, hl⟩
  · exact ⟨(h3 k hs).1, hl, (h3 k hs).2.2⟩
  · exact ⟨h5 k hs, hl, fun e => by have := (h4 k e).2; omega⟩
/-- A call of the document's. -/
theorem Both.right (C : Prg P) (h : Both P O w Bp tp Bd td) : ∃ Sd, RtAt Sd w Bd td ∧ ∀ w' t', RtAt (fun k => Sd k ∨ w.heap.size ≤ k) w' Bd t' → But (· = Bd) w w' → Both P O w' Bp tp Bd t' ∧ But O w w' := by
  obtain ⟨Sp, Sd, h1, h2, h3, h4, h5⟩ := h
  refine ⟨Sd, h2, fun w' t' k1 kb => ?_⟩
  have hz := kb.size
  have hm := h2.mine
  refine ⟨⟨Sp, fun k => (Sd k ∨ w.heap.size ≤ k) ∧ k < w'.heap.size, C.but h1 kb (fun k e hs => (h3 k hs).2.2 (e ▸ hm)), k1.narrow fun k hk hs => ⟨hs, hk⟩, fun k hk => ⟨(h3 k hk).1, by have := (h3 k hk).2.1; omega, fun e => ?_⟩, fun k hk => ?_, fun k hk => h5 k (by omega)⟩, kb.mono fun k hs => (h4 k (hs ▸ hm)).1⟩
  · rcases e with ⟨e | e, _⟩
    · exact (h3 k hk).2.2 e
    · have := (h3 k hk).2.1; omega
  · rcases hk with ⟨hs | hs, hl⟩
    · exact ⟨(h4 k hs).1, hl⟩
    · exact ⟨h5 k hs, hl⟩
/-- A call of the program's that only reads. -/
theorem Both.read (h : Both P O w Bp tp Bd td) : ∃ Sp, P Sp w Bp tp := by
  obtain ⟨Sp, Sd, h1, _⟩ := h
  exact ⟨Sp, h1⟩
theorem Both.ref (h : Both P O w Bp tp Bd td) : ∃ Sd, RtAt Sd w Bd td := by
  obtain ⟨Sp, Sd, _, h1, _⟩ := h
  exact ⟨Sd, h1⟩
/-! ### The calls over both -/
theorem both_put (C : Prg P) (k : ByteArray) (v : Int) (i : Nat) (h : Both P O w Bp tp Bd td) (hi : i < 18446744073709551616) (hk : k.size ≤ maxLen) :
    Calls Try.prog 17 #[.pointer (some ⟨Bp, 0, none⟩), .string k, .int .i64 v, .int .u64 (i : Int)] w fun e w' => e = .returned (putV tp k v i) ∧ Both P O w' Bp (tp.putT k v i) Bd td ∧ But O w w' := by
  obtain ⟨S, h1, h2⟩ := h.left C
  exact (C.put k v i w h1 hi hk).mono fun e w' ⟨a, b, c⟩ => ⟨a, h2 w' _ b c⟩
theorem both_rput (C : Prg P) (k : ByteArray) (v : Int) (i : Nat) (h : Both P O w Bp tp Bd td) (hi : i < 18446744073709551616) (hk : k.size ≤ maxLen) :
    Calls Try.prog 23 #[.pointer (some ⟨Bd, 0, none⟩), .string k, .int .i64 v, .int .u64 (i : Int)] w fun e w' => e = .returned (putV td k v i) ∧ Both P O w' Bp tp Bd (td.putT k v i) ∧ But O w w' := by
  obtain ⟨S, h1, h2⟩ := h.right C
  exact (rput_any k v i w h1 hi hk).mono fun e w' ⟨a, b, c⟩ => ⟨a, h2 w' _ b c⟩
theorem both_drop (C : Prg P) (k : ByteArray) (i : Nat) (h : Both P O w Bp tp Bd td) (hi : i < 18446744073709551616) (hk : k.size ≤ maxLen) :
    Calls Try.prog 19 #[.pointer (some ⟨Bp, 0, none⟩), .string k, .int .u64 (i : Int)] w fun e w' => e = .returned (.bool (getR tp.l k).isSome) ∧ Both P O w' Bp (tp.dropT k i) Bd td ∧ But O w w' := by
  obtain ⟨S, h1, h2⟩ := h.left C
  exact (C.drop k i w h1 hi hk).mono fun e w' ⟨a, b, c⟩ => ⟨a, h2 w' _ b c⟩
theorem both_rdrop (C : Prg P) (k : ByteArray) (i : Nat) (h : Both P O w Bp tp Bd td) (hi : i < 18446744073709551616) :
    Calls Try.prog 24 #[.pointer (some ⟨Bd, 0, none⟩), .string k, .int .u64 (i : Int)] w fun e w' => e = .returned (.bool (getR td.l k).isSome) ∧ Both P O w' Bp tp Bd (td.dropT k i) ∧ But O w w' := by
  obtain ⟨S, h1, h2⟩ := h.right C
  exact (rdrop_any k i w h1 hi).mono fun e w' ⟨a, b, c⟩ => ⟨a, h2 w' _ b c⟩
theorem both_raise (C : Prg P) (i : Nat) (h : Both P O w Bp tp Bd td) (hi : i < 18446744073709551616) :
    Calls Try.prog 20 #[.pointer (some ⟨Bp, 0, none⟩), .int .u64 (i : Int)] w fun e w' => e = .returned (.tuple #[]) ∧ Both P O w' Bp (tp.raise i) Bd td ∧ But O w w' := by
  obtain ⟨S, h1, h2⟩ := h.left C
  exact (C.raise i w h1 hi).mono fun e w' ⟨a, b, c⟩ => ⟨a, h2 w' _ (C.narrow b fun _ _ z => .inl z) c⟩
theorem both_rraise (C : Prg P) (i : Nat) (h : Both P O w Bp tp Bd td) (hi : i < 18446744073709551616) :
    Calls Try.prog 25 #[.pointer (some ⟨Bd, 0, none⟩), .int .u64 (i : Int)] w fun e w' => e = .returned (.tuple #[]) ∧ Both P O w' Bp tp Bd (td.raise i) ∧ But O w w' := by
  obtain ⟨S, h1, h2⟩ := h.right C
  obtain ⟨hok, A, c, h3⟩ := h1
  exact (rraise_any i w h3 hok.lst hi).mono fun e w' ⟨a, b, d⟩ => ⟨a, h2 w' _ ⟨hok.raise hi, A, c, b.narrow fun _ _ z => .inl z⟩ d⟩
end
set_option maxHeartbeats 4000000 in
theorem works_any (C : Prg P) (w : World) : Calls Try.prog 16 #[] w fun e w' => e = .returned (.bool true) ∧ Below w.heap.size w w' := by
  have HC := Lib.hid C
  have HN := Lib.hid (C.new 2 w (by omega))
  clear C
  go_enter Try.func16, Try.ntmps16
  go_wp2_with fail
  refine HN.out.mono ?_
  rintro e w1 ⟨B, rfl, hp, hb1⟩
  have HB1 := Lib.hid hb1
  have HMi := Lib.hid (HC.out.mine hp)
  have HP := Lib.hid (HC.out.put ⟨#[98]⟩ 7 3 w1 hp (by decide) (by decide))
  clear hp hb1 HN
  go_wp2_with fail
  refine HP.out.mono ?_
  rintro e w2 ⟨rfl, hp2, hb2⟩
  have hv : putV ⟨mostT 2, [], 0⟩ ⟨#[98]⟩ 7 3 = .tuple #[.agg #[.string ⟨#[98]⟩, .int .i64 7, .int .u64 3, .int .u64 3], .int .i64 0] := by
    simp [putV, Tb.fullB, getR, Tb.row, trV, mostT]
  have ht : (⟨mostT 2, [], 0⟩ : Tb Int).putT ⟨#[98]⟩ 7 3 = ⟨2, [⟨⟨#[98]⟩, 7, 3, 3⟩], 3⟩ := by
    simp [Tb.putT, Tb.put, Tb.fullB, getR, Tb.row, mostT, layR]
  rw [ht] at hp2
  rw [hv]
  have HB2 : Hid (Below w.heap.size w w2) := Lib.hid (HB1.out.trans (hb2.below HB1.out.size fun k hk hs => by have : w.heap.size ≤ B := HMi.out; omega))
  obtain ⟨W3, hW3⟩ : ∃ W3, w2.alloc (.cells #[.string ⟨#[98]⟩, .int .i64 7, .int .u64 3, .int .u64 3] 32) = W3 := ⟨_, rfl⟩
  have hb3 : Below w2.heap.size w2 W3 := by rw [← hW3]; exact below1 _ _ _
  have HG := Lib.hid (HC.out.get ⟨#[98]⟩ W3 (HC.out.below hp2 hb3) (by decide))
  have HB3 : Hid (Below w.heap.size w W3) := Lib.hid (HB2.out.trans (hb3.mono HB2.out.size))
  have HW3 := Lib.hid hW3
  have hg : gotR (getR ([⟨⟨#[98]⟩, 7, 3, 3⟩] : List (Rw Int)) ⟨#[98]⟩) = .tuple #[.agg #[.string ⟨#[98]⟩, .int .i64 7, .int .u64 3, .int .u64 3], .bool true] := by
    simp [gotR, getR, trV]
  clear HP hp2 hb2 hv ht hW3 hb3 HB2
  go_wp2_with fail
  rw [HW3.out]
  refine HG.out.mono ?_
  rintro e w4 ⟨rfl, hb4⟩
  rw [hg]
  have HB4 := Lib.hid (HB3.out.trans (hb4.mono HB3.out.size))
  have ue := tr_eq ⟨⟨#[98]⟩, 7, 3, 3⟩ ⟨⟨#[98]⟩, 7, 3, 3⟩
  have ug := tr_guard
  rw [(eqB_iff _ _).2 rfl] at ue
  unfold trV at ue
  clear HG hg hb4
  go_wp2
  go_ret
  exact ⟨rfl, HB4.out.alloc HB4.out.size _⟩
end
end Go.Proofs.Ytphjlcogjalidaa
