/-
  A ring with its draws: the program's and the document's methods over both (layer 12).
-/
import Derived.Test.YtckeknhoimgccaaPrAdd
import Derived.Test.YtckeknhoimgccaaPrRemove
import Derived.Test.YtckeknhoimgccaaPrNext
import Derived.Test.YtckeknhoimgccaaPrOthers
import Derived.Test.YtckeknhoimgccaaPrRefB
import Derived.Test.YtckeknhoimgccaaPrRefC
import Derived.Test.YtckeknhoimgccaaPrRefD
import Derived.Test.YtckeknhoimgccaaENew
namespace Go.Proofs.Ytckeknhoimgccaa
open Go.RowKit
set_option linter.unusedSimpArgs false
set_option linter.unusedVariables false

theorem tgt_is {b k : Nat} : Tgt (.pointer (some ⟨b, 0, none⟩)) k ↔ k = b := by
  unfold Tgt
  constructor
  · intro h
    simp only [Value.pointer.injEq, Option.some.injEq, Addr.mk.injEq] at h
    exact h.1.symm
  · rintro rfl
    rfl
def Rg.added (g : Rg) (n : Int) (d : Dr) : Rg := if g.takes n then g.add n (d.below (g.row.length + 1 : Nat)) else g
def Dr.added (d : Dr) (g : Rg) (n : Int) : Dr := if g.takes n then d.next (g.row.length + 1 : Nat) else d
theorem Rg.remove_out {g : Rg} {n : Int} (h : g.row.contains n = false) : g.remove n = g := by
  have hn : n ∉ g.row := by simpa using h
  unfold Rg.remove
  rw [filter_out hn, if_neg (fun e => by rw [h] at e; cases e.2)]
def Two (B b : Nat) : Nat → Prop := fun k => k = B ∨ k = b
/-- The program's ring and its draws. -/
structure PrIs (S : Nat → Prop) (B b : Nat) (w : World) (g : Rg) (d : Dr) : Prop where
  ring : RgAt true S w B g
  dw : DwAt S w (.pointer (some ⟨b, 0, none⟩)) d
  ne : b ≠ B
  lt : ∀ k, S k → k < w.heap.size
/-- The document's. -/
structure DoIs (S : Nat → Prop) (B b : Nat) (w : World) (g : Rg) (d : Dr) : Prop where
  ring : RgAt false S w B g
  dw : RwAt S w b d
  ne : b ≠ B
  lt : ∀ k, S k → k < w.heap.size
section
variable {S S' : Nat → Prop} {B b : Nat} {w w' : World} {g : Rg} {d : Dr}
theorem PrIs.sub (h : PrIs S B b w g d) : ∀ k, Two B b k → S k := fun k hk => hk.elim (fun e => by rw [e]; exact h.ring.mine) (fun e => h.dw.names k (tgt_is.2 e))
theorem DoIs.sub (h : DoIs S B b w g d) : ∀ k, Two B b k → S k := fun k hk => hk.elim (fun e => by rw [e]; exact h.ring.mine) (fun e => by rw [e]; exact h.dw.2.1)
theorem PrIs.but (h : PrIs S B b w g d) (hb : But S' w w') (hS : ∀ k, S' k → S k) (h1 : ¬ S' B) (h2 : ¬ S' b) : PrIs S B b w' g d :=
  ⟨h.ring.but hb hS h1, h.dw.but hb hS (fun k hk ht => h2 (tgt_is.1 ht ▸ hk)), h.ne, fun k hk => Nat.lt_of_lt_of_le (h.lt k hk) hb.size⟩
theorem DoIs.but (h : DoIs S B b w g d) (hb : But S' w w') (hS : ∀ k, S' k → S k) (h1 : ¬ S' B) (h2 : ¬ S' b) : DoIs S B b w' g d :=
  ⟨h.ring.but hb hS h1, h.dw.but hb hS h2, h.ne, fun k hk => Nat.lt_of_lt_of_le (h.lt k hk) hb.size⟩
theorem PrIs.below (h : PrIs S B b w g d) (hb : Below w.heap.size w w') : PrIs S B b w' g d := h.but (S' := fun _ => False) (But.of_below hb) (fun _ h => h.elim) (fun h => h) (fun h => h)
theorem DoIs.below (h : DoIs S B b w g d) (hb : Below w.heap.size w w') : DoIs S B b w' g d := h.but (S' := fun _ => False) (But.of_below hb) (fun _ h => h.elim) (fun h => h) (fun h => h)
theorem PrIs.okD (h : PrIs S B b w g d) : okD d := h.dw.1
theorem PrIs.ok (h : PrIs S B b w g d) : g.ok := h.ring.1

theorem PrIs.add (h : PrIs S B b w g d) (n : Int) : Calls Try.prog 11 #[.pointer (some ⟨B, 0, none⟩), .int .i64 n, .pointer (some ⟨b, 0, none⟩)] w fun e w' => e = .returned (.bool (g.takes n)) ∧ PrIs S B b w' (g.added n d) (d.added g n) ∧ But (Two B b) w w' := by
  cases ht : g.takes n with
  | false =>
    refine (add_no _ n w h.ring ht).mono ?_
    rintro e w' ⟨rfl, rfl⟩
    unfold Rg.added Dr.added
    rw [ht]
    exact ⟨rfl, h, But.refl _ _⟩
  | true =>
    refine (add_yes _ n w h.ring h.dw h.lt (fun e => h.ne (tgt_is.1 e).symm) ht).mono ?_
    rintro e w' ⟨rfl, h1, h2, h3⟩
    unfold Rg.added Dr.added
    rw [ht]
    exact ⟨rfl, ⟨h1, h2, h.ne, fun k hk => Nat.lt_of_lt_of_le (h.lt k hk) h3.size⟩, h3.mono fun k e => e.imp id tgt_is.1⟩
theorem DoIs.add (h : DoIs S B b w g d) (n : Int) : Calls Try.prog 12 #[.pointer (some ⟨B, 0, none⟩), .int .i64 n, .pointer (some ⟨b, 0, none⟩)] w fun e w' => e = .returned (.bool (g.takes n)) ∧ DoIs S B b w' (g.added n d) (d.added g n) ∧ But (Two B b) w w' := by
  cases ht : g.takes n with
  | false =>
    refine (radd_no _ n w h.ring ht).mono ?_
    rintro e w' ⟨rfl, rfl⟩
    unfold Rg.added Dr.added
    rw [ht]
    exact ⟨rfl, h, But.refl _ _⟩
  | true =>
    refine (radd_yes n w h.ring h.dw h.lt h.ne ht).mono ?_
    rintro e w' ⟨rfl, h1, h2, h3⟩
    unfold Rg.added Dr.added
    rw [ht]
    exact ⟨rfl, ⟨h1, h2, h.ne, fun k hk => Nat.lt_of_lt_of_le (h.lt k hk) h3.size⟩, h3⟩
theorem PrIs.remove (h : PrIs S B b w g d) (n : Int) : Calls Try.prog 13 #[.pointer (some ⟨B, 0, none⟩), .int .i64 n] w fun e w' => e = .returned (.bool (g.row.contains n)) ∧ PrIs S B b w' (g.remove n) d ∧ But (Two B b) w w' := by
  cases ht : g.row.contains n with
  | false =>
    refine (remove_no n w h.ring ht).mono ?_
    rintro e w' ⟨rfl, rfl⟩
    rw [Rg.remove_out ht]
    exact ⟨rfl, h, But.refl _ _⟩
  | true =>
    refine (remove_yes n w h.ring h.lt ht).mono ?_
    rintro e w' ⟨rfl, h1, h3⟩
    exact ⟨rfl, ⟨h1, h.dw.but h3 (fun k e => by rw [e]; exact h.ring.mine) (fun k e ht => h.ne ((tgt_is.1 ht).symm.trans e)), h.ne, fun k hk => Nat.lt_of_lt_of_le (h.lt k hk) h3.size⟩, h3.mono fun k e => .inl e⟩
theorem DoIs.remove (h : DoIs S B b w g d) (n : Int) : Calls Try.prog 14 #[.pointer (some ⟨B, 0, none⟩), .int .i64 n] w fun e w' => e = .returned (.bool (g.row.contains n)) ∧ DoIs S B b w' (g.remove n) d ∧ But (Two B b) w w' := by
  refine (rremove_any n w h.ring h.lt).mono ?_
  rintro e w' ⟨rfl, h1, h3⟩
  exact ⟨rfl, ⟨h1, h.dw.but h3 (fun k e => by rw [e]; exact h.ring.mine) h.ne, h.ne, fun k hk => Nat.lt_of_lt_of_le (h.lt k hk) h3.size⟩, h3.mono fun k e => .inl e⟩
theorem PrIs.next (h : PrIs S B b w g d) (A : Option Addr) (n c : Nat) (live : List Int) (hl : Lst S w A n c live) : Calls Try.prog 15 #[.pointer (some ⟨B, 0, none⟩), .slice A n c, .pointer (some ⟨b, 0, none⟩)] w fun e w' => e = .returned (.tuple #[.int .i64 (g.asked live d).1, .bool (g.asked live d).2.1]) ∧ PrIs S B b w' (g.asked live d).2.2 (d.asked g live) ∧ But (Two B b) w w' := by
  refine (next_any _ A n c live w h.ring h.dw hl h.lt (fun e => h.ne (tgt_is.1 e).symm)).mono ?_
  rintro e w' ⟨rfl, h1, h2, h3⟩
  exact ⟨rfl, ⟨h1, h2, h.ne, fun k hk => Nat.lt_of_lt_of_le (h.lt k hk) h3.size⟩, h3.mono fun k e => e.imp id tgt_is.1⟩
theorem DoIs.next (h : DoIs S B b w g d) (A : Option Addr) (n c : Nat) (live : List Int) (hl : Lst S w A n c live) : Calls Try.prog 16 #[.pointer (some ⟨B, 0, none⟩), .slice A n c, .pointer (some ⟨b, 0, none⟩)] w fun e w' => e = .returned (.tuple #[.int .i64 (g.asked live d).1, .bool (g.asked live d).2.1]) ∧ DoIs S B b w' (g.asked live d).2.2 (d.asked g live) ∧ But (Two B b) w w' := by
  refine (rnext_any A n c live w h.ring h.dw hl h.lt h.ne).mono ?_
  rintro e w' ⟨rfl, h1, h2, h3⟩
  exact ⟨rfl, ⟨h1, h2, h.ne, fun k hk => Nat.lt_of_lt_of_le (h.lt k hk) h3.size⟩, h3⟩
theorem PrIs.others (h : PrIs S B b w g d) (A : Option Addr) (n c : Nat) (live : List Int) (x many : Int) (hl : Lst S w A n c live) (hn : n ≤ 64) : Calls Try.prog 18 #[.pointer (some ⟨B, 0, none⟩), .slice A n c, .int .i64 x, .int .i64 many, .pointer (some ⟨b, 0, none⟩)] w fun e w' => IRw w (othersL live x many d) e w' ∧ PrIs S B b w' g (d.afterO (butL live x).length) ∧ But (Two B b) w w' := by
  refine (others_any _ A n c live x many w h.ring h.dw hl hn (fun e => h.ne (tgt_is.1 e).symm)).mono ?_
  rintro e w' ⟨h0, h1, h2, h3⟩
  exact ⟨h0, ⟨h1, h2, h.ne, fun k hk => Nat.lt_of_lt_of_le (h.lt k hk) h3.size⟩, h3.mono fun k e => .inr (tgt_is.1 e)⟩
theorem DoIs.others (h : DoIs S B b w g d) (A : Option Addr) (n c : Nat) (live : List Int) (x many : Int) (hl : Lst S w A n c live) (hn : n ≤ 64) : Calls Try.prog 19 #[.slice A n c, .int .i64 x, .int .i64 many, .pointer (some ⟨b, 0, none⟩)] w fun e w' => IRw w (othersL live x many d) e w' ∧ DoIs S B b w' g (d.afterO (butL live x).length) ∧ But (Two B b) w w' := by
  refine (rothers_any A n c live x many w h.dw hl hn).mono ?_
  rintro e w' ⟨h0, h2, h3⟩
  exact ⟨h0, ⟨h.ring.but h3 (fun k e => by rw [e]; exact h.dw.2.1) (fun e => h.ne e.symm), h2, h.ne, fun k hk => Nat.lt_of_lt_of_le (h.lt k hk) h3.size⟩, h3.mono fun k e => .inr e⟩
theorem PrIs.list (h : PrIs S B b w g d) : Calls Try.prog 20 #[.pointer (some ⟨B, 0, none⟩)] w (IRow w g.row) := list_any w h.ring
theorem PrIs.at_ (h : PrIs S B b w g d) : Calls Try.prog 21 #[.pointer (some ⟨B, 0, none⟩)] w fun e w' => e = .returned (.int .i64 (g.at_ : Int)) ∧ w = w' := at_any w h.ring
theorem PrIs.taken (h : PrIs S B b w g d) : Calls Try.prog 22 #[.pointer (some ⟨b, 0, none⟩)] w fun e w' => e = .returned (.int .i64 (d.at_ : Int)) ∧ w = w' := taken_any S _ d w h.dw
end
/-- The program's New of both. -/
theorem pr_made {w w1 w2 : World} {B b : Nat} {d : Dr} (hB : w.heap.size = B) (h1 : w1 = w.alloc (.cells #[.bool true, .slice none 0 0, .int .i64 0] TG)) (hb : w1.heap.size ≤ b) (hb2 : b < w2.heap.size) (hd : DwAt (fun k => k < w1.heap.size ∨ k = b) w2 (.pointer (some ⟨b, 0, none⟩)) d) (hbl : Below w1.heap.size w1 w2) :
    PrIs (Two B b) B b w2 Rg.new d ∧ Below w.heap.size w w2 := by
  have hs : w1.heap.size = B + 1 := by rw [h1, ← hB]; simp
  have hb1 : Below w.heap.size w w1 := by rw [h1]; exact (Below.refl _ _).alloc (Nat.le_refl _) _
  have hr : RgAt true (Two B b) w1 B Rg.new := by
    rw [h1, ← hB]
    exact rg_new true _ w (.inl rfl) rfl
  refine ⟨⟨hr.below hbl, hd.narrow (fun k hk h => ?_) (fun k hk => .inr (tgt_is.1 hk)), by omega, fun k hk => ?_⟩, hb1.trans (hbl.mono hb1.size)⟩
  · rcases h with e | e
    · exact .inl (by omega)
    · exact .inr e
  · rcases hk with rfl | rfl
    · have := hbl.size; omega
    · exact hb2
end Go.Proofs.Ytckeknhoimgccaa
