/-
  A step of layer 17's laws. Nothing of any program stands here.
-/
import Derived.Test.YtmegfkclpjddgaaZj11
import Derived.Test.YtmegfkclpjddgaaZj34
import Derived.Test.YtmegfkclpjddgaaZj37
import Derived.Test.YtmegfkclpjddgaaZj39
import Derived.Test.YtmegfkclpjddgaaZj40
import Derived.Test.YtmegfkclpjddgaaZj35
namespace Go.Proofs.Ytmegfkclpjddgaa
open Go Go.RowKit
set_option linter.unusedSimpArgs false
set_option linter.unusedVariables false

structure ISt where
  kind : Int
  src : ByteArray
  dst : ByteArray
  allow : Bool
  old : Nat
  ix : Nat
def stCs (s : ISt) : List Value := [.int .i64 s.kind, .string s.src, .string s.dst, .bool s.allow, .int .u64 (s.old : Int), .int .u64 (s.ix : Int)]
def stV (s : ISt) : Value := .agg #[.int .i64 s.kind, .string s.src, .string s.dst, .bool s.allow, .int .u64 (s.old : Int), .int .u64 (s.ix : Int)]
structure ISt.Ok (s : ISt) : Prop where
  src : s.src.size ≤ maxLen
  dst : s.dst.size ≤ maxLen
  old : s.old < 18446744073709551616
  ix : s.ix < 18446744073709551616
theorem st_blk {w : World} {B : Nat} {v0 v1 v2 v3 v4 v5 : Value} {t : TypeId} (h : w.heap[B]? = some (.cells #[v0, v1, v2, v3, v4, v5] t (0, 0))) : w.cell? ⟨B, 0, none⟩ = some v0 ∧ w.cell? ⟨B, 1, none⟩ = some v1 ∧ w.cell? ⟨B, 2, none⟩ = some v2 ∧ w.cell? ⟨B, 3, none⟩ = some v3 ∧ w.cell? ⟨B, 4, none⟩ = some v4 ∧ w.cell? ⟨B, 5, none⟩ = some v5 :=
  ⟨cellsN h 0 _ rfl, cellsN h 1 _ rfl, cellsN h 2 _ rfl, cellsN h 3 _ rfl, cellsN h 4 _ rfl, cellsN h 5 _ rfl⟩
theorem st_cells {w : World} {b o : Nat} {s : ISt} (h : ItAt stCs w b o s) : w.cell? ⟨b, o, none⟩ = some (.int .i64 s.kind) ∧ w.cell? ⟨b, o + 1, none⟩ = some (.string s.src) ∧ w.cell? ⟨b, o + 2, none⟩ = some (.string s.dst) ∧ w.cell? ⟨b, o + 3, none⟩ = some (.bool s.allow) ∧ w.cell? ⟨b, o + 4, none⟩ = some (.int .u64 (s.old : Int)) ∧ w.cell? ⟨b, o + 5, none⟩ = some (.int .u64 (s.ix : Int)) :=
  ⟨h 0 _ rfl, h 1 _ rfl, h 2 _ rfl, h 3 _ rfl, h 4 _ rfl, h 5 _ rfl⟩
end Go.Proofs.Ytmegfkclpjddgaa
/-
  Both intents, the program's and the document's, each with what is its own (layer 17).
-/
namespace Go.Proofs.Ytmegfkclpjddgaa
open Go.RowKit
set_option linter.unusedSimpArgs false
set_option linter.unusedVariables false

/-- Both intents; none has anything outside O. -/
def Both (O : Nat → Prop) (w : World) (Bp Bt : Nat) (tp : Im) (Bd : Nat) (td : Im) : Prop :=
  ∃ Sp Sd : Nat → Prop, InAt Sp w Bp Bt tp ∧ RiAt Sd w Bd td ∧ (∀ k, Sp k → O k ∧ k < w.heap.size ∧ ¬ Sd k) ∧ (∀ k, Sd k → O k ∧ k < w.heap.size) ∧ ∀ k, w.heap.size ≤ k → O k
section
variable {O O' : Nat → Prop} {Bp Bt Bd : Nat} {tp td : Im} {w w' : World}
theorem Both.below (h : Both O w Bp Bt tp Bd td) (hb : Below w.heap.size w w') : Both O w' Bp Bt tp Bd td := by
  obtain ⟨Sp, Sd, h1, h2, h3, h4, h5⟩ := h
  have hz := hb.size
  exact ⟨Sp, Sd, h1.below hb, h2.below hb, fun k hk => ⟨(h3 k hk).1, by have := (h3 k hk).2.1; omega, (h3 k hk).2.2⟩, fun k hk => ⟨(h4 k hk).1, by have := (h4 k hk).2; omega⟩, fun k hk => h5 k (by omega)⟩
theorem Both.box (h : Both O w Bp Bt tp Bd td) (hb : Below w.heap.size w w') {X : Nat} (h1 : w.heap.size ≤ X) (h2 : X < w'.heap.size) : Both (fun k => O k ∧ k ≠ X) w' Bp Bt tp Bd td := by
  obtain ⟨Sp, Sd, k1, k2, k3, k4, k5⟩ := h
  have hz := hb.size
  exact ⟨Sp, Sd, k1.below hb, k2.below hb, fun k hk => ⟨⟨(k3 k hk).1, by have := (k3 k hk).2.1; omega⟩, by have := (k3 k hk).2.1; omega, (k3 k hk).2.2⟩, fun k hk => ⟨⟨(k4 k hk).1, by have := (k4 k hk).2; omega⟩, by have := (k4 k hk).2; omega⟩, fun k hk => ⟨k5 k (by omega), by omega⟩⟩
theorem Both.wide (h : Both O w Bp Bt tp Bd td) (hs : ∀ k, O k → O' k) : Both O' w Bp Bt tp Bd td := by
  obtain ⟨Sp, Sd, k1, k2, k3, k4, k5⟩ := h
  exact ⟨Sp, Sd, k1, k2, fun k hk => ⟨hs k (k3 k hk).1, (k3 k hk).2⟩, fun k hk => ⟨hs k (k4 k hk).1, (k4 k hk).2⟩, fun k hk => hs k (k5 k hk)⟩
/-- A call of the program's. -/
theorem Both.left (h : Both O w Bp Bt tp Bd td) : ∃ Sp, InAt Sp w Bp Bt tp ∧ ∀ w' t', InAt (fun k => Sp k ∨ w.heap.size ≤ k) w' Bp Bt t' → But (· = Bt) w w' → Both O w' Bp Bt t' Bd td ∧ But O w w' := by
  obtain ⟨Sp, Sd, h1, h2, h3, h4, h5⟩ := h
  have hBt := (h3 Bt h1.tmine.1)
  refine ⟨Sp, h1, fun w' t' k1 kb => ?_⟩
  have hz := kb.size
  refine ⟨⟨fun k => (Sp k ∨ w.heap.size ≤ k) ∧ k < w'.heap.size, Sd, k1.narrow fun k hk hs => ⟨hs, hk⟩, h2.but kb fun k e hs => hBt.2.2 (by rw [← show k = Bt from e]; exact hs), fun k hk => ?_, fun k hk => ⟨(h4 k hk).1, by have := (h4 k hk).2; omega⟩, fun k hk => h5 k (by omega)⟩, kb.mono fun k e => by rw [e]; exact hBt.1⟩
  rcases hk.1 with hs | hs
  · exact ⟨(h3 k hs).1, hk.2, (h3 k hs).2.2⟩
  · exact ⟨h5 k hs, hk.2, fun e => by have := (h4 k e).2; omega⟩
/-- A call of the document's. -/
theorem Both.right (h : Both O w Bp Bt tp Bd td) : ∃ Sd, RiAt Sd w Bd td ∧ Sd Bd ∧ ∀ w' t', RiAt (fun k => Sd k ∨ w.heap.size ≤ k) w' Bd t' → But (fun k => Sd k) w w' → Both O w' Bp Bt tp Bd t' ∧ But O w w' := by
  obtain ⟨Sp, Sd, h1, h2, h3, h4, h5⟩ := h
  refine ⟨Sd, h2, h2.mine, fun w' t' k1 kb => ?_⟩
  have hz := kb.size
  refine ⟨⟨Sp, fun k => (Sd k ∨ w.heap.size ≤ k) ∧ k < w'.heap.size, h1.but kb (fun k e hs => (h3 k hs).2.2 e), k1.narrow fun k hk hs => ⟨hs, hk⟩, fun k hk => ⟨(h3 k hk).1, by have := (h3 k hk).2.1; omega, fun e => ?_⟩, fun k hk => ?_, fun k hk => h5 k (by omega)⟩, kb.mono fun k e => (h4 k e).1⟩
  · rcases e.1 with z | z
    · exact (h3 k hk).2.2 z
    · have := (h3 k hk).2.1; omega
  · rcases hk.1 with z | z
    · exact ⟨(h4 k z).1, hk.2⟩
    · exact ⟨h5 k z, hk.2⟩
theorem Both.read (h : Both O w Bp Bt tp Bd td) : ∃ Sp, InAt Sp w Bp Bt tp := by
  obtain ⟨Sp, Sd, h1, _⟩ := h
  exact ⟨Sp, h1⟩
theorem Both.ref (h : Both O w Bp Bt tp Bd td) : ∃ Sd A c, ImOk td ∧ RiIs Sd w Bd A c td := by
  obtain ⟨Sp, Sd, _, ⟨h0, A, c, h1, _⟩, _⟩ := h
  exact ⟨Sd, A, c, h0, h1⟩
end
def StepPost (O : Nat → Prop) (w : World) (Bp Bt Bd : Nat) (t : Im) (e : Ending) (w' : World) : Prop :=
  e = .returned (.bool true) ∧ Both O w' Bp Bt t Bd t ∧ But O w w'
/-- Within a step that turns both: j1 is the program's call, j2 the document's; X holds the step. -/
structure StIs (O : Nat → Prop) (X : Nat) (cs : Array Value) (j1 j2 Bp Bt Bd : Nat) (t t' : Im) (f : Nat → Bool) (w : World) : Prop where
  both : Both O w Bp Bt (if f j1 then t' else t) Bd (if f j2 then t' else t)
  blk : w.heap[X]? = some (.cells cs 30 (0, 0))
  out : ¬ O X
section
variable {O : Nat → Prop} {X : Nat} {cs : Array Value} {j1 j2 Bp Bt Bd : Nat} {t t' : Im} {f : Nat → Bool} {w : World}
theorem StIs.start (h : Both O w Bp Bt t Bd t) (hx : w.heap[X]? = some (.cells cs 30 (0, 0))) (ho : ¬ O X) : StIs O X cs j1 j2 Bp Bt Bd t t' (fun _ => false) { w with drawn := w.drawn + 1 } :=
  ⟨h.below ⟨rfl, rfl, rfl, Nat.le_refl _, fun _ _ => rfl⟩, hx, ho⟩
theorem StIs.keep {j : Nat} (hj : [j1, j2].contains j = false) (h : StIs O X cs j1 j2 Bp Bt Bd t t' f w) : StIs O X cs j1 j2 Bp Bt Bd t t' (Go.Rel.upd f j) w := by
  simp only [List.contains_cons, List.contains_nil, Bool.or_false, Bool.or_eq_false_iff, beq_eq_false_iff_ne] at hj
  refine ⟨?_, h.blk, h.out⟩
  rw [ale_off hj.1, ale_off hj.2]
  exact h.both
theorem StIs.left (h : StIs O X cs j1 j2 Bp Bt Bd t t' f w) (hj : j1 ≠ j2) (hf : f j1 = false) {fn : Nat} {args : Array Value} {v : Value}
    (C : ∀ S, InAt S w Bp Bt t → Calls Try.prog fn args w fun e w' => e = .returned v ∧ InAt (fun k => S k ∨ w.heap.size ≤ k) w' Bp Bt t' ∧ But (· = Bt) w w') :
    Calls Try.prog fn args w fun e w' => e = .returned v ∧ StIs O X cs j1 j2 Bp Bt Bd t t' (Go.Rel.upd f j1) w' ∧ But O w w' := by
  have hb := h.both
  rw [hf] at hb
  obtain ⟨Sp, k1, k4⟩ := hb.left
  refine (C Sp k1).mono ?_
  rintro e w' ⟨rfl, q1, q2⟩
  obtain ⟨g1, g2⟩ := k4 w' t' q1 q2
  refine ⟨rfl, ⟨?_, (g2.block X (block_lt h.blk) h.out).trans h.blk, h.out⟩, g2⟩
  rw [ale_on, ale_off hj]
  exact g1
theorem StIs.right (h : StIs O X cs j1 j2 Bp Bt Bd t t' f w) (hj : j2 ≠ j1) (hf : f j2 = false) {fn : Nat} {args : Array Value} {v : Value}
    (C : ∀ S, RiAt S w Bd t → S Bd → Calls Try.prog fn args w fun e w' => e = .returned v ∧ RiAt (fun k => S k ∨ w.heap.size ≤ k) w' Bd t' ∧ But (fun k => S k) w w') :
    Calls Try.prog fn args w fun e w' => e = .returned v ∧ StIs O X cs j1 j2 Bp Bt Bd t t' (Go.Rel.upd f j2) w' ∧ But O w w' := by
  have hb := h.both
  rw [hf] at hb
  obtain ⟨Sd, k1, k2, k4⟩ := hb.right
  refine (C Sd k1 k2).mono ?_
  rintro e w' ⟨rfl, q1, q2⟩
  obtain ⟨g1, g2⟩ := k4 w' t' q1 q2
  refine ⟨rfl, ⟨?_, (g2.block X (block_lt h.blk) h.out).trans h.blk, h.out⟩, g2⟩
  rw [ale_on, ale_off hj]
  exact g1
end
end Go.Proofs.Ytmegfkclpjddgaa
