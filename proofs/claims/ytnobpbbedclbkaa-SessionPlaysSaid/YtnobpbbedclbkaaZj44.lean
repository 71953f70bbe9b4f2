/-
  The program's sessions: all that the laws want of them (layer 18).
-/
import Derived.Test.YtnobpbbedclbkaaZj31
import Derived.Test.YtnobpbbedclbkaaZj33
import Derived.Test.YtnobpbbedclbkaaZj34
import Derived.Test.YtnobpbbedclbkaaZj36
import Derived.Test.YtnobpbbedclbkaaZj41
import Derived.Test.YtnobpbbedclbkaaZj43
import Derived.Test.YtnobpbbedclbkaaZj25
import Derived.Test.YtnobpbbedclbkaaZj32
namespace Go.Proofs.Ytnobpbbedclbkaa
end Go.Proofs.Ytnobpbbedclbkaa
/-
  A step of layer 18's laws. Nothing of any program stands here.
-/
namespace Go.Proofs.Ytnobpbbedclbkaa
open Go.RowKit
set_option linter.unusedSimpArgs false
set_option linter.unusedVariables false

structure NSt where
  kind : Int
  node : Int
  id : Nat
  ix : Nat
def stC (s : NSt) : List Value := [.int .i64 s.kind, .int .i64 s.node, .int .u64 (s.id : Int), .int .u64 (s.ix : Int)]
structure NSt.Ok (s : NSt) : Prop where
  id : s.id < 18446744073709551616
  ix : s.ix < 18446744073709551616
theorem st_blk {w : World} {B : Nat} {v0 v1 v2 v3 : Value} {t : TypeId} (h : w.heap[B]? = some (.cells #[v0, v1, v2, v3] t (0, 0))) : w.cell? ⟨B, 0, none⟩ = some v0 ∧ w.cell? ⟨B, 1, none⟩ = some v1 ∧ w.cell? ⟨B, 2, none⟩ = some v2 ∧ w.cell? ⟨B, 3, none⟩ = some v3 :=
  ⟨cellsN h 0 _ rfl, cellsN h 1 _ rfl, cellsN h 2 _ rfl, cellsN h 3 _ rfl⟩
theorem st_cells {w : World} {b o : Nat} {s : NSt} (h : ItAt stC w b o s) : w.cell? ⟨b, o, none⟩ = some (.int .i64 s.kind) ∧ w.cell? ⟨b, o + 1, none⟩ = some (.int .i64 s.node) ∧ w.cell? ⟨b, o + 2, none⟩ = some (.int .u64 (s.id : Int)) ∧ w.cell? ⟨b, o + 3, none⟩ = some (.int .u64 (s.ix : Int)) :=
  ⟨h 0 _ rfl, h 1 _ rfl, h 2 _ rfl, h 3 _ rfl⟩
/-- What a step makes of sessions. -/
def NSt.after (s : NSt) (t : Sm) : Sm := if s.kind = 0 then (t.openS s.node s.ix).2 else if s.kind = 1 then (t.closeS s.id s.ix).2 else if s.kind = 2 then (t.closeN s.node s.ix).2 else t
end Go.Proofs.Ytnobpbbedclbkaa
/-
  Both sessions, the program's and the document's, each with what is its own (layer 18).
-/
namespace Go.Proofs.Ytnobpbbedclbkaa
open Go.RowKit Go.Rel
set_option linter.unusedSimpArgs false
set_option linter.unusedVariables false

/-- What a step may change. -/
def Ch (Bt Bd : Nat) (k : Nat) : Prop := k = Bt ∨ k = Bd
/-- Both sessions; neither has anything of the other's. -/
def Both (w : World) (Bp Bt : Nat) (tp : Sm) (Bd : Nat) (td : Sm) : Prop :=
  ∃ Sp Sd : Nat → Prop, SAt Sp w Bp Bt tp ∧ RsAt Sd w Bd td ∧ (∀ k, Sp k → k < w.heap.size ∧ ¬ Sd k) ∧ ∀ k, Sd k → k < w.heap.size
section
variable {Bp Bt Bd : Nat} {tp td : Sm} {w w' : World}
theorem Both.below (h : Both w Bp Bt tp Bd td) (hb : Below w.heap.size w w') : Both w' Bp Bt tp Bd td := by
  obtain ⟨Sp, Sd, h1, h2, h3, h4⟩ := h
  have hz := hb.size
  exact ⟨Sp, Sd, h1.below hb, h2.below hb, fun k hk => ⟨by have := (h3 k hk).1; omega, (h3 k hk).2⟩, fun k hk => by have := h4 k hk; omega⟩
theorem Both.lt (h : Both w Bp Bt tp Bd td) : Bt < w.heap.size ∧ Bd < w.heap.size := by
  obtain ⟨Sp, Sd, h1, h2, h3, h4⟩ := h
  exact ⟨h1.tlt, h2.lt⟩
/-- A call of the program's. -/
theorem Both.left (h : Both w Bp Bt tp Bd td) : ∃ Sp, SAt Sp w Bp Bt tp ∧ ∀ w' t', SAt (fun k => Sp k ∨ w.heap.size ≤ k) w' Bp Bt t' → But (· = Bt) w w' → Both w' Bp Bt t' Bd td := by
  obtain ⟨Sp, Sd, h1, h2, h3, h4⟩ := h
  have hBt := h3 Bt h1.tmine.1
  refine ⟨Sp, h1, fun w' t' k1 kb => ?_⟩
  have hz := kb.size
  refine ⟨fun k => (Sp k ∨ w.heap.size ≤ k) ∧ k < w'.heap.size, Sd, k1.narrow fun k hk hs => ⟨hs, hk⟩, h2.but kb fun k e hs => hBt.2 (by rw [← show k = Bt from e]; exact hs), fun k hk => ⟨hk.2, fun e => ?_⟩, fun k hk => by have := h4 k hk; omega⟩
  rcases hk.1 with hs | hs
  · exact (h3 k hs).2 e
  · have := h4 k e; omega
/-- A call of the document's. -/
theorem Both.right (h : Both w Bp Bt tp Bd td) : ∃ Sd, RsAt Sd w Bd td ∧ ∀ w' t', RsAt (fun k => Sd k ∨ w.heap.size ≤ k) w' Bd t' → But (· = Bd) w w' → Both w' Bp Bt tp Bd t' := by
  obtain ⟨Sp, Sd, h1, h2, h3, h4⟩ := h
  have hBd := h2.mine
  refine ⟨Sd, h2, fun w' t' k1 kb => ?_⟩
  have hz := kb.size
  refine ⟨Sp, fun k => (Sd k ∨ w.heap.size ≤ k) ∧ k < w'.heap.size, h1.but kb (fun k e hs => (h3 k hs).2 (by rw [show k = Bd from e]; exact hBd)), k1.narrow fun k hk hs => ⟨hs, hk⟩, fun k hk => ⟨by have := (h3 k hk).1; omega, fun e => ?_⟩, fun k hk => hk.2⟩
  rcases e.1 with z | z
  · exact (h3 k hk).2 z
  · have := (h3 k hk).1; omega
theorem Both.read (h : Both w Bp Bt tp Bd td) : ∃ Sp, SAt Sp w Bp Bt tp := by
  obtain ⟨Sp, Sd, h1, _⟩ := h
  exact ⟨Sp, h1⟩
theorem Both.ref (h : Both w Bp Bt tp Bd td) : ∃ Sd A c, SmOk td ∧ RsIs Sd w Bd A c td := by
  obtain ⟨Sp, Sd, _, ⟨h0, A, c, h1, _⟩, _⟩ := h
  exact ⟨Sd, A, c, h0, h1⟩
end
/-- Both, new. -/
theorem both_new {w w1 w2 : World} {Bp Bt Bd m : Nat} (hp : SAt (fun k => w.heap.size ≤ k) w1 Bp Bt ⟨m, [], 0⟩) (hd : RsAt (· = Bd) w2 Bd ⟨m, [], 0⟩) (hBd : w1.heap.size = Bd) (hb2 : Below w1.heap.size w1 w2) : Both w2 Bp Bt ⟨m, [], 0⟩ Bd ⟨m, [], 0⟩ := by
  have h2 := hb2.size
  have h3 := hd.lt
  exact ⟨fun k => k < w1.heap.size, (· = Bd), (hp.narrow fun k hk _ => hk).below hb2, hd, fun k hk => ⟨by omega, by omega⟩, fun k hk => by omega⟩
/-- The rows that closing a node's tells. -/
def NumV (w : World) (Bt Bd : Nat) (ids : List Nat) (v : Value) : Prop := ∃ A c, v = .slice A ids.length c ∧ SK nuC 1 w A ids.length ids ∧ ∀ b off, A = some ⟨b, off, none⟩ → b ≠ Bt ∧ b ≠ Bd
theorem NumV.but {w w' : World} {Bt Bd : Nat} {ids : List Nat} {v : Value} (h : NumV w Bt Bd ids v) (hb : But (Ch Bt Bd) w w') : NumV w' Bt Bd ids v := by
  obtain ⟨A, c, rfl, h1, h2⟩ := h
  exact ⟨A, c, rfl, h1.but hb fun b off e _ q => by have := h2 b off e; rcases q with q | q <;> omega, h2⟩
theorem NumV.of_row {w w' : World} {Bt Bd : Nat} {ids : List Nat} {v : Value} (h : nuRow w' w.heap.size v ids) (h1 : Bt < w.heap.size) (h2 : Bd < w.heap.size) : NumV w' Bt Bd ids v := by
  obtain ⟨A, c, rfl, s, _, _, hg⟩ := SK.of_row nuC_len h
  exact ⟨A, c, rfl, s, fun b off e => by have := hg b off e; omega⟩
/-- Within a region that turns both: j1 is the program's call, j2 the document's; X holds the step; what each tells is N. -/
structure StN (N : World → Value → Prop) (X : Nat) (cs : Array Value) (j1 j2 Bp Bt Bd : Nat) (t t' : Sm) (f : Nat → Bool) (e : Nat → Value) (w : World) : Prop where
  both : Both w Bp Bt (if f j1 then t' else t) Bd (if f j2 then t' else t)
  blk : w.heap[X]? = some (.cells cs 29 (0, 0))
  out : Bt ≠ X ∧ Bd ≠ X
  k1 : f j1 = true → N w (e j1)
  k2 : f j2 = true → N w (e j2)
section
variable {ops : Array Oper} {N : World → Value → Prop} {X : Nat} {cs : Array Value} {j1 j2 Bp Bt Bd : Nat} {t t' : Sm} {f : Nat → Bool} {e e' : Nat → Value} {w w' : World} {v : Value}
theorem StN.start (h : Both w Bp Bt t Bd t) (hx : w.heap[X]? = some (.cells cs 29 (0, 0))) (ho : Bt ≠ X ∧ Bd ≠ X) (e : Nat → Value) : StN N X cs j1 j2 Bp Bt Bd t t' (fun _ => false) e { w with drawn := w.drawn + 1 } :=
  ⟨h.below ⟨rfl, rfl, rfl, Nat.le_refl _, fun _ _ => rfl⟩, hx, ho, (fun z => by cases z), (fun z => by cases z)⟩
theorem StN.keep {j : Nat} (hj : [j1, j2].contains j = false) (h : StN N X cs j1 j2 Bp Bt Bd t t' f e w) (hp : Go.Rel.Put ops j e v e') : StN N X cs j1 j2 Bp Bt Bd t t' (Go.Rel.upd f j) e' w := by
  simp only [List.contains_cons, List.contains_nil, Bool.or_false, Bool.or_eq_false_iff, beq_eq_false_iff_ne] at hj
  have e1 := hp.1 j1 (Ne.symm hj.1)
  have e2 := hp.1 j2 (Ne.symm hj.2)
  refine ⟨?_, h.blk, h.out, ?_, ?_⟩
  · rw [ale_off hj.1, ale_off hj.2]; exact h.both
  · rw [ale_off hj.1, e1]; exact h.k1
  · rw [ale_off hj.2, e2]; exact h.k2
theorem StN.below (hN : ∀ w w' v, N w v → But (Ch Bt Bd) w w' → N w' v) (h : StN N X cs j1 j2 Bp Bt Bd t t' f e w) (hb : Below w.heap.size w w') : StN N X cs j1 j2 Bp Bt Bd t t' f e w' :=
  ⟨h.both.below hb, (hb.block X (block_lt h.blk)).trans h.blk, h.out, fun z => hN _ _ _ (h.k1 z) (But.of_below hb), fun z => hN _ _ _ (h.k2 z) (But.of_below hb)⟩
theorem StN.left (hN : ∀ w w' v, N w v → But (Ch Bt Bd) w w' → N w' v) (h : StN N X cs j1 j2 Bp Bt Bd t t' f e w) (hj : j1 ≠ j2) (hf : f j1 = false) {fn : Nat} {args : Array Value}
    (C : ∀ S, SAt S w Bp Bt t → Bt < w.heap.size → Bd < w.heap.size → Calls Try.prog fn args w fun r w' => ∃ v, r = .returned v ∧ N w' v ∧ SAt (fun k => S k ∨ w.heap.size ≤ k) w' Bp Bt t' ∧ But (· = Bt) w w') :
    Calls Try.prog fn args w fun r w' => ∃ v, r = .returned v ∧ (∀ e', (∀ m, m ≠ j1 → e' m = e m) → e' j1 = v → StN N X cs j1 j2 Bp Bt Bd t t' (Go.Rel.upd f j1) e' w') ∧ But (Ch Bt Bd) w w' := by
  have hb := h.both
  rw [hf] at hb
  obtain ⟨Sp, k1, k4⟩ := hb.left
  refine (C Sp k1 hb.lt.1 hb.lt.2).mono ?_
  rintro r w' ⟨v, rfl, q0, q1, q2⟩
  have g2 : But (Ch Bt Bd) w w' := q2.mono fun k z => .inl z
  refine ⟨_, rfl, fun e' he hv => ⟨?_, (q2.block X (block_lt h.blk) fun z => h.out.1 z.symm).trans h.blk, h.out, fun _ => by rw [hv]; exact q0, fun z => ?_⟩, g2⟩
  · rw [ale_on, ale_off hj]
    exact k4 w' t' q1 q2
  · rw [ale_off hj] at z
    rw [he j2 (Ne.symm hj)]
    exact hN _ _ _ (h.k2 z) g2
theorem StN.right (hN : ∀ w w' v, N w v → But (Ch Bt Bd) w w' → N w' v) (h : StN N X cs j1 j2 Bp Bt Bd t t' f e w) (hj : j2 ≠ j1) (hf : f j2 = false) {fn : Nat} {args : Array Value}
    (C : ∀ S, RsAt S w Bd t → Bt < w.heap.size → Bd < w.heap.size → Calls Try.prog fn args w fun r w' => ∃ v, r = .returned v ∧ N w' v ∧ RsAt (fun k => S k ∨ w.heap.size ≤ k) w' Bd t' ∧ But (· = Bd) w w') :
    Calls Try.prog fn args w fun r w' => ∃ v, r = .returned v ∧ (∀ e', (∀ m, m ≠ j2 → e' m = e m) → e' j2 = v → StN N X cs j1 j2 Bp Bt Bd t t' (Go.Rel.upd f j2) e' w') ∧ But (Ch Bt Bd) w w' := by
  have hb := h.both
  rw [hf] at hb
  obtain ⟨Sd, k1, k4⟩ := hb.right
  refine (C Sd k1 hb.lt.1 hb.lt.2).mono ?_
  rintro r w' ⟨v, rfl, q0, q1, q2⟩
  have g2 : But (Ch Bt Bd) w w' := q2.mono fun k z => .inr z
  refine ⟨_, rfl, fun e' he hv => ⟨?_, (q2.block X (block_lt h.blk) fun z => h.out.2 z.symm).trans h.blk, h.out, fun z => ?_, fun _ => by rw [hv]; exact q0⟩, g2⟩
  · rw [ale_on, ale_off hj]
    exact k4 w' t' q1 q2
  · rw [ale_off hj] at z
    rw [he j1 (Ne.symm hj)]
    exact hN _ _ _ (h.k1 z) g2
end
end Go.Proofs.Ytnobpbbedclbkaa
