/-
  A step of layer 16's laws, as it comes.
-/
import Derived.Test.YtohnkagabpefdaaGreatDoorZj21
import Derived.Test.YtohnkagabpefdaaGreatDoorZj37
namespace Go.Proofs.YtohnkagabpefdaaGreatDoor
open Go.RowKit
set_option linter.unusedSimpArgs false
set_option linter.unusedVariables false

/-- A step as it comes. -/
structure KSt where
  kind : Int
  key : ByteArray
  val : ByteArray
  old : Nat
  ses : Nat
  ix : Nat
abbrev TS : TypeId := 30
def stCs (s : KSt) : List Value := [.int .i64 s.kind, .string s.key, .string s.val, .int .u64 (s.old : Int), .int .u64 (s.ses : Int), .int .u64 (s.ix : Int)]
def stV (s : KSt) : Value := .agg #[.int .i64 s.kind, .string s.key, .string s.val, .int .u64 (s.old : Int), .int .u64 (s.ses : Int), .int .u64 (s.ix : Int)]
structure KSt.Ok (s : KSt) : Prop where
  key : s.key.size ≤ maxLen
  val : s.val.size ≤ maxLen
  old : s.old < 18446744073709551616
  ses : s.ses < 18446744073709551616
  ix : s.ix < 18446744073709551616
end Go.Proofs.YtohnkagabpefdaaGreatDoor
/-
  Both stores, the program's and the document's, each with what is its own (layer 16).
-/
namespace Go.Proofs.YtohnkagabpefdaaGreatDoor
open Go.RowKit
set_option linter.unusedSimpArgs false
set_option linter.unusedVariables false

/-- Both stores; none has anything outside O. -/
def Both (O : Nat → Prop) (w : World) (Bp Bt : Nat) (tp : Tb Kp) (Bd : Nat) (td : Tb Kp) : Prop :=
  ∃ Sp Sd : Nat → Prop, KvAt Sp w Bp Bt tp ∧ KrAt Sd w Bd td ∧ (∀ k, Sp k → O k ∧ k < w.heap.size ∧ ¬ Sd k) ∧ (∀ k, Sd k → O k ∧ k < w.heap.size) ∧ (∀ k, w.heap.size ≤ k → O k) ∧ MaxIs w ∧ ¬ O 0
theorem KrAt.narrow {S S' : Nat → Prop} {w : World} {B : Nat} {t : Tb Kp} (h : KrAt S w B t) (hs : ∀ k, k < w.heap.size → S k → S' k) : KrAt S' w B t := by
  obtain ⟨h0, A, c, h1⟩ := h
  exact ⟨h0, A, c, h1.narrow hs⟩
theorem KrAt.mine {S : Nat → Prop} {w : World} {B : Nat} {t : Tb Kp} (h : KrAt S w B t) : S B := by
  obtain ⟨_, A, c, h1⟩ := h
  exact h1.mine
section
variable {O O' : Nat → Prop} {Bp Bt Bd : Nat} {tp td : Tb Kp} {w w' : World}
theorem Both.below (h : Both O w Bp Bt tp Bd td) (hb : Below w.heap.size w w') : Both O w' Bp Bt tp Bd td := by
  obtain ⟨Sp, Sd, h1, h2, h3, h4, h5, h6, h7⟩ := h
  have hz := hb.size
  exact ⟨Sp, Sd, h1.below hb, h2.below hb, fun k hk => ⟨(h3 k hk).1, by have := (h3 k hk).2.1; omega, (h3 k hk).2.2⟩, fun k hk => ⟨(h4 k hk).1, by have := (h4 k hk).2; omega⟩, fun k hk => h5 k (by omega), h6.keep hb, h7⟩
theorem Both.box (h : Both O w Bp Bt tp Bd td) (hb : Below w.heap.size w w') {X : Nat} (h1 : w.heap.size ≤ X) (h2 : X < w'.heap.size) : Both (fun k => O k ∧ k ≠ X) w' Bp Bt tp Bd td := by
  obtain ⟨Sp, Sd, k1, k2, k3, k4, k5, k6, k7⟩ := h
  have hz := hb.size
  exact ⟨Sp, Sd, k1.below hb, k2.below hb, fun k hk => ⟨⟨(k3 k hk).1, by have := (k3 k hk).2.1; omega⟩, by have := (k3 k hk).2.1; omega, (k3 k hk).2.2⟩, fun k hk => ⟨⟨(k4 k hk).1, by have := (k4 k hk).2; omega⟩, by have := (k4 k hk).2; omega⟩, fun k hk => ⟨k5 k (by omega), by omega⟩, k6.keep hb, fun z => k7 z.1⟩
theorem Both.wide (h : Both O w Bp Bt tp Bd td) (hs : ∀ k, O k → O' k) (hm : ¬ O' 0) : Both O' w Bp Bt tp Bd td := by
  obtain ⟨Sp, Sd, k1, k2, k3, k4, k5, k6, k7⟩ := h
  exact ⟨Sp, Sd, k1, k2, fun k hk => ⟨hs k (k3 k hk).1, (k3 k hk).2⟩, fun k hk => ⟨hs k (k4 k hk).1, (k4 k hk).2⟩, fun k hk => hs k (k5 k hk), k6, hm⟩
theorem Both.mx (h : Both O w Bp Bt tp Bd td) : MaxIs w ∧ ¬ O 0 := by
  obtain ⟨Sp, Sd, _, _, _, _, _, k6, k7⟩ := h
  exact ⟨k6, k7⟩
/-- A call of the program's; N: blocks of its own that are none of the store's. -/
theorem Both.left (h : Both O w Bp Bt tp Bd td) : ∃ Sp, KvAt Sp w Bp Bt tp ∧ MaxIs w ∧ ¬ 0 = Bt ∧ ∀ w' t' (S' N : Nat → Prop), KvAt S' w' Bp Bt t' → (∀ k, S' k → Sp k ∨ w.heap.size ≤ k) → (∀ k, N k → w.heap.size ≤ k ∧ k < w'.heap.size ∧ ¬ S' k) → But (· = Bt) w w' → Both (fun k => O k ∧ ¬ N k) w' Bp Bt t' Bd td ∧ But O w w' := by
  obtain ⟨Sp, Sd, h1, h2, h3, h4, h5, h6, h7⟩ := h
  have hBt := (h3 Bt h1.tmine.1)
  refine ⟨Sp, h1, h6, fun e => h7 (e ▸ hBt.1), fun w' t' S' N k1 ks kn kb => ?_⟩
  have hz := kb.size
  refine ⟨⟨fun k => S' k ∧ k < w'.heap.size, Sd, k1.narrow fun k hk hs => ⟨hs, hk⟩, h2.but kb fun k e hs => hBt.2.2 (by rw [← show k = Bt from e]; exact hs), fun k hk => ?_, fun k hk => ⟨⟨(h4 k hk).1, fun n => by have := (kn k n).1; have := (h4 k hk).2; omega⟩, by have := (h4 k hk).2; omega⟩, fun k hk => ⟨h5 k (by omega), fun n => by have := (kn k n).2.1; omega⟩, h6.but kb fun e => h7 (by rw [show 0 = Bt from e]; exact hBt.1), fun z => h7 z.1⟩, kb.mono fun k e => by rw [e]; exact hBt.1⟩
  have nn : ¬ N k := fun n => (kn k n).2.2 hk.1
  rcases ks k hk.1 with hs | hs
  · exact ⟨⟨(h3 k hs).1, nn⟩, hk.2, (h3 k hs).2.2⟩
  · exact ⟨⟨h5 k hs, nn⟩, hk.2, fun e => by have := (h4 k e).2; omega⟩
/-- A call of the document's. -/
theorem Both.right (h : Both O w Bp Bt tp Bd td) : ∃ Sd, KrAt Sd w Bd td ∧ ∀ w' t' (S' N : Nat → Prop), KrAt S' w' Bd t' → (∀ k, S' k → Sd k ∨ w.heap.size ≤ k) → (∀ k, N k → w.heap.size ≤ k ∧ k < w'.heap.size ∧ ¬ S' k) → But (· = Bd) w w' → Both (fun k => O k ∧ ¬ N k) w' Bp Bt tp Bd t' ∧ But O w w' := by
  obtain ⟨Sp, Sd, h1, h2, h3, h4, h5, h6, h7⟩ := h
  refine ⟨Sd, h2, fun w' t' S' N k1 ks kn kb => ?_⟩
  have hz := kb.size
  have hm := h2.mine
  refine ⟨⟨Sp, fun k => S' k ∧ k < w'.heap.size, h1.but kb (fun k e hs => (h3 k hs).2.2 (by rw [show k = Bd from e]; exact hm)), k1.narrow fun k hk hs => ⟨hs, hk⟩, fun k hk => ⟨⟨(h3 k hk).1, fun n => by have := (kn k n).1; have := (h3 k hk).2.1; omega⟩, by have := (h3 k hk).2.1; omega, fun e => ?_⟩, fun k hk => ?_, fun k hk => ⟨h5 k (by omega), fun n => by have := (kn k n).2.1; omega⟩, h6.but kb fun e => h7 (by rw [show 0 = Bd from e]; exact (h4 Bd hm).1), fun z => h7 z.1⟩, kb.mono fun k e => by rw [e]; exact (h4 Bd hm).1⟩
  · rcases ks k e.1 with z | z
    · exact (h3 k hk).2.2 z
    · have := (h3 k hk).2.1; omega
  · have nn : ¬ N k := fun n => (kn k n).2.2 hk.1
    rcases ks k hk.1 with z | z
    · exact ⟨⟨(h4 k z).1, nn⟩, hk.2⟩
    · exact ⟨⟨h5 k z, nn⟩, hk.2⟩
theorem Both.read (h : Both O w Bp Bt tp Bd td) : ∃ Sp, KvAt Sp w Bp Bt tp := by
  obtain ⟨Sp, Sd, h1, _⟩ := h
  exact ⟨Sp, h1⟩
theorem Both.ref (h : Both O w Bp Bt tp Bd td) : ∃ Sd A c, td.Ok ∧ KrIs Sd w Bd A c td := by
  obtain ⟨Sp, Sd, _, ⟨h0, A, c, h1⟩, _⟩ := h
  exact ⟨Sd, A, c, h0, h1⟩
end
/-- What a step makes of a store. -/
def KSt.after (s : KSt) (t : Tb Kp) : Tb Kp :=
  if s.kind = 0 then (kSet t s.key s.val s.ix).2 else if s.kind = 1 then (kCas t s.key s.val s.old s.ix).2 else if s.kind = 2 then (kDel t s.key s.ix).2 else if s.kind = 3 then (kDelCas t s.key s.old s.ix).2
  else if s.kind = 4 then (kLock t s.key s.val s.ses s.ix).2 else if s.kind = 5 then (kUnlock t s.key s.val s.ses s.ix).2 else if s.kind = 6 then kFree t s.ses s.ix else t
def StepPost (O : Nat → Prop) (w : World) (Bp Bt Bd : Nat) (t : Tb Kp) (e : Ending) (w' : World) : Prop :=
  e = .returned (.bool true) ∧ Both O w' Bp Bt t Bd t ∧ But O w w'
/-- Within a step that turns both stores: j1 is the program's call, j2 the document's; X holds the step. -/
structure StIs (O : Nat → Prop) (X : Nat) (cs : Array Value) (j1 j2 Bp Bt Bd : Nat) (t t' : Tb Kp) (f : Nat → Bool) (w : World) : Prop where
  both : Both O w Bp Bt (if f j1 then t' else t) Bd (if f j2 then t' else t)
  blk : w.heap[X]? = some (.cells cs TS (0, 0))
  out : ¬ O X
section
variable {O : Nat → Prop} {X : Nat} {cs : Array Value} {j1 j2 Bp Bt Bd : Nat} {t t' : Tb Kp} {f : Nat → Bool} {w : World}
theorem StIs.start (h : Both O w Bp Bt t Bd t) (hx : w.heap[X]? = some (.cells cs TS (0, 0))) (ho : ¬ O X) : StIs O X cs j1 j2 Bp Bt Bd t t' (fun _ => false) { w with drawn := w.drawn + 1 } :=
  ⟨h.below ⟨rfl, rfl, rfl, Nat.le_refl _, fun _ _ => rfl⟩, hx, ho⟩
theorem StIs.keep {j : Nat} (hj : [j1, j2].contains j = false) (h : StIs O X cs j1 j2 Bp Bt Bd t t' f w) : StIs O X cs j1 j2 Bp Bt Bd t t' (Go.Rel.upd f j) w := by
  simp only [List.contains_cons, List.contains_nil, Bool.or_false, Bool.or_eq_false_iff, beq_eq_false_iff_ne] at hj
  refine ⟨?_, h.blk, h.out⟩
  rw [ale_off hj.1, ale_off hj.2]
  exact h.both
theorem StIs.left (h : StIs O X cs j1 j2 Bp Bt Bd t t' f w) (hj : j1 ≠ j2) (hf : f j1 = false) {fn : Nat} {args : Array Value} {v : Value}
    (C : ∀ S, KvAt S w Bp Bt t → MaxIs w → Calls Tryz.prog fn args w fun e w' => e = .returned v ∧ KvAt (fun k => S k ∨ w.heap.size ≤ k) w' Bp Bt t' ∧ But (· = Bt) w w') :
    Calls Tryz.prog fn args w fun e w' => e = .returned v ∧ StIs O X cs j1 j2 Bp Bt Bd t t' (Go.Rel.upd f j1) w' ∧ But O w w' := by
  have hb := h.both
  rw [hf] at hb
  obtain ⟨Sp, k1, k2, k3, k4⟩ := hb.left
  refine (C Sp k1 k2).mono ?_
  rintro e w' ⟨rfl, q1, q2⟩
  obtain ⟨g1, g2⟩ := k4 w' t' _ (fun _ => False) q1 (fun k z => z) (fun k z => z.elim) q2
  refine ⟨rfl, ⟨?_, (g2.block X (block_lt h.blk) h.out).trans h.blk, h.out⟩, g2⟩
  rw [ale_on, ale_off hj]
  exact g1.wide (fun k z => z.1) hb.mx.2
theorem StIs.right (h : StIs O X cs j1 j2 Bp Bt Bd t t' f w) (hj : j2 ≠ j1) (hf : f j2 = false) {fn : Nat} {args : Array Value} {v : Value}
    (C : ∀ S, KrAt S w Bd t → Calls Tryz.prog fn args w fun e w' => e = .returned v ∧ KrAt (fun k => S k ∨ w.heap.size ≤ k) w' Bd t' ∧ But (· = Bd) w w') :
    Calls Tryz.prog fn args w fun e w' => e = .returned v ∧ StIs O X cs j1 j2 Bp Bt Bd t t' (Go.Rel.upd f j2) w' ∧ But O w w' := by
  have hb := h.both
  rw [hf] at hb
  obtain ⟨Sd, k1, k4⟩ := hb.right
  refine (C Sd k1).mono ?_
  rintro e w' ⟨rfl, q1, q2⟩
  obtain ⟨g1, g2⟩ := k4 w' t' _ (fun _ => False) q1 (fun k z => z) (fun k z => z.elim) q2
  refine ⟨rfl, ⟨?_, (g2.block X (block_lt h.blk) h.out).trans h.blk, h.out⟩, g2⟩
  rw [ale_on, ale_off hj]
  exact g1.wide (fun k z => z.1) hb.mx.2
end
end Go.Proofs.YtohnkagabpefdaaGreatDoor
