import Derived.Test.YtilkbfmaofmjoaaGreatDoorZj43
import Derived.Test.YtilkbfmaofmjoaaGreatDoorZj44
import Derived.Test.YtilkbfmaofmjoaaGreatDoorZj41
import Derived.Test.YtilkbfmaofmjoaaGreatDoorZj9
import Derived.Test.YtilkbfmaofmjoaaGreatDoorZj42
import Derived.Deep.MidRow
namespace Go.Proofs.YtilkbfmaofmjoaaGreatDoor
open Go.RowKit Go.Rel
set_option linter.unusedSimpArgs false
set_option linter.unusedVariables false
def Ch4 (B1 B2 B3 D : Nat) (k : Nat) : Prop := Ch3 B1 B2 B3 k ∨ k = D
def Both (base : Nat) (w : World) (B B1 B2 B3 m : Nat) (d : Ro) (D md : Nat) (d2 : Ro) : Prop :=
  ∃ Sp Sd : Nat → Prop, RoAt Sp w B B1 B2 B3 m d ∧ RdAt base Sd w D md d2 ∧ (∀ k, Sp k → k < w.heap.size ∧ ¬ Sd k ∧ (base ≤ k ∨ k = gPw)) ∧ ∀ k, Sd k → k < w.heap.size
theorem RdAt.top {base : Nat} {S : Nat → Prop} {w : World} {B m : Nat} {d : Ro} (h : RdAt base S w B m d) : base ≤ w.heap.size := by
  obtain ⟨_, _, _, _, _, _, _, _, h1⟩ := h
  exact h1.top
section
variable {base : Nat} {w w' : World} {B B1 B2 B3 m D md : Nat} {d d2 : Ro}
theorem Both.below (h : Both base w B B1 B2 B3 m d D md d2) (hb : Below w.heap.size w w') : Both base w' B B1 B2 B3 m d D md d2 := by
  obtain ⟨Sp, Sd, h1, h2, h3, h4⟩ := h
  have hz := hb.size
  exact ⟨Sp, Sd, h1.below hb, h2.below hb, fun k hk => ⟨by have := (h3 k hk).1; omega, (h3 k hk).2⟩, fun k hk => by have := h4 k hk; omega⟩
theorem Both.top (h : Both base w B B1 B2 B3 m d D md d2) : base ≤ w.heap.size := by
  obtain ⟨Sp, Sd, h1, h2, h3, h4⟩ := h
  exact h2.top
theorem Both.lt (h : Both base w B B1 B2 B3 m d D md d2) : (B < w.heap.size ∧ B1 < w.heap.size ∧ B2 < w.heap.size ∧ B3 < w.heap.size) ∧ D < w.heap.size := by
  obtain ⟨Sp, Sd, h1, h2, h3, h4⟩ := h
  exact ⟨h1.lt, h2.lt⟩
theorem Both.ch (h : Both base w B B1 B2 B3 m d D md d2) : ∀ k, Ch4 B1 B2 B3 D k → base ≤ k := by
  obtain ⟨Sp, Sd, h1, h2, h3, h4⟩ := h
  rintro k (hk | rfl)
  · have := h1.ch k hk
    exact (h3 k this.1).2.2.resolve_right this.2.2.1
  · exact h2.lo _ h2.mine
theorem Both.left (h : Both base w B B1 B2 B3 m d D md d2) : ∃ Sp, RoAt Sp w B B1 B2 B3 m d ∧ ∀ w' d', RoAt (fun k => Sp k ∨ w.heap.size ≤ k) w' B B1 B2 B3 m d' → But (Ch3 B1 B2 B3) w w' → Both base w' B B1 B2 B3 m d' D md d2 := by
  obtain ⟨Sp, Sd, h1, h2, h3, h4⟩ := h
  have ht := h2.top
  refine ⟨Sp, h1, fun w' d' k1 kb => ?_⟩
  have hz := kb.size
  refine ⟨fun k => (Sp k ∨ w.heap.size ≤ k) ∧ k < w'.heap.size, Sd, k1.narrow fun k hk hs => ⟨hs, hk⟩, h2.but kb fun k e => ?_, fun k hk => ⟨hk.2, ?_, ?_⟩, fun k hk => by have := h4 k hk; omega⟩
  · have hc := h1.ch k e
    exact ⟨(h3 k hc.1).2.1, (h3 k hc.1).2.2.resolve_right hc.2.2.1⟩
  · rcases hk.1 with hs | hs
    · exact (h3 k hs).2.1
    · intro e
      have := h4 k e
      omega
  · rcases hk.1 with hs | hs
    · exact (h3 k hs).2.2
    · exact .inl (Nat.le_trans ht hs)
theorem Both.right (h : Both base w B B1 B2 B3 m d D md d2) : ∃ Sd, RdAt base Sd w D md d2 ∧ ∀ w' d', RdAt base (fun k => Sd k ∨ w.heap.size ≤ k) w' D md d' → But (· = D) w w' → Both base w' B B1 B2 B3 m d D md d' := by
  obtain ⟨Sp, Sd, h1, h2, h3, h4⟩ := h
  have hD := h2.mine
  refine ⟨Sd, h2, fun w' d' k1 kb => ?_⟩
  have hz := kb.size
  refine ⟨Sp, fun k => (Sd k ∨ w.heap.size ≤ k) ∧ k < w'.heap.size, h1.but kb (fun k e hs => (h3 k hs).2.1 (by rw [show k = D from e]; exact hD)), k1.narrow (fun k hk hs => ⟨hs, hk⟩) (fun k hk => k1.lo k hk.1), fun k hk => ⟨by have := (h3 k hk).1; omega, fun e => ?_, (h3 k hk).2.2⟩, fun k hk => hk.2⟩
  rcases e.1 with z | z
  · exact (h3 k hk).2.1 z
  · have := (h3 k hk).1; omega
theorem Both.read (h : Both base w B B1 B2 B3 m d D md d2) : ∃ Sp, RoAt Sp w B B1 B2 B3 m d := by
  obtain ⟨Sp, Sd, h1, _⟩ := h
  exact ⟨Sp, h1⟩
end
end Go.Proofs.YtilkbfmaofmjoaaGreatDoor
namespace Go.Proofs.YtilkbfmaofmjoaaGreatDoor
open Go.RowKit
set_option linter.unusedSimpArgs false
set_option linter.unusedVariables false
structure RSt where
  kind : Int
  node : Int
  text : ByteArray
  s : Rw SvW
  c : Rw CkA
  ix : Nat
structure RSt.Ok (W : World) (x : RSt) : Prop where
  node : -9223372036854775808 ≤ x.node ∧ x.node ≤ 9223372036854775807
  text : x.text.size ≤ 140737488355328
  s : SvIn W x.s
  c : CkIn x.c
  ix : x.ix < 18446744073709551616
theorem RSt.Ok.below {W W' : World} {x : RSt} (h : x.Ok W) (hb : Below W.heap.size W W') : x.Ok W' := ⟨h.node, h.text, h.s.below hb, h.c, h.ix⟩
abbrev TRs : TypeId := 35
def RSt.after (x : RSt) (d : Ro) : Nat × Ro :=
  if x.kind = 0 then d.node ⟨x.node, x.text⟩ x.ix else if x.kind = 1 then d.dropN x.node x.ix else if x.kind = 2 then d.service x.s.val.a x.ix else if x.kind = 3 then d.dropS x.node x.text x.ix
  else if x.kind = 4 then d.check x.c.val x.ix else if x.kind = 5 then d.dropC x.node x.text x.ix else (0, d)
end Go.Proofs.YtilkbfmaofmjoaaGreatDoor
namespace Go.Proofs.YtilkbfmaofmjoaaGreatDoor
open Go.RowKit Go.Rel
set_option linter.unusedSimpArgs false
set_option linter.unusedVariables false
structure StR (base X : Nat) (x : RSt) (cs : Array Value) (j1 j2 B B1 B2 B3 m D md : Nat) (d d' d2 d2' : Ro) (v1 v2 : Value) (f : Nat → Bool) (e : Nat → Value) (w : World) : Prop where
  both : Both base w B B1 B2 B3 m (if f j1 then d' else d) D md (if f j2 then d2' else d2)
  blk : w.heap[X]? = some (.cells cs TRs (0, 0))
  out : ¬ Ch4 B1 B2 B3 D X
  tg : TgAt (fun k => k < base) w x.s.val
  k1 : f j1 = true → e j1 = v1
  k2 : f j2 = true → e j2 = v2
section
variable {base X : Nat} {x : RSt} {cs : Array Value} {j1 j2 B B1 B2 B3 m D md : Nat} {d d' d2 d2' : Ro} {v1 v2 : Value} {f : Nat → Bool} {e e' : Nat → Value} {w w' : World} {v : Value} {ops : Array Oper}
theorem StR.start (h : Both base w B B1 B2 B3 m d D md d2) (hx : w.heap[X]? = some (.cells cs TRs (0, 0))) (ho : ¬ Ch4 B1 B2 B3 D X) (ht : TgAt (fun k => k < base) w x.s.val) (e : Nat → Value) : StR base X x cs j1 j2 B B1 B2 B3 m D md d d' d2 d2' v1 v2 (fun _ => false) e { w with drawn := w.drawn + 1 } :=
  ⟨h.below ⟨rfl, rfl, rfl, Nat.le_refl _, fun _ _ => rfl⟩, hx, ho, ht.below ⟨rfl, rfl, rfl, Nat.le_refl _, fun _ _ => rfl⟩, (fun z => by cases z), (fun z => by cases z)⟩
theorem StR.keep {j : Nat} (hj : [j1, j2].contains j = false) (h : StR base X x cs j1 j2 B B1 B2 B3 m D md d d' d2 d2' v1 v2 f e w) (hp : Go.Rel.Put ops j e v e') : StR base X x cs j1 j2 B B1 B2 B3 m D md d d' d2 d2' v1 v2 (Go.Rel.upd f j) e' w := by
  simp only [List.contains_cons, List.contains_nil, Bool.or_false, Bool.or_eq_false_iff, beq_eq_false_iff_ne] at hj
  have e1 := hp.1 j1 (Ne.symm hj.1)
  have e2 := hp.1 j2 (Ne.symm hj.2)
  refine ⟨?_, h.blk, h.out, h.tg, ?_, ?_⟩
  · rw [ale_off hj.1, ale_off hj.2]; exact h.both
  · rw [ale_off hj.1, e1]; exact h.k1
  · rw [ale_off hj.2, e2]; exact h.k2
theorem StR.left (h : StR base X x cs j1 j2 B B1 B2 B3 m D md d d' d2 d2' v1 v2 f e w) (hj : j1 ≠ j2) (hf : f j1 = false) {fn : Nat} {args : Array Value}
    (C : ∀ S, RoAt S w B B1 B2 B3 m d → TgAt (fun k => k < base) w x.s.val → Calls Tryz.prog fn args w fun r w' => r = .returned v1 ∧ RoAt (fun k => S k ∨ w.heap.size ≤ k) w' B B1 B2 B3 m d' ∧ But (Ch3 B1 B2 B3) w w') :
    Calls Tryz.prog fn args w fun r w' => ∃ v, r = .returned v ∧ (∀ e', (∀ m, m ≠ j1 → e' m = e m) → e' j1 = v → StR base X x cs j1 j2 B B1 B2 B3 m D md d d' d2 d2' v1 v2 (Go.Rel.upd f j1) e' w') ∧ But (Ch4 B1 B2 B3 D) w w' := by
  have hb := h.both
  rw [hf] at hb
  have hch := hb.ch
  obtain ⟨Sp, k1, k4⟩ := hb.left
  refine (C Sp k1 h.tg).mono ?_
  rintro r w' ⟨rfl, q1, q2⟩
  have g2 : But (Ch4 B1 B2 B3 D) w w' := q2.mono fun k z => .inl z
  refine ⟨_, rfl, fun e' he hv => ⟨?_, (g2.block X (block_lt h.blk) h.out).trans h.blk, h.out, h.tg.but g2 (fun k z q => by have := hch k z; omega), fun _ => hv, fun z => ?_⟩, g2⟩
  · rw [ale_on, ale_off hj]
    exact k4 w' d' q1 q2
  · rw [ale_off hj] at z
    rw [he j2 (Ne.symm hj)]
    exact h.k2 z
theorem StR.right (h : StR base X x cs j1 j2 B B1 B2 B3 m D md d d' d2 d2' v1 v2 f e w) (hj : j2 ≠ j1) (hf : f j2 = false) {fn : Nat} {args : Array Value}
    (C : ∀ S, RdAt base S w D md d2 → TgAt (fun k => k < base) w x.s.val → Calls Tryz.prog fn args w fun r w' => r = .returned v2 ∧ RdAt base (fun k => S k ∨ w.heap.size ≤ k) w' D md d2' ∧ But (· = D) w w') :
    Calls Tryz.prog fn args w fun r w' => ∃ v, r = .returned v ∧ (∀ e', (∀ m, m ≠ j2 → e' m = e m) → e' j2 = v → StR base X x cs j1 j2 B B1 B2 B3 m D md d d' d2 d2' v1 v2 (Go.Rel.upd f j2) e' w') ∧ But (Ch4 B1 B2 B3 D) w w' := by
  have hb := h.both
  rw [hf] at hb
  have hch := hb.ch
  obtain ⟨Sd, k1, k4⟩ := hb.right
  refine (C Sd k1 h.tg).mono ?_
  rintro r w' ⟨rfl, q1, q2⟩
  have g2 : But (Ch4 B1 B2 B3 D) w w' := q2.mono fun k z => .inr z
  refine ⟨_, rfl, fun e' he hv => ⟨?_, (g2.block X (block_lt h.blk) h.out).trans h.blk, h.out, h.tg.but g2 (fun k z q => by have := hch k z; omega), fun z => ?_, fun _ => hv⟩, g2⟩
  · rw [ale_on, ale_off hj]
    exact k4 w' d2' q1 q2
  · rw [ale_off hj] at z
    rw [he j1 (Ne.symm hj)]
    exact h.k1 z
end
end Go.Proofs.YtilkbfmaofmjoaaGreatDoor
namespace Go.Proofs.YtilkbfmaofmjoaaGreatDoor
open Go.RowKit Go.Rel
set_option linter.unusedSimpArgs false
set_option linter.unusedVariables false
end Go.Proofs.YtilkbfmaofmjoaaGreatDoor
namespace Go.Proofs.YtilkbfmaofmjoaaGreatDoor
open Go.RowKit
set_option linter.unusedSimpArgs false
set_option linter.unusedVariables false
end Go.Proofs.YtilkbfmaofmjoaaGreatDoor
namespace Go.Proofs.YtilkbfmaofmjoaaGreatDoor
open Go.RowKit Go.Rel
set_option linter.unusedSimpArgs false
set_option linter.unusedVariables false
end Go.Proofs.YtilkbfmaofmjoaaGreatDoor
namespace Go.Proofs.YtilkbfmaofmjoaaGreatDoor
open Go.RowKit Go.Rel
set_option linter.unusedSimpArgs false
set_option linter.unusedVariables false
end Go.Proofs.YtilkbfmaofmjoaaGreatDoor
namespace Go.Proofs.YtilkbfmaofmjoaaGreatDoor
open Go.RowKit
set_option linter.unusedSimpArgs false
set_option linter.unusedVariables false
end Go.Proofs.YtilkbfmaofmjoaaGreatDoor
namespace Go.Proofs.YtilkbfmaofmjoaaGreatDoor
open Go.RowKit
set_option linter.unusedSimpArgs false
set_option linter.unusedVariables false
theorem lay_end {α : Type} {r : Rw α} : ∀ {l : List (Rw α)} (_ : ∀ x ∈ l, ltT x.key r.key = true), layR r false l = l ++ [r]
  | [], _ => rfl
  | x :: l, h => by
    have hx := h x (by simp)
    unfold layR
    have hne : x.key ≠ r.key := fun e => by rw [e, ltT_irr] at hx; cases hx
    rw [if_neg (by rw [text_other.2 hne]; exact Bool.false_ne_true), if_neg (by rw [ltT_asymm hx]; exact Bool.false_ne_true), lay_end fun y hy => h y (by simp [hy])]
    rfl
theorem lay_last {α : Type} {r r0 : Rw α} (hk : r0.key = r.key) : ∀ {l : List (Rw α)} (_ : ∀ x ∈ l, ltT x.key r.key = true), layR r false (l ++ [r0]) = l ++ [r]
  | [], _ => by
    show layR r false [r0] = [r]
    unfold layR
    rw [if_pos (text_same.2 hk)]
    rfl
  | x :: l, h => by
    have hx := h x (by simp)
    show layR r false (x :: (l ++ [r0])) = x :: (l ++ [r])
    unfold layR
    have hne : x.key ≠ r.key := fun e => by rw [e, ltT_irr] at hx; cases hx
    rw [if_neg (by rw [text_other.2 hne]; exact Bool.false_ne_true), if_neg (by rw [ltT_asymm hx]; exact Bool.false_ne_true), lay_last hk fun y hy => h y (by simp [hy])]
section
variable {α : Type}
def layT (wr : α → Nat) (ky : α → ByteArray) (t : Tb α) (x : α) (i : Nat) : Nat × Tb α := if wr x ≠ 0 then (wr x, t) else (layE t (ky x), t.putT (ky x) x i)
structure Gd (wr : α → Nat) (ky : α → ByteArray) (m : Nat) (l : List (Rw α)) (a : Nat) : Prop where
  len : l.length ≤ m
  rise : SR l
  row : ∀ x ∈ l, wr x.val = 0 ∧ x.made ≤ x.ix ∧ x.ix ≤ a
def befK (l : List (Rw α)) : Nat → ByteArray
  | 0 => noT
  | k + 1 => (l[k]?.map (·.key)).getD noT
variable {wr : α → Nat} {ky : α → ByteArray} {m a : Nat} {l : List (Rw α)} {k b : Nat}
theorem befK_succ (h : k < l.length) : befK l (k + 1) = l[k].key := by
  show (l[k]?.map (·.key)).getD noT = _
  rw [List.getElem?_eq_getElem h]
  rfl
theorem getR_before {e : Rw α} {l : List (Rw α)} (h : ∀ x ∈ l, ltT x.key e.key = true) : getR l e.key = none := by
  unfold getR
  rw [List.find?_eq_none]
  intro x hx hq
  have := h x hx
  rw [text_same.1 hq, ltT_irr] at this
  cases this
theorem Gd.before (hg : Gd wr ky m (l.take k) a) (hk : k < l.length) (hlt : ltT (befK l k) l[k].key = true) : ∀ x ∈ l.take k, ltT x.key l[k].key = true := by
  intro x hx
  cases k with
  | zero => simp at hx
  | succ k =>
    rw [befK_succ (by omega)] at hlt
    obtain ⟨j, hj, rfl⟩ := List.getElem_of_mem hx
    rw [List.length_take] at hj
    rcases Nat.lt_or_ge j k with q | q
    · refine ltT_trans ?_ hlt
      have := hg.rise.get (i := j) (j := k) (by rw [List.length_take]; omega) q
      rw [List.getElem_take, List.getElem_take] at this
      rw [List.getElem_take]
      exact this
    · obtain rfl : j = k := by omega
      rwa [List.getElem_take]
theorem Gd.next (hg : Gd wr ky m (l.take k) a) (hk : k < l.length) (hlt : ltT (befK l k) l[k].key = true) (h1 : wr l[k].val = 0) (h2 : l[k].made ≤ l[k].ix) (h3 : l[k].ix ≤ a) (hm : k < m) : Gd wr ky m (l.take (k + 1)) a := by
  have hb := hg.before hk hlt
  refine ⟨by rw [List.length_take]; omega, ?_, fun x hx => ?_⟩
  · rw [List.take_succ_eq_append_getElem hk]
    exact List.pairwise_append.2 ⟨hg.rise, List.pairwise_singleton _ _, fun x hx y hy => by rw [List.mem_singleton.1 hy]; exact hb x hx⟩
  · rw [List.take_succ_eq_append_getElem hk] at hx
    rcases List.mem_append.1 hx with hx | hx
    · exact hg.row x hx
    · rw [List.mem_singleton.1 hx]
      exact ⟨h1, h2, h3⟩
theorem Gd.take (h : Gd wr ky m l a) (k : Nat) : Gd wr ky m (l.take k) a :=
  ⟨by rw [List.length_take]; have := h.len; omega, List.Pairwise.sublist (List.take_sublist _ _) h.rise, fun x hx => h.row x (List.mem_of_mem_take hx)⟩
theorem lay_one (hk : k < l.length) (hw : wr l[k].val = 0) (hky : l[k].key = ky l[k].val) (hlt : ∀ x ∈ l.take k, ltT x.key l[k].key = true) : layT wr ky ⟨m, l.take k, b⟩ l[k].val l[k].made = if m ≤ k then (5, ⟨m, l.take k, b⟩) else (0, ⟨m, l.take k ++ [{ l[k] with ix := l[k].made }], max b l[k].made⟩) := by
  have hg := getR_before hlt
  have hl : (l.take k).length = k := by rw [List.length_take]; omega
  unfold layT layE Tb.putT Tb.fullB
  rw [if_neg (by rw [hw]; simp), ← hky]
  simp only [hg, Option.isNone_none, Bool.true_and, decide_eq_true_eq, hl]
  split
  · rfl
  · unfold Tb.put Tb.row
    simp only [hg]
    rw [lay_end (by exact hlt)]
    rfl
theorem lay_two (hk : k < l.length) (hw : wr l[k].val = 0) (hky : l[k].key = ky l[k].val) (hlt : ∀ x ∈ l.take k, ltT x.key l[k].key = true) : layT wr ky ⟨m, l.take k ++ [{ l[k] with ix := l[k].made }], b⟩ l[k].val l[k].ix = (0, ⟨m, l.take (k + 1), max b l[k].ix⟩) := by
  have hg : getR (l.take k ++ [({ l[k] with ix := l[k].made } : Rw α)]) l[k].key = some { l[k] with ix := l[k].made } := by
    have h1 := getR_before hlt
    unfold getR at h1 ⊢
    rw [List.find?_append, h1, List.find?_cons_of_pos (by exact text_same.2 rfl)]
    rfl
  unfold layT layE Tb.putT Tb.fullB
  rw [if_neg (by rw [hw]; simp), ← hky]
  simp only [hg, Option.isNone_some, Bool.false_and, Bool.false_eq_true, if_false]
  unfold Tb.put Tb.row
  simp only [hg]
  rw [List.take_succ_eq_append_getElem hk]
  exact congrArg (fun z => ((0, (⟨m, z, max b l[k].ix⟩ : Tb α)) : Nat × Tb α)) (lay_last (r := l[k]) (r0 := { l[k] with ix := l[k].made }) rfl hlt)
theorem Gd.not (hk : k < l.length) (hky : l[k].key = ky l[k].val) (h0 : ltT noT l[k].key = true) (h : ¬ (ltT (befK l k) l[k].key = true ∧ l[k].made ≤ l[k].ix ∧ l[k].ix ≤ a ∧ (layT wr ky ⟨m, l.take k, b⟩ l[k].val l[k].made).1 = 0)) : ¬ Gd wr ky m l a := by
  intro hg
  obtain ⟨h1, h2, h3⟩ := hg.row _ (List.getElem_mem hk)
  have hlt : ltT (befK l k) l[k].key = true := by
    cases k with
    | zero => exact h0
    | succ k =>
      rw [befK_succ (by omega)]
      exact hg.rise.get hk (by omega)
  refine h ⟨hlt, h2, h3, ?_⟩
  rw [lay_one hk h1 hky ((hg.take k).before hk hlt), if_neg (by have := hg.len; omega)]
theorem Gd.yes (hg : Gd wr ky m (l.take k) a) (hk : k < l.length) (hky : l[k].key = ky l[k].val) (hlt : ltT (befK l k) l[k].key = true) (h2 : l[k].made ≤ l[k].ix) (h3 : l[k].ix ≤ a) (h : (layT wr ky ⟨m, l.take k, b⟩ l[k].val l[k].made).1 = 0) : Gd wr ky m (l.take (k + 1)) a ∧ layT wr ky ⟨m, l.take k, b⟩ l[k].val l[k].made = (0, ⟨m, l.take k ++ [{ l[k] with ix := l[k].made }], max b l[k].made⟩) ∧ ∀ b, layT wr ky ⟨m, l.take k ++ [{ l[k] with ix := l[k].made }], b⟩ l[k].val l[k].ix = (0, ⟨m, l.take (k + 1), max b l[k].ix⟩) := by
  have hb := hg.before hk hlt
  have hw : wr l[k].val = 0 := by
    unfold layT at h
    split at h
    · exact h
    · rename_i e; simpa using e
  rw [lay_one hk hw hky hb] at h ⊢
  have hm : ¬ m ≤ k := fun e => by rw [if_pos e] at h; cases h
  rw [if_neg hm]
  exact ⟨hg.next hk hlt hw h2 h3 (by omega), rfl, fun b => lay_two hk hw hky hb⟩
end
theorem Ro.node_lay (d : Ro) (x : NdA) (i : Nat) : d.node x i = ((layT wrongN NdA.key d.n x i).1, { d with n := (layT wrongN NdA.key d.n x i).2 }) := by
  unfold Ro.node layT
  split <;> rfl
theorem Ro.service_lay (d : Ro) (x : SvA) (i : Nat) : d.service x i = ((layT d.wrongS SvA.key d.s x i).1, { d with s := (layT d.wrongS SvA.key d.s x i).2 }) := by
  unfold Ro.service layT
  split <;> rfl
theorem Ro.check_lay (d : Ro) (x : CkA) (i : Nat) : d.check x i = ((layT d.wrongC CkA.key d.c x i).1, { d with c := (layT d.wrongC CkA.key d.c x i).2 }) := by
  unfold Ro.check layT
  split <;> rfl
theorem key_pos (node : Int) (id : ByteArray) : ltT noT (keyO node id) = true := by
  rw [ltT_iff, keyO_list]
  have h : keyL node id.data.toList ≠ [] := by unfold keyL; simp
  show ([] : List UInt8) < _
  cases e : keyL node id.data.toList with
  | nil => exact absurd e h
  | cons a l => exact List.Lex.nil
end Go.Proofs.YtilkbfmaofmjoaaGreatDoor
namespace Go.Proofs.YtilkbfmaofmjoaaGreatDoor
open Go.RowKit Go.Rel
set_option linter.unusedSimpArgs false
set_option linter.unusedVariables false
structure LdN (x : Rw NdA) : Prop where
  node : -9223372036854775808 ≤ x.val.node ∧ x.val.node ≤ 9223372036854775807
  addr : x.val.addr.size ≤ maxLen
  made : x.made < 18446744073709551616
  ix : x.ix < 18446744073709551616
structure LdC (x : Rw CkA) : Prop where
  c : CkIn x
  made : x.made < 18446744073709551616
  ix : x.ix < 18446744073709551616
  id : x.val.id.size ≤ 140737488355328
structure LdS (W : World) (x : Rw SvW) : Prop where
  s : SvIn W x
  n : x.val.n * 16 ≤ 140737488355328
  made : x.made < 18446744073709551616
  ix : x.ix < 18446744073709551616
  id : x.val.a.id.size ≤ 140737488355328
theorem LdS.below {W W' : World} {x : Rw SvW} (h : LdS W x) (hb : Below W.heap.size W W') : LdS W' x := ⟨h.s.below hb, h.n, h.made, h.ix, h.id⟩
section
variable {S : Nat → Prop} {w w' wr : World} {B B1 B2 B3 m : Nat} {d D D' : Ro} {f1 f2 : Value} {T : TypeId}
structure LdI (S : Nat → Prop) (w : World) (B B1 B2 B3 m : Nat) (f1 f2 : Value) (T : TypeId) (D : Ro) (wr : World) : Prop where
  ro : RoAt (fun q => S q ∨ w.heap.size ≤ q) wr B B1 B2 B3 m D
  but : But (Ch3 B1 B2 B3) w wr
  box : wr.heap[w.heap.size]? = some (.cells #[f1, f2] T (0, 0))
  lo : ∀ k, Ch3 B1 B2 B3 k → k < w.heap.size
theorem LdI.start (h : RoAt S w B B1 B2 B3 m d) (f1 f2 : Value) (T : TypeId) : LdI S w B B1 B2 B3 m f1 f2 T d (w.alloc (.cells #[f1, f2] T)) :=
  ⟨h.wide (below1 _ _ _), But.of_below (below1 _ _ _), heap_alloc_new w _, fun k hk => (h.ch k hk).2.2.2⟩
theorem LdI.size (h : LdI S w B B1 B2 B3 m f1 f2 T D wr) : w.heap.size < wr.heap.size := block_lt h.box
theorem LdI.step (h : LdI S w B B1 B2 B3 m f1 f2 T D wr) {n : Nat} (hn : w.heap.size ≤ n) (hro : RoAt (fun q => (S q ∨ w.heap.size ≤ q) ∨ n ≤ q) w' B B1 B2 B3 m D') (hb : But (Ch3 B1 B2 B3) wr w') : LdI S w B B1 B2 B3 m f1 f2 T D' w' :=
  ⟨hro.narrow fun k _ z => z.elim id fun z => .inr (by omega), h.but.trans hb, (hb.block _ h.size fun e => by have := h.lo _ e; omega).trans h.box, h.lo⟩
theorem LdI.below (h : LdI S w B B1 B2 B3 m f1 f2 T D wr) (hb : Below wr.heap.size wr w') : LdI S w B B1 B2 B3 m f1 f2 T D w' :=
  ⟨h.ro.below hb, h.but.trans (But.of_below hb), (hb.block _ h.size).trans h.box, h.lo⟩
def LdPost (S : Nat → Prop) (w : World) (B B1 B2 B3 m : Nat) (P : Prop) (D : Ro) (e : Ending) (w' : World) : Prop :=
  But (Ch3 B1 B2 B3) w w' ∧ ∃ r, e = .returned (.bool r) ∧ (r = true ↔ P) ∧ (P → RoAt (fun q => S q ∨ w.heap.size ≤ q) w' B B1 B2 B3 m D)
theorem LdPost.no {P : Prop} (hb : But (Ch3 B1 B2 B3) w w') (h : ¬ P) : LdPost S w B B1 B2 B3 m P D (.returned (.bool false)) w' := ⟨hb, false, rfl, ⟨(fun z => by cases z), fun z => absurd z h⟩, fun z => absurd z h⟩
theorem LdPost.yes {P : Prop} (hb : But (Ch3 B1 B2 B3) w w') (h : P) (hr : RoAt (fun q => S q ∨ w.heap.size ≤ q) w' B B1 B2 B3 m D) : LdPost S w B B1 B2 B3 m P D (.returned (.bool true)) w' := ⟨hb, true, rfl, ⟨fun _ => h, fun _ => rfl⟩, fun _ => hr⟩
def ldT {α : Type} (t0 t1 t2 : Tb α) : Nat → Tb α
  | 0 => t0
  | 1 => t1
  | _ => t2
theorem RoOk.raise_n (h : RoOk m d) {i : Nat} (hi : i < 18446744073709551616) : RoOk m ⟨d.n.raise i, d.s, d.c⟩ := ⟨h.most, h.nm, h.sm, h.cm, h.nok.raise hi, h.sok, h.cok, h.nr, h.sr, h.cr⟩
theorem RoOk.raise_s (h : RoOk m d) {i : Nat} (hi : i < 18446744073709551616) : RoOk m ⟨d.n, d.s.raise i, d.c⟩ := ⟨h.most, h.nm, h.sm, h.cm, h.nok, h.sok.raise hi, h.cok, h.nr, h.sr, h.cr⟩
theorem RoOk.raise_c (h : RoOk m d) {i : Nat} (hi : i < 18446744073709551616) : RoOk m ⟨d.n, d.s, d.c.raise i⟩ := ⟨h.most, h.nm, h.sm, h.cm, h.nok, h.sok, h.cok.raise hi, h.nr, h.sr, h.cr⟩
theorem rraise_n (i : Nat) (h : RoAt S w B B1 B2 B3 m d) (hi : i < 18446744073709551616) : Calls Tryz.prog 110 #[.pointer (some ⟨B1, 0, none⟩), .int .u64 (i : Int)] w fun e w' => e = .returned (.tuple #[]) ∧ RoAt (fun q => S q ∨ w.heap.size ≤ q) w' B B1 B2 B3 m (⟨d.n.raise i, d.s, d.c⟩ : Ro) ∧ But (Ch3 B1 B2 B3) w w' := by
  obtain ⟨hok, T1, T2, T3, h1, e1, e2, e3⟩ := h
  refine (Nt.raise_any i h1.t1 hi).mono fun e w' ⟨q1, q2, q3⟩ => ⟨q1, ⟨hok.raise_n hi, _, _, _, h1.turn1 (q2.narrow fun _ _ z => .inl z) q3, ?_, ?_, ?_⟩, but1 q3⟩
  · rw [← e1]; rfl
  · exact e2
  · exact e3
theorem rraise_s (i : Nat) (h : RoAt S w B B1 B2 B3 m d) (hi : i < 18446744073709551616) : Calls Tryz.prog 111 #[.pointer (some ⟨B2, 0, none⟩), .int .u64 (i : Int)] w fun e w' => e = .returned (.tuple #[]) ∧ RoAt (fun q => S q ∨ w.heap.size ≤ q) w' B B1 B2 B3 m (⟨d.n, d.s.raise i, d.c⟩ : Ro) ∧ But (Ch3 B1 B2 B3) w w' := by
  obtain ⟨hok, T1, T2, T3, h1, e1, e2, e3⟩ := h
  refine (Vt.raise_any i h1.t2 hi).mono fun e w' ⟨q1, q2, q3⟩ => ⟨q1, ⟨hok.raise_s hi, _, _, _, h1.turn2 (q2.narrow fun _ _ z => .inl z) q3 (fun r hr => .inl hr), ?_, ?_, ?_⟩, but2 q3⟩
  · exact e1
  · rw [← e2]; rfl
  · exact e3
theorem rraise_c (i : Nat) (h : RoAt S w B B1 B2 B3 m d) (hi : i < 18446744073709551616) : Calls Tryz.prog 109 #[.pointer (some ⟨B3, 0, none⟩), .int .u64 (i : Int)] w fun e w' => e = .returned (.tuple #[]) ∧ RoAt (fun q => S q ∨ w.heap.size ≤ q) w' B B1 B2 B3 m (⟨d.n, d.s, d.c.raise i⟩ : Ro) ∧ But (Ch3 B1 B2 B3) w w' := by
  obtain ⟨hok, T1, T2, T3, h1, e1, e2, e3⟩ := h
  refine (Ct.raise_any i h1.t3 hi).mono fun e w' ⟨q1, q2, q3⟩ => ⟨q1, ⟨hok.raise_c hi, _, _, _, h1.turn3 (q2.narrow fun _ _ z => .inl z) q3, ?_, ?_, ?_⟩, but3 q3⟩
  · exact e1
  · exact e2
  · rw [← e3]; rfl
theorem load1_any (x : Rw NdA) (i X : Nat) (h : RoAt S w B B1 B2 B3 m d) (hx : LdN x) (hi : i < 18446744073709551616) (hX : w.heap[X]? = some (.cells #[.pointer (some ⟨B, 0, none⟩)] 23 (0, 0))) : Calls Tryz.prog 63 #[ndV x, .int .u64 (i : Int), .pointer (some ⟨X, 0, none⟩)] w fun e w' => e = .returned (.int .i64 ((d.node x.val i).1 : Int)) ∧ RoAt (fun q => S q ∨ w.heap.size ≤ q) w' B B1 B2 B3 m (d.node x.val i).2 ∧ But (Ch3 B1 B2 B3) w w' := by
  obtain ⟨Y, hY⟩ : ∃ Y, w.heap.size = Y := ⟨_, rfl⟩
  obtain ⟨W1, hW1⟩ : ∃ W1, w.alloc (.cells #[.int .i64 x.val.node, .string x.val.addr, .int .u64 (x.made : Int), .int .u64 (x.ix : Int)] TNd) = W1 := ⟨_, rfl⟩
  have b1 : Below w.heap.size w W1 := by rw [← hW1]; exact below1 _ _ _
  have k1 : W1.heap[Y]? = some (.cells #[.int .i64 x.val.node, .string x.val.addr, .int .u64 (x.made : Int), .int .u64 (x.ix : Int)] TNd (0, 0)) := by rw [← hW1, ← hY]; exact heap_alloc_new w _
  have x1 := (b1.block X (block_lt hX)).trans hX
  have HN := Lib.hid (rnode_any x.val.node x.val.addr i (h.below b1) hx.node hx.addr hi)
  have HW1 := Lib.hid hW1
  have HY := Lib.hid hY
  have HB1 := Lib.hid b1
  have z0 := cellsN k1 0 _ rfl
  have z1 := cellsN k1 1 _ rfl
  have x0 := cellsN x1 0 _ rfl
  rw [← hW1] at x0 z0 z1
  unfold ndV
  rw [← hY] at z0 z1
  clear h hx hi hX b1 hW1 hY k1 x1
  go_enter Tryz.func63, Tryz.ntmps63
  go_wp2_with fail
  rw [HW1.out, HY.out]
  refine HN.out.mono ?_
  rintro e w2 ⟨rfl, hr, hb⟩
  have HR := Lib.hid (hr.narrow (S' := fun q => S q ∨ w.heap.size ≤ q) fun k _ z => z.imp id fun z => Nat.le_trans HB1.out.size z)
  have HBb := Lib.hid ((But.of_below HB1.out : But (Ch3 B1 B2 B3) w W1).trans hb)
  clear hr hb z0 z1 x0
  go_wp2
  go_ret
  exact ⟨rfl, HR.out, HBb.out⟩
end
end Go.Proofs.YtilkbfmaofmjoaaGreatDoor
namespace Go.Proofs.YtilkbfmaofmjoaaGreatDoor
open Go.RowKit Go.Rel
set_option linter.unusedSimpArgs false
set_option linter.unusedVariables false
set_option maxHeartbeats 8000000 in
set_option maxRecDepth 100000 in
theorem rload_n {S : Nat → Prop} {w : World} {B B1 B2 B3 m b0 XX : Nat} {d : Ro} (A : Option Addr) (n c : Nat) (l : List (Rw NdA)) (last : Nat) (h : RoAt S w B B1 B2 B3 m d) (ht : d.n = ⟨m, [], b0⟩) (hb0 : b0 ≤ last) (hl : ∀ W, But (Ch3 B1 B2 B3) w W → SK ndC 4 W A n l) (hky : ∀ x ∈ l, x.key = x.val.key) (hin : ∀ x ∈ l, LdN x) (hn : n ≤ maxLen) (hlast : last < 18446744073709551616) (hX : w.heap[XX]? = some (.cells #[.pointer (some ⟨B, 0, none⟩)] 23 (0, 0))) (hXn : ¬ Ch3 B1 B2 B3 XX) :
    Calls Tryz.prog 64 #[.pointer (some ⟨B1, 0, none⟩), kdNode, .slice A n c, .int .u64 (last : Int), .func (.func 63) #[] #[.pointer (some ⟨XX, 0, none⟩)]] w (LdPost S w B B1 B2 B3 m (Gd wrongN NdA.key m l last) (⟨⟨m, l, last⟩, d.s, d.c⟩ : Ro)) := by
  unfold maxLen at hn
  have hn' : (n : Int) ≤ 9223372036854775807 := by omega
  have hd0 : d = (⟨⟨m, [], b0⟩, d.s, d.c⟩ : Ro) := by rw [← ht]
  have HL := Lib.hid hl
  have HSl := Lib.hid (hl w (But.refl _ _)).1
  have HKy := Lib.hid hky
  have HIn := Lib.hid hin
  have HLa := Lib.hid hlast
  have HX := Lib.hid hX
  have HXn := Lib.hid hXn
  have HI0 : Hid (LdI S w B B1 B2 B3 m (.func (.func 88) #[] #[]) (.func (.func 89) #[] #[]) 92 (⟨⟨m, [], b0⟩, d.s, d.c⟩ : Ro) (w.alloc (.cells #[.func (.func 88) #[] #[], .func (.func 89) #[] #[]] 92))) := Lib.hid (by
    have h9 := LdI.start h (.func (.func 88) #[] #[]) (.func (.func 89) #[] #[]) 92
    rw [hd0] at h9
    exact h9)
  have HB0 := Lib.hid hb0
  unfold kdNode
  clear hd0 ht hb0 hl hky hin hn hlast h hX hXn
  go_enter Tryz.func64, Tryz.ntmps64
  go_wp2
  go_loopw [11, 19] (fun sv iv wr => ∃ k b : Nat, k ≤ n ∧ sv = .string (befK l k) ∧ iv = .int .i64 (k : Int) ∧ Hid (b ≤ last) ∧ Hid (Gd wrongN NdA.key m (l.take k) last) ∧ Hid (LdI S w B B1 B2 B3 m (.func (.func 88) #[] #[]) (.func (.func 89) #[] #[]) 92 (⟨⟨m, l.take k, b⟩, d.s, d.c⟩ : Ro) wr)) (fun _ iv _ => n - (intOf iv).toNat)
  case atStart => exact ⟨0, b0, Nat.zero_le _, rfl, rfl, HB0, Lib.hid ⟨Nat.zero_le _, .nil, fun x hx => by simp at hx⟩, HI0⟩
  case round =>
    obtain ⟨k, b, hk, rfl, rfl, hble, hgd, hli⟩ := hrel
    by_cases hlt : k < n
    · have hkl0 : k < l.length := by rw [HSl.out]; exact hlt
      have hkl : k < l.length := hkl0
      obtain ⟨bk, off, rfl, hbl, hit⟩ := (HL.out wr hli.out.but).at_ hlt hkl0
      have hmem : l[k] ∈ l := List.getElem_mem _
      have hkey := HKy.out _ hmem
      have hin9 := HIn.out _ hmem
      obtain ⟨x, hx⟩ : ∃ x, l[k] = x := ⟨_, rfl⟩
      rw [hx] at hit hmem hkey hin9
      have hky0 : l[k].key = NdA.key l[k].val := by rw [hx]; exact hkey
      have h00 : ltT noT l[k].key = true := by rw [hky0]; exact key_pos _ _
      have hNo := fun hc => Gd.not (wr := wrongN) (ky := NdA.key) (m := m) (a := last) (b := b) hkl hky0 h00 hc
      have hYes := fun h1 h2 h3 h4 => Gd.yes (wr := wrongN) (ky := NdA.key) (m := m) (a := last) (b := b) hgd.out hkl hky0 h1 h2 h3 h4
      have hbk := befK_succ hkl
      rw [hx] at hNo hYes hbk
      obtain ⟨bf, hbf⟩ : ∃ z, befK l k = z := ⟨_, rfl⟩
      rw [hbf] at hNo hYes ⊢
      obtain ⟨kx, hkx⟩ : ∃ z, x.val.key = z := ⟨_, rfl⟩
      have hkey2 : x.key = kx := by rw [← hkx]; exact hkey
      rw [hkey2] at hNo hYes hbk
      obtain ⟨Y, hY⟩ : ∃ Y, wr.heap.size = Y := ⟨_, rfl⟩
      have b5 := below1 wr #[.int .i64 x.val.node, .string x.val.addr, .int .u64 (x.made : Int), .int .u64 (x.ix : Int)] TNd
      have k5 := heap_alloc_new wr (.cells #[.int .i64 x.val.node, .string x.val.addr, .int .u64 (x.made : Int), .int .u64 (x.ix : Int)] TNd)
      have hi5 := hli.out.below b5
      have HRow := Lib.hid (rowNode_any x (wr.alloc (.cells #[.int .i64 x.val.node, .string x.val.addr, .int .u64 (x.made : Int), .int .u64 (x.ix : Int)] TNd)) hin9.node (by decide) hi5.ro.pw)
      have hbx0 := cellsN hi5.box 0 _ rfl
      have hbx1 := cellsN hi5.box 1 _ rfl
      have HOs := Lib.hid hli.out.size
      have HLay := Lib.hid (fun (W : World) (t : Tb NdA) (i : Nat) (h9 : RoAt (fun q => S q ∨ w.heap.size ≤ q) W B B1 B2 B3 m (⟨t, d.s, d.c⟩ : Ro)) (hw : But (Ch3 B1 B2 B3) w W) (hi : i < 18446744073709551616) => (by
        have h8 := load1_any x i XX h9 hin9 hi (by exact (hw.block XX (block_lt HX.out) HXn.out).trans HX.out)
        rw [Ro.node_lay] at h8
        unfold ndV at h8
        exact h8 : Calls Tryz.prog 63 #[.agg #[.int .i64 x.val.node, .string x.val.addr, .int .u64 (x.made : Int), .int .u64 (x.ix : Int)], .int .u64 (i : Int), .pointer (some ⟨XX, 0, none⟩)] W fun e w' => e = .returned (.int .i64 ((layT wrongN NdA.key t x.val i).1 : Int)) ∧ RoAt (fun q => (S q ∨ w.heap.size ≤ q) ∨ W.heap.size ≤ q) w' B B1 B2 B3 m (⟨(layT wrongN NdA.key t x.val i).2, d.s, d.c⟩ : Ro) ∧ But (Ch3 B1 B2 B3) W w'))
      unfold ndV at HRow
      rw [hkx] at HRow
      have HI5 := Lib.hid hi5
      have HB5 := Lib.hid b5
      have HNo := Lib.hid hNo
      have HYes := Lib.hid hYes
      have HBk := Lib.hid hbk
      have HGd := hgd
      have HBle := hble
      have HMade : Hid (x.made < 18446744073709551616 ∧ x.ix < 18446744073709551616) := Lib.hid ⟨hin9.made, hin9.ix⟩
      have HY := Lib.hid hY
      have ee := nd_cells hit
      have z5 := cellsN k5
      rw [hY] at k5
      have zz := nd_blk k5
      have p1 : (k : Int) < (n : Int) := by omega
      have p0 : (0 : Int) ≤ (k : Int) := by omega
      have HK5 := Lib.hid k5
      clear hit hmem hkey hin9 hx hky0 h00 hNo hYes hbk hbf hkx hkey2 b5 k5 hi5 hgd hble z5
      go_wp2_with fail
      refine HRow.out.mono ?_
      rintro e w6 ⟨rfl, hb6⟩
      have HI6 := Lib.hid (HI5.out.below hb6)
      have HK6 : Hid (w6.heap[Y]? = some (.cells #[.int .i64 x.val.node, .string x.val.addr, .int .u64 (x.made : Int), .int .u64 (x.ix : Int)] TNd (0, 0))) := Lib.hid ((hb6.block Y (block_lt HK5.out)).trans HK5.out)
      obtain ⟨Z, hZ⟩ : ∃ Z, w6.heap.size = Z := ⟨_, rfl⟩
      have k7 := heap_alloc_new w6 (.cells #[.string kx, .int .i64 x.val.node, .string x.val.addr, .int .u64 (x.made : Int), .int .u64 (x.ix : Int), .int .u64 (x.made : Int), .int .u64 (x.ix : Int)] Nt.tR)
      rw [hZ] at k7
      have HK7 := Lib.hid k7
      have HZ := Lib.hid hZ
      have z0 := cellsN k7 0 _ rfl
      have z8 := cellsN k7 5 _ rfl
      have z9 := cellsN k7 6 _ rfl
      clear hb6 k7 hZ ee hbx0 hbx1 zz HRow
      by_cases hc1 : ltT bf kx = true
      case neg =>
        have HNg := Lib.hid (HNo.out fun z => hc1 z.1)
        have hc1' := hc1
        clear hc1
        cases hq : Op.bytesLess kx.toList bf.toList with
        | true =>
          go_wp2
          go_ret
          exact LdPost.no (HI6.out.but.trans (But.of_below (below1 _ _ _))) HNg.out
        | false =>
          have he : (kx.toList == bf.toList) = true := text_same.2 (ltT_tri hq (by cases e : ltT bf kx with | false => rfl | true => exact absurd e hc1'))
          go_wp2
          go_ret
          exact LdPost.no (HI6.out.but.trans (But.of_below (below1 _ _ _))) HNg.out
      have q1 : Op.bytesLess kx.toList bf.toList = false := ltT_asymm hc1
      have q2 : (kx.toList == bf.toList) = false := text_other.2 (ltT_ne hc1).symm
      by_cases hc2 : x.made ≤ x.ix
      case neg =>
        have HNg := Lib.hid (HNo.out fun z => hc2 z.2.1)
        have q3 : decide (x.ix < x.made) = true := decide_eq_true (by omega)
        clear hc1 hc2
        go_wp2
        go_ret
        exact LdPost.no (HI6.out.but.trans (But.of_below (below1 _ _ _))) HNg.out
      have q3 : decide (x.ix < x.made) = false := decide_eq_false (by omega)
      by_cases hc3 : x.ix ≤ last
      case neg =>
        have HNg := Lib.hid (HNo.out fun z => hc3 z.2.2.1)
        have q4 : decide (last < x.ix) = true := decide_eq_true (by omega)
        clear hc1 hc2 hc3
        go_wp2
        go_ret
        exact LdPost.no (HI6.out.but.trans (But.of_below (below1 _ _ _))) HNg.out
      have q4 : decide (last < x.ix) = false := decide_eq_false (by omega)
      have HCc := Lib.hid (And.intro hc1 (And.intro hc2 hc3))
      obtain ⟨W8, hW8⟩ : ∃ W8, (w6.alloc (.cells #[.string kx, .int .i64 x.val.node, .string x.val.addr, .int .u64 (x.made : Int), .int .u64 (x.ix : Int), .int .u64 (x.made : Int), .int .u64 (x.ix : Int)] Nt.tR)).alloc (.cells #[.int .u64 (x.made : Int), .int .u64 (x.ix : Int)] 29) = W8 := ⟨_, rfl⟩
      have b8 : Below w6.heap.size w6 W8 := by rw [← hW8]; exact (below1 _ _ _).alloc (by simp) _
      have kz8 : W8.heap[Z]? = some (.cells #[.string kx, .int .i64 x.val.node, .string x.val.addr, .int .u64 (x.made : Int), .int .u64 (x.ix : Int), .int .u64 (x.made : Int), .int .u64 (x.ix : Int)] Nt.tR (0, 0)) := by
        rw [← hW8]
        exact ((below1 _ _ _).block Z (block_lt HK7.out)).trans HK7.out
      have ki8 : W8.heap[Z + 1]? = some (.cells #[.int .u64 (x.made : Int), .int .u64 (x.ix : Int)] 29 (0, 0)) := by
        rw [← hW8]
        have h9 := heap_alloc_new (w6.alloc (.cells #[.string kx, .int .i64 x.val.node, .string x.val.addr, .int .u64 (x.made : Int), .int .u64 (x.ix : Int), .int .u64 (x.made : Int), .int .u64 (x.ix : Int)] Nt.tR)) (.cells #[.int .u64 (x.made : Int), .int .u64 (x.ix : Int)] 29)
        rw [show (w6.alloc (.cells #[.string kx, .int .i64 x.val.node, .string x.val.addr, .int .u64 (x.made : Int), .int .u64 (x.ix : Int), .int .u64 (x.made : Int), .int .u64 (x.ix : Int)] Nt.tR)).heap.size = Z + 1 by simp [HZ.out]] at h9
        exact h9
      have ky8 := (b8.block Y (block_lt HK6.out)).trans HK6.out
      have hlo : ∀ q, Ch3 B1 B2 B3 q → q < w.heap.size := HI6.out.lo
      have hsY : w.heap.size ≤ Y := by have := HOs.out; have := HY.out; omega
      have hsZ : w.heap.size ≤ Z := by have := HI6.out.size; have := HZ.out; omega
      have HKy := Lib.hid (fun W (hb : But (Ch3 B1 B2 B3) W8 W) => (hb.block Y (block_lt ky8) (fun e => by have := hlo _ e; omega)).trans ky8)
      have HKz := Lib.hid (fun W (hb : But (Ch3 B1 B2 B3) W8 W) => (hb.block Z (block_lt kz8) (fun e => by have := hlo _ e; omega)).trans kz8)
      have HKi := Lib.hid (fun W (hb : But (Ch3 B1 B2 B3) W8 W) => (hb.block (Z + 1) (block_lt ki8) (fun e => by have := hlo _ e; omega)).trans ki8)
      have HI8 : Hid (LdI S w B B1 B2 B3 m (.func (.func 88) #[] #[]) (.func (.func 89) #[] #[]) 92 (⟨ldT (⟨m, l.take k, b⟩ : Tb NdA) (⟨m, l.take k ++ [({ x with ix := x.made } : Rw NdA)], max b x.made⟩ : Tb NdA) (⟨m, l.take (k + 1), max (max b x.made) x.ix⟩ : Tb NdA) 0, d.s, d.c⟩ : Ro) W8) := Lib.hid (HI6.out.below b8)
      have HW8 := Lib.hid hW8
      clear hc1 hc2 hc3 hW8 b8 kz8 ki8 ky8 hlo hsY hsZ
      go_wp2
      rw [HW8.out, HZ.out]
      clear z0 z8 z9 q1 q2 q3 q4
      go_loopw [50] (fun iv wq => ∃ j : Nat, j ≤ 2 ∧ iv = .int .i64 (j : Int) ∧ Hid (LdI S w B B1 B2 B3 m (.func (.func 88) #[] #[]) (.func (.func 89) #[] #[]) 92 (⟨ldT (⟨m, l.take k, b⟩ : Tb NdA) (⟨m, l.take k ++ [({ x with ix := x.made } : Rw NdA)], max b x.made⟩ : Tb NdA) (⟨m, l.take (k + 1), max (max b x.made) x.ix⟩ : Tb NdA) j, d.s, d.c⟩ : Ro) wq) ∧ Hid (But (Ch3 B1 B2 B3) W8 wq) ∧ Hid (1 ≤ j → Gd wrongN NdA.key m (l.take (k + 1)) last ∧ layT wrongN NdA.key (⟨m, l.take k ++ [({ x with ix := x.made } : Rw NdA)], max b x.made⟩ : Tb NdA) x.val x.ix = (0, (⟨m, l.take (k + 1), max (max b x.made) x.ix⟩ : Tb NdA)))) (fun iv _ => 2 - (intOf iv).toNat)
      case atStart => exact ⟨0, by omega, rfl, HI8, Lib.hid (But.refl _ _), Lib.hid (fun z => by omega)⟩
      case round =>
        obtain ⟨wq, rfl⟩ : ∃ wq : World, wq = wr := ⟨_, rfl⟩
        obtain ⟨j, hj, rfl, hlj, hbj, hgj⟩ := hrel
        have kyq := HKy.out wq hbj.out
        have kzq := HKz.out wq hbj.out
        have kiq := HKi.out wq hbj.out
        rcases (show j = 0 ∨ j = 1 ∨ j = 2 by omega) with rfl | rfl | rfl
        · have HC := Lib.hid (HLay.out wq (⟨m, l.take k, b⟩ : Tb NdA) x.made hlj.out.ro hlj.out.but HMade.out.1)
          obtain ⟨r9, hr9⟩ : ∃ r, layT wrongN NdA.key (⟨m, l.take k, b⟩ : Tb NdA) x.val x.made = r := ⟨_, rfl⟩
          rw [hr9] at HC
          have HR9 := Lib.hid hr9
          have i0 := cellsN kiq 0 _ rfl
          have yy := nd_blk kyq
          clear kyq kzq kiq hr9
          go_wp2_with fail
          refine HC.out.mono ?_
          rintro e w9 ⟨rfl, hro9, hb9⟩
          have HRo9 := Lib.hid hro9
          have HB9 := Lib.hid hb9
          clear hro9 hb9 HC i0 yy
          by_cases h0 : r9.1 = 0
          · obtain ⟨g1, g2, g3⟩ := HYes.out HCc.out.1 HCc.out.2.1 HCc.out.2.2 ((congrArg Prod.fst HR9.out).trans h0)
            have e9 : r9 = (0, (⟨m, l.take k ++ [({ x with ix := x.made } : Rw NdA)], max b x.made⟩ : Tb NdA)) := HR9.out.symm.trans g2
            have q : ((r9.1 : Int) != 0) = false := by rw [h0]; decide
            have hro9 := HRo9.out
            rw [e9] at hro9
            have HI9 : Hid (LdI S w B B1 B2 B3 m (.func (.func 88) #[] #[]) (.func (.func 89) #[] #[]) 92 (⟨ldT (⟨m, l.take k, b⟩ : Tb NdA) (⟨m, l.take k ++ [({ x with ix := x.made } : Rw NdA)], max b x.made⟩ : Tb NdA) (⟨m, l.take (k + 1), max (max b x.made) x.ix⟩ : Tb NdA) 1, d.s, d.c⟩ : Ro) w9) := Lib.hid (hlj.out.step (Nat.le_of_lt hlj.out.size) hro9 HB9.out)
            have HBj : Hid (But (Ch3 B1 B2 B3) W8 w9) := Lib.hid (hbj.out.trans HB9.out)
            have HG9 := Lib.hid (And.intro g1 (g3 (max b x.made)))
            clear g1 g2 g3 e9 hro9 h0 hlj hbj
            go_wp2
            go_roundw
            case rel => exact ⟨1, by omega, by go_num, HI9, HBj, Lib.hid (fun _ => HG9.out)⟩
            case measure => simp [intOf]
          · have q : ((r9.1 : Int) != 0) = true := by simp; omega
            have HNg := Lib.hid (HNo.out fun z => h0 ((congrArg Prod.fst HR9.out).symm.trans z.2.2.2))
            have HBz := Lib.hid (hlj.out.but.trans HB9.out)
            clear h0
            go_wp2
            go_ret
            exact LdPost.no HBz.out HNg.out
        · obtain ⟨hg1, hl2⟩ := hgj.out (Nat.le_refl _)
          have hC := HLay.out wq (⟨m, l.take k ++ [({ x with ix := x.made } : Rw NdA)], max b x.made⟩ : Tb NdA) x.ix hlj.out.ro hlj.out.but HMade.out.2
          rw [hl2] at hC
          have HC := Lib.hid hC
          have HG9 := Lib.hid (And.intro hg1 hl2)
          have i1 := cellsN kiq 1 _ rfl
          have yy := nd_blk kyq
          have q : (((0 : Nat) : Int) != 0) = false := by decide
          clear kyq kzq kiq hg1 hl2 hC
          go_wp2_with fail
          refine HC.out.mono ?_
          rintro e w9 ⟨rfl, hro9, hb9⟩
          have HI9 : Hid (LdI S w B B1 B2 B3 m (.func (.func 88) #[] #[]) (.func (.func 89) #[] #[]) 92 (⟨ldT (⟨m, l.take k, b⟩ : Tb NdA) (⟨m, l.take k ++ [({ x with ix := x.made } : Rw NdA)], max b x.made⟩ : Tb NdA) (⟨m, l.take (k + 1), max (max b x.made) x.ix⟩ : Tb NdA) 2, d.s, d.c⟩ : Ro) w9) := Lib.hid (hlj.out.step (Nat.le_of_lt hlj.out.size) hro9 hb9)
          have HBj : Hid (But (Ch3 B1 B2 B3) W8 w9) := Lib.hid (hbj.out.trans hb9)
          clear hro9 hb9 HC i1 yy hlj hbj
          go_wp2
          go_roundw
          case rel => exact ⟨2, by omega, by go_num, HI9, HBj, Lib.hid (fun _ => HG9.out)⟩
          case measure => simp [intOf]
        · have z0 := cellsN kzq 0 _ rfl
          have HG9 := Lib.hid (hgj.out (by omega)).1
          have HI9 : Hid (LdI S w B B1 B2 B3 m (.func (.func 88) #[] #[]) (.func (.func 89) #[] #[]) 92 (⟨(⟨m, l.take (k + 1), max (max b x.made) x.ix⟩ : Tb NdA), d.s, d.c⟩ : Ro) wq) := hlj
          clear kyq kzq kiq
          go_wp2
          go_roundw
          case rel => exact ⟨k + 1, max (max b x.made) x.ix, by omega, by rw [HBk.out], by go_num, Lib.hid (by have h1 := HCc.out; have h2 := HBle.out; omega), HG9, HI9⟩
          case measure => simp [intOf]; omega
    · have hkn : k = n := by omega
      have htk : l.take k = l := List.take_of_length_le (by rw [HSl.out]; omega)
      have hrs := rraise_n last hli.out.ro HLa.out
      rw [htk] at hrs hgd
      have HRs := Lib.hid hrs
      have HG9 := Lib.hid hgd.out
      have HBu := Lib.hid hli.out.but
      have HSz := Lib.hid hli.out.size
      have HBle := hble
      clear hkn htk hrs hgd hli hble
      go_wp2_with fail
      refine HRs.out.mono ?_
      rintro e w9 ⟨rfl, hro, hb9⟩
      have hro2 : RoAt (fun q => S q ∨ w.heap.size ≤ q) w9 B B1 B2 B3 m (⟨⟨m, l, last⟩, d.s, d.c⟩ : Ro) := by
        have e9 : (⟨m, l, b⟩ : Tb NdA).raise last = ⟨m, l, last⟩ := by
          unfold Tb.raise
          rw [Nat.max_eq_right HBle.out]
        rw [← e9]
        exact hro.narrow fun q _ z => z.elim id fun z => .inr (Nat.le_trans (Nat.le_of_lt HSz.out) z)
      have HRo := Lib.hid hro2
      have HB9 := Lib.hid (HBu.out.trans hb9)
      clear hro hro2 hb9
      go_wp2
      go_ret
      exact LdPost.yes HB9.out HG9.out HRo.out
end Go.Proofs.YtilkbfmaofmjoaaGreatDoor
namespace Go.Proofs.YtilkbfmaofmjoaaGreatDoor
open Go.RowKit Go.Rel
set_option linter.unusedSimpArgs false
set_option linter.unusedVariables false
set_option maxHeartbeats 8000000 in
set_option maxRecDepth 100000 in
theorem rload_s {S : Nat → Prop} {w : World} {B B1 B2 B3 m b0 : Nat} {d : Ro} (A : Option Addr) (n c : Nat) (l : List (Rw SvW)) (la : List (Rw SvA)) (hla : l.map (rwMap (fun v : SvW => v.a)) = la) (last : Nat) (h : RoAt S w B B1 B2 B3 m d) (ht : d.s = ⟨m, [], b0⟩) (hb0 : b0 ≤ last) (hl : ∀ W, But (Ch3 B1 B2 B3) w W → SK svC 7 W A n l) (hky : ∀ x ∈ l, x.key = x.val.a.key) (hin : ∀ W, But (Ch3 B1 B2 B3) w W → ∀ x ∈ l, LdS W x) (hn : n ≤ maxLen) (hlast : last < 18446744073709551616) :
    Calls Tryz.prog 65 #[.pointer (some ⟨B2, 0, none⟩), kdService, .slice A n c, .int .u64 (last : Int), .func (.func 30) #[.pointer (some ⟨B, 0, none⟩)] #[]] w (LdPost S w B B1 B2 B3 m (Gd d.wrongS SvA.key m la last) (⟨d.n, ⟨m, la, last⟩, d.c⟩ : Ro)) := by
  unfold maxLen at hn
  have hn' : (n : Int) ≤ 9223372036854775807 := by omega
  have hd0 : d = (⟨d.n, ⟨m, [], b0⟩, d.c⟩ : Ro) := by rw [← ht]
  have HL := Lib.hid hl
  have HSl := Lib.hid (hl w (But.refl _ _)).1
  have HKy := Lib.hid hky
  have HIn := Lib.hid hin
  have HLa := Lib.hid hlast
  have HLe := Lib.hid hla
  have HI0 : Hid (LdI S w B B1 B2 B3 m (.func (.func 92) #[] #[]) (.func (.func 93) #[] #[]) 100 (⟨d.n, ⟨m, [], b0⟩, d.c⟩ : Ro) (w.alloc (.cells #[.func (.func 92) #[] #[], .func (.func 93) #[] #[]] 100))) := Lib.hid (by
    have h9 := LdI.start h (.func (.func 92) #[] #[]) (.func (.func 93) #[] #[]) 100
    rw [hd0] at h9
    exact h9)
  have HB0 := Lib.hid hb0
  unfold kdService
  clear hd0 ht hb0 hl hky hin hn hlast h hla
  go_enter Tryz.func65, Tryz.ntmps65
  go_wp2
  go_loopw [11, 19] (fun sv iv wr => ∃ k b : Nat, k ≤ n ∧ sv = .string (befK la k) ∧ iv = .int .i64 (k : Int) ∧ Hid (b ≤ last) ∧ Hid (Gd d.wrongS SvA.key m (la.take k) last) ∧ Hid (LdI S w B B1 B2 B3 m (.func (.func 92) #[] #[]) (.func (.func 93) #[] #[]) 100 (⟨d.n, ⟨m, la.take k, b⟩, d.c⟩ : Ro) wr)) (fun _ iv _ => n - (intOf iv).toNat)
  case atStart => exact ⟨0, b0, Nat.zero_le _, rfl, rfl, HB0, Lib.hid ⟨Nat.zero_le _, .nil, fun x hx => by simp at hx⟩, HI0⟩
  case round =>
    obtain ⟨k, b, hk, rfl, rfl, hble, hgd, hli⟩ := hrel
    by_cases hlt : k < n
    · have hkl0 : k < l.length := by rw [HSl.out]; exact hlt
      have hkl : k < la.length := by rw [← HLe.out, List.length_map]; exact hkl0
      obtain ⟨bk, off, rfl, hbl, hit⟩ := (HL.out wr hli.out.but).at_ hlt hkl0
      have hmem : l[k] ∈ l := List.getElem_mem _
      have hkey := HKy.out _ hmem
      have hin9 := HIn.out wr hli.out.but _ hmem
      have hlx : la[k] = rwMap (fun v : SvW => v.a) l[k] := by simp only [← HLe.out, List.getElem_map]
      obtain ⟨x, hx⟩ : ∃ x, l[k] = x := ⟨_, rfl⟩
      rw [hx] at hit hmem hkey hin9 hlx
      have hky0 : la[k].key = SvA.key la[k].val := by rw [hlx]; exact hkey
      have h00 : ltT noT la[k].key = true := by rw [hky0]; exact key_pos _ _
      have hNo := fun hc => Gd.not (wr := d.wrongS) (ky := SvA.key) (m := m) (a := last) (b := b) hkl hky0 h00 hc
      have hYes := fun h1 h2 h3 h4 => Gd.yes (wr := d.wrongS) (ky := SvA.key) (m := m) (a := last) (b := b) hgd.out hkl hky0 h1 h2 h3 h4
      have hbk := befK_succ hkl
      rw [hlx] at hNo hYes hbk
      obtain ⟨bf, hbf⟩ : ∃ z, befK la k = z := ⟨_, rfl⟩
      rw [hbf] at hNo hYes ⊢
      obtain ⟨kx, hkx⟩ : ∃ z, x.val.a.key = z := ⟨_, rfl⟩
      have hkey2 : (rwMap (fun v : SvW => v.a) x).key = kx := by rw [← hkx]; exact hkey
      rw [hkey2] at hNo hYes hbk
      obtain ⟨Y, hY⟩ : ∃ Y, wr.heap.size = Y := ⟨_, rfl⟩
      have b5 := below1 wr #[.int .i64 x.val.a.node, .string x.val.a.id, .string x.val.a.name, .slice x.val.A x.val.n x.val.c, .int .i64 x.val.a.port, .int .u64 (x.made : Int), .int .u64 (x.ix : Int)] TSv
      have k5 := heap_alloc_new wr (.cells #[.int .i64 x.val.a.node, .string x.val.a.id, .string x.val.a.name, .slice x.val.A x.val.n x.val.c, .int .i64 x.val.a.port, .int .u64 (x.made : Int), .int .u64 (x.ix : Int)] TSv)
      have hi5 := hli.out.below b5
      have HRow := Lib.hid (rowService_any x (wr.alloc (.cells #[.int .i64 x.val.a.node, .string x.val.a.id, .string x.val.a.name, .slice x.val.A x.val.n x.val.c, .int .i64 x.val.a.port, .int .u64 (x.made : Int), .int .u64 (x.ix : Int)] TSv)) (hin9.s.tx.below (below1 _ _ _)) hin9.n hin9.s.node hin9.id hi5.ro.pw)
      have hbx0 := cellsN hi5.box 0 _ rfl
      have hbx1 := cellsN hi5.box 1 _ rfl
      have HOs := Lib.hid hli.out.size
      have HLay := Lib.hid (fun (W : World) (t : Tb SvA) (i : Nat) (h9 : RoAt (fun q => S q ∨ w.heap.size ≤ q) W B B1 B2 B3 m (⟨d.n, t, d.c⟩ : Ro)) (hw : But (Ch3 B1 B2 B3) w W) (hi : i < 18446744073709551616) => (by
        have h8 := rservice_any x i h9 (HIn.out W hw x hmem).s hi
        rw [Ro.service_lay] at h8
        unfold svV at h8
        exact h8 : Calls Tryz.prog 30 #[.pointer (some ⟨B, 0, none⟩), .agg #[.int .i64 x.val.a.node, .string x.val.a.id, .string x.val.a.name, .slice x.val.A x.val.n x.val.c, .int .i64 x.val.a.port, .int .u64 (x.made : Int), .int .u64 (x.ix : Int)], .int .u64 (i : Int)] W fun e w' => e = .returned (.int .i64 ((layT d.wrongS SvA.key t x.val.a i).1 : Int)) ∧ RoAt (fun q => (S q ∨ w.heap.size ≤ q) ∨ W.heap.size ≤ q) w' B B1 B2 B3 m (⟨d.n, (layT d.wrongS SvA.key t x.val.a i).2, d.c⟩ : Ro) ∧ But (Ch3 B1 B2 B3) W w'))
      unfold svV at HRow
      rw [hkx] at HRow
      have HI5 := Lib.hid hi5
      have HB5 := Lib.hid b5
      have HNo := Lib.hid hNo
      have HYes := Lib.hid hYes
      have HBk := Lib.hid hbk
      have HGd := hgd
      have HBle := hble
      have HMade : Hid (x.made < 18446744073709551616 ∧ x.ix < 18446744073709551616) := Lib.hid ⟨hin9.made, hin9.ix⟩
      have HY := Lib.hid hY
      have ee := sv_cells hit
      have z5 := cellsN k5
      rw [hY] at k5
      have zz := sv_blk k5
      have p1 : (k : Int) < (n : Int) := by omega
      have p0 : (0 : Int) ≤ (k : Int) := by omega
      have HK5 := Lib.hid k5
      clear hit hmem hkey hin9 hx hky0 h00 hNo hYes hbk hbf hkx hkey2 b5 k5 hi5 hgd hble z5 hlx
      go_wp2_with fail
      refine HRow.out.mono ?_
      rintro e w6 ⟨A9, c9, rfl, -, -, hb6⟩
      have HI6 := Lib.hid (HI5.out.below hb6)
      have HK6 : Hid (w6.heap[Y]? = some (.cells #[.int .i64 x.val.a.node, .string x.val.a.id, .string x.val.a.name, .slice x.val.A x.val.n x.val.c, .int .i64 x.val.a.port, .int .u64 (x.made : Int), .int .u64 (x.ix : Int)] TSv (0, 0))) := Lib.hid ((hb6.block Y (block_lt HK5.out)).trans HK5.out)
      obtain ⟨Z, hZ⟩ : ∃ Z, w6.heap.size = Z := ⟨_, rfl⟩
      have k7 := heap_alloc_new w6 (.cells #[.string kx, .int .i64 x.val.a.node, .string x.val.a.id, .string x.val.a.name, .slice A9 x.val.n c9, .int .i64 x.val.a.port, .int .u64 (x.made : Int), .int .u64 (x.ix : Int), .int .u64 (x.made : Int), .int .u64 (x.ix : Int)] Vt.tR)
      rw [hZ] at k7
      have HK7 := Lib.hid k7
      have HZ := Lib.hid hZ
      have z0 := cellsN k7 0 _ rfl
      have z8 := cellsN k7 8 _ rfl
      have z9 := cellsN k7 9 _ rfl
      clear hb6 k7 hZ ee hbx0 hbx1 zz HRow
      by_cases hc1 : ltT bf kx = true
      case neg =>
        have HNg := Lib.hid (HNo.out fun z => hc1 z.1)
        have hc1' := hc1
        clear hc1
        cases hq : Op.bytesLess kx.toList bf.toList with
        | true =>
          go_wp2
          go_ret
          exact LdPost.no (HI6.out.but.trans (But.of_below (below1 _ _ _))) HNg.out
        | false =>
          have he : (kx.toList == bf.toList) = true := text_same.2 (ltT_tri hq (by cases e : ltT bf kx with | false => rfl | true => exact absurd e hc1'))
          go_wp2
          go_ret
          exact LdPost.no (HI6.out.but.trans (But.of_below (below1 _ _ _))) HNg.out
      have q1 : Op.bytesLess kx.toList bf.toList = false := ltT_asymm hc1
      have q2 : (kx.toList == bf.toList) = false := text_other.2 (ltT_ne hc1).symm
      by_cases hc2 : x.made ≤ x.ix
      case neg =>
        have HNg := Lib.hid (HNo.out fun z => hc2 z.2.1)
        have q3 : decide (x.ix < x.made) = true := decide_eq_true (by omega)
        clear hc1 hc2
        go_wp2
        go_ret
        exact LdPost.no (HI6.out.but.trans (But.of_below (below1 _ _ _))) HNg.out
      have q3 : decide (x.ix < x.made) = false := decide_eq_false (by omega)
      by_cases hc3 : x.ix ≤ last
      case neg =>
        have HNg := Lib.hid (HNo.out fun z => hc3 z.2.2.1)
        have q4 : decide (last < x.ix) = true := decide_eq_true (by omega)
        clear hc1 hc2 hc3
        go_wp2
        go_ret
        exact LdPost.no (HI6.out.but.trans (But.of_below (below1 _ _ _))) HNg.out
      have q4 : decide (last < x.ix) = false := decide_eq_false (by omega)
      have HCc := Lib.hid (And.intro hc1 (And.intro hc2 hc3))
      obtain ⟨W8, hW8⟩ : ∃ W8, (w6.alloc (.cells #[.string kx, .int .i64 x.val.a.node, .string x.val.a.id, .string x.val.a.name, .slice A9 x.val.n c9, .int .i64 x.val.a.port, .int .u64 (x.made : Int), .int .u64 (x.ix : Int), .int .u64 (x.made : Int), .int .u64 (x.ix : Int)] Vt.tR)).alloc (.cells #[.int .u64 (x.made : Int), .int .u64 (x.ix : Int)] 29) = W8 := ⟨_, rfl⟩
      have b8 : Below w6.heap.size w6 W8 := by rw [← hW8]; exact (below1 _ _ _).alloc (by simp) _
      have kz8 : W8.heap[Z]? = some (.cells #[.string kx, .int .i64 x.val.a.node, .string x.val.a.id, .string x.val.a.name, .slice A9 x.val.n c9, .int .i64 x.val.a.port, .int .u64 (x.made : Int), .int .u64 (x.ix : Int), .int .u64 (x.made : Int), .int .u64 (x.ix : Int)] Vt.tR (0, 0)) := by
        rw [← hW8]
        exact ((below1 _ _ _).block Z (block_lt HK7.out)).trans HK7.out
      have ki8 : W8.heap[Z + 1]? = some (.cells #[.int .u64 (x.made : Int), .int .u64 (x.ix : Int)] 29 (0, 0)) := by
        rw [← hW8]
        have h9 := heap_alloc_new (w6.alloc (.cells #[.string kx, .int .i64 x.val.a.node, .string x.val.a.id, .string x.val.a.name, .slice A9 x.val.n c9, .int .i64 x.val.a.port, .int .u64 (x.made : Int), .int .u64 (x.ix : Int), .int .u64 (x.made : Int), .int .u64 (x.ix : Int)] Vt.tR)) (.cells #[.int .u64 (x.made : Int), .int .u64 (x.ix : Int)] 29)
        rw [show (w6.alloc (.cells #[.string kx, .int .i64 x.val.a.node, .string x.val.a.id, .string x.val.a.name, .slice A9 x.val.n c9, .int .i64 x.val.a.port, .int .u64 (x.made : Int), .int .u64 (x.ix : Int), .int .u64 (x.made : Int), .int .u64 (x.ix : Int)] Vt.tR)).heap.size = Z + 1 by simp [HZ.out]] at h9
        exact h9
      have ky8 := (b8.block Y (block_lt HK6.out)).trans HK6.out
      have hlo : ∀ q, Ch3 B1 B2 B3 q → q < w.heap.size := HI6.out.lo
      have hsY : w.heap.size ≤ Y := by have := HOs.out; have := HY.out; omega
      have hsZ : w.heap.size ≤ Z := by have := HI6.out.size; have := HZ.out; omega
      have HKy := Lib.hid (fun W (hb : But (Ch3 B1 B2 B3) W8 W) => (hb.block Y (block_lt ky8) (fun e => by have := hlo _ e; omega)).trans ky8)
      have HKz := Lib.hid (fun W (hb : But (Ch3 B1 B2 B3) W8 W) => (hb.block Z (block_lt kz8) (fun e => by have := hlo _ e; omega)).trans kz8)
      have HKi := Lib.hid (fun W (hb : But (Ch3 B1 B2 B3) W8 W) => (hb.block (Z + 1) (block_lt ki8) (fun e => by have := hlo _ e; omega)).trans ki8)
      have HI8 : Hid (LdI S w B B1 B2 B3 m (.func (.func 92) #[] #[]) (.func (.func 93) #[] #[]) 100 (⟨d.n, ldT (⟨m, la.take k, b⟩ : Tb SvA) (⟨m, la.take k ++ [({ (rwMap (fun v : SvW => v.a) x) with ix := x.made } : Rw SvA)], max b x.made⟩ : Tb SvA) (⟨m, la.take (k + 1), max (max b x.made) x.ix⟩ : Tb SvA) 0, d.c⟩ : Ro) W8) := Lib.hid (HI6.out.below b8)
      have HW8 := Lib.hid hW8
      clear hc1 hc2 hc3 hW8 b8 kz8 ki8 ky8 hlo hsY hsZ
      go_wp2
      rw [HW8.out, HZ.out]
      clear z0 z8 z9 q1 q2 q3 q4
      go_loopw [50] (fun iv wq => ∃ j : Nat, j ≤ 2 ∧ iv = .int .i64 (j : Int) ∧ Hid (LdI S w B B1 B2 B3 m (.func (.func 92) #[] #[]) (.func (.func 93) #[] #[]) 100 (⟨d.n, ldT (⟨m, la.take k, b⟩ : Tb SvA) (⟨m, la.take k ++ [({ (rwMap (fun v : SvW => v.a) x) with ix := x.made } : Rw SvA)], max b x.made⟩ : Tb SvA) (⟨m, la.take (k + 1), max (max b x.made) x.ix⟩ : Tb SvA) j, d.c⟩ : Ro) wq) ∧ Hid (But (Ch3 B1 B2 B3) W8 wq) ∧ Hid (1 ≤ j → Gd d.wrongS SvA.key m (la.take (k + 1)) last ∧ layT d.wrongS SvA.key (⟨m, la.take k ++ [({ (rwMap (fun v : SvW => v.a) x) with ix := x.made } : Rw SvA)], max b x.made⟩ : Tb SvA) x.val.a x.ix = (0, (⟨m, la.take (k + 1), max (max b x.made) x.ix⟩ : Tb SvA)))) (fun iv _ => 2 - (intOf iv).toNat)
      case atStart => exact ⟨0, by omega, rfl, HI8, Lib.hid (But.refl _ _), Lib.hid (fun z => by omega)⟩
      case round =>
        obtain ⟨wq, rfl⟩ : ∃ wq : World, wq = wr := ⟨_, rfl⟩
        obtain ⟨j, hj, rfl, hlj, hbj, hgj⟩ := hrel
        have kyq := HKy.out wq hbj.out
        have kzq := HKz.out wq hbj.out
        have kiq := HKi.out wq hbj.out
        rcases (show j = 0 ∨ j = 1 ∨ j = 2 by omega) with rfl | rfl | rfl
        · have HC := Lib.hid (HLay.out wq (⟨m, la.take k, b⟩ : Tb SvA) x.made hlj.out.ro hlj.out.but HMade.out.1)
          obtain ⟨r9, hr9⟩ : ∃ r, layT d.wrongS SvA.key (⟨m, la.take k, b⟩ : Tb SvA) x.val.a x.made = r := ⟨_, rfl⟩
          rw [hr9] at HC
          have HR9 := Lib.hid hr9
          have i0 := cellsN kiq 0 _ rfl
          have yy := sv_blk kyq
          clear kyq kzq kiq hr9
          go_wp2_with fail
          refine HC.out.mono ?_
          rintro e w9 ⟨rfl, hro9, hb9⟩
          have HRo9 := Lib.hid hro9
          have HB9 := Lib.hid hb9
          clear hro9 hb9 HC i0 yy
          by_cases h0 : r9.1 = 0
          · obtain ⟨g1, g2, g3⟩ := HYes.out HCc.out.1 HCc.out.2.1 HCc.out.2.2 ((congrArg Prod.fst HR9.out).trans h0)
            have e9 : r9 = (0, (⟨m, la.take k ++ [({ (rwMap (fun v : SvW => v.a) x) with ix := x.made } : Rw SvA)], max b x.made⟩ : Tb SvA)) := HR9.out.symm.trans g2
            have q : ((r9.1 : Int) != 0) = false := by rw [h0]; decide
            have hro9 := HRo9.out
            rw [e9] at hro9
            have HI9 : Hid (LdI S w B B1 B2 B3 m (.func (.func 92) #[] #[]) (.func (.func 93) #[] #[]) 100 (⟨d.n, ldT (⟨m, la.take k, b⟩ : Tb SvA) (⟨m, la.take k ++ [({ (rwMap (fun v : SvW => v.a) x) with ix := x.made } : Rw SvA)], max b x.made⟩ : Tb SvA) (⟨m, la.take (k + 1), max (max b x.made) x.ix⟩ : Tb SvA) 1, d.c⟩ : Ro) w9) := Lib.hid (hlj.out.step (Nat.le_of_lt hlj.out.size) hro9 HB9.out)
            have HBj : Hid (But (Ch3 B1 B2 B3) W8 w9) := Lib.hid (hbj.out.trans HB9.out)
            have HG9 := Lib.hid (And.intro g1 (g3 (max b x.made)))
            clear g1 g2 g3 e9 hro9 h0 hlj hbj
            go_wp2
            go_roundw
            case rel => exact ⟨1, by omega, by go_num, HI9, HBj, Lib.hid (fun _ => HG9.out)⟩
            case measure => simp [intOf]
          · have q : ((r9.1 : Int) != 0) = true := by simp; omega
            have HNg := Lib.hid (HNo.out fun z => h0 ((congrArg Prod.fst HR9.out).symm.trans z.2.2.2))
            have HBz := Lib.hid (hlj.out.but.trans HB9.out)
            clear h0
            go_wp2
            go_ret
            exact LdPost.no HBz.out HNg.out
        · obtain ⟨hg1, hl2⟩ := hgj.out (Nat.le_refl _)
          have hC := HLay.out wq (⟨m, la.take k ++ [({ (rwMap (fun v : SvW => v.a) x) with ix := x.made } : Rw SvA)], max b x.made⟩ : Tb SvA) x.ix hlj.out.ro hlj.out.but HMade.out.2
          rw [hl2] at hC
          have HC := Lib.hid hC
          have HG9 := Lib.hid (And.intro hg1 hl2)
          have i1 := cellsN kiq 1 _ rfl
          have yy := sv_blk kyq
          have q : (((0 : Nat) : Int) != 0) = false := by decide
          clear kyq kzq kiq hg1 hl2 hC
          go_wp2_with fail
          refine HC.out.mono ?_
          rintro e w9 ⟨rfl, hro9, hb9⟩
          have HI9 : Hid (LdI S w B B1 B2 B3 m (.func (.func 92) #[] #[]) (.func (.func 93) #[] #[]) 100 (⟨d.n, ldT (⟨m, la.take k, b⟩ : Tb SvA) (⟨m, la.take k ++ [({ (rwMap (fun v : SvW => v.a) x) with ix := x.made } : Rw SvA)], max b x.made⟩ : Tb SvA) (⟨m, la.take (k + 1), max (max b x.made) x.ix⟩ : Tb SvA) 2, d.c⟩ : Ro) w9) := Lib.hid (hlj.out.step (Nat.le_of_lt hlj.out.size) hro9 hb9)
          have HBj : Hid (But (Ch3 B1 B2 B3) W8 w9) := Lib.hid (hbj.out.trans hb9)
          clear hro9 hb9 HC i1 yy hlj hbj
          go_wp2
          go_roundw
          case rel => exact ⟨2, by omega, by go_num, HI9, HBj, Lib.hid (fun _ => HG9.out)⟩
          case measure => simp [intOf]
        · have z0 := cellsN kzq 0 _ rfl
          have HG9 := Lib.hid (hgj.out (by omega)).1
          have HI9 : Hid (LdI S w B B1 B2 B3 m (.func (.func 92) #[] #[]) (.func (.func 93) #[] #[]) 100 (⟨d.n, (⟨m, la.take (k + 1), max (max b x.made) x.ix⟩ : Tb SvA), d.c⟩ : Ro) wq) := hlj
          clear kyq kzq kiq
          go_wp2
          go_roundw
          case rel => exact ⟨k + 1, max (max b x.made) x.ix, by omega, by rw [HBk.out], by go_num, Lib.hid (by have h1 := HCc.out; have h2 := HBle.out; omega), HG9, HI9⟩
          case measure => simp [intOf]; omega
    · have hkn : k = n := by omega
      have htk : la.take k = la := List.take_of_length_le (by rw [← HLe.out, List.length_map, HSl.out]; omega)
      have hrs := rraise_s last hli.out.ro HLa.out
      rw [htk] at hrs hgd
      have HRs := Lib.hid hrs
      have HG9 := Lib.hid hgd.out
      have HBu := Lib.hid hli.out.but
      have HSz := Lib.hid hli.out.size
      have HBle := hble
      clear hkn htk hrs hgd hli hble
      go_wp2_with fail
      refine HRs.out.mono ?_
      rintro e w9 ⟨rfl, hro, hb9⟩
      have hro2 : RoAt (fun q => S q ∨ w.heap.size ≤ q) w9 B B1 B2 B3 m (⟨d.n, ⟨m, la, last⟩, d.c⟩ : Ro) := by
        have e9 : (⟨m, la, b⟩ : Tb SvA).raise last = ⟨m, la, last⟩ := by
          unfold Tb.raise
          rw [Nat.max_eq_right HBle.out]
        rw [← e9]
        exact hro.narrow fun q _ z => z.elim id fun z => .inr (Nat.le_trans (Nat.le_of_lt HSz.out) z)
      have HRo := Lib.hid hro2
      have HB9 := Lib.hid (HBu.out.trans hb9)
      clear hro hro2 hb9
      go_wp2
      go_ret
      exact LdPost.yes HB9.out HG9.out HRo.out
end Go.Proofs.YtilkbfmaofmjoaaGreatDoor
namespace Go.Proofs.YtilkbfmaofmjoaaGreatDoor
open Go.RowKit Go.Rel
set_option linter.unusedSimpArgs false
set_option linter.unusedVariables false
set_option maxHeartbeats 8000000 in
set_option maxRecDepth 100000 in
theorem rload_c {S : Nat → Prop} {w : World} {B B1 B2 B3 m b0 : Nat} {d : Ro} (A : Option Addr) (n c : Nat) (l : List (Rw CkA)) (last : Nat) (h : RoAt S w B B1 B2 B3 m d) (ht : d.c = ⟨m, [], b0⟩) (hb0 : b0 ≤ last) (hl : ∀ W, But (Ch3 B1 B2 B3) w W → SK ckC 7 W A n l) (hky : ∀ x ∈ l, x.key = x.val.key) (hin : ∀ x ∈ l, LdC x) (hn : n ≤ maxLen) (hlast : last < 18446744073709551616) :
    Calls Tryz.prog 66 #[.pointer (some ⟨B3, 0, none⟩), kdCheck, .slice A n c, .int .u64 (last : Int), .func (.func 20) #[.pointer (some ⟨B, 0, none⟩)] #[]] w (LdPost S w B B1 B2 B3 m (Gd d.wrongC CkA.key m l last) (⟨d.n, d.s, ⟨m, l, last⟩⟩ : Ro)) := by
  unfold maxLen at hn
  have hn' : (n : Int) ≤ 9223372036854775807 := by omega
  have hd0 : d = (⟨d.n, d.s, ⟨m, [], b0⟩⟩ : Ro) := by rw [← ht]
  have HL := Lib.hid hl
  have HSl := Lib.hid (hl w (But.refl _ _)).1
  have HKy := Lib.hid hky
  have HIn := Lib.hid hin
  have HLa := Lib.hid hlast
  have HI0 : Hid (LdI S w B B1 B2 B3 m (.func (.func 96) #[] #[]) (.func (.func 97) #[] #[]) 108 (⟨d.n, d.s, ⟨m, [], b0⟩⟩ : Ro) (w.alloc (.cells #[.func (.func 96) #[] #[], .func (.func 97) #[] #[]] 108))) := Lib.hid (by
    have h9 := LdI.start h (.func (.func 96) #[] #[]) (.func (.func 97) #[] #[]) 108
    rw [hd0] at h9
    exact h9)
  have HB0 := Lib.hid hb0
  unfold kdCheck
  clear hd0 ht hb0 hl hky hin hn hlast h
  go_enter Tryz.func66, Tryz.ntmps66
  go_wp2
  go_loopw [11, 19] (fun sv iv wr => ∃ k b : Nat, k ≤ n ∧ sv = .string (befK l k) ∧ iv = .int .i64 (k : Int) ∧ Hid (b ≤ last) ∧ Hid (Gd d.wrongC CkA.key m (l.take k) last) ∧ Hid (LdI S w B B1 B2 B3 m (.func (.func 96) #[] #[]) (.func (.func 97) #[] #[]) 108 (⟨d.n, d.s, ⟨m, l.take k, b⟩⟩ : Ro) wr)) (fun _ iv _ => n - (intOf iv).toNat)
  case atStart => exact ⟨0, b0, Nat.zero_le _, rfl, rfl, HB0, Lib.hid ⟨Nat.zero_le _, .nil, fun x hx => by simp at hx⟩, HI0⟩
  case round =>
    obtain ⟨k, b, hk, rfl, rfl, hble, hgd, hli⟩ := hrel
    by_cases hlt : k < n
    · have hkl0 : k < l.length := by rw [HSl.out]; exact hlt
      have hkl : k < l.length := hkl0
      obtain ⟨bk, off, rfl, hbl, hit⟩ := (HL.out wr hli.out.but).at_ hlt hkl0
      have hmem : l[k] ∈ l := List.getElem_mem _
      have hkey := HKy.out _ hmem
      have hin9 := HIn.out _ hmem
      obtain ⟨x, hx⟩ : ∃ x, l[k] = x := ⟨_, rfl⟩
      rw [hx] at hit hmem hkey hin9
      have hky0 : l[k].key = CkA.key l[k].val := by rw [hx]; exact hkey
      have h00 : ltT noT l[k].key = true := by rw [hky0]; exact key_pos _ _
      have hNo := fun hc => Gd.not (wr := d.wrongC) (ky := CkA.key) (m := m) (a := last) (b := b) hkl hky0 h00 hc
      have hYes := fun h1 h2 h3 h4 => Gd.yes (wr := d.wrongC) (ky := CkA.key) (m := m) (a := last) (b := b) hgd.out hkl hky0 h1 h2 h3 h4
      have hbk := befK_succ hkl
      rw [hx] at hNo hYes hbk
      obtain ⟨bf, hbf⟩ : ∃ z, befK l k = z := ⟨_, rfl⟩
      rw [hbf] at hNo hYes ⊢
      obtain ⟨kx, hkx⟩ : ∃ z, x.val.key = z := ⟨_, rfl⟩
      have hkey2 : x.key = kx := by rw [← hkx]; exact hkey
      rw [hkey2] at hNo hYes hbk
      obtain ⟨Y, hY⟩ : ∃ Y, wr.heap.size = Y := ⟨_, rfl⟩
      have b5 := below1 wr #[.int .i64 x.val.node, .string x.val.id, .string x.val.svc, .string x.val.note, .int .i64 x.val.status, .int .u64 (x.made : Int), .int .u64 (x.ix : Int)] TCk
      have k5 := heap_alloc_new wr (.cells #[.int .i64 x.val.node, .string x.val.id, .string x.val.svc, .string x.val.note, .int .i64 x.val.status, .int .u64 (x.made : Int), .int .u64 (x.ix : Int)] TCk)
      have hi5 := hli.out.below b5
      have HRow := Lib.hid (rowCheck_any x (wr.alloc (.cells #[.int .i64 x.val.node, .string x.val.id, .string x.val.svc, .string x.val.note, .int .i64 x.val.status, .int .u64 (x.made : Int), .int .u64 (x.ix : Int)] TCk)) hin9.c.node hin9.id hi5.ro.pw)
      have hbx0 := cellsN hi5.box 0 _ rfl
      have hbx1 := cellsN hi5.box 1 _ rfl
      have HOs := Lib.hid hli.out.size
      have HLay := Lib.hid (fun (W : World) (t : Tb CkA) (i : Nat) (h9 : RoAt (fun q => S q ∨ w.heap.size ≤ q) W B B1 B2 B3 m (⟨d.n, d.s, t⟩ : Ro)) (hw : But (Ch3 B1 B2 B3) w W) (hi : i < 18446744073709551616) => (by
        have h8 := rcheck_any x i h9 hin9.c hi
        rw [Ro.check_lay] at h8
        unfold ckV at h8
        exact h8 : Calls Tryz.prog 20 #[.pointer (some ⟨B, 0, none⟩), .agg #[.int .i64 x.val.node, .string x.val.id, .string x.val.svc, .string x.val.note, .int .i64 x.val.status, .int .u64 (x.made : Int), .int .u64 (x.ix : Int)], .int .u64 (i : Int)] W fun e w' => e = .returned (.int .i64 ((layT d.wrongC CkA.key t x.val i).1 : Int)) ∧ RoAt (fun q => (S q ∨ w.heap.size ≤ q) ∨ W.heap.size ≤ q) w' B B1 B2 B3 m (⟨d.n, d.s, (layT d.wrongC CkA.key t x.val i).2⟩ : Ro) ∧ But (Ch3 B1 B2 B3) W w'))
      unfold ckV at HRow
      rw [hkx] at HRow
      have HI5 := Lib.hid hi5
      have HB5 := Lib.hid b5
      have HNo := Lib.hid hNo
      have HYes := Lib.hid hYes
      have HBk := Lib.hid hbk
      have HGd := hgd
      have HBle := hble
      have HMade : Hid (x.made < 18446744073709551616 ∧ x.ix < 18446744073709551616) := Lib.hid ⟨hin9.made, hin9.ix⟩
      have HY := Lib.hid hY
      have ee := ck_cells hit
      have z5 := cellsN k5
      rw [hY] at k5
      have zz := ck_blk k5
      have p1 : (k : Int) < (n : Int) := by omega
      have p0 : (0 : Int) ≤ (k : Int) := by omega
      have HK5 := Lib.hid k5
      clear hit hmem hkey hin9 hx hky0 h00 hNo hYes hbk hbf hkx hkey2 b5 k5 hi5 hgd hble z5
      go_wp2_with fail
      refine HRow.out.mono ?_
      rintro e w6 ⟨rfl, hb6⟩
      have HI6 := Lib.hid (HI5.out.below hb6)
      have HK6 : Hid (w6.heap[Y]? = some (.cells #[.int .i64 x.val.node, .string x.val.id, .string x.val.svc, .string x.val.note, .int .i64 x.val.status, .int .u64 (x.made : Int), .int .u64 (x.ix : Int)] TCk (0, 0))) := Lib.hid ((hb6.block Y (block_lt HK5.out)).trans HK5.out)
      obtain ⟨Z, hZ⟩ : ∃ Z, w6.heap.size = Z := ⟨_, rfl⟩
      have k7 := heap_alloc_new w6 (.cells #[.string kx, .int .i64 x.val.node, .string x.val.id, .string x.val.svc, .string x.val.note, .int .i64 x.val.status, .int .u64 (x.made : Int), .int .u64 (x.ix : Int), .int .u64 (x.made : Int), .int .u64 (x.ix : Int)] Ct.tR)
      rw [hZ] at k7
      have HK7 := Lib.hid k7
      have HZ := Lib.hid hZ
      have z0 := cellsN k7 0 _ rfl
      have z8 := cellsN k7 8 _ rfl
      have z9 := cellsN k7 9 _ rfl
      clear hb6 k7 hZ ee hbx0 hbx1 zz HRow
      by_cases hc1 : ltT bf kx = true
      case neg =>
        have HNg := Lib.hid (HNo.out fun z => hc1 z.1)
        have hc1' := hc1
        clear hc1
        cases hq : Op.bytesLess kx.toList bf.toList with
        | true =>
          go_wp2
          go_ret
          exact LdPost.no (HI6.out.but.trans (But.of_below (below1 _ _ _))) HNg.out
        | false =>
          have he : (kx.toList == bf.toList) = true := text_same.2 (ltT_tri hq (by cases e : ltT bf kx with | false => rfl | true => exact absurd e hc1'))
          go_wp2
          go_ret
          exact LdPost.no (HI6.out.but.trans (But.of_below (below1 _ _ _))) HNg.out
      have q1 : Op.bytesLess kx.toList bf.toList = false := ltT_asymm hc1
      have q2 : (kx.toList == bf.toList) = false := text_other.2 (ltT_ne hc1).symm
      by_cases hc2 : x.made ≤ x.ix
      case neg =>
        have HNg := Lib.hid (HNo.out fun z => hc2 z.2.1)
        have q3 : decide (x.ix < x.made) = true := decide_eq_true (by omega)
        clear hc1 hc2
        go_wp2
        go_ret
        exact LdPost.no (HI6.out.but.trans (But.of_below (below1 _ _ _))) HNg.out
      have q3 : decide (x.ix < x.made) = false := decide_eq_false (by omega)
      by_cases hc3 : x.ix ≤ last
      case neg =>
        have HNg := Lib.hid (HNo.out fun z => hc3 z.2.2.1)
        have q4 : decide (last < x.ix) = true := decide_eq_true (by omega)
        clear hc1 hc2 hc3
        go_wp2
        go_ret
        exact LdPost.no (HI6.out.but.trans (But.of_below (below1 _ _ _))) HNg.out
      have q4 : decide (last < x.ix) = false := decide_eq_false (by omega)
      have HCc := Lib.hid (And.intro hc1 (And.intro hc2 hc3))
      obtain ⟨W8, hW8⟩ : ∃ W8, (w6.alloc (.cells #[.string kx, .int .i64 x.val.node, .string x.val.id, .string x.val.svc, .string x.val.note, .int .i64 x.val.status, .int .u64 (x.made : Int), .int .u64 (x.ix : Int), .int .u64 (x.made : Int), .int .u64 (x.ix : Int)] Ct.tR)).alloc (.cells #[.int .u64 (x.made : Int), .int .u64 (x.ix : Int)] 29) = W8 := ⟨_, rfl⟩
      have b8 : Below w6.heap.size w6 W8 := by rw [← hW8]; exact (below1 _ _ _).alloc (by simp) _
      have kz8 : W8.heap[Z]? = some (.cells #[.string kx, .int .i64 x.val.node, .string x.val.id, .string x.val.svc, .string x.val.note, .int .i64 x.val.status, .int .u64 (x.made : Int), .int .u64 (x.ix : Int), .int .u64 (x.made : Int), .int .u64 (x.ix : Int)] Ct.tR (0, 0)) := by
        rw [← hW8]
        exact ((below1 _ _ _).block Z (block_lt HK7.out)).trans HK7.out
      have ki8 : W8.heap[Z + 1]? = some (.cells #[.int .u64 (x.made : Int), .int .u64 (x.ix : Int)] 29 (0, 0)) := by
        rw [← hW8]
        have h9 := heap_alloc_new (w6.alloc (.cells #[.string kx, .int .i64 x.val.node, .string x.val.id, .string x.val.svc, .string x.val.note, .int .i64 x.val.status, .int .u64 (x.made : Int), .int .u64 (x.ix : Int), .int .u64 (x.made : Int), .int .u64 (x.ix : Int)] Ct.tR)) (.cells #[.int .u64 (x.made : Int), .int .u64 (x.ix : Int)] 29)
        rw [show (w6.alloc (.cells #[.string kx, .int .i64 x.val.node, .string x.val.id, .string x.val.svc, .string x.val.note, .int .i64 x.val.status, .int .u64 (x.made : Int), .int .u64 (x.ix : Int), .int .u64 (x.made : Int), .int .u64 (x.ix : Int)] Ct.tR)).heap.size = Z + 1 by simp [HZ.out]] at h9
        exact h9
      have ky8 := (b8.block Y (block_lt HK6.out)).trans HK6.out
      have hlo : ∀ q, Ch3 B1 B2 B3 q → q < w.heap.size := HI6.out.lo
      have hsY : w.heap.size ≤ Y := by have := HOs.out; have := HY.out; omega
      have hsZ : w.heap.size ≤ Z := by have := HI6.out.size; have := HZ.out; omega
      have HKy := Lib.hid (fun W (hb : But (Ch3 B1 B2 B3) W8 W) => (hb.block Y (block_lt ky8) (fun e => by have := hlo _ e; omega)).trans ky8)
      have HKz := Lib.hid (fun W (hb : But (Ch3 B1 B2 B3) W8 W) => (hb.block Z (block_lt kz8) (fun e => by have := hlo _ e; omega)).trans kz8)
      have HKi := Lib.hid (fun W (hb : But (Ch3 B1 B2 B3) W8 W) => (hb.block (Z + 1) (block_lt ki8) (fun e => by have := hlo _ e; omega)).trans ki8)
      have HI8 : Hid (LdI S w B B1 B2 B3 m (.func (.func 96) #[] #[]) (.func (.func 97) #[] #[]) 108 (⟨d.n, d.s, ldT (⟨m, l.take k, b⟩ : Tb CkA) (⟨m, l.take k ++ [({ x with ix := x.made } : Rw CkA)], max b x.made⟩ : Tb CkA) (⟨m, l.take (k + 1), max (max b x.made) x.ix⟩ : Tb CkA) 0⟩ : Ro) W8) := Lib.hid (HI6.out.below b8)
      have HW8 := Lib.hid hW8
      clear hc1 hc2 hc3 hW8 b8 kz8 ki8 ky8 hlo hsY hsZ
      go_wp2
      rw [HW8.out, HZ.out]
      clear z0 z8 z9 q1 q2 q3 q4
      go_loopw [50] (fun iv wq => ∃ j : Nat, j ≤ 2 ∧ iv = .int .i64 (j : Int) ∧ Hid (LdI S w B B1 B2 B3 m (.func (.func 96) #[] #[]) (.func (.func 97) #[] #[]) 108 (⟨d.n, d.s, ldT (⟨m, l.take k, b⟩ : Tb CkA) (⟨m, l.take k ++ [({ x with ix := x.made } : Rw CkA)], max b x.made⟩ : Tb CkA) (⟨m, l.take (k + 1), max (max b x.made) x.ix⟩ : Tb CkA) j⟩ : Ro) wq) ∧ Hid (But (Ch3 B1 B2 B3) W8 wq) ∧ Hid (1 ≤ j → Gd d.wrongC CkA.key m (l.take (k + 1)) last ∧ layT d.wrongC CkA.key (⟨m, l.take k ++ [({ x with ix := x.made } : Rw CkA)], max b x.made⟩ : Tb CkA) x.val x.ix = (0, (⟨m, l.take (k + 1), max (max b x.made) x.ix⟩ : Tb CkA)))) (fun iv _ => 2 - (intOf iv).toNat)
      case atStart => exact ⟨0, by omega, rfl, HI8, Lib.hid (But.refl _ _), Lib.hid (fun z => by omega)⟩
      case round =>
        obtain ⟨wq, rfl⟩ : ∃ wq : World, wq = wr := ⟨_, rfl⟩
        obtain ⟨j, hj, rfl, hlj, hbj, hgj⟩ := hrel
        have kyq := HKy.out wq hbj.out
        have kzq := HKz.out wq hbj.out
        have kiq := HKi.out wq hbj.out
        rcases (show j = 0 ∨ j = 1 ∨ j = 2 by omega) with rfl | rfl | rfl
        · have HC := Lib.hid (HLay.out wq (⟨m, l.take k, b⟩ : Tb CkA) x.made hlj.out.ro hlj.out.but HMade.out.1)
          obtain ⟨r9, hr9⟩ : ∃ r, layT d.wrongC CkA.key (⟨m, l.take k, b⟩ : Tb CkA) x.val x.made = r := ⟨_, rfl⟩
          rw [hr9] at HC
          have HR9 := Lib.hid hr9
          have i0 := cellsN kiq 0 _ rfl
          have yy := ck_blk kyq
          clear kyq kzq kiq hr9
          go_wp2_with fail
          refine HC.out.mono ?_
          rintro e w9 ⟨rfl, hro9, hb9⟩
          have HRo9 := Lib.hid hro9
          have HB9 := Lib.hid hb9
          clear hro9 hb9 HC i0 yy
          by_cases h0 : r9.1 = 0
          · obtain ⟨g1, g2, g3⟩ := HYes.out HCc.out.1 HCc.out.2.1 HCc.out.2.2 ((congrArg Prod.fst HR9.out).trans h0)
            have e9 : r9 = (0, (⟨m, l.take k ++ [({ x with ix := x.made } : Rw CkA)], max b x.made⟩ : Tb CkA)) := HR9.out.symm.trans g2
            have q : ((r9.1 : Int) != 0) = false := by rw [h0]; decide
            have hro9 := HRo9.out
            rw [e9] at hro9
            have HI9 : Hid (LdI S w B B1 B2 B3 m (.func (.func 96) #[] #[]) (.func (.func 97) #[] #[]) 108 (⟨d.n, d.s, ldT (⟨m, l.take k, b⟩ : Tb CkA) (⟨m, l.take k ++ [({ x with ix := x.made } : Rw CkA)], max b x.made⟩ : Tb CkA) (⟨m, l.take (k + 1), max (max b x.made) x.ix⟩ : Tb CkA) 1⟩ : Ro) w9) := Lib.hid (hlj.out.step (Nat.le_of_lt hlj.out.size) hro9 HB9.out)
            have HBj : Hid (But (Ch3 B1 B2 B3) W8 w9) := Lib.hid (hbj.out.trans HB9.out)
            have HG9 := Lib.hid (And.intro g1 (g3 (max b x.made)))
            clear g1 g2 g3 e9 hro9 h0 hlj hbj
            go_wp2
            go_roundw
            case rel => exact ⟨1, by omega, by go_num, HI9, HBj, Lib.hid (fun _ => HG9.out)⟩
            case measure => simp [intOf]
          · have q : ((r9.1 : Int) != 0) = true := by simp; omega
            have HNg := Lib.hid (HNo.out fun z => h0 ((congrArg Prod.fst HR9.out).symm.trans z.2.2.2))
            have HBz := Lib.hid (hlj.out.but.trans HB9.out)
            clear h0
            go_wp2
            go_ret
            exact LdPost.no HBz.out HNg.out
        · obtain ⟨hg1, hl2⟩ := hgj.out (Nat.le_refl _)
          have hC := HLay.out wq (⟨m, l.take k ++ [({ x with ix := x.made } : Rw CkA)], max b x.made⟩ : Tb CkA) x.ix hlj.out.ro hlj.out.but HMade.out.2
          rw [hl2] at hC
          have HC := Lib.hid hC
          have HG9 := Lib.hid (And.intro hg1 hl2)
          have i1 := cellsN kiq 1 _ rfl
          have yy := ck_blk kyq
          have q : (((0 : Nat) : Int) != 0) = false := by decide
          clear kyq kzq kiq hg1 hl2 hC
          go_wp2_with fail
          refine HC.out.mono ?_
          rintro e w9 ⟨rfl, hro9, hb9⟩
          have HI9 : Hid (LdI S w B B1 B2 B3 m (.func (.func 96) #[] #[]) (.func (.func 97) #[] #[]) 108 (⟨d.n, d.s, ldT (⟨m, l.take k, b⟩ : Tb CkA) (⟨m, l.take k ++ [({ x with ix := x.made } : Rw CkA)], max b x.made⟩ : Tb CkA) (⟨m, l.take (k + 1), max (max b x.made) x.ix⟩ : Tb CkA) 2⟩ : Ro) w9) := Lib.hid (hlj.out.step (Nat.le_of_lt hlj.out.size) hro9 hb9)
          have HBj : Hid (But (Ch3 B1 B2 B3) W8 w9) := Lib.hid (hbj.out.trans hb9)
          clear hro9 hb9 HC i1 yy hlj hbj
          go_wp2
          go_roundw
          case rel => exact ⟨2, by omega, by go_num, HI9, HBj, Lib.hid (fun _ => HG9.out)⟩
          case measure => simp [intOf]
        · have z0 := cellsN kzq 0 _ rfl
          have HG9 := Lib.hid (hgj.out (by omega)).1
          have HI9 : Hid (LdI S w B B1 B2 B3 m (.func (.func 96) #[] #[]) (.func (.func 97) #[] #[]) 108 (⟨d.n, d.s, (⟨m, l.take (k + 1), max (max b x.made) x.ix⟩ : Tb CkA)⟩ : Ro) wq) := hlj
          clear kyq kzq kiq
          go_wp2
          go_roundw
          case rel => exact ⟨k + 1, max (max b x.made) x.ix, by omega, by rw [HBk.out], by go_num, Lib.hid (by have h1 := HCc.out; have h2 := HBle.out; omega), HG9, HI9⟩
          case measure => simp [intOf]; omega
    · have hkn : k = n := by omega
      have htk : l.take k = l := List.take_of_length_le (by rw [HSl.out]; omega)
      have hrs := rraise_c last hli.out.ro HLa.out
      rw [htk] at hrs hgd
      have HRs := Lib.hid hrs
      have HG9 := Lib.hid hgd.out
      have HBu := Lib.hid hli.out.but
      have HSz := Lib.hid hli.out.size
      have HBle := hble
      clear hkn htk hrs hgd hli hble
      go_wp2_with fail
      refine HRs.out.mono ?_
      rintro e w9 ⟨rfl, hro, hb9⟩
      have hro2 : RoAt (fun q => S q ∨ w.heap.size ≤ q) w9 B B1 B2 B3 m (⟨d.n, d.s, ⟨m, l, last⟩⟩ : Ro) := by
        have e9 : (⟨m, l, b⟩ : Tb CkA).raise last = ⟨m, l, last⟩ := by
          unfold Tb.raise
          rw [Nat.max_eq_right HBle.out]
        rw [← e9]
        exact hro.narrow fun q _ z => z.elim id fun z => .inr (Nat.le_trans (Nat.le_of_lt HSz.out) z)
      have HRo := Lib.hid hro2
      have HB9 := Lib.hid (HBu.out.trans hb9)
      clear hro hro2 hb9
      go_wp2
      go_ret
      exact LdPost.yes HB9.out HG9.out HRo.out
end Go.Proofs.YtilkbfmaofmjoaaGreatDoor
namespace Go.Proofs.YtilkbfmaofmjoaaGreatDoor
open Go.RowKit Go.Rel
set_option linter.unusedSimpArgs false
set_option linter.unusedVariables false
def LoadOk (m : Nat) (ns : List (Rw NdA)) (ss : List (Rw SvA)) (cs : List (Rw CkA)) (a1 a2 a3 : Nat) : Prop :=
  Gd wrongN NdA.key m ns a1 ∧ Gd (Ro.wrongS ⟨⟨m, ns, a1⟩, ⟨m, [], 0⟩, ⟨m, [], 0⟩⟩) SvA.key m ss a2 ∧ Gd (Ro.wrongC ⟨⟨m, ns, a1⟩, ⟨m, ss, a2⟩, ⟨m, [], 0⟩⟩) CkA.key m cs a3
theorem LdPost.to {S : Nat → Prop} {w w' : World} {B B1 B2 B3 m : Nat} {P : Prop} {D : Ro} {e : Ending} {g : Bool} (hg : g = true ↔ P) (h : LdPost S w B B1 B2 B3 m P D e w') : e = .returned (.bool g) ∧ But (Ch3 B1 B2 B3) w w' ∧ (g = true → RoAt (fun q => S q ∨ w.heap.size ≤ q) w' B B1 B2 B3 m D) := by
  obtain ⟨h1, r, rfl, h2, h3⟩ := h
  have e9 : r = g := by rw [Bool.eq_iff_iff, h2, hg]
  subst e9
  exact ⟨rfl, h1, fun z => h3 (hg.1 z)⟩
theorem bool_of (P : Prop) : ∃ g : Bool, g = true ↔ P := by
  by_cases h : P
  · exact ⟨true, by simp [h]⟩
  · exact ⟨false, by simp [h]⟩
def Ro.loaded (m : Nat) (ns : List (Rw NdA)) (ss : List (Rw SvA)) (cs : List (Rw CkA)) (a1 a2 a3 : Nat) : Ro := ⟨⟨m, ns, a1⟩, ⟨m, ss, a2⟩, ⟨m, cs, a3⟩⟩
def LoPost (w : World) (m : Nat) (ns : List (Rw NdA)) (ss : List (Rw SvA)) (cs : List (Rw CkA)) (a1 a2 a3 : Nat) (e : Ending) (w' : World) : Prop :=
  Below w.heap.size w w' ∧ ((LoadOk m ns ss cs a1 a2 a3 ∧ ∃ B B1 B2 B3, e = .returned (.tuple #[.pointer (some ⟨B, 0, none⟩), .int .i64 0]) ∧ RoAt (fun q => w.heap.size ≤ q ∨ q = gPw) w' B B1 B2 B3 m (Ro.loaded m ns ss cs a1 a2 a3)) ∨ (¬ LoadOk m ns ss cs a1 a2 a3 ∧ e = .returned (.tuple #[.pointer none, .int .i64 2])))
structure LdR1 (S : Nat → Prop) (W0 : World) (B B1 B2 B3 m : Nat) (D0 D1 D2 D3 : Ro) (G : Prop) (f : Nat → Bool) (w : World) : Prop where
  but : But (Ch3 B1 B2 B3) W0 w
  a : f 9 = false → RoAt (fun q => S q ∨ W0.heap.size ≤ q) w B B1 B2 B3 m D0
section
variable {S : Nat → Prop} {W0 w w' : World} {B B1 B2 B3 m : Nat} {D0 D1 D2 D3 : Ro} {G : Prop} {f : Nat → Bool}
theorem LdR1.start (h : RoAt S W0 B B1 B2 B3 m D0) : LdR1 S W0 B B1 B2 B3 m D0 D1 D2 D3 G (fun _ => false) { W0 with drawn := W0.drawn + 1 } := ⟨(But.refl _ _).drew, fun _ => h.wide (w' := { W0 with drawn := W0.drawn + 1 }) ⟨rfl, rfl, rfl, Nat.le_refl _, fun _ _ => rfl⟩⟩
theorem LdR1.keep {j : Nat} (hj : [9].contains j = false) (h : LdR1 S W0 B B1 B2 B3 m D0 D1 D2 D3 G f w) : LdR1 S W0 B B1 B2 B3 m D0 D1 D2 D3 G (Go.Rel.upd f j) w := by
  have n9 : j ≠ 9 := by simp only [List.contains_cons, List.contains_nil, Bool.or_false, Bool.or_eq_false_iff, beq_eq_false_iff_ne] at hj; exact hj
  refine ⟨h.but, ?_⟩
  · rw [ale_off n9]; exact fun z => h.a z
theorem LdR1.below {j : Nat} (hj : [9].contains j = false) (h : LdR1 S W0 B B1 B2 B3 m D0 D1 D2 D3 G f w) (hb : Below w.heap.size w w') : LdR1 S W0 B B1 B2 B3 m D0 D1 D2 D3 G (Go.Rel.upd f j) w' := by
  have n9 : j ≠ 9 := by simp only [List.contains_cons, List.contains_nil, Bool.or_false, Bool.or_eq_false_iff, beq_eq_false_iff_ne] at hj; exact hj
  refine ⟨h.but.trans (But.of_below hb), ?_⟩
  · rw [ale_off n9]; exact fun z => (h.a z).below hb
theorem LdR1.blk (h : LdR1 S W0 B B1 B2 B3 m D0 D1 D2 D3 G f w) {Y : Nat} {c : Array Value} {t : TypeId} (hk : W0.heap[Y]? = some (.cells c t (0, 0))) (hn : ¬ Ch3 B1 B2 B3 Y) : w.heap[Y]? = some (.cells c t (0, 0)) := (h.but.block Y (block_lt hk) hn).trans hk
theorem LdR1.m1 (h : LdR1 S W0 B B1 B2 B3 m D0 D1 D2 D3 G f w) (hb : But (Ch3 B1 B2 B3) w w') (hr : false = true → RoAt (fun q => (S q ∨ W0.heap.size ≤ q) ∨ w.heap.size ≤ q) w' B B1 B2 B3 m D1) : LdR1 S W0 B B1 B2 B3 m D0 D1 D2 D3 G (Go.Rel.upd f 9) w' := by
  refine ⟨h.but.trans hb, ?_⟩
  · exact fun z => absurd z (by rw [ale_on]; simp)
end
structure LdR2 (S : Nat → Prop) (W0 : World) (B B1 B2 B3 m : Nat) (D0 D1 D2 D3 : Ro) (G : Prop) (f : Nat → Bool) (w : World) : Prop where
  but : But (Ch3 B1 B2 B3) W0 w
  a : f 9 = false → RoAt (fun q => S q ∨ W0.heap.size ≤ q) w B B1 B2 B3 m D0
  b : f 9 = true → f 22 = false → true = true → RoAt (fun q => S q ∨ W0.heap.size ≤ q) w B B1 B2 B3 m D1
section
variable {S : Nat → Prop} {W0 w w' : World} {B B1 B2 B3 m : Nat} {D0 D1 D2 D3 : Ro} {G : Prop} {f : Nat → Bool}
theorem LdR2.start (h : RoAt S W0 B B1 B2 B3 m D0) : LdR2 S W0 B B1 B2 B3 m D0 D1 D2 D3 G (fun _ => false) { W0 with drawn := W0.drawn + 1 } := ⟨(But.refl _ _).drew, fun _ => h.wide (w' := { W0 with drawn := W0.drawn + 1 }) ⟨rfl, rfl, rfl, Nat.le_refl _, fun _ _ => rfl⟩, (fun z => by cases z)⟩
theorem LdR2.keep {j : Nat} (hj : [9, 22].contains j = false) (h : LdR2 S W0 B B1 B2 B3 m D0 D1 D2 D3 G f w) : LdR2 S W0 B B1 B2 B3 m D0 D1 D2 D3 G (Go.Rel.upd f j) w := by
  have n9 : j ≠ 9 := by simp only [List.contains_cons, List.contains_nil, Bool.or_false, Bool.or_eq_false_iff, beq_eq_false_iff_ne] at hj; exact hj.1
  have n22 : j ≠ 22 := by simp only [List.contains_cons, List.contains_nil, Bool.or_false, Bool.or_eq_false_iff, beq_eq_false_iff_ne] at hj; exact hj.2
  refine ⟨h.but, ?_, ?_⟩
  · rw [ale_off n9]; exact fun z => h.a z
  · rw [ale_off n9, ale_off n22]; exact fun z y r => h.b z y r
theorem LdR2.below {j : Nat} (hj : [9, 22].contains j = false) (h : LdR2 S W0 B B1 B2 B3 m D0 D1 D2 D3 G f w) (hb : Below w.heap.size w w') : LdR2 S W0 B B1 B2 B3 m D0 D1 D2 D3 G (Go.Rel.upd f j) w' := by
  have n9 : j ≠ 9 := by simp only [List.contains_cons, List.contains_nil, Bool.or_false, Bool.or_eq_false_iff, beq_eq_false_iff_ne] at hj; exact hj.1
  have n22 : j ≠ 22 := by simp only [List.contains_cons, List.contains_nil, Bool.or_false, Bool.or_eq_false_iff, beq_eq_false_iff_ne] at hj; exact hj.2
  refine ⟨h.but.trans (But.of_below hb), ?_, ?_⟩
  · rw [ale_off n9]; exact fun z => (h.a z).below hb
  · rw [ale_off n9, ale_off n22]; exact fun z y r => (h.b z y r).below hb
theorem LdR2.blk (h : LdR2 S W0 B B1 B2 B3 m D0 D1 D2 D3 G f w) {Y : Nat} {c : Array Value} {t : TypeId} (hk : W0.heap[Y]? = some (.cells c t (0, 0))) (hn : ¬ Ch3 B1 B2 B3 Y) : w.heap[Y]? = some (.cells c t (0, 0)) := (h.but.block Y (block_lt hk) hn).trans hk
theorem LdR2.m1 (h : LdR2 S W0 B B1 B2 B3 m D0 D1 D2 D3 G f w) (z22 : f 22 = false) (hb : But (Ch3 B1 B2 B3) w w') (hr : true = true → RoAt (fun q => (S q ∨ W0.heap.size ≤ q) ∨ w.heap.size ≤ q) w' B B1 B2 B3 m D1) : LdR2 S W0 B B1 B2 B3 m D0 D1 D2 D3 G (Go.Rel.upd f 9) w' := by
  refine ⟨h.but.trans hb, ?_, ?_⟩
  · exact fun z => absurd z (by rw [ale_on]; simp)
  · exact fun _ _ r => (hr r).narrow (fun k _ z => z.elim id fun z => .inr (Nat.le_trans h.but.size z))
theorem LdR2.m2 (h : LdR2 S W0 B B1 B2 B3 m D0 D1 D2 D3 G f w) (y9 : f 9 = true) (hb : But (Ch3 B1 B2 B3) w w') (hr : false = true → RoAt (fun q => (S q ∨ W0.heap.size ≤ q) ∨ w.heap.size ≤ q) w' B B1 B2 B3 m D2) : LdR2 S W0 B B1 B2 B3 m D0 D1 D2 D3 G (Go.Rel.upd f 22) w' := by
  refine ⟨h.but.trans hb, ?_, ?_⟩
  · exact fun z => absurd z (by rw [ale_off (by decide), y9]; simp)
  · exact fun z y r => absurd y (by rw [ale_on]; simp)
end
structure LdR3 (S : Nat → Prop) (W0 : World) (B B1 B2 B3 m : Nat) (D0 D1 D2 D3 : Ro) (G : Prop) (f : Nat → Bool) (w : World) : Prop where
  but : But (Ch3 B1 B2 B3) W0 w
  a : f 9 = false → RoAt (fun q => S q ∨ W0.heap.size ≤ q) w B B1 B2 B3 m D0
  b : f 9 = true → f 22 = false → true = true → RoAt (fun q => S q ∨ W0.heap.size ≤ q) w B B1 B2 B3 m D1
  c : f 22 = true → f 36 = false → true = true → RoAt (fun q => S q ∨ W0.heap.size ≤ q) w B B1 B2 B3 m D2
  d : f 36 = true → G → RoAt (fun q => S q ∨ W0.heap.size ≤ q) w B B1 B2 B3 m D3
section
variable {S : Nat → Prop} {W0 w w' : World} {B B1 B2 B3 m : Nat} {D0 D1 D2 D3 : Ro} {G : Prop} {f : Nat → Bool}
theorem LdR3.start (h : RoAt S W0 B B1 B2 B3 m D0) : LdR3 S W0 B B1 B2 B3 m D0 D1 D2 D3 G (fun _ => false) { W0 with drawn := W0.drawn + 1 } := ⟨(But.refl _ _).drew, fun _ => h.wide (w' := { W0 with drawn := W0.drawn + 1 }) ⟨rfl, rfl, rfl, Nat.le_refl _, fun _ _ => rfl⟩, (fun z => by cases z), (fun z => by cases z), (fun z => by cases z)⟩
theorem LdR3.keep {j : Nat} (hj : [9, 22, 36].contains j = false) (h : LdR3 S W0 B B1 B2 B3 m D0 D1 D2 D3 G f w) : LdR3 S W0 B B1 B2 B3 m D0 D1 D2 D3 G (Go.Rel.upd f j) w := by
  have n9 : j ≠ 9 := by simp only [List.contains_cons, List.contains_nil, Bool.or_false, Bool.or_eq_false_iff, beq_eq_false_iff_ne] at hj; exact hj.1
  have n22 : j ≠ 22 := by simp only [List.contains_cons, List.contains_nil, Bool.or_false, Bool.or_eq_false_iff, beq_eq_false_iff_ne] at hj; exact hj.2.1
  have n36 : j ≠ 36 := by simp only [List.contains_cons, List.contains_nil, Bool.or_false, Bool.or_eq_false_iff, beq_eq_false_iff_ne] at hj; exact hj.2.2
  refine ⟨h.but, ?_, ?_, ?_, ?_⟩
  · rw [ale_off n9]; exact fun z => h.a z
  · rw [ale_off n9, ale_off n22]; exact fun z y r => h.b z y r
  · rw [ale_off n22, ale_off n36]; exact fun z y r => h.c z y r
  · rw [ale_off n36]; exact fun z r => h.d z r
theorem LdR3.below {j : Nat} (hj : [9, 22, 36].contains j = false) (h : LdR3 S W0 B B1 B2 B3 m D0 D1 D2 D3 G f w) (hb : Below w.heap.size w w') : LdR3 S W0 B B1 B2 B3 m D0 D1 D2 D3 G (Go.Rel.upd f j) w' := by
  have n9 : j ≠ 9 := by simp only [List.contains_cons, List.contains_nil, Bool.or_false, Bool.or_eq_false_iff, beq_eq_false_iff_ne] at hj; exact hj.1
  have n22 : j ≠ 22 := by simp only [List.contains_cons, List.contains_nil, Bool.or_false, Bool.or_eq_false_iff, beq_eq_false_iff_ne] at hj; exact hj.2.1
  have n36 : j ≠ 36 := by simp only [List.contains_cons, List.contains_nil, Bool.or_false, Bool.or_eq_false_iff, beq_eq_false_iff_ne] at hj; exact hj.2.2
  refine ⟨h.but.trans (But.of_below hb), ?_, ?_, ?_, ?_⟩
  · rw [ale_off n9]; exact fun z => (h.a z).below hb
  · rw [ale_off n9, ale_off n22]; exact fun z y r => (h.b z y r).below hb
  · rw [ale_off n22, ale_off n36]; exact fun z y r => (h.c z y r).below hb
  · rw [ale_off n36]; exact fun z r => (h.d z r).below hb
theorem LdR3.blk (h : LdR3 S W0 B B1 B2 B3 m D0 D1 D2 D3 G f w) {Y : Nat} {c : Array Value} {t : TypeId} (hk : W0.heap[Y]? = some (.cells c t (0, 0))) (hn : ¬ Ch3 B1 B2 B3 Y) : w.heap[Y]? = some (.cells c t (0, 0)) := (h.but.block Y (block_lt hk) hn).trans hk
theorem LdR3.m1 (h : LdR3 S W0 B B1 B2 B3 m D0 D1 D2 D3 G f w) (z22 : f 22 = false) (z36 : f 36 = false) (hb : But (Ch3 B1 B2 B3) w w') (hr : true = true → RoAt (fun q => (S q ∨ W0.heap.size ≤ q) ∨ w.heap.size ≤ q) w' B B1 B2 B3 m D1) : LdR3 S W0 B B1 B2 B3 m D0 D1 D2 D3 G (Go.Rel.upd f 9) w' := by
  refine ⟨h.but.trans hb, ?_, ?_, ?_, ?_⟩
  · exact fun z => absurd z (by rw [ale_on]; simp)
  · exact fun _ _ r => (hr r).narrow (fun k _ z => z.elim id fun z => .inr (Nat.le_trans h.but.size z))
  · exact fun z y r => absurd z (by rw [ale_off (by decide), z22]; simp)
  · exact fun z r => absurd z (by rw [ale_off (by decide), z36]; simp)
theorem LdR3.m2 (h : LdR3 S W0 B B1 B2 B3 m D0 D1 D2 D3 G f w) (z36 : f 36 = false) (y9 : f 9 = true) (hb : But (Ch3 B1 B2 B3) w w') (hr : true = true → RoAt (fun q => (S q ∨ W0.heap.size ≤ q) ∨ w.heap.size ≤ q) w' B B1 B2 B3 m D2) : LdR3 S W0 B B1 B2 B3 m D0 D1 D2 D3 G (Go.Rel.upd f 22) w' := by
  refine ⟨h.but.trans hb, ?_, ?_, ?_, ?_⟩
  · exact fun z => absurd z (by rw [ale_off (by decide), y9]; simp)
  · exact fun z y r => absurd y (by rw [ale_on]; simp)
  · exact fun _ _ r => (hr r).narrow (fun k _ z => z.elim id fun z => .inr (Nat.le_trans h.but.size z))
  · exact fun z r => absurd z (by rw [ale_off (by decide), z36]; simp)
theorem LdR3.m3 (h : LdR3 S W0 B B1 B2 B3 m D0 D1 D2 D3 G f w) (y9 : f 9 = true) (y22 : f 22 = true) (hb : But (Ch3 B1 B2 B3) w w') (hr : G → RoAt (fun q => (S q ∨ W0.heap.size ≤ q) ∨ w.heap.size ≤ q) w' B B1 B2 B3 m D3) : LdR3 S W0 B B1 B2 B3 m D0 D1 D2 D3 G (Go.Rel.upd f 36) w' := by
  refine ⟨h.but.trans hb, ?_, ?_, ?_, ?_⟩
  · exact fun z => absurd z (by rw [ale_off (by decide), y9]; simp)
  · exact fun z y r => absurd y (by rw [ale_off (by decide), y22]; simp)
  · exact fun z y r => absurd y (by rw [ale_on]; simp)
  · exact fun _ r => (hr r).narrow (fun k _ z => z.elim id fun z => .inr (Nat.le_trans h.but.size z))
end
def rlo1E (X : Nat) (L : Nat) (B : Nat) (B1 : Nat) (B2 : Nat) (B3 : Nat) (A1 : Option Addr) (n1 : Nat) (c1 : Nat) (A2 : Option Addr) (n2 : Nat) (c2 : Nat) (A3 : Option Addr) (n3 : Nat) (c3 : Nat) (a1 : Nat) (a2 : Nat) (a3 : Nat) : Nat → Value
  | 0 | 1 | 2 => .pointer (some ⟨B, 0, none⟩)
  | 3 => .pointer (some ⟨B1, 0, none⟩)
  | 4 => .agg #[.func (.func 88) #[] #[], .func (.func 89) #[] #[]]
  | 5 => .slice A1 n1 c1
  | 6 => .pointer (some ⟨L, 0, none⟩)
  | 7 => .int .u64 (a1 : Int)
  | 8 => .func (.func 63) #[] #[.pointer (some ⟨X, 0, none⟩)]
  | 9 => .bool false
  | 10 | 11 | 24 | 25 | 38 => .bool true
  | _ => undef
def rlo2E (X : Nat) (L : Nat) (B : Nat) (B1 : Nat) (B2 : Nat) (B3 : Nat) (A1 : Option Addr) (n1 : Nat) (c1 : Nat) (A2 : Option Addr) (n2 : Nat) (c2 : Nat) (A3 : Option Addr) (n3 : Nat) (c3 : Nat) (a1 : Nat) (a2 : Nat) (a3 : Nat) : Nat → Value
  | 0 | 1 | 2 | 12 | 13 | 20 => .pointer (some ⟨B, 0, none⟩)
  | 3 => .pointer (some ⟨B1, 0, none⟩)
  | 4 => .agg #[.func (.func 88) #[] #[], .func (.func 89) #[] #[]]
  | 5 => .slice A1 n1 c1
  | 6 => .pointer (some ⟨L, 0, none⟩)
  | 7 => .int .u64 (a1 : Int)
  | 8 => .func (.func 63) #[] #[.pointer (some ⟨X, 0, none⟩)]
  | 9 | 23 | 24 | 25 | 38 => .bool true
  | 10 | 11 | 22 => .bool false
  | 14 => .pointer (some ⟨B, 1, none⟩)
  | 15 => .pointer (some ⟨B2, 0, none⟩)
  | 16 => .agg #[.func (.func 92) #[] #[], .func (.func 93) #[] #[]]
  | 17 => .slice A2 n2 c2
  | 18 => .pointer (some ⟨L, 1, none⟩)
  | 19 => .int .u64 (a2 : Int)
  | 21 => .func (.func 30) #[.pointer (some ⟨B, 0, none⟩)] #[]
  | _ => undef
def rlo3E (X : Nat) (L : Nat) (B : Nat) (B1 : Nat) (B2 : Nat) (B3 : Nat) (A1 : Option Addr) (n1 : Nat) (c1 : Nat) (A2 : Option Addr) (n2 : Nat) (c2 : Nat) (A3 : Option Addr) (n3 : Nat) (c3 : Nat) (a1 : Nat) (a2 : Nat) (a3 : Nat) (g3 : Bool) : Nat → Value
  | 0 | 1 | 2 | 12 | 13 | 20 | 26 | 27 | 34 => .pointer (some ⟨B, 0, none⟩)
  | 3 => .pointer (some ⟨B1, 0, none⟩)
  | 4 => .agg #[.func (.func 88) #[] #[], .func (.func 89) #[] #[]]
  | 5 => .slice A1 n1 c1
  | 6 => .pointer (some ⟨L, 0, none⟩)
  | 7 => .int .u64 (a1 : Int)
  | 8 => .func (.func 63) #[] #[.pointer (some ⟨X, 0, none⟩)]
  | 9 | 22 => .bool true
  | 10 | 11 | 23 | 24 | 25 => .bool false
  | 14 => .pointer (some ⟨B, 1, none⟩)
  | 15 => .pointer (some ⟨B2, 0, none⟩)
  | 16 => .agg #[.func (.func 92) #[] #[], .func (.func 93) #[] #[]]
  | 17 => .slice A2 n2 c2
  | 18 => .pointer (some ⟨L, 1, none⟩)
  | 19 => .int .u64 (a2 : Int)
  | 21 => .func (.func 30) #[.pointer (some ⟨B, 0, none⟩)] #[]
  | 28 => .pointer (some ⟨B, 2, none⟩)
  | 29 => .pointer (some ⟨B3, 0, none⟩)
  | 30 => .agg #[.func (.func 96) #[] #[], .func (.func 97) #[] #[]]
  | 31 => .slice A3 n3 c3
  | 32 => .pointer (some ⟨L, 2, none⟩)
  | 33 => .int .u64 (a3 : Int)
  | 35 => .func (.func 20) #[.pointer (some ⟨B, 0, none⟩)] #[]
  | 36 => .bool g3
  | 37 | 38 => .bool (!g3)
  | _ => undef
set_option maxHeartbeats 8000000 in
set_option maxRecDepth 100000 in
theorem rload_any (mo : Int) (hm : -9223372036854775808 ≤ mo ∧ mo ≤ 9223372036854775807) (A1 A2 A3 : Option Addr) (n1 n2 n3 c1 c2 c3 : Nat) (ns : List (Rw NdA)) (ls : List (Rw SvW)) (ss : List (Rw SvA)) (cs : List (Rw CkA)) (a1 a2 a3 : Nat) (w : World) (hp : PwIs w)
    (h1 : SK ndC 4 w A1 n1 ns) (h2 : SK svC 7 w A2 n2 ls) (h3 : SK ckC 7 w A3 n3 cs) (hss : ls.map (rwMap (fun v : SvW => v.a)) = ss) (k1 : ∀ x ∈ ns, x.key = x.val.key) (k2 : ∀ x ∈ ls, x.key = x.val.a.key) (k3 : ∀ x ∈ cs, x.key = x.val.key)
    (i1 : ∀ x ∈ ns, LdN x) (i2 : ∀ x ∈ ls, LdS w x) (i3 : ∀ x ∈ cs, LdC x) (hn1 : n1 ≤ maxLen) (hn2 : n2 ≤ maxLen) (hn3 : n3 ≤ maxLen) (ha1 : a1 < 18446744073709551616) (ha2 : a2 < 18446744073709551616) (ha3 : a3 < 18446744073709551616) :
    Calls Tryz.prog 22 #[.int .i64 mo, .slice A1 n1 c1, .slice A2 n2 c2, .slice A3 n3 c3, .agg #[.int .u64 (a1 : Int), .int .u64 (a2 : Int), .int .u64 (a3 : Int)]] w (LoPost w (mostT mo) ns ss cs a1 a2 a3) := by
  obtain ⟨L, hL⟩ : ∃ L, w.heap.size = L := ⟨_, rfl⟩
  have b1 := below1 w #[.int .u64 (a1 : Int), .int .u64 (a2 : Int), .int .u64 (a3 : Int)] 55
  have kl := heap_alloc_new w (.cells #[.int .u64 (a1 : Int), .int .u64 (a2 : Int), .int .u64 (a3 : Int)] 55)
  obtain ⟨W1, hW1⟩ : ∃ W1, w.alloc (.cells #[.int .u64 (a1 : Int), .int .u64 (a2 : Int), .int .u64 (a3 : Int)] 55) = W1 := ⟨_, rfl⟩
  have s1 : W1.heap.size = L + 1 := by rw [← hW1, ← hL]; simp
  rw [hW1] at b1 kl
  rw [hL] at kl
  have HNew := Lib.hid (rnew_any mo W1 hm (hp.below b1))
  obtain ⟨m, hmm⟩ : ∃ m, mostT mo = m := ⟨_, rfl⟩
  rw [hmm] at HNew ⊢
  have HAll := Lib.hid (And.intro h1 (And.intro h2 h3))
  have HKs := Lib.hid (And.intro k1 (And.intro k2 k3))
  have HIs := Lib.hid (And.intro i1 (And.intro i2 i3))
  have HNs := Lib.hid (And.intro hn1 (And.intro hn2 hn3))
  have HAs := Lib.hid (And.intro ha1 (And.intro ha2 ha3))
  have HSs := Lib.hid hss
  have HB1 := Lib.hid b1
  have HKl0 := Lib.hid kl
  have HW1 := Lib.hid hW1
  have HL := Lib.hid hL
  have HS1 := Lib.hid s1
  clear hp h1 h2 h3 hss k1 k2 k3 i1 i2 i3 hn1 hn2 hn3 ha1 ha2 ha3 b1 kl hW1 hL s1 hm hmm
  go_enter Tryz.func22, Tryz.ntmps22
  go_wp2_with fail
  rw [HW1.out, HL.out]
  refine HNew.out.mono ?_
  rintro e w2 ⟨B, B1, B2, B3, rfl, hro, hb2⟩
  obtain ⟨X, hX⟩ : ∃ X, w2.heap.size = X := ⟨_, rfl⟩
  have bx := below1 w2 #[.pointer (some ⟨B, 0, none⟩)] 23
  have kx := heap_alloc_new w2 (.cells #[.pointer (some ⟨B, 0, none⟩)] 23)
  obtain ⟨W0, hW0⟩ : ∃ W0, w2.alloc (.cells #[.pointer (some ⟨B, 0, none⟩)] 23) = W0 := ⟨_, rfl⟩
  rw [hW0] at bx kx
  rw [hX] at kx
  have hz2 : W1.heap.size ≤ w2.heap.size := hb2.size
  have hro0 := (hro.below bx)
  have HRo0 := Lib.hid hro0
  have HB0 : Hid (Below w.heap.size w W0) := Lib.hid (HB1.out.trans ((hb2.trans (bx.mono hz2)).mono HB1.out.size))
  have hlt := hro.lt
  have hch := hro.ch
  have HKx := Lib.hid kx
  have HKl := Lib.hid ((bx.block L (by have := HS1.out; omega)).trans ((hb2.block L (by have := HS1.out; omega)).trans HKl0.out))
  have HNx : Hid (¬ Ch3 B1 B2 B3 X) := Lib.hid (fun e => by have := (hch X e).2.2.2; omega)
  have HNl : Hid (¬ Ch3 B1 B2 B3 L) := Lib.hid (fun e => by
    have h9 := (hch L e)
    have := HS1.out
    rcases h9.1 with z | z
    · omega
    · exact h9.2.2.1 z)
  have HNb : Hid (¬ Ch3 B1 B2 B3 B) := Lib.hid (fun e => (hch B e).2.1 rfl)
  have HKb := Lib.hid (show W0.heap[B]? = some (.cells #[.pointer (some ⟨B1, 0, none⟩), .pointer (some ⟨B2, 0, none⟩), .pointer (some ⟨B3, 0, none⟩)] TRo (0, 0)) from by
    obtain ⟨_, T1, T2, T3, h9, _⟩ := hro0
    exact h9.ptr)
  have HLo : Hid (∀ k, Ch3 B1 B2 B3 k → w.heap.size ≤ k) := Lib.hid (fun k hk => by
    have h9 := hch k hk
    have := HB1.out.size
    rcases h9.1 with z | z
    · omega
    · exact absurd z h9.2.2.1)
  have HX := Lib.hid hX
  have HW0 := Lib.hid hW0
  have HBl := Lib.hid (fun W (hw : But (Ch3 B1 B2 B3) W0 W) => (HB0.out.trans (hw.below HB0.out.size fun k hk e => by have := HLo.out k e; omega) : Below w.heap.size w W))
  clear hro hb2 bx kx hz2 hlt hch hX hW0 hro0 HNew
  go_wp2
  rw [HW0.out, HX.out]
  obtain ⟨S, hS⟩ : ∃ S : Nat → Prop, (fun k => W1.heap.size ≤ k ∨ k = gPw) = S := ⟨_, rfl⟩
  have hro1 := HRo0.out
  rw [hS] at hro1
  have HRo1 := Lib.hid hro1
  have HSd : Hid (∀ q, S q ∨ W0.heap.size ≤ q → w.heap.size ≤ q ∨ q = gPw) := Lib.hid (fun q z => by
    rw [← hS] at z
    have h9 := HB1.out.size
    have h8 := HB0.out.size
    rcases z with (z | z) | z
    · exact .inl (by omega)
    · exact .inr z
    · exact .inl (by omega))
  obtain ⟨g1, hg1⟩ := bool_of (Gd wrongN NdA.key m ns a1)
  obtain ⟨g2, hg2⟩ := bool_of (Gd (Ro.wrongS ⟨⟨m, ns, a1⟩, ⟨m, [], 0⟩, ⟨m, [], 0⟩⟩) SvA.key m ss a2)
  obtain ⟨g3, hg3⟩ := bool_of (Gd (Ro.wrongC ⟨⟨m, ns, a1⟩, ⟨m, ss, a2⟩, ⟨m, [], 0⟩⟩) CkA.key m cs a3)
  obtain ⟨D0, hD0⟩ : ∃ D0 : Ro, Ro.new m = D0 := ⟨_, rfl⟩
  obtain ⟨D1, hD1⟩ : ∃ D1 : Ro, (⟨⟨m, ns, a1⟩, ⟨m, [], 0⟩, ⟨m, [], 0⟩⟩ : Ro) = D1 := ⟨_, rfl⟩
  obtain ⟨D2, hD2⟩ : ∃ D2 : Ro, (⟨⟨m, ns, a1⟩, ⟨m, ss, a2⟩, ⟨m, [], 0⟩⟩ : Ro) = D2 := ⟨_, rfl⟩
  obtain ⟨D3, hD3⟩ : ∃ D3 : Ro, Ro.loaded m ns ss cs a1 a2 a3 = D3 := ⟨_, rfl⟩
  have HL1 := Lib.hid (fun W (h9 : RoAt (fun q => S q ∨ W0.heap.size ≤ q) W B B1 B2 B3 m D0) (hw : But (Ch3 B1 B2 B3) W0 W) => ((by
    rw [← hD0] at h9
    exact (rload_n A1 n1 c1 ns a1 h9 rfl (Nat.zero_le _) (fun W' hw' => HAll.out.1.below (HBl.out W' (hw.trans hw'))) HKs.out.1 HIs.out.1 HNs.out.1 HAs.out.1 ((hw.block X (block_lt HKx.out) HNx.out).trans HKx.out) HNx.out).mono fun e w' h8 => by rw [← hD1]; exact h8.to hg1) : Calls Tryz.prog 64 #[.pointer (some ⟨B1, 0, none⟩), .agg #[.func (.func 88) #[] #[], .func (.func 89) #[] #[]], .slice A1 n1 c1, .int .u64 (a1 : Int), .func (.func 63) #[] #[.pointer (some ⟨X, 0, none⟩)]] W fun e w' => e = .returned (.bool g1) ∧ But (Ch3 B1 B2 B3) W w' ∧ (g1 = true → RoAt (fun q => (S q ∨ W0.heap.size ≤ q) ∨ W.heap.size ≤ q) w' B B1 B2 B3 m D1)))
  have HL2 := Lib.hid (fun W (h9 : RoAt (fun q => S q ∨ W0.heap.size ≤ q) W B B1 B2 B3 m D1) (hw : But (Ch3 B1 B2 B3) W0 W) => ((by
    rw [← hD1] at h9
    exact (rload_s A2 n2 c2 ls ss HSs.out a2 h9 rfl (Nat.zero_le _) (fun W' hw' => HAll.out.2.1.below (HBl.out W' (hw.trans hw'))) HKs.out.2.1 (fun W' hw' x hx => (HIs.out.2.1 x hx).below (HBl.out W' (hw.trans hw'))) HNs.out.2.1 HAs.out.2.1).mono fun e w' h8 => by rw [← hD2]; exact h8.to hg2) : Calls Tryz.prog 65 #[.pointer (some ⟨B2, 0, none⟩), .agg #[.func (.func 92) #[] #[], .func (.func 93) #[] #[]], .slice A2 n2 c2, .int .u64 (a2 : Int), .func (.func 30) #[.pointer (some ⟨B, 0, none⟩)] #[]] W fun e w' => e = .returned (.bool g2) ∧ But (Ch3 B1 B2 B3) W w' ∧ (g2 = true → RoAt (fun q => (S q ∨ W0.heap.size ≤ q) ∨ W.heap.size ≤ q) w' B B1 B2 B3 m D2)))
  have HL3 := Lib.hid (fun W (h9 : RoAt (fun q => S q ∨ W0.heap.size ≤ q) W B B1 B2 B3 m D2) (hw : But (Ch3 B1 B2 B3) W0 W) => ((by
    rw [← hD2] at h9
    exact (rload_c A3 n3 c3 cs a3 h9 rfl (Nat.zero_le _) (fun W' hw' => HAll.out.2.2.below (HBl.out W' (hw.trans hw'))) HKs.out.2.2 HIs.out.2.2 HNs.out.2.2 HAs.out.2.2).mono fun e w' h8 => by rw [← hD3]; exact h8.to hg3) : Calls Tryz.prog 66 #[.pointer (some ⟨B3, 0, none⟩), .agg #[.func (.func 96) #[] #[], .func (.func 97) #[] #[]], .slice A3 n3 c3, .int .u64 (a3 : Int), .func (.func 20) #[.pointer (some ⟨B, 0, none⟩)] #[]] W fun e w' => e = .returned (.bool g3) ∧ But (Ch3 B1 B2 B3) W w' ∧ (g3 = true → RoAt (fun q => (S q ∨ W0.heap.size ≤ q) ∨ W.heap.size ≤ q) w' B B1 B2 B3 m D3)))
  have HOfNode := Lib.hid (fun W => (ofNode_any W : Calls Tryz.prog 45 #[] W fun e w' => e = .returned (.agg #[.func (.func 88) #[] #[], .func (.func 89) #[] #[]]) ∧ Below W.heap.size W w'))
  have HOfService := Lib.hid (fun W => (ofService_any W : Calls Tryz.prog 48 #[] W fun e w' => e = .returned (.agg #[.func (.func 92) #[] #[], .func (.func 93) #[] #[]]) ∧ Below W.heap.size W w'))
  have HOfCheck := Lib.hid (fun W => (ofCheck_any W : Calls Tryz.prog 51 #[] W fun e w' => e = .returned (.agg #[.func (.func 96) #[] #[], .func (.func 97) #[] #[]]) ∧ Below W.heap.size W w'))
  have HGs : Hid (LoadOk m ns ss cs a1 a2 a3 ↔ g1 = true ∧ g2 = true ∧ g3 = true) := Lib.hid (by unfold LoadOk; rw [hg1, hg2, hg3])
  have hro2 := HRo1.out
  rw [hD0] at hro2
  have HRo2 := Lib.hid hro2
  have HD3 := Lib.hid hD3
  clear hS hro1 hro2 hg1 hg2 hg3 hD0 hD1 hD2 hD3
  cases g1 with
  | false =>
    have hre : ∀ w : World, ((fun _ _ : World => True)) w w := (fun _ => trivial)
    have hrd : ∀ (ops9 : Array Oper) (f9 : Nat → Bool) (e9 : Nat → Value) (w9 : World) (i9 : Nat) (v9 : Value) (e8 : Nat → Value), [9].contains i9 = false → (fun (f : Nat → Bool) (_ : Nat → Value) (w : World) => LdR1 S W0 B B1 B2 B3 m D0 D1 D2 D3 (True) f w) f9 e9 w9 → Go.Rel.Put ops9 i9 e9 v9 e8 → (fun (f : Nat → Bool) (_ : Nat → Value) (w : World) => LdR1 S W0 B B1 B2 B3 m D0 D1 D2 D3 (True) f w) (Go.Rel.upd f9 i9) e8 w9 := (fun _ _ _ _ _ _ _ hj h _ => h.keep hj)
    refine Go.Rel.wp_tabe (by kernel_rfl) (by kernel_rfl) (fun (f : Nat → Bool) (_ : Nat → Value) (w : World) => LdR1 S W0 B B1 B2 B3 m D0 D1 D2 D3 (True) f w) ((fun _ _ : World => True)) hre ((fun _ _ _ _ _ => trivial)) (trivial) (fun _ => LdR1.start HRo2.out) (rlo1E X L B B1 B2 B3 A1 n1 c1 A2 n2 c2 A3 n3 c3 a1 a2 a3) (fun _ _ _ => True) (fun i => ([] : List Nat).contains i) (fun i => ([0, 3, 4, 7, 9] : List Nat).contains i) (by kernel_rfl) (fun _ _ _ _ h _ => h) [9] (by decide) (hrd _) ?_ (Go.Rel.AllOf.get ?_) ?_
    · iterate 1 refine .cons (Go.Rel.pure_sp rfl) ?_
      iterate 2 refine .cons (Go.Rel.pure_yes (by kernel_rfl) (fun _ => by kernel_rfl)) ?_
      iterate 2 refine .cons (Go.Rel.pure_sp rfl) ?_
      iterate 2 refine .cons (Go.Rel.pure_yes (by kernel_rfl) (fun _ => by kernel_rfl)) ?_
      iterate 1 refine .cons (Go.Rel.pure_sp rfl) ?_
      iterate 1 refine .cons (Go.Rel.pure_yes (by kernel_rfl) (fun _ => by kernel_rfl)) ?_
      iterate 1 refine .cons (Go.Rel.pure_sp rfl) ?_
      iterate 2 refine .cons (Go.Rel.pure_yes (by kernel_rfl) (fun _ => by kernel_rfl)) ?_
      iterate 12 refine .cons (Go.Rel.pure_no (by kernel_rfl) rfl) ?_
      iterate 2 refine .cons (Go.Rel.pure_yes (by kernel_rfl) (fun _ => by kernel_rfl)) ?_
      iterate 12 refine .cons (Go.Rel.pure_no (by kernel_rfl) rfl) ?_
      iterate 1 refine .cons (Go.Rel.pure_yes (by kernel_rfl) (fun _ => by kernel_rfl)) ?_
      exact .nil
    · refine ⟨?_, ?_, ?_, ?_, ?_, trivial⟩
      · exact SpecE.ld (hrd _) hre (q := .pointer (some ⟨X, 0, none⟩)) (h := fun _ w' _ hI _ _ _ _ => by have cx := cellsN (hI.blk HKx.out HNx.out) 0 _ rfl; go_simp; rfl)
      · exact SpecE.ld (hrd _) hre (q := .pointer (some ⟨B, 0, none⟩)) (h := fun _ w' _ hI _ _ _ _ => by have cb := ro_ptrs (hI.blk HKb.out HNb.out); go_simp; rfl)
      · refine SpecE.gen (fun e => []) rfl rfl (fun _ => by kernel_rfl) fun f w' e hI hf hdesc hanc hle hX K hK => ?_
        go_simp
        refine (HOfNode.out w').mono ?_
        rintro e9 w9 ⟨rfl, hb9⟩
        exact hK _ _ trivial (fun e' hp => hI.below (by decide) hb9) rfl
      · exact SpecE.ld (hrd _) hre (q := .pointer (some ⟨L, 0, none⟩)) (h := fun _ w' _ hI _ _ _ _ => by have cl := cellsN (hI.blk HKl.out HNl.out) 0 _ rfl; go_simp; rfl)
      · refine SpecE.gen (fun e => [(20, .pointer (some ⟨B1, 0, none⟩)), (21, .agg #[.func (.func 88) #[] #[], .func (.func 89) #[] #[]]), (22, .slice A1 n1 c1), (24, .int .u64 (a1 : Int)), (25, .func (.func 63) #[] #[.pointer (some ⟨X, 0, none⟩)])]) rfl rfl (fun _ => by kernel_rfl) fun f w' e hI hf hdesc hanc hle hX K hK => ?_
        go_simp
        refine (HL1.out w' (hI.a hf) hI.but).mono ?_
        rintro e9 w9 ⟨rfl, hb9, hr9⟩
        exact hK _ _ trivial (fun e' hp => hI.m1 hb9 hr9) rfl
    · intro f w3 e hall hJ hle hv
      have HB9 := Lib.hid (HBl.out w3 hJ.but)
      have HNo : Hid (¬ LoadOk m ns ss cs a1 a2 a3) := Lib.hid (fun z => by have := (HGs.out.1 z).1; cases this)
      have v9 := hv 38 rfl
      simp only [Go.Rel.finL, List.setIfInBounds_toArray, List.set_cons_succ, List.set_cons_zero]
      rw [show e 38 = .bool true from v9]
      clear hv hall hJ hle v9
      go_wp2
      exact bodyPost_ret (v := .tuple #[.pointer none, .int .i64 2]) (by simp [results, Tryz.results22, go_sem]) rfl ⟨HB9.out, .inr ⟨HNo.out, rfl⟩⟩
  | true =>
    cases g2 with
    | false =>
      have hre : ∀ w : World, ((fun _ _ : World => True)) w w := (fun _ => trivial)
      have hrd : ∀ (ops9 : Array Oper) (f9 : Nat → Bool) (e9 : Nat → Value) (w9 : World) (i9 : Nat) (v9 : Value) (e8 : Nat → Value), [9, 22].contains i9 = false → (fun (f : Nat → Bool) (_ : Nat → Value) (w : World) => LdR2 S W0 B B1 B2 B3 m D0 D1 D2 D3 (True) f w) f9 e9 w9 → Go.Rel.Put ops9 i9 e9 v9 e8 → (fun (f : Nat → Bool) (_ : Nat → Value) (w : World) => LdR2 S W0 B B1 B2 B3 m D0 D1 D2 D3 (True) f w) (Go.Rel.upd f9 i9) e8 w9 := (fun _ _ _ _ _ _ _ hj h _ => h.keep hj)
      refine Go.Rel.wp_tabe (by kernel_rfl) (by kernel_rfl) (fun (f : Nat → Bool) (_ : Nat → Value) (w : World) => LdR2 S W0 B B1 B2 B3 m D0 D1 D2 D3 (True) f w) ((fun _ _ : World => True)) hre ((fun _ _ _ _ _ => trivial)) (trivial) (fun _ => LdR2.start HRo2.out) (rlo2E X L B B1 B2 B3 A1 n1 c1 A2 n2 c2 A3 n3 c3 a1 a2 a3) (fun _ _ _ => True) (fun i => ([] : List Nat).contains i) (fun i => ([0, 3, 4, 7, 9, 12, 15, 16, 19, 20, 22] : List Nat).contains i) (by kernel_rfl) (fun _ _ _ _ h _ => h) [9, 22] (by decide) (hrd _) ?_ (Go.Rel.AllOf.get ?_) ?_
      · iterate 1 refine .cons (Go.Rel.pure_sp rfl) ?_
        iterate 2 refine .cons (Go.Rel.pure_yes (by kernel_rfl) (fun _ => by kernel_rfl)) ?_
        iterate 2 refine .cons (Go.Rel.pure_sp rfl) ?_
        iterate 2 refine .cons (Go.Rel.pure_yes (by kernel_rfl) (fun _ => by kernel_rfl)) ?_
        iterate 1 refine .cons (Go.Rel.pure_sp rfl) ?_
        iterate 1 refine .cons (Go.Rel.pure_yes (by kernel_rfl) (fun _ => by kernel_rfl)) ?_
        iterate 1 refine .cons (Go.Rel.pure_sp rfl) ?_
        iterate 2 refine .cons (Go.Rel.pure_yes (by kernel_rfl) (fun _ => by kernel_rfl)) ?_
        iterate 1 refine .cons (Go.Rel.pure_sp rfl) ?_
        iterate 2 refine .cons (Go.Rel.pure_yes (by kernel_rfl) (fun _ => by kernel_rfl)) ?_
        iterate 2 refine .cons (Go.Rel.pure_sp rfl) ?_
        iterate 2 refine .cons (Go.Rel.pure_yes (by kernel_rfl) (fun _ => by kernel_rfl)) ?_
        iterate 2 refine .cons (Go.Rel.pure_sp rfl) ?_
        iterate 1 refine .cons (Go.Rel.pure_yes (by kernel_rfl) (fun _ => by kernel_rfl)) ?_
        iterate 1 refine .cons (Go.Rel.pure_sp rfl) ?_
        iterate 3 refine .cons (Go.Rel.pure_yes (by kernel_rfl) (fun _ => by kernel_rfl)) ?_
        iterate 12 refine .cons (Go.Rel.pure_no (by kernel_rfl) rfl) ?_
        iterate 1 refine .cons (Go.Rel.pure_yes (by kernel_rfl) (fun _ => by kernel_rfl)) ?_
        exact .nil
      · refine ⟨?_, ?_, ?_, ?_, ?_, ?_, ?_, ?_, ?_, ?_, ?_, trivial⟩
        · exact SpecE.ld (hrd _) hre (q := .pointer (some ⟨X, 0, none⟩)) (h := fun _ w' _ hI _ _ _ _ => by have cx := cellsN (hI.blk HKx.out HNx.out) 0 _ rfl; go_simp; rfl)
        · exact SpecE.ld (hrd _) hre (q := .pointer (some ⟨B, 0, none⟩)) (h := fun _ w' _ hI _ _ _ _ => by have cb := ro_ptrs (hI.blk HKb.out HNb.out); go_simp; rfl)
        · refine SpecE.gen (fun e => []) rfl rfl (fun _ => by kernel_rfl) fun f w' e hI hf hdesc hanc hle hX K hK => ?_
          go_simp
          refine (HOfNode.out w').mono ?_
          rintro e9 w9 ⟨rfl, hb9⟩
          exact hK _ _ trivial (fun e' hp => hI.below (by decide) hb9) rfl
        · exact SpecE.ld (hrd _) hre (q := .pointer (some ⟨L, 0, none⟩)) (h := fun _ w' _ hI _ _ _ _ => by have cl := cellsN (hI.blk HKl.out HNl.out) 0 _ rfl; go_simp; rfl)
        · refine SpecE.gen (fun e => [(20, .pointer (some ⟨B1, 0, none⟩)), (21, .agg #[.func (.func 88) #[] #[], .func (.func 89) #[] #[]]), (22, .slice A1 n1 c1), (24, .int .u64 (a1 : Int)), (25, .func (.func 63) #[] #[.pointer (some ⟨X, 0, none⟩)])]) rfl rfl (fun _ => by kernel_rfl) fun f w' e hI hf hdesc hanc hle hX K hK => ?_
          go_simp
          have z22 : f 22 = false := hdesc 60 22 (by kernel_rfl)
          refine (HL1.out w' (hI.a hf) hI.but).mono ?_
          rintro e9 w9 ⟨rfl, hb9, hr9⟩
          exact hK _ _ trivial (fun e' hp => hI.m1 z22 hb9 hr9) rfl
        · exact SpecE.ld (hrd _) hre (q := .pointer (some ⟨X, 0, none⟩)) (h := fun _ w' _ hI _ _ _ _ => by have cx := cellsN (hI.blk HKx.out HNx.out) 0 _ rfl; go_simp; rfl)
        · exact SpecE.ld (hrd _) hre (q := .pointer (some ⟨B, 1, none⟩)) (h := fun _ w' _ hI _ _ _ _ => by have cb := ro_ptrs (hI.blk HKb.out HNb.out); go_simp; rfl)
        · refine SpecE.gen (fun e => []) rfl rfl (fun _ => by kernel_rfl) fun f w' e hI hf hdesc hanc hle hX K hK => ?_
          go_simp
          refine (HOfService.out w').mono ?_
          rintro e9 w9 ⟨rfl, hb9⟩
          exact hK _ _ trivial (fun e' hp => hI.below (by decide) hb9) rfl
        · exact SpecE.ld (hrd _) hre (q := .pointer (some ⟨L, 1, none⟩)) (h := fun _ w' _ hI _ _ _ _ => by have cl := cellsN (hI.blk HKl.out HNl.out) 1 _ rfl; go_simp; rfl)
        · exact SpecE.ld (hrd _) hre (q := .pointer (some ⟨X, 0, none⟩)) (h := fun _ w' _ hI _ _ _ _ => by have cx := cellsN (hI.blk HKx.out HNx.out) 0 _ rfl; go_simp; rfl)
        · refine SpecE.gen (fun e => [(32, .pointer (some ⟨B2, 0, none⟩)), (33, .agg #[.func (.func 92) #[] #[], .func (.func 93) #[] #[]]), (34, .slice A2 n2 c2), (36, .int .u64 (a2 : Int)), (38, .func (.func 30) #[.pointer (some ⟨B, 0, none⟩)] #[])]) rfl rfl (fun _ => by kernel_rfl) fun f w' e hI hf hdesc hanc hle hX K hK => ?_
          go_simp
          have y9 : f 9 = true := hanc 60 9 (by kernel_rfl)
          refine (HL2.out w' (hI.b y9 hf rfl) hI.but).mono ?_
          rintro e9 w9 ⟨rfl, hb9, hr9⟩
          exact hK _ _ trivial (fun e' hp => hI.m2 y9 hb9 hr9) rfl
      · intro f w3 e hall hJ hle hv
        have HB9 := Lib.hid (HBl.out w3 hJ.but)
        have HNo : Hid (¬ LoadOk m ns ss cs a1 a2 a3) := Lib.hid (fun z => by have := (HGs.out.1 z).2.1; cases this)
        have v9 := hv 38 rfl
        simp only [Go.Rel.finL, List.setIfInBounds_toArray, List.set_cons_succ, List.set_cons_zero]
        rw [show e 38 = .bool true from v9]
        clear hv hall hJ hle v9
        go_wp2
        exact bodyPost_ret (v := .tuple #[.pointer none, .int .i64 2]) (by simp [results, Tryz.results22, go_sem]) rfl ⟨HB9.out, .inr ⟨HNo.out, rfl⟩⟩
    | true =>
      have hre : ∀ w : World, ((fun _ _ : World => True)) w w := (fun _ => trivial)
      have hrd : ∀ (ops9 : Array Oper) (f9 : Nat → Bool) (e9 : Nat → Value) (w9 : World) (i9 : Nat) (v9 : Value) (e8 : Nat → Value), [9, 22, 36].contains i9 = false → (fun (f : Nat → Bool) (_ : Nat → Value) (w : World) => LdR3 S W0 B B1 B2 B3 m D0 D1 D2 D3 (g3 = true) f w) f9 e9 w9 → Go.Rel.Put ops9 i9 e9 v9 e8 → (fun (f : Nat → Bool) (_ : Nat → Value) (w : World) => LdR3 S W0 B B1 B2 B3 m D0 D1 D2 D3 (g3 = true) f w) (Go.Rel.upd f9 i9) e8 w9 := (fun _ _ _ _ _ _ _ hj h _ => h.keep hj)
      refine Go.Rel.wp_tabe (by kernel_rfl) (by kernel_rfl) (fun (f : Nat → Bool) (_ : Nat → Value) (w : World) => LdR3 S W0 B B1 B2 B3 m D0 D1 D2 D3 (g3 = true) f w) ((fun _ _ : World => True)) hre ((fun _ _ _ _ _ => trivial)) (trivial) (fun _ => LdR3.start HRo2.out) (rlo3E X L B B1 B2 B3 A1 n1 c1 A2 n2 c2 A3 n3 c3 a1 a2 a3 g3) (fun _ _ _ => True) (fun i => ([] : List Nat).contains i) (fun i => ([0, 3, 4, 7, 9, 12, 15, 16, 19, 20, 22, 26, 29, 30, 33, 34, 36] : List Nat).contains i) (by kernel_rfl) (fun _ _ _ _ h _ => h) [9, 22, 36] (by decide) (hrd _) ?_ (Go.Rel.AllOf.get ?_) ?_
      · repeat (refine .cons (by first | exact Go.Rel.pure_sp rfl | exact Go.Rel.pure_yes (by kernel_rfl) (fun _ => by kernel_rfl) | exact Go.Rel.pure_no (by kernel_rfl) rfl) ?_)
        exact .nil
      · refine ⟨?_, ?_, ?_, ?_, ?_, ?_, ?_, ?_, ?_, ?_, ?_, ?_, ?_, ?_, ?_, ?_, ?_, trivial⟩
        · exact SpecE.ld (hrd _) hre (q := .pointer (some ⟨X, 0, none⟩)) (h := fun _ w' _ hI _ _ _ _ => by have cx := cellsN (hI.blk HKx.out HNx.out) 0 _ rfl; go_simp; rfl)
        · exact SpecE.ld (hrd _) hre (q := .pointer (some ⟨B, 0, none⟩)) (h := fun _ w' _ hI _ _ _ _ => by have cb := ro_ptrs (hI.blk HKb.out HNb.out); go_simp; rfl)
        · refine SpecE.gen (fun e => []) rfl rfl (fun _ => by kernel_rfl) fun f w' e hI hf hdesc hanc hle hX K hK => ?_
          go_simp
          refine (HOfNode.out w').mono ?_
          rintro e9 w9 ⟨rfl, hb9⟩
          exact hK _ _ trivial (fun e' hp => hI.below (by decide) hb9) rfl
        · exact SpecE.ld (hrd _) hre (q := .pointer (some ⟨L, 0, none⟩)) (h := fun _ w' _ hI _ _ _ _ => by have cl := cellsN (hI.blk HKl.out HNl.out) 0 _ rfl; go_simp; rfl)
        · refine SpecE.gen (fun e => [(20, .pointer (some ⟨B1, 0, none⟩)), (21, .agg #[.func (.func 88) #[] #[], .func (.func 89) #[] #[]]), (22, .slice A1 n1 c1), (24, .int .u64 (a1 : Int)), (25, .func (.func 63) #[] #[.pointer (some ⟨X, 0, none⟩)])]) rfl rfl (fun _ => by kernel_rfl) fun f w' e hI hf hdesc hanc hle hX K hK => ?_
          go_simp
          have z22 : f 22 = false := hdesc 60 22 (by kernel_rfl)
          have z36 : f 36 = false := hdesc 60 36 (by kernel_rfl)
          refine (HL1.out w' (hI.a hf) hI.but).mono ?_
          rintro e9 w9 ⟨rfl, hb9, hr9⟩
          exact hK _ _ trivial (fun e' hp => hI.m1 z22 z36 hb9 hr9) rfl
        · exact SpecE.ld (hrd _) hre (q := .pointer (some ⟨X, 0, none⟩)) (h := fun _ w' _ hI _ _ _ _ => by have cx := cellsN (hI.blk HKx.out HNx.out) 0 _ rfl; go_simp; rfl)
        · exact SpecE.ld (hrd _) hre (q := .pointer (some ⟨B, 1, none⟩)) (h := fun _ w' _ hI _ _ _ _ => by have cb := ro_ptrs (hI.blk HKb.out HNb.out); go_simp; rfl)
        · refine SpecE.gen (fun e => []) rfl rfl (fun _ => by kernel_rfl) fun f w' e hI hf hdesc hanc hle hX K hK => ?_
          go_simp
          refine (HOfService.out w').mono ?_
          rintro e9 w9 ⟨rfl, hb9⟩
          exact hK _ _ trivial (fun e' hp => hI.below (by decide) hb9) rfl
        · exact SpecE.ld (hrd _) hre (q := .pointer (some ⟨L, 1, none⟩)) (h := fun _ w' _ hI _ _ _ _ => by have cl := cellsN (hI.blk HKl.out HNl.out) 1 _ rfl; go_simp; rfl)
        · exact SpecE.ld (hrd _) hre (q := .pointer (some ⟨X, 0, none⟩)) (h := fun _ w' _ hI _ _ _ _ => by have cx := cellsN (hI.blk HKx.out HNx.out) 0 _ rfl; go_simp; rfl)
        · refine SpecE.gen (fun e => [(32, .pointer (some ⟨B2, 0, none⟩)), (33, .agg #[.func (.func 92) #[] #[], .func (.func 93) #[] #[]]), (34, .slice A2 n2 c2), (36, .int .u64 (a2 : Int)), (38, .func (.func 30) #[.pointer (some ⟨B, 0, none⟩)] #[])]) rfl rfl (fun _ => by kernel_rfl) fun f w' e hI hf hdesc hanc hle hX K hK => ?_
          go_simp
          have z36 : f 36 = false := hdesc 60 36 (by kernel_rfl)
          have y9 : f 9 = true := hanc 60 9 (by kernel_rfl)
          refine (HL2.out w' (hI.b y9 hf rfl) hI.but).mono ?_
          rintro e9 w9 ⟨rfl, hb9, hr9⟩
          exact hK _ _ trivial (fun e' hp => hI.m2 z36 y9 hb9 hr9) rfl
        · exact SpecE.ld (hrd _) hre (q := .pointer (some ⟨X, 0, none⟩)) (h := fun _ w' _ hI _ _ _ _ => by have cx := cellsN (hI.blk HKx.out HNx.out) 0 _ rfl; go_simp; rfl)
        · exact SpecE.ld (hrd _) hre (q := .pointer (some ⟨B, 2, none⟩)) (h := fun _ w' _ hI _ _ _ _ => by have cb := ro_ptrs (hI.blk HKb.out HNb.out); go_simp; rfl)
        · refine SpecE.gen (fun e => []) rfl rfl (fun _ => by kernel_rfl) fun f w' e hI hf hdesc hanc hle hX K hK => ?_
          go_simp
          refine (HOfCheck.out w').mono ?_
          rintro e9 w9 ⟨rfl, hb9⟩
          exact hK _ _ trivial (fun e' hp => hI.below (by decide) hb9) rfl
        · exact SpecE.ld (hrd _) hre (q := .pointer (some ⟨L, 2, none⟩)) (h := fun _ w' _ hI _ _ _ _ => by have cl := cellsN (hI.blk HKl.out HNl.out) 2 _ rfl; go_simp; rfl)
        · exact SpecE.ld (hrd _) hre (q := .pointer (some ⟨X, 0, none⟩)) (h := fun _ w' _ hI _ _ _ _ => by have cx := cellsN (hI.blk HKx.out HNx.out) 0 _ rfl; go_simp; rfl)
        · refine SpecE.gen (fun e => [(46, .pointer (some ⟨B3, 0, none⟩)), (47, .agg #[.func (.func 96) #[] #[], .func (.func 97) #[] #[]]), (48, .slice A3 n3 c3), (50, .int .u64 (a3 : Int)), (52, .func (.func 20) #[.pointer (some ⟨B, 0, none⟩)] #[])]) rfl rfl (fun _ => by kernel_rfl) fun f w' e hI hf hdesc hanc hle hX K hK => ?_
          go_simp
          have y9 : f 9 = true := hanc 60 9 (by kernel_rfl)
          have y22 : f 22 = true := hanc 60 22 (by kernel_rfl)
          refine (HL3.out w' (hI.c y22 hf rfl) hI.but).mono ?_
          rintro e9 w9 ⟨rfl, hb9, hr9⟩
          exact hK _ _ trivial (fun e' hp => hI.m3 y9 y22 hb9 hr9) rfl
      · intro f w3 e hall hJ hle hv
        have HB9 := Lib.hid (HBl.out w3 hJ.but)
        have hx9 := cellsN (hJ.blk HKx.out HNx.out) 0 _ rfl
        have HR9 : Hid (g3 = true → RoAt (fun q => w.heap.size ≤ q ∨ q = gPw) w3 B B1 B2 B3 m D3) := Lib.hid (fun z => (hJ.d (hall 36 (by decide)) z).narrow fun q _ y => HSd.out q y)
        have v9 := hv 38 rfl
        simp only [Go.Rel.finL, List.setIfInBounds_toArray, List.set_cons_succ, List.set_cons_zero]
        rw [show e 38 = .bool (!g3) from v9]
        clear hv hall hJ hle v9
        cases g3 with
        | false =>
          have HNo : Hid (¬ LoadOk m ns ss cs a1 a2 a3) := Lib.hid (fun z => by have := (HGs.out.1 z).2.2; cases this)
          clear hx9
          go_wp2
          exact bodyPost_ret (v := .tuple #[.pointer none, .int .i64 2]) (by simp [results, Tryz.results22, go_sem]) rfl ⟨HB9.out, .inr ⟨HNo.out, rfl⟩⟩
        | true =>
          have HYes : Hid (LoadOk m ns ss cs a1 a2 a3) := Lib.hid (HGs.out.2 ⟨rfl, rfl, rfl⟩)
          go_wp2
          exact bodyPost_ret (v := .tuple #[.pointer (some ⟨B, 0, none⟩), .int .i64 0]) (by simp [results, Tryz.results22, go_sem]) rfl ⟨HB9.out, .inl ⟨HYes.out, B, B1, B2, B3, rfl, by rw [HD3.out]; first | exact HR9.out rfl | exact HR9.out trivial⟩⟩
end Go.Proofs.YtilkbfmaofmjoaaGreatDoor
namespace Go.Proofs.YtilkbfmaofmjoaaGreatDoor
open Go.RowKit Go.Rel
set_option linter.unusedSimpArgs false
set_option linter.unusedVariables false
def badB (pn : Int) (pid : ByteArray) (n : Int) (id : ByteArray) : Bool := decide (n < pn) || (decide (pn = n) && !ltT pid id)
theorem badB_is {pn n : Int} {pid id : ByteArray} (h1 : nodeB pn = true) (h2 : nodeB n = true) : badB pn pid n id = !ltT (keyO pn pid) (keyO n id) := by
  unfold badB
  rw [lt_iff h1 h2]
  rcases Int.lt_trichotomy pn n with q | q | q
  · rw [decide_eq_false (show ¬ n < pn by omega), decide_eq_false (show ¬ pn = n by omega), decide_eq_true q]
    simp
  · subst q
    simp
  · rw [decide_eq_true q, decide_eq_false (show ¬ pn < n by omega), decide_eq_false (show ¬ pn = n by omega)]
    simp
theorem badN_is (pn n : Int) : badB pn noT n noT = decide (n ≤ pn) := by
  unfold badB
  rw [ltT_irr]
  rcases Int.lt_trichotomy pn n with q | q | q
  · rw [decide_eq_false (show ¬ n < pn by omega), decide_eq_false (show ¬ pn = n by omega), decide_eq_false (show ¬ n ≤ pn by omega)]
    rfl
  · subst q
    simp
  · rw [decide_eq_true q, decide_eq_true (show n ≤ pn by omega)]
    rfl
section
variable {α : Type} {wr : α → Nat} {ky : α → ByteArray} {m a : Nat} {l : List (Rw α)} {k : Nat} {nd : α → Int} {idd : α → ByteArray}
theorem Gd.ord_bad (hkn : ∀ x, ky x = keyO (nd x) (idd x)) (hwn : ∀ x, wr x = 0 → nodeB (nd x) = true) (hk0 : 0 < k) (hk : k < l.length) (hky : ∀ x ∈ l, x.key = ky x.val) (hb : badB (nd (l[k - 1]'(by omega)).val) (idd (l[k - 1]'(by omega)).val) (nd l[k].val) (idd l[k].val) = true) : ¬ Gd wr ky m l a := by
  intro h
  have hk1 : k - 1 < l.length := by omega
  have h1 := h.row _ (List.getElem_mem hk1)
  have h2 := h.row _ (List.getElem_mem hk)
  have h3 := h.rise.get hk (i := k - 1) (by omega)
  rw [hky _ (List.getElem_mem hk1), hky _ (List.getElem_mem hk), hkn, hkn] at h3
  rw [badB_is (hwn _ h1.1) (hwn _ h2.1), h3] at hb
  cases hb
theorem Gd.ord_ok (hkn : ∀ x, ky x = keyO (nd x) (idd x)) (hwn : ∀ x, wr x = 0 → nodeB (nd x) = true) (hg : Gd wr ky m (l.take k) a) (hk : k < l.length) (hky : ∀ x ∈ l, x.key = ky x.val) (hx : wr l[k].val = 0) (h : k = 0 ∨ (0 < k ∧ badB (nd (l[k - 1]'(by omega)).val) (idd (l[k - 1]'(by omega)).val) (nd l[k].val) (idd l[k].val) = false)) : ltT (befK l k) l[k].key = true := by
  cases k with
  | zero =>
    rw [hky _ (List.getElem_mem hk), hkn]
    exact key_pos _ _
  | succ k =>
    rcases h with h | ⟨_, h⟩
    · omega
    have hk1 : k < l.length := by omega
    have hp : wr l[k].val = 0 := (hg.row l[k] (List.mem_take_iff_getElem.2 ⟨k, by omega, rfl⟩)).1
    rw [befK_succ hk1, hky _ (List.getElem_mem hk1), hky _ (List.getElem_mem hk), hkn, hkn]
    have h9 := badB_is (pid := idd l[k].val) (id := idd l[k + 1].val) (hwn _ hp) (hwn _ hx)
    have e9 : badB (nd l[k].val) (idd l[k].val) (nd l[k + 1].val) (idd l[k + 1].val) = false := h
    rw [h9] at e9
    simpa using e9
end
theorem wrongN_nd (x : NdA) (h : wrongN x = 0) : nodeB x.node = true := (wrongN_ok.1 h).node
theorem wrongS_nd (d : Ro) (x : SvA) (h : d.wrongS x = 0) : nodeB x.node = true := (wrongS_ok.1 h).1.node
theorem wrongC_nd (d : Ro) (x : CkA) (h : d.wrongC x = 0) : nodeB x.node = true := (wrongC_ok.1 h).1.node
section
variable {base : Nat} {w1 w' wr W0 w : World} {D m L : Nat} {lc : Array Value} {T : TypeId} {d d' D0 D1 D2 : Ro}
structure LdD (base : Nat) (w1 : World) (D m L : Nat) (lc : Array Value) (T : TypeId) (d : Ro) (wr : World) : Prop where
  ro : RdAt base (fun q => q = D ∨ w1.heap.size ≤ q) wr D m d
  but : But (· = D) w1 wr
  bl : wr.heap[L]? = some (.cells lc T (0, 0))
  ne : L ≠ D ∧ D < w1.heap.size ∧ base ≤ D ∧ base ≤ w1.heap.size
theorem LdD.start (h : RdAt base (· = D) w1 D m d) (hl : w1.heap[L]? = some (.cells lc T (0, 0))) (hn : L ≠ D) : LdD base w1 D m L lc T d w1 :=
  ⟨h.narrow (fun _ _ z => .inl z) (fun k z => z.elim (fun e => by rw [e]; exact h.lo _ h.mine) fun e => Nat.le_trans h.top e), But.refl _ _, hl, hn, h.lt, h.lo _ h.mine, h.top⟩
theorem LdD.step (h : LdD base w1 D m L lc T d wr) {n : Nat} (hn : w1.heap.size ≤ n) (hr : RdAt base (fun q => (q = D ∨ w1.heap.size ≤ q) ∨ n ≤ q) w' D m d') (hb : But (· = D) wr w') : LdD base w1 D m L lc T d' w' :=
  ⟨hr.narrow (fun k _ z => z.elim id fun z => .inr (by omega)) (fun k z => z.elim (fun e => by rw [e]; exact h.ne.2.2.1) fun e => Nat.le_trans h.ne.2.2.2 e), h.but.trans hb, (hb.block L (block_lt h.bl) h.ne.1).trans h.bl, h.ne⟩
theorem LdD.below (h : LdD base w1 D m L lc T d wr) (hb : Below wr.heap.size wr w') : LdD base w1 D m L lc T d w' :=
  ⟨h.ro.below hb, h.but.trans (But.of_below hb), (hb.block L (block_lt h.bl)).trans h.bl, h.ne⟩
theorem LdD.of (h : LdD base w1 D m L lc T d wr) (hb : But (· = D) wr w') (hr : RdAt base (fun q => q = D ∨ w1.heap.size ≤ q) w' D m d') : LdD base w1 D m L lc T d' w' :=
  ⟨hr, h.but.trans hb, (hb.block L (block_lt h.bl) h.ne.1).trans h.bl, h.ne⟩
def RdLoPost (w : World) (m : Nat) (P : Prop) (D : Ro) (e : Ending) (w' : World) : Prop :=
  Below w.heap.size w w' ∧ ((P ∧ ∃ B S, e = .returned (.pointer (some ⟨B, 0, none⟩)) ∧ RdAt w.heap.size S w' B m D) ∨ (¬ P ∧ e = .returned (.pointer none)))
theorem RdLoPost.no {P : Prop} (hb : Below w.heap.size w w') (h : ¬ P) : RdLoPost w m P d (.returned (.pointer none)) w' := ⟨hb, .inr ⟨h, rfl⟩⟩
structure LdQ1 (base : Nat) (w1 : World) (D m : Nat) (W0 : World) (D0 : Ro) (i1 : Nat) (f : Nat → Bool) (w : World) : Prop where
  but : But (· = D) W0 w
  a : f i1 = false → RdAt base (fun q => q = D ∨ w1.heap.size ≤ q) w D m D0
structure LdQ2 (base : Nat) (w1 : World) (D m : Nat) (W0 : World) (D0 D1 D2 : Ro) (i1 i2 : Nat) (f : Nat → Bool) (w : World) : Prop where
  but : But (· = D) W0 w
  a : f i1 = false → RdAt base (fun q => q = D ∨ w1.heap.size ≤ q) w D m D0
  b : f i1 = true → f i2 = false → RdAt base (fun q => q = D ∨ w1.heap.size ≤ q) w D m D1
  c : f i2 = true → RdAt base (fun q => q = D ∨ w1.heap.size ≤ q) w D m D2
variable {f : Nat → Bool} {i1 i2 : Nat}
theorem LdQ1.start (h : RdAt base (fun q => q = D ∨ w1.heap.size ≤ q) W0 D m D0) : LdQ1 base w1 D m W0 D0 i1 (fun _ => false) { W0 with drawn := W0.drawn + 1 } :=
  ⟨(But.refl _ _).drew, fun _ => h.below (w' := { W0 with drawn := W0.drawn + 1 }) ⟨rfl, rfl, rfl, Nat.le_refl _, fun _ _ => rfl⟩⟩
theorem LdQ1.keep {j : Nat} (hj : [i1].contains j = false) (h : LdQ1 base w1 D m W0 D0 i1 f w) : LdQ1 base w1 D m W0 D0 i1 (Go.Rel.upd f j) w := by
  simp only [List.contains_cons, List.contains_nil, Bool.or_false, beq_eq_false_iff_ne] at hj
  exact ⟨h.but, by rw [ale_off hj]; exact h.a⟩
theorem LdQ1.m1 (h : LdQ1 base w1 D m W0 D0 i1 f w) (hb : But (· = D) w w') : LdQ1 base w1 D m W0 D0 i1 (Go.Rel.upd f i1) w' :=
  ⟨h.but.trans hb, fun z => by rw [ale_on] at z; cases z⟩
theorem LdQ1.blk (h : LdQ1 base w1 D m W0 D0 i1 f w) {Y : Nat} {c : Array Value} {t : TypeId} (hk : W0.heap[Y]? = some (.cells c t (0, 0))) (hn : Y ≠ D) : w.heap[Y]? = some (.cells c t (0, 0)) := (h.but.block Y (block_lt hk) hn).trans hk
theorem LdQ2.start (h : RdAt base (fun q => q = D ∨ w1.heap.size ≤ q) W0 D m D0) : LdQ2 base w1 D m W0 D0 D1 D2 i1 i2 (fun _ => false) { W0 with drawn := W0.drawn + 1 } :=
  ⟨(But.refl _ _).drew, fun _ => h.below (w' := { W0 with drawn := W0.drawn + 1 }) ⟨rfl, rfl, rfl, Nat.le_refl _, fun _ _ => rfl⟩, (fun z => by cases z), (fun z => by cases z)⟩
theorem LdQ2.keep {j : Nat} (hj : [i1, i2].contains j = false) (h : LdQ2 base w1 D m W0 D0 D1 D2 i1 i2 f w) : LdQ2 base w1 D m W0 D0 D1 D2 i1 i2 (Go.Rel.upd f j) w := by
  simp only [List.contains_cons, List.contains_nil, Bool.or_false, Bool.or_eq_false_iff, beq_eq_false_iff_ne] at hj
  refine ⟨h.but, ?_, ?_, ?_⟩
  · rw [ale_off hj.1]; exact h.a
  · rw [ale_off hj.1, ale_off hj.2]; exact h.b
  · rw [ale_off hj.2]; exact h.c
theorem LdQ2.m1 (h : LdQ2 base w1 D m W0 D0 D1 D2 i1 i2 f w) (hi : i2 ≠ i1) (z2 : f i2 = false) (hn : w1.heap.size ≤ w.heap.size ∧ base ≤ D ∧ base ≤ w1.heap.size) (hb : But (· = D) w w') (hr : RdAt base (fun q => (q = D ∨ w1.heap.size ≤ q) ∨ w.heap.size ≤ q) w' D m D1) : LdQ2 base w1 D m W0 D0 D1 D2 i1 i2 (Go.Rel.upd f i1) w' := by
  refine ⟨h.but.trans hb, fun z => (by rw [ale_on] at z; cases z), fun _ _ => hr.narrow (fun k _ z => z.elim id fun z => .inr (by omega)) (fun k z => z.elim (fun e => by rw [e]; exact hn.2.1) fun e => Nat.le_trans hn.2.2 e), fun z => ?_⟩
  rw [ale_off hi.symm, z2] at z
  cases z
theorem LdQ2.m2 (h : LdQ2 base w1 D m W0 D0 D1 D2 i1 i2 f w) (hi : i1 ≠ i2) (y1 : f i1 = true) (hn : w1.heap.size ≤ w.heap.size ∧ base ≤ D ∧ base ≤ w1.heap.size) (hb : But (· = D) w w') (hr : RdAt base (fun q => (q = D ∨ w1.heap.size ≤ q) ∨ w.heap.size ≤ q) w' D m D2) : LdQ2 base w1 D m W0 D0 D1 D2 i1 i2 (Go.Rel.upd f i2) w' := by
  refine ⟨h.but.trans hb, fun z => ?_, fun _ z => ?_, fun _ => hr.narrow (fun k _ z => z.elim id fun z => .inr (by omega)) (fun k z => z.elim (fun e => by rw [e]; exact hn.2.1) fun e => Nat.le_trans hn.2.2 e)⟩
  · rw [ale_off hi.symm, y1] at z; cases z
  · rw [ale_on] at z; cases z
theorem LdQ2.blk (h : LdQ2 base w1 D m W0 D0 D1 D2 i1 i2 f w) {Y : Nat} {c : Array Value} {t : TypeId} (hk : W0.heap[Y]? = some (.cells c t (0, 0))) (hn : Y ≠ D) : w.heap[Y]? = some (.cells c t (0, 0)) := (h.but.block Y (block_lt hk) hn).trans hk
end
end Go.Proofs.YtilkbfmaofmjoaaGreatDoor
