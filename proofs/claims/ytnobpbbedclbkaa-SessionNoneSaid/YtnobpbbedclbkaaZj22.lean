/-
  What a region that draws its order has done, where one operation (n) comes last of all and is the only one that changes what was there: ahead of it nothing old has changed (TI); and 's.f = append(s.f, y)' where the row's value stands in a cell of a block (ApF). Own law's words, of whatever program.
-/
import Derived.Test.YtnobpbbedclbkaaZj18
import Derived.Test.YtnobpbbedclbkaaZj20
import Derived.Test.YtnobpbbedclbkaaZj2
import Derived.Test.YtnobpbbedclbkaaZj21
import Derived.Maps.AppendAt
namespace Go.Proofs.Ytnobpbbedclbkaa
open Go.RowKit
set_option linter.unusedSimpArgs false
set_option linter.unusedVariables false

/-- Ahead of operation n nothing old has changed; behind it P holds. -/
structure TI (n : Nat) (w0 : World) (P : World → Prop) (f : Nat → Bool) (w : World) : Prop where
  ahead : f n = false → Below w0.heap.size w0 w
  done_ : f n = true → P w
/-- Blocks that were there. -/
def OldB (w0 : World) : Nat → Prop := fun k => k < w0.heap.size
section
variable {n : Nat} {w0 w w' : World} {P : World → Prop} {f : Nat → Bool}
theorem TI.start : TI n w0 P (fun _ => false) { w0 with drawn := w0.drawn + 1 } := ⟨fun _ => ⟨rfl, rfl, rfl, Nat.le_refl _, fun _ _ => rfl⟩, (fun h => by cases h)⟩
theorem TI.read (h : TI n w0 P f w) {j : Nat} (hj : j ≠ n) : TI n w0 P (Go.Rel.upd f j) w := ⟨by rw [acc_upd_off hj]; exact h.ahead, by rw [acc_upd_off hj]; exact h.done_⟩
theorem TI.below (h : TI n w0 P f w) (zn : f n = false) (hb : Below w.heap.size w w') {j : Nat} (hj : j ≠ n) : TI n w0 P (Go.Rel.upd f j) w' :=
  ⟨fun _ => (h.ahead zn).trans (hb.mono (h.ahead zn).size), (fun e => by rw [acc_upd_off hj, zn] at e; cases e)⟩
theorem TI.last (h : P w') : TI n w0 P (Go.Rel.upd f n) w' := ⟨(fun e => by rw [acc_upd_on] at e; cases e), fun _ => h⟩
theorem OldB.of_below (h : Below w0.heap.size w0 w) (hb : Below w.heap.size w w') : But (OldB w0) w w' := But.of_below hb
theorem OldB.drew : But (OldB w0) w0 { w0 with drawn := w0.drawn + 1 } := (But.refl _ _).drew
end

/-- A row made since stands where only what was there changes. -/
theorem own_old {w0 w w' : World} {e : TypeId} {sz m : Nat} {v : Value} {xs : List Value} (h : w.ownsRow w0.heap.size e sz v m xs) (g : But (OldB w0) w w') : w'.ownsRow w0.heap.size e sz v m xs :=
  own_but h g (fun j hj hs => by
    rcases h.2 with ⟨rfl, _⟩ | ⟨b, _, _, rfl, hb, _⟩
    · cases hj
    · cases hj; exact absurd hs (Nat.not_lt.2 hb))
theorem But.oldB {w0 w w' : World} {T : Nat → Prop} (h : But T w w') (hT : ∀ k, T k → k < w0.heap.size) : But (OldB w0) w w' := h.mono hT

/-- Two operations change what was there: r, then n. Ahead of r nothing old has changed, between them A holds, behind n P. -/
structure TI2 (r n : Nat) (w0 : World) (A P : World → Prop) (f : Nat → Bool) (w : World) : Prop where
  ahead : f r = false → Below w0.heap.size w0 w
  mid : f r = true → f n = false → A w
  done_ : f n = true → P w
section
variable {r n : Nat} {w0 w w' : World} {A P : World → Prop} {f : Nat → Bool}
theorem TI2.start : TI2 r n w0 A P (fun _ => false) { w0 with drawn := w0.drawn + 1 } := ⟨fun _ => ⟨rfl, rfl, rfl, Nat.le_refl _, fun _ _ => rfl⟩, (fun h => by cases h), (fun h => by cases h)⟩
theorem TI2.read (h : TI2 r n w0 A P f w) {j : Nat} (hj : j ≠ r ∧ j ≠ n) : TI2 r n w0 A P (Go.Rel.upd f j) w := ⟨by rw [acc_upd_off hj.1]; exact h.ahead, by rw [acc_upd_off hj.1, acc_upd_off hj.2]; exact h.mid, by rw [acc_upd_off hj.2]; exact h.done_⟩
theorem TI2.below (h : TI2 r n w0 A P f w) (zn : f n = false) (hb : Below w.heap.size w w') (hA : ∀ w w', A w → Below w.heap.size w w' → A w') {j : Nat} (hj : j ≠ r ∧ j ≠ n) : TI2 r n w0 A P (Go.Rel.upd f j) w' :=
  ⟨fun z => by rw [acc_upd_off hj.1] at z; exact (h.ahead z).trans (hb.mono (h.ahead z).size), fun z _ => by rw [acc_upd_off hj.1] at z; exact hA _ _ (h.mid z zn) hb, (fun e => by rw [acc_upd_off hj.2, zn] at e; cases e)⟩
theorem TI2.first (h : TI2 r n w0 A P f w) (zn : f n = false) (hne : r ≠ n) (hA : A w') : TI2 r n w0 A P (Go.Rel.upd f r) w' :=
  ⟨(fun e => by rw [acc_upd_on] at e; cases e), fun _ _ => hA, (fun e => by rw [acc_upd_off hne, zn] at e; cases e)⟩
theorem TI2.last (zr : f r = true) (hne : r ≠ n) (h : P w') : TI2 r n w0 A P (Go.Rel.upd f n) w' :=
  ⟨(fun e => by rw [acc_upd_off (Ne.symm hne), zr] at e; cases e), (fun _ e => by rw [acc_upd_on] at e; cases e), fun _ => h⟩
theorem TI2.but {S : Nat → Prop} (h : TI2 r n w0 A P f w) (zn : f n = false) (hA : ∀ w, A w → But S w0 w) : But S w0 w := by
  cases z : f r with
  | false => exact But.of_below (h.ahead z)
  | true => exact hA _ (h.mid z zn)
end

/-! ### s.f = append(s.f, y) -/
structure ApF {α : Type} (enc : α → List Value) (E : TypeId) (k B off iB iA iS tB tA : Nat) (v0 : Value) (L : List α) (y : α) (w0 : World) (f : Nat → Bool) (a : Act) (w : World) : Prop where
  pre : f iA = false → Below w0.heap.size w0 w
  but : But (fun j => v0.ownBlock = some j ∨ j = B) w0 w
  blk : f iS = false → w.heap[B]? = w0.heap[B]?
  built : f iB = true → f iA = false → ∀ v, a.tmps[tB]? = some v → ∃ X, v = .slice (some ⟨X, 0, none⟩) 1 1 ∧ ItAt enc w X 0 y
  app : f iA = true → ∀ v, a.tmps[tA]? = some v → rowK enc E k w 0 v (L ++ [y]) ∧ (v.ownBlock = v0.ownBlock ∨ ∃ b, v.ownBlock = some b ∧ w0.heap.size ≤ b)
  fin : f iS = true → ∃ v, rowK enc E k w 0 v (L ++ [y]) ∧ (v.ownBlock = v0.ownBlock ∨ ∃ b, v.ownBlock = some b ∧ w0.heap.size ≤ b) ∧ ∀ cs t fr, w0.heap[B]? = some (.cells cs t fr) → w.heap[B]? = some (.cells (cs.setIfInBounds off v) t fr)
section
variable {α : Type} {enc : α → List Value} {E : TypeId} {k B off iB iA iS tB tA : Nat} {v0 : Value} {L : List α} {y : α} {w0 : World} {f : Nat → Bool} {a : Act} {w : World}
theorem ApF.start : ApF enc E k B off iB iA iS tB tA v0 L y w0 (fun _ => false) a { w0 with drawn := w0.drawn + 1 } :=
  ⟨fun _ => ⟨rfl, rfl, rfl, Nat.le_refl _, fun _ _ => rfl⟩, (But.refl _ _).drew, fun _ => rfl, (fun h => by cases h), (fun h => by cases h), (fun h => by cases h)⟩
theorem ApF.keep (h : ApF enc E k B off iB iA iS tB tA v0 L y w0 f a w) {j t : Nat} (hj : j ≠ iB ∧ j ≠ iA ∧ j ≠ iS) (ht : t ≠ tB ∧ t ≠ tA) (v : Value) : ApF enc E k B off iB iA iS tB tA v0 L y w0 (Go.Rel.upd f j) (a.put (some t) v) w := by
  obtain ⟨j1, j2, j3⟩ := hj
  obtain ⟨t1, t2⟩ := ht
  refine ⟨?_, h.but, ?_, ?_, ?_, ?_⟩
  · rw [acc_upd_off j2]; exact h.pre
  · rw [acc_upd_off j3]; exact h.blk
  · rw [acc_upd_off j1, acc_upd_off j2, acc_put_off t1]; exact h.built
  · rw [acc_upd_off j2, acc_put_off t2]; exact h.app
  · rw [acc_upd_off j3]; exact h.fin
/-- The element is laid. -/
theorem ApF.lay (h : ApF enc E k B off iB iA iS tB tA v0 L y w0 f a w) (h1 : iB ≠ iA ∧ iB ≠ iS ∧ tB ≠ tA) (zA : f iA = false) (zS : f iS = false) (hB : B < w0.heap.size) (cs : Array Value) (hcs : cs.toList = enc y) (T : TypeId) :
    ApF enc E k B off iB iA iS tB tA v0 L y w0 (Go.Rel.upd f iB) (a.put (some tB) (.slice (some ⟨w.heap.size, 0, none⟩) 1 1)) (w.alloc (.cells cs T)) := by
  obtain ⟨i1, i2, t1⟩ := h1
  have hp := h.pre zA
  refine ⟨fun _ => hp.alloc hp.size _, h.but.alloc _, ?_, fun _ _ v hv => ⟨w.heap.size, acc_put_at hv, ItAt.of_new y cs hcs T⟩, ?_, ?_⟩
  · intro _
    rw [heap_alloc_old _ _ (Nat.lt_of_lt_of_le hB hp.size)]
    exact h.blk zS
  · rw [acc_upd_off i1, zA]; exact fun h => by cases h
  · rw [acc_upd_off i2, zS]; exact fun h => by cases h
/-- It is appended. -/
theorem ApF.append {P : Program} (h : ApF enc E k B off iB iA iS tB tA v0 L y w0 f a w) (h1 : iA ≠ iS ∧ iB ≠ iA) (zB : f iB = true) (zA : f iA = false) (zS : f iS = false) (hown : rowK enc E k w0 0 v0 L) (hne : v0.ownBlock ≠ some B) (hB : B < w0.heap.size)
    (T ty : TypeId) (i : TypeInfo) (z : Value) (bytes : Nat) (ht : P.underlying T = some (.slice E)) (hi : P.info? E = some i) (hz : i.zero = some z) (hsize : i.size = k) (hby : i.bytes = bytes) (hzs : z.cells.size = k) (hk0 : 0 < k)
    (hk : ∀ x, (enc x).length = k) (h1' : ∀ x, ∀ u ∈ enc x, u.oneCell' = true) (h63 : L.length + 1 ≤ maxLen) (hbytes : (L.length + 1) * bytes ≤ 140737488355328) {vx : Value} (hx : a.tmps[tB]? = some vx) :
    ∃ v' w', (Builtin.append_ #[T, T] ty #[v0, vx]).run P w = .ok v' w' ∧ But (fun j => v0.ownBlock = some j ∨ j = B) w w' ∧ ApF enc E k B off iB iA iS tB tA v0 L y w0 (Go.Rel.upd f iA) (a.put (some tA) v') w' := by
  obtain ⟨i1, i2⟩ := h1
  obtain ⟨X, rfl, hX⟩ := h.built zB zA vx hx
  have hp := h.pre zA
  have ho : rowK enc E k w 0 v0 L := bown_keep hown hp
  obtain ⟨v', w', hrun, ho', hg, _, hloc⟩ := run_append_own_at (P := P) w 0 T ty E i z k bytes ht hi hz hsize hby hzs hk0 v0 L.length (L.flatMap enc) ho ⟨X, 0, none⟩ 1 1 (enc y) (by rw [hk]; omega) (fun j u hu => by
    rw [plain_add]
    exact hX j u hu) (h1' y) h63 hbytes (Nat.zero_le _)
  have hb : But (fun j => v0.ownBlock = some j ∨ j = B) w w' := But.of_grown hg (fun r e _ => .inl e)
  have hB' : w'.heap[B]? = w.heap[B]? := hg.block B (Nat.lt_of_lt_of_le hB hp.size) (fun e => hne e.symm)
  refine ⟨v', w', hrun, hb, ?_, h.but.trans hb, fun _ => hB'.trans (h.blk zS), ?_, ?_, ?_⟩
  · rw [acc_upd_on]; exact fun h => by cases h
  · rw [acc_upd_on]; exact fun _ h => by cases h
  · intro _ v hv
    rw [acc_put_at hv]
    refine ⟨?_, ?_⟩
    · unfold rowK
      rw [List.flatMap_append, List.length_append, List.flatMap_cons, List.flatMap_nil, List.append_nil]
      exact ho'
    · rcases hloc with e | e
      · exact .inl e
      · exact .inr ⟨_, e, hp.size⟩
  · rw [acc_upd_off i1, zS]; exact fun h => by cases h
/-- The cell gets the row. -/
theorem ApF.store (h : ApF enc E k B off iB iA iS tB tA v0 L y w0 f a w) (h1 : iA ≠ iS) (zA : f iA = true) (zS : f iS = false) (hne : v0.ownBlock ≠ some B) (hB : B < w0.heap.size) {v : Value} (hv : a.tmps[tA]? = some v) (o : Option Nat) (ho : o = none) (u : Value) :
    But (fun j => v0.ownBlock = some j ∨ j = B) w (w.setCell ⟨B, off, none⟩ v) ∧ ApF enc E k B off iB iA iS tB tA v0 L y w0 (Go.Rel.upd f iS) (a.put o u) (w.setCell ⟨B, off, none⟩ v) := by
  subst ho
  obtain ⟨hr, hl⟩ := h.app zA v hv
  have hb : But (fun j => v0.ownBlock = some j ∨ j = B) w (w.setCell ⟨B, off, none⟩ v) := But.set (S := fun j => v0.ownBlock = some j ∨ j = B) w (p := ⟨B, off, none⟩) (.inr rfl) v
  have hb1 : But (· = B) w (w.setCell ⟨B, off, none⟩ v) := But.set (S := (· = B)) w (p := ⟨B, off, none⟩) rfl v
  have hvB : ∀ j, v.ownBlock = some j → ¬ j = B := fun j hj e => by
    subst e
    rcases hl with e | ⟨b, e, hb⟩
    · exact hne (e.symm.trans hj)
    · rw [hj] at e; cases e; omega
  refine ⟨hb, ?_, h.but.trans hb, ?_, ?_, ?_, ?_⟩
  · rw [acc_upd_off (Ne.symm h1), zA]; exact fun h => by cases h
  · rw [acc_upd_on]; exact fun h => by cases h
  · intro e1 e2
    rw [acc_upd_off (Ne.symm h1), zA] at e2; cases e2
  · intro _ v2 hv2
    have : v2 = v := by
      have h3 : (a.put none u).tmps[tA]? = a.tmps[tA]? := rfl
      rw [h3, hv] at hv2
      exact (Option.some.inj hv2).symm
    subst this
    exact ⟨hr.but hb1 hvB, hl⟩
  · intro _
    refine ⟨v, hr.but hb1 hvB, hl, fun cs t fr hcs => ?_⟩
    exact block_set ((h.blk zS).trans hcs) off v
end
/-- A struct is built. -/
theorem stepOf_build {P : Program} {ops : Array Oper} {Q : Exit → Act → World → Prop} {o : Oper} {K : Act → World → Prop} {a : Act} {w : World} (t : TypeId) (parts : Array (Nat × Operand)) (ho : o.op = .build t parts) (hg : o.guard = none) (cs : Array Value)
    (hb : P.built t (parts.map fun (i, x) => (i, a.eval x)).toList = some cs) (h : K (a.put o.dst (.agg cs)) w) : Go.Rel.stepOf P ops Q o K a w := by
  unfold Go.Rel.stepOf
  rw [if_pos (by simp [Region.wanted, hg])]
  exact wp_build t parts ho (by rw [hb]; rfl) (by rw [hb]; exact h)
/-- A struct is laid in a block of its own. -/
theorem stepOf_box {P : Program} {ops : Array Oper} {Q : Exit → Act → World → Prop} {o : Oper} {K : Act → World → Prop} {a : Act} {w : World} (t : TypeId) (x : Operand) (ho : o.op = .box t x) (hg : o.guard = none) (cs : Array Value) (hx : a.eval x = .agg cs)
    (h : K (a.put o.dst (.pointer (some ⟨w.heap.size, 0, none⟩))) (w.alloc (.cells cs t))) : Go.Rel.stepOf P ops Q o K a w := by
  unfold Go.Rel.stepOf
  rw [if_pos (by simp [Region.wanted, hg])]
  unfold Oper.wp execOp
  simp only [ho, hx]
  simp [Instr.box, newVar, newRow, Value.cells, go_sem]
  exact h
end Go.Proofs.Ytnobpbbedclbkaa
