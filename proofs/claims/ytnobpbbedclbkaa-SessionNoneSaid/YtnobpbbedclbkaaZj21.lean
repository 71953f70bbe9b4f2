/-
  'xs = append(xs, u)' as a region that draws its order, u read off memory that the append leaves alone: what has been done, for wp_region_acts (own law's words, of whatever program). Rows of one-cell elements.
-/
import Derived.Test.YtnobpbbedclbkaaZj1
import Derived.Test.YtnobpbbedclbkaaZj20
namespace Go.Proofs.Ytnobpbbedclbkaa
open Go.RowKit
set_option linter.unusedSimpArgs false

theorem acc_stepOf_append {P : Program} {ops : Array Oper} {Q : Exit → Act → World → Prop} {o : Oper} {K : Act → World → Prop} {a : Act} {w w' : World} {v vx v' : Value} (s x : Operand) (t : TypeId)
    (ho : o.op = .call { callee := .builtin .append, args := #[s, x], argTypes := #[t, t] }) (hg : o.guard = none) (hs : a.eval s = v) (hx : a.eval x = vx)
    (hr : (Builtin.append_ #[t, t] o.type #[v, vx]).run P w = .ok v' w') (h : K (a.put o.dst v') w') : Go.Rel.stepOf P ops Q o K a w := by
  unfold Go.Rel.stepOf
  rw [if_pos (by simp [Region.wanted, hg])]
  unfold Oper.wp execOp
  simp only [ho, resolve, invoke, builtin, Sem.run_bind, Sem.run_pure, Result.andThen_ok, List.map_toArray, List.map_cons, List.map_nil, hs, hx, hr]
  exact h
theorem acc_put_at {a : Act} {t : Nat} {v u : Value} (h : (a.put (some t) v).tmps[t]? = some u) : u = v := by
  rw [show (a.put (some t) v).tmps = a.tmps.setIfInBounds t v from rfl, Array.getElem?_setIfInBounds_self] at h
  split at h
  · exact (Option.some.inj h).symm
  · cases h
theorem acc_put_off {a : Act} {t s : Nat} {v : Value} (h : t ≠ s) : (a.put (some t) v).tmps[s]? = a.tmps[s]? := by
  rw [show (a.put (some t) v).tmps = a.tmps.setIfInBounds t v from rfl, Array.getElem?_setIfInBounds_ne h]
theorem acc_upd_off {f : Nat → Bool} {j m : Nat} (h : j ≠ m) : Go.Rel.upd f j m = f m := by
  unfold Go.Rel.upd
  have : (m == j) = false := by rw [beq_eq_false_iff_ne]; exact fun e => h e.symm
  rw [this, Bool.false_or]
theorem acc_upd_on {f : Nat → Bool} (j : Nat) : Go.Rel.upd f j j = true := by unfold Go.Rel.upd; simp
/-- Blocks from base on. -/
def UpB (base : Nat) : Nat → Prop := fun k => base ≤ k
theorem But.upB {base : Nat} {w w' : World} (h : Below base w w') : But (UpB base) w w' := ⟨h.os, h.tape, h.output, h.size, fun k _ hn => h.block k (Nat.lt_of_not_le hn)⟩
/-- The operations iB (the element is laid), iA (it is appended), iS (the slot tX gets the row); their slots tB, tA, tX. -/
structure AccJ (E : TypeId) (base iB iA iS tB tA tX : Nat) (v0 : Value) (n : Nat) (xs : List Value) (u : Value) (w0 : World) (f : Nat → Bool) (a : Act) (w : World) : Prop where
  bel : Below base w0 w
  old : f iA = false → w.ownsRow base E 1 v0 n xs
  slot : f iS = false → a.tmps[tX]? = some v0
  built : f iB = true → f iA = false → ∀ v, a.tmps[tB]? = some v → ∃ X, v = .slice (some ⟨X, 0, none⟩) 1 1 ∧ w.heap[X]? = some (.cells #[u] E (0, 0))
  app : f iA = true → ∀ v, a.tmps[tA]? = some v → w.ownsRow base E 1 v (n + 1) (xs ++ [u])
  fin : f iS = true → ∀ v, a.tmps[tX]? = some v → w.ownsRow base E 1 v (n + 1) (xs ++ [u])
section
variable {E : TypeId} {base iB iA iS tB tA tX : Nat} {v0 : Value} {n : Nat} {xs : List Value} {u : Value} {w0 : World} {f : Nat → Bool} {a : Act} {w : World}
theorem AccJ.start (h : w0.ownsRow base E 1 v0 n xs) (ha : a.tmps[tX]? = some v0) : AccJ E base iB iA iS tB tA tX v0 n xs u w0 (fun _ => false) a { w0 with drawn := w0.drawn + 1 } :=
  ⟨⟨rfl, rfl, rfl, Nat.le_refl _, fun _ _ => rfl⟩, fun _ => h, fun _ => ha, (fun h => by cases h), (fun h => by cases h), (fun h => by cases h)⟩
theorem AccJ.keep (h : AccJ E base iB iA iS tB tA tX v0 n xs u w0 f a w) {j t : Nat} (hj : j ≠ iB ∧ j ≠ iA ∧ j ≠ iS) (ht : t ≠ tB ∧ t ≠ tA ∧ t ≠ tX) (v : Value) : AccJ E base iB iA iS tB tA tX v0 n xs u w0 (Go.Rel.upd f j) (a.put (some t) v) w := by
  obtain ⟨j1, j2, j3⟩ := hj
  obtain ⟨t1, t2, t3⟩ := ht
  refine ⟨h.bel, ?_, ?_, ?_, ?_, ?_⟩
  · rw [acc_upd_off j2]; exact h.old
  · rw [acc_upd_off j3, acc_put_off t3]; exact h.slot
  · rw [acc_upd_off j1, acc_upd_off j2, acc_put_off t1]; exact h.built
  · rw [acc_upd_off j2, acc_put_off t2]; exact h.app
  · rw [acc_upd_off j3, acc_put_off t3]; exact h.fin
/-- The element is laid. -/
theorem AccJ.lay (h : AccJ E base iB iA iS tB tA tX v0 n xs u w0 f a w) (hbase : base ≤ w0.heap.size) (h1 : iB ≠ iA ∧ iB ≠ iS ∧ tB ≠ tA ∧ tB ≠ tX) (zA : f iA = false) (zS : f iS = false) :
    AccJ E base iB iA iS tB tA tX v0 n xs u w0 (Go.Rel.upd f iB) (a.put (some tB) (.slice (some ⟨w.heap.size, 0, none⟩) 1 1)) (w.alloc (.cells #[u] E)) := by
  obtain ⟨i1, i2, t1, t2⟩ := h1
  refine ⟨h.bel.alloc (Nat.le_trans hbase h.bel.size) _, fun _ => (h.old zA).alloc _, ?_, fun _ _ v hv => ⟨w.heap.size, acc_put_at hv, heap_alloc_new w _⟩, ?_, ?_⟩
  · rw [acc_upd_off i2, acc_put_off t2]; exact h.slot
  · rw [acc_upd_off i1, zA]; exact fun h => by cases h
  · rw [acc_upd_off i2, zS]; exact fun h => by cases h
/-- It is appended. -/
theorem AccJ.append {P : Program} (h : AccJ E base iB iA iS tB tA tX v0 n xs u w0 f a w) (hbase : base ≤ w0.heap.size) (h1 : iA ≠ iS ∧ tA ≠ tX) (zB : f iB = true) (zA : f iA = false) (zS : f iS = false) (T : TypeId) (ty : TypeId) (i : TypeInfo) (z : Value) (bytes : Nat) (ht : P.underlying T = some (.slice E)) (hi : P.info? E = some i) (hz : i.zero = some z) (hsize : i.size = 1) (hby : i.bytes = bytes) (hzs : z.cells.size = 1)
    (hone : u.oneCell' = true) (h63 : n + 1 ≤ maxLen) (hbytes : (n + 1) * bytes ≤ 140737488355328) {vx : Value} (hx : a.tmps[tB]? = some vx) :
    ∃ v' w', (Builtin.append_ #[T, T] ty #[v0, vx]).run P w = .ok v' w' ∧ But (UpB base) w w' ∧ AccJ E base iB iA iS tB tA tX v0 n xs u w0 (Go.Rel.upd f iA) (a.put (some tA) v') w' := by
  obtain ⟨i1, t1⟩ := h1
  obtain ⟨X, rfl, hX⟩ := h.built zB zA vx hx
  have hown := h.old zA
  have hb := Nat.le_trans hbase h.bel.size
  obtain ⟨v', w', hrun, ho, hg, _⟩ := run_append_own (P := P) w base T ty E i z 1 bytes ht hi hz hsize hby hzs (by decide) v0 n xs hown ⟨X, 0, none⟩ 1 1 [u] rfl (fun j u' hu => by
    have hj : j = 0 := by
      have := (List.getElem?_eq_some_iff.1 hu).1
      simpa using this
    subst hj
    simp only [List.getElem?_cons_zero, Option.some.injEq] at hu
    subst hu
    rw [plain_add, cell_of_row _ _ _ _ _ _ hX]
    rfl) (fun u' hu => by
      obtain rfl := List.mem_singleton.1 hu
      exact hone) h63 hbytes hb
  have hb' : Below base w w' := (Below.refl _ _).grown hg hb (fun j hj => (hown.lt j hj).1)
  refine ⟨v', w', hrun, But.upB hb', h.bel.trans hb', ?_, ?_, ?_, ?_, ?_⟩
  · rw [acc_upd_on]; exact fun h => by cases h
  · rw [acc_upd_off i1, acc_put_off t1]; exact h.slot
  · rw [acc_upd_on]; exact fun _ h => by cases h
  · intro _ v hv
    rw [acc_put_at hv]
    exact ho
  · rw [acc_upd_off i1, zS]; exact fun h => by cases h
/-- The slot gets the row. -/
theorem AccJ.set (h : AccJ E base iB iA iS tB tA tX v0 n xs u w0 f a w) (h1 : iA ≠ iS ∧ tA ≠ tX) (h2 : iB ≠ iS ∧ tB ≠ tX) (zA : f iA = true) {v : Value} (hv : a.tmps[tA]? = some v) : AccJ E base iB iA iS tB tA tX v0 n xs u w0 (Go.Rel.upd f iS) (a.put (some tX) v) w := by
  have ho := h.app zA v hv
  refine ⟨h.bel, ?_, ?_, ?_, ?_, ?_⟩
  · rw [acc_upd_off (Ne.symm h1.1), zA]; exact fun h => by cases h
  · rw [acc_upd_on]; exact fun h => by cases h
  · rw [acc_upd_off (Ne.symm h2.1), acc_upd_off (Ne.symm h1.1), zA]; exact fun _ h => by cases h
  · intro _ v2 hv2
    rw [acc_put_off (Ne.symm h1.2), hv] at hv2
    rw [← Option.some.inj hv2]
    exact ho
  · intro _ v2 hv2
    rw [acc_put_at hv2]
    exact ho
end
end Go.Proofs.Ytnobpbbedclbkaa
