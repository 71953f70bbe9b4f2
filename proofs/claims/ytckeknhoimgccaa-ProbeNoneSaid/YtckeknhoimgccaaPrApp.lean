/-
  Three-index slices of a list of nodes, and what is appended behind them, run (layer 12).
-/
import Derived.Test.YtckeknhoimgccaaPrWalkB
import Derived.Test.YtckeknhoimgccaaRelA
import Derived.ArgAppend
namespace Go.Proofs.Ytckeknhoimgccaa
open Go.RowKit
set_option linter.unusedSimpArgs false

theorem stepOf_append {P : Program} {ops : Array Oper} {Q : Exit → Act → World → Prop} {o : Oper} {K : Act → World → Prop} {a : Act} {w w' : World} {v vx v' : Value} (s x : Operand) (t : TypeId)
    (ho : o.op = .call { callee := .builtin .append, args := #[s, x], argTypes := #[t, t] }) (hg : o.guard = none) (hs : a.eval s = v) (hx : a.eval x = vx)
    (hr : (Builtin.append_ #[t, t] o.type #[v, vx]).run P w = .ok v' w') (h : K (a.put o.dst v') w') : Go.Rel.stepOf P ops Q o K a w := by
  unfold Go.Rel.stepOf
  rw [if_pos (by simp [Region.wanted, hg])]
  unfold Oper.wp execOp
  simp only [ho, resolve, invoke, builtin, Sem.run_bind, Sem.run_pure, Result.andThen_ok, List.map_toArray, List.map_cons, List.map_nil, hs, hx, hr]
  exact h
theorem stepOf_slice {P : Program} {ops : Array Oper} {Q : Exit → Act → World → Prop} {o : Oper} {K : Act → World → Prop} {a : Act} {w w' : World} {v : Value} (t : TypeId) (x : Operand) (lo hi mx : Option Operand)
    (ho : o.op = .slice t x lo hi mx) (hg : o.guard = none) (hr : (Instr.sliceAt t (a.eval x) (lo.map a.eval) (hi.map a.eval) (mx.map a.eval)).run P w = .ok v w') (h : K (a.put o.dst v) w') : Go.Rel.stepOf P ops Q o K a w := by
  unfold Go.Rel.stepOf
  rw [if_pos (by simp [Region.wanted, hg])]
  unfold Oper.wp execOp
  simp only [ho, Sem.run_bind, Sem.run_pure, hr, Result.andThen_ok, Sem.run_map]
  exact h
def tailA (A : Option Addr) (lo L : Nat) : Option Addr := if L = lo then A else A.map (·.add (lo * 1))
theorem int_size (w : World) : (sizeOf (Try.prog.elem 27)).run Try.prog w = .ok 1 w := by kernel_rfl
theorem run_tail3 {A : Option Addr} {L c lo : Nat} (w : World) (h1 : lo ≤ L) (h2 : L ≤ c) : (Instr.sliceAt 27 (.slice A L c) (some (.int .i64 (lo : Int))) (some (.int .i64 (L : Int))) (some (.int .i64 (L : Int)))).run Try.prog w = .ok (.slice (tailA A lo L) (L - lo) (L - lo)) w := by
  rw [run_sliceAt_slice (P := Try.prog) (h := by kernel_rfl), run_slice_lhm (P := Try.prog) (ht := by kernel_rfl) (h0 := by omega) (h1 := by omega) (h2 := by omega) (h3 := by omega), int_size]
  simp only [Result.andThen_ok, sliced, Int.toNat_natCast]
  rfl
theorem run_head3 {A : Option Addr} {L c i : Nat} (w : World) (h : A = none ∨ i = 0 ∨ ∃ b off, A = some ⟨b, off, none⟩) (h2 : i ≤ c) : (Instr.sliceAt 27 (.slice A L c) none (some (.int .i64 (i : Int))) (some (.int .i64 (i : Int)))).run Try.prog w = .ok (.slice A i i) w := by
  rw [run_sliceAt_slice (P := Try.prog) (h := by kernel_rfl), run_slice_hm (P := Try.prog) (ht := by kernel_rfl) (h0 := by omega) (h2 := by omega) (h3 := by omega), int_size]
  simp only [Result.andThen_ok, sliced, Int.toNat_natCast]
  have e : (if i = 0 then A else A.map (·.add (0 * 1))) = A := by
    split
    · rfl
    · rcases h with rfl | h | ⟨b, off, rfl⟩
      · rfl
      · contradiction
      · simp [plain_add]
  rw [e]
  rfl
theorem RV.tail {w : World} {A : Option Addr} {L lo : Nat} {xs : List Value} (h : RV w A L xs) (h1 : lo ≤ L) : RV w (tailA A lo L) (L - lo) (xs.drop lo) := by
  unfold tailA
  by_cases e : L = lo
  · subst e
    rw [if_pos rfl, Nat.sub_self, List.drop_of_length_le (by rw [h.1]; exact Nat.le_refl _)]
    exact RV.zero _ _
  · rw [if_neg e]
    obtain ⟨b, off, rfl, _⟩ := h.2 (by omega)
    have := h.drop h1
    simpa [plain_add] using this
theorem tailA_none {A : Option Addr} {lo L : Nat} (h : tailA A lo L = none) : A = none := by
  unfold tailA at h
  split at h
  · exact h
  · cases A with
    | none => rfl
    | some a => simp at h
theorem RV.some_or {w : World} {A : Option Addr} {n i : Nat} {xs : List Value} (h : RV w A n xs) (hi : i ≤ n) : A = none ∨ i = 0 ∨ ∃ b off, A = some ⟨b, off, none⟩ := by
  rcases Nat.eq_zero_or_pos i with e | e
  · exact .inr (.inl e)
  · obtain ⟨b, off, e, _⟩ := h.2 (by omega)
    exact .inr (.inr ⟨b, off, e⟩)
/-- append behind a full slice: the call makes a new row. -/
theorem run_append_full (w : World) (ty : TypeId) (A : Option Addr) (i : Nat) (xs : List Value) (h : RV w A i xs) (hA : A = none → i = 0) (A2 : Option Addr) (m c2 : Nat) (ys : List Value) (h2 : RV w A2 m ys) (hy : ∀ u ∈ ys, u.oneCell' = true) (hm : 0 < m) (hsz : i + m ≤ 4096) :
    ∃ v' w', (Builtin.append_ #[27, 27] ty #[.slice A i i, .slice A2 m c2]).run Try.prog w = .ok v' w' ∧ w'.ownsRow w.heap.size 3 1 v' (i + m) (xs ++ ys) ∧ Below w.heap.size w w' := by
  obtain ⟨i0, hi, hz0, hz1, hz2⟩ := info_parts int_info
  obtain ⟨b2, off2, rfl, _⟩ := h2.2 hm
  have hl := h.1
  have hl2 := h2.1
  cases A with
  | some b =>
    obtain ⟨v', w', hrun, r1, r2⟩ := run_append_arg_grows (P := Try.prog) w 27 ty 3 i0 (.int .i64 0) 1 8 Try.underlying27 hi hz0 hz1 hz2 rfl (by decide) b i i xs (by omega) h.news ⟨b2, off2, none⟩ m c2 ys (by omega) h2.news (by omega) (by unfold maxLen; omega) (by omega)
    exact ⟨v', w', hrun, r1, (Below.refl _ _).grown r2 (Nat.le_refl _) (fun j hj => by cases hj)⟩
  | none =>
    obtain rfl := hA rfl
    obtain rfl : xs = [] := List.eq_nil_of_length_eq_zero hl
    obtain ⟨v', w', hrun, r1, r2, _⟩ := run_append_own (P := Try.prog) w w.heap.size 27 ty 3 i0 (.int .i64 0) 1 8 Try.underlying27 hi hz0 hz1 hz2 rfl (by decide) (.slice none 0 0) 0 [] (World.ownsRow_nil w _ 3 1) ⟨b2, off2, none⟩ m c2 ys (by omega) h2.news hy (by unfold maxLen; omega) (by omega) (Nat.le_refl _)
    exact ⟨v', w', hrun, r1, (Below.refl _ _).grown r2 (Nat.le_refl _) (fun j hj => by cases hj)⟩
/-- append of nothing. -/
theorem run_append_nothing (w : World) (ty : TypeId) (A : Option Addr) (i : Nat) (h : ∃ xs, RV w A i xs) (hA : A = none → i = 0) (A2 : Option Addr) :
    (Builtin.append_ #[27, 27] ty #[.slice A i i, .slice A2 0 0]).run Try.prog w = .ok (.slice A i i) w := by
  obtain ⟨i0, hi, hz0, hz1, hz2⟩ := info_parts int_info
  obtain ⟨xs, h⟩ := h
  cases A2 with
  | none => cases A with
    | none =>
      obtain rfl := hA rfl
      simp [Builtin.append_, run_underlying (P := Try.prog) Try.underlying27, sizeOf, typeInfo, hi, Builtin.lenOf, Builtin.firstCells]
    | some a => simp [Builtin.append_, run_underlying (P := Try.prog) Try.underlying27, sizeOf, typeInfo, hi, Builtin.lenOf, Builtin.firstCells, storeCells]
  | some a2 => cases A with
    | none =>
      obtain rfl := hA rfl
      simp [Builtin.append_, run_underlying (P := Try.prog) Try.underlying27, sizeOf, typeInfo, hi, Builtin.lenOf, Builtin.firstCells, loadCells, loadCellsFrom]
    | some a => simp [Builtin.append_, run_underlying (P := Try.prog) Try.underlying27, sizeOf, typeInfo, hi, Builtin.lenOf, Builtin.firstCells, storeCells, loadCells, loadCellsFrom]
/-- append behind a row of the call's own. -/
theorem run_append_row (w : World) (ty : TypeId) (base : Nat) (v : Value) (n : Nat) (xs : List Value) (h : w.ownsRow base 3 1 v n xs) (hbase : base ≤ w.heap.size) (A2 : Option Addr) (m : Nat) (ys : List Value) (h2 : RV w A2 m ys) (hA : A2 = none → m = 0) (hy : ∀ u ∈ ys, u.oneCell' = true) (hsz : n + m ≤ 4096) :
    ∃ v' w', (Builtin.append_ #[27, 27] ty #[v, .slice A2 m m]).run Try.prog w = .ok v' w' ∧ w'.ownsRow base 3 1 v' (n + m) (xs ++ ys) ∧ Below base w w' := by
  obtain ⟨i0, hi, hz0, hz1, hz2⟩ := info_parts int_info
  have hl2 := h2.1
  cases A2 with
  | none =>
    obtain rfl := hA rfl
    obtain rfl : ys = [] := List.eq_nil_of_length_eq_zero hl2
    exact ⟨v, w, run_append_owned_none (P := Try.prog) w base 27 ty 3 i0 1 Try.underlying27 hi v n xs h, by simpa using h, Below.refl _ _⟩
  | some ad =>
    obtain ⟨v', w', hrun, r1, r2, _⟩ := run_append_own (P := Try.prog) w base 27 ty 3 i0 (.int .i64 0) 1 8 Try.underlying27 hi hz0 hz1 hz2 rfl (by decide) v n xs h ad m m ys (by omega) h2.news hy (by unfold maxLen; omega) (by omega) hbase
    exact ⟨v', w', hrun, r1, (Below.refl _ _).grown r2 hbase (fun j hj => (h.lt j hj).1)⟩
end Go.Proofs.Ytckeknhoimgccaa
