/-
  Blocks of three cells; loads from the middle of a block; append of an update: of whatever program that has updates (layer 8).
-/
import Derived.Test.YtphkaohcfgmmkaaRkMem
namespace Go.Proofs.Ytphkaohcfgmmkaa
open Go.RowKit
set_option linter.unusedSimpArgs false
set_option linter.unusedVariables false

theorem below2 (w : World) (o p : Obj) : Below w.heap.size w ((w.alloc o).alloc p) := ((Below.refl _ w).alloc (Nat.le_refl _) _).alloc (by simp) _
theorem below1 (w : World) (o : Obj) : Below w.heap.size w (w.alloc o) := (Below.refl _ w).alloc (Nat.le_refl _) _
theorem ret_bool {a b : Bool} (h : a = b) : Ending.returned (.bool a) = .returned (.bool b) := by rw [h]
theorem Up.right_iff (u : Up) : u.right = true ↔ 0 ≤ u.node ∧ u.node < 8 ∧ (u.st = 0 ∨ u.st = 1 ∨ u.st = 2 ∨ u.st = 3) := by unfold Up.right; simp
theorem wrap_u64 (n : Nat) (h : n < 18446744073709551616) : IntKind.u64.wrap (n : Int) = (n : Int) := by
  simp [IntKind.wrap, IntKind.signed, IntKind.bits]
  omega
theorem wrap_u32 (n : Nat) (h : n < 4294967296) : IntKind.u32.wrap (n : Int) = (n : Int) := by
  simp [IntKind.wrap, IntKind.signed, IntKind.bits]
  omega
theorem set3_blk {W : World} {X : Nat} {u0 u1 u2 : Value} {t : TypeId} (h : W.heap[X]? = some (.cells #[u0, u1, u2] t (0, 0))) (a b c : Value) :
    (((W.setCell ⟨X, 0, none⟩ a).setCell ⟨X, 1, none⟩ b).setCell ⟨X, 2, none⟩ c).heap[X]? = some (.cells #[a, b, c] t (0, 0)) := block_set (block_set (block_set h 0 a) 1 b) 2 c
theorem blk3 {W : World} {X : Nat} {a b c : Value} {t : TypeId} (h : W.heap[X]? = some (.cells #[a, b, c] t (0, 0))) : W.cell? ⟨X, 0, none⟩ = some a ∧ W.cell? ⟨X, 1, none⟩ = some b ∧ W.cell? ⟨X, 2, none⟩ = some c := by
  refine ⟨?_, ?_, ?_⟩ <;> (rw [cell_of_row _ _ _ _ _ _ h]; rfl)
theorem blk_froz {W : World} {X : Nat} {cur : Array Value} {t : TypeId} (h : W.heap[X]? = some (.cells cur t (0, 0))) (i : Nat) : W.frozen? ⟨X, i, none⟩ = false := by simp [World.frozen?, h]
theorem UpAt.below {w w' : World} {X o : Nat} {x : Up} (h : UpAt w X o x) (hb : Below w.heap.size w w') : UpAt w' X o x := by
  have hlt : X < w.heap.size := bcell_lt h.1
  exact h.of_block (hb.block X hlt)
/-- An array or a struct is loaded from the middle of a block. -/
theorem run_loadVar_at {P : Program} (w : World) (g off : Nat) (ty : TypeId) (cs : Array Value) (d : TypeDesc) (hc : ∀ j v, cs[j]? = some v → w.cell? ⟨g, off + j, none⟩ = some v)
    (hu : P.underlying ty = some d) (hd : (match d with | .struct _ | .array _ _ => true | _ => false) = true) (hi : (P.info? ty).map (·.size) = some cs.size) :
    (loadVar ty ⟨g, off, none⟩).run P w = .ok (.agg cs) w := by
  have hl : (loadCells ⟨g, off, none⟩ cs.toList.length).run P w = .ok cs.toList.toArray w :=
    run_loadCells_list (P := P) w ⟨g, off, none⟩ cs.toList (fun j v hv => by
      rw [plain_add]
      exact hc j v (by simpa using hv))
  cases hq : P.info? ty with
  | none => simp [hq] at hi
  | some i =>
    have hs : i.size = cs.size := by simpa [hq] using hi
    have hagg : (isAgg ty).run P w = .ok true w := by
      unfold isAgg
      rw [Sem.run_bind, run_underlying hu w]
      cases d <;> simp_all
    simp only [Array.length_toList, Array.toArray_toList] at hl
    simp [loadVar, Sem.run_bind, hagg, sizeOf, typeInfo, hq, hs, hl]
theorem wpList_load_at {P : Program} {ops : Array Oper} {rest : List Oper} {o : Oper} {a : Act} {w : World} {Q : Exit → Act → World → Prop} (hgd : o.guard = none) (ty : TypeId) (x : Operand) (ho : o.op = .load ty x)
    (g off : Nat) (hx : a.eval x = .pointer (some ⟨g, off, none⟩)) (cs : Array Value) (d : TypeDesc) (hc : ∀ j v, cs[j]? = some v → w.cell? ⟨g, off + j, none⟩ = some v)
    (hu : P.underlying ty = some d) (hd : (match d with | .struct _ | .array _ _ => true | _ => false) = true) (hi : (P.info? ty).map (·.size) = some cs.size)
    (h : Hid (wpList P ops Q rest (a.put o.dst (.agg cs)) w)) : wpList P ops Q (o :: rest) a w :=
  wpList_plain hgd fun _ hK => by
    unfold Oper.wp execOp
    simp only [ho, hx, Instr.loadAt, Instr.sureAddr, Sem.run_bind, Sem.run_pure, Result.andThen_ok, run_loadVar_at w g off ty cs d hc hu hd hi]
    exact hK _ _ h.out
/-- append of one update, from a block that was just laid. -/
theorem wpList_append_up {w : World} {ops : Array Oper} {rest : List Oper} {o : Oper} {a : Act} {Q : Exit → Act → World → Prop} (hgd : o.guard = none) (s x : Operand)
    (ho : o.op = .call { callee := .builtin .append, args := #[s, x], argTypes := #[32, 32] })
    (base : Nat) (v : Value) (l : List Up) (hs : a.eval s = v) (hown : upRow w base v l) (X : Nat) (y : Up) (hx : a.eval x = .slice (some ⟨X, 0, none⟩) 1 1) (hc : UpAt w X 0 y)
    (hl : l.length ≤ 1000) (hbase : base ≤ w.heap.size)
    (h : Hid (∀ v' w', upRow w' base v' (l ++ [y]) → w.grownBy w' v.ownBlock → wpList Try.prog ops Q rest (a.put o.dst v') w')) : wpList Try.prog ops Q (o :: rest) a w := by
  obtain ⟨i0, hi, hz0, hz1, hz2⟩ := info_parts up_info
  refine wpList_append_own w hgd s x _ ho base 29 i0 _ 3 24 Try.underlying32 hi hz0 hz1 hz2 up_zc (by decide) v l.length (upsC l) hs hown ⟨X, 0, none⟩ 1 1 (upC y) hx rfl (fun j u hu => ?_) (fun u hu => upsC_one [y] u (by simpa [upsC] using hu)) (by unfold maxLen; omega) (by omega) hbase (fun v' w' h2 h3 _ => h.out v' w' ?_ h3)
  · rw [plain_add, Nat.zero_add]
    obtain ⟨h0, h1, h2⟩ := hc
    match j, hu with
    | 0, hu => simp only [upC, List.getElem?_cons_zero, Option.some.injEq] at hu; subst hu; exact h0
    | 1, hu => simp only [upC, List.getElem?_cons_succ, List.getElem?_cons_zero, Option.some.injEq] at hu; subst hu; exact h1
    | 2, hu => simp only [upC, List.getElem?_cons_succ, List.getElem?_cons_zero, Option.some.injEq] at hu; subst hu; exact h2
  · unfold upRow
    rw [upsC_append, List.length_append]
    have e : upsC [y] = upC y := by simp [upsC]
    rw [e]
    exact h2
end Go.Proofs.Ytphkaohcfgmmkaa
