/-
  Updates compared as structs (layer 8).
-/
import Derived.Test.YtphkaohcfgmmkaaRkMem
import Derived.Laws.StructEq
namespace Go.Proofs.Ytphkaohcfgmmkaa
open Go.RowKit
set_option linter.unusedSimpArgs false

theorem up_fields : Try.prog.underlying 29 = some (.struct (Try.prog.fieldsOf 29)) := by kernel_rfl
theorem up_stood : Try.prog.stoodInHeld 29 = false := by kernel_rfl
theorem up_flds : (Try.prog.fieldsOf 29).toList.map (fun f => (f.name, f.type, f.offset)) = [("Node", 3, 0), ("Inc", 27, 1), ("Status", 3, 2)] := by kernel_rfl
theorem up_guard : Try.prog.eqGuardType Try.prog.depth 29 = false := by kernel_rfl
theorem list3 {α : Type} {l : List α} (h : l.length = 3) : ∃ a b c, l = [a, b, c] := by
  match l, h with
  | [a, b, c], _ => exact ⟨a, b, c, rfl⟩
theorem list2 {α : Type} {l : List α} (h : l.length = 2) : ∃ a b, l = [a, b] := by
  match l, h with
  | [a, b], _ => exact ⟨a, b, rfl⟩
theorem Up.eq_iff (a b : Up) : a = b ↔ a.node = b.node ∧ a.inc = b.inc ∧ a.st = b.st := by
  obtain ⟨x, y, z⟩ := a
  obtain ⟨x', y', z'⟩ := b
  simp
/-- Both are the same. -/
theorem up_eq_at (d : Nat) (a b : Up) (w : World) : (Op.equalIn (d + 2) 29 (.agg #[.int .i64 a.node, .int .u32 (a.inc : Int), .int .i64 a.st]) (.agg #[.int .i64 b.node, .int .u32 (b.inc : Int), .int .i64 b.st])).run Try.prog w = .ok (decide (a = b)) w := by
  rw [run_equalIn_struct w (d + 1) _ _ _ up_fields up_stood]
  have h := up_flds
  generalize (Try.prog.fieldsOf 29).toList = fs at h
  have hl := congrArg List.length h
  rw [List.length_map] at hl
  obtain ⟨f0, f1, f2, rfl⟩ := list3 hl
  simp only [List.map_cons, List.map_nil, List.cons.injEq, Prod.mk.injEq, and_true] at h
  obtain ⟨⟨h0, h1, h2⟩, ⟨h3, h4, h5⟩, h6, h7, h8⟩ := h
  simp only [Op.eqFields, h0, h1, h2, h3, h4, h5, h6, h7, h8]
  have e := Up.eq_iff a b
  by_cases k0 : a.node = b.node
  · by_cases k1 : a.inc = b.inc
    · by_cases k2 : a.st = b.st
      · rw [decide_eq_true (e.2 ⟨k0, k1, k2⟩)]
        clear e
        simp [go_sem, k0, k1, k2]
      · rw [decide_eq_false (fun h => k2 (e.1 h).2.2)]
        clear e
        simp [go_sem, k0, k1, k2]
    · rw [decide_eq_false (fun h => k1 (e.1 h).2.1)]
      have k1' : ¬ (a.inc : Int) = (b.inc : Int) := by omega
      clear e
      simp [go_sem, k0, k1']
  · rw [decide_eq_false (fun h => k0 (e.1 h).1)]
    clear e
    simp [go_sem, k0]
theorem up_eq (a b : Up) (w : World) : (Op.equalIn 10000 29 (.agg #[.int .i64 a.node, .int .u32 (a.inc : Int), .int .i64 a.st]) (.agg #[.int .i64 b.node, .int .u32 (b.inc : Int), .int .i64 b.st])).run Try.prog w = .ok (decide (a = b)) w := up_eq_at 9998 a b w
end Go.Proofs.Ytphkaohcfgmmkaa
