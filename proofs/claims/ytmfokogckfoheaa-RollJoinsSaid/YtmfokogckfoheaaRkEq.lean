/-
  Updates compared as structs (layer 8).
-/
import Derived.Test.YtmfokogckfoheaaRkMem
import Derived.Laws.StructEq
namespace Go.Proofs.Ytmfokogckfoheaa
open Go.RowKit
set_option linter.unusedSimpArgs false

theorem up_fields : Try.prog.underlying 32 = some (.struct (Try.prog.fieldsOf 32)) := by kernel_rfl
theorem up_stood : Try.prog.stoodInHeld 32 = false := by kernel_rfl
theorem up_flds : (Try.prog.fieldsOf 32).toList.map (fun f => (f.name, f.type, f.offset)) = [("Node", 3, 0), ("Inc", 22, 1), ("Status", 3, 2)] := by kernel_rfl
theorem up_guard : Try.prog.eqGuardType Try.prog.depth 32 = false := by kernel_rfl
theorem list3 {α : Type} {l : List α} (h : l.length = 3) : ∃ a b c, l = [a, b, c] := by
  match l, h with
  | [a, b, c], _ => exact ⟨a, b, c, rfl⟩
theorem list2 {α : Type} {l : List α} (h : l.length = 2) : ∃ a b, l = [a, b] := by
  match l, h with
  | [a, b], _ => exact ⟨a, b, rfl⟩
theorem Up.eq_iff (a b : Up) : a = b ↔ a.node = b.node ∧ a.inc = b.inc ∧ a.st = b.st := by
  obtain ⟨x, y, z⟩ := a
  obtain ⟨x', y', z'⟩ := b
  simp
/-- Both are the same. -/
theorem up_eq_at (d : Nat) (a b : Up) (w : World) : (Op.equalIn (d + 2) 32 (.agg #[.int .i64 a.node, .int .u32 (a.inc : Int), .int .i64 a.st]) (.agg #[.int .i64 b.node, .int .u32 (b.inc : Int), .int .i64 b.st])).run Try.prog w = .ok (decide (a = b)) w := by
  rw [run_equalIn_struct w (d + 1) _ _ _ up_fields up_stood]
  have h := up_flds
  generalize (Try.prog.fieldsOf 32).toList = fs at h
  have hl := congrArg List.length h
  rw [List.length_map] at hl
  obtain ⟨f0, f1, f2, rfl⟩ := list3 hl
  simp only [List.map_cons, List.map_nil, List.cons.injEq, Prod.mk.injEq, and_true] at h
  obtain ⟨⟨h0, h1, h2⟩, ⟨h3, h4, h5⟩, h6, h7, h8⟩ := h
  simp only [Op.eqFields, h0, h1, h2, h3, h4, h5, h6, h7, h8]
  have e := Up.eq_iff a b
  by_cases k0 : a.node = b.node
  · by_cases k1 : a.inc = b.inc
    · by_cases k2 : a.st = b.st
      · rw [decide_eq_true (e.2 ⟨k0, k1, k2⟩)]
        clear e
        simp [go_sem, k0, k1, k2]
      · rw [decide_eq_false (fun h => k2 (e.1 h).2.2)]
        clear e
        simp [go_sem, k0, k1, k2]
    · rw [decide_eq_false (fun h => k1 (e.1 h).2.1)]
      have k1' : ¬ (a.inc : Int) = (b.inc : Int) := by omega
      clear e
      simp [go_sem, k0, k1']
  · rw [decide_eq_false (fun h => k0 (e.1 h).1)]
    clear e
    simp [go_sem, k0]
theorem up_eq (a b : Up) (w : World) : (Op.equalIn 10000 32 (.agg #[.int .i64 a.node, .int .u32 (a.inc : Int), .int .i64 a.st]) (.agg #[.int .i64 b.node, .int .u32 (b.inc : Int), .int .i64 b.st])).run Try.prog w = .ok (decide (a = b)) w := up_eq_at 9998 a b w
theorem slot_fields : Try.prog.underlying 76 = some (.struct (Try.prog.fieldsOf 76)) := by kernel_rfl
theorem slot_stood : Try.prog.stoodInHeld 76 = false := by kernel_rfl
theorem slot_flds : (Try.prog.fieldsOf 76).toList.map (fun f => (f.name, f.type, f.offset)) = [("u", 32, 0), ("is", 4, 3)] := by kernel_rfl
theorem slot_guard : Try.prog.eqGuardType Try.prog.depth 76 = false := by kernel_rfl
/-- Is the slot empty? (A slot that is not has true behind its update.) -/
theorem slot_eq (a : Up) (r : Bool) (w : World) (h : r = false → a = ⟨0, 0, 0⟩) : (Op.equalIn 10000 76 (.agg #[.int .i64 a.node, .int .u32 (a.inc : Int), .int .i64 a.st, .bool r]) (.agg #[.int .i64 0, .int .u32 0, .int .i64 0, .bool false])).run Try.prog w = .ok (!r) w := by
  rw [run_equalIn_struct w 9999 _ _ _ slot_fields slot_stood]
  have h' := slot_flds
  generalize (Try.prog.fieldsOf 76).toList = fs at h'
  have hl := congrArg List.length h'
  rw [List.length_map] at hl
  obtain ⟨f0, f1, rfl⟩ := list2 hl
  simp only [List.map_cons, List.map_nil, List.cons.injEq, Prod.mk.injEq, and_true] at h'
  obtain ⟨⟨h0, h1, h2⟩, h3, h4, h5⟩ := h'
  simp only [Op.eqFields, h0, h1, h2, h3, h4, h5]
  have e := up_eq_at 9997 a ⟨0, 0, 0⟩
  have p0 : ∀ (w : World) (x y z : Value) (q : Value), (part 32 #[x, y, z, q] 0).run Try.prog w = .ok (.agg #[x, y, z]) w := fun w x y z q => by kernel_rfl
  rw [if_pos (by decide), if_pos (by decide)]
  simp only [Sem.run_bind, p0, Result.andThen_ok]
  have e' : (Op.equalIn 9999 32 (.agg #[.int .i64 a.node, .int .u32 (a.inc : Int), .int .i64 a.st]) (.agg #[.int .i64 0, .int .u32 0, .int .i64 0])).run Try.prog w = .ok (decide (a = ⟨0, 0, 0⟩)) w := e w
  rw [e', Result.andThen_ok]
  clear e e'
  cases r with
  | false =>
    rw [decide_eq_true (h rfl)]
    simp [go_sem]
  | true =>
    by_cases hz : a = ⟨0, 0, 0⟩
    · rw [decide_eq_true hz]
      simp [go_sem]
    · rw [decide_eq_false hz]
      simp [go_sem]
end Go.Proofs.Ytmfokogckfoheaa
