/-
  The program's and the document's Right, Above; Best; two updates (layer 8).
-/
import Derived.Test.YtmfokogckfoheaaRkMem
namespace Go.Proofs.Ytmfokogckfoheaa
open Go.RowKit
set_option linter.unusedSimpArgs false
set_option linter.unusedVariables false

theorem below2 (w : World) (o p : Obj) : Below w.heap.size w ((w.alloc o).alloc p) := ((Below.refl _ w).alloc (Nat.le_refl _) _).alloc (by simp) _
theorem below1 (w : World) (o : Obj) : Below w.heap.size w (w.alloc o) := (Below.refl _ w).alloc (Nat.le_refl _) _
theorem ret_bool {a b : Bool} (h : a = b) : Ending.returned (.bool a) = .returned (.bool b) := by rw [h]
theorem Up.right_iff (u : Up) : u.right = true ↔ 0 ≤ u.node ∧ u.node < 8 ∧ (u.st = 0 ∨ u.st = 1 ∨ u.st = 2 ∨ u.st = 3) := by unfold Up.right; simp
set_option maxHeartbeats 2000000 in
theorem pabove_any (a b : Up) (w : World) (r : Bool) (hr : a.above b = r) :
    Calls Try.prog 25 #[.agg #[.int .i64 a.node, .int .u32 (a.inc : Int), .int .i64 a.st], .agg #[.int .i64 b.node, .int .u32 (b.inc : Int), .int .i64 b.st]] w fun e w' => e = .returned (.bool r) ∧ Below w.heap.size w w' := by
  have h0 := Up.above_iff a b
  rw [hr] at h0
  have HI := Lib.hid h0
  clear h0 hr
  obtain ⟨na, ia, sa⟩ := a
  obtain ⟨nb, ib, sb⟩ := b
  simp only at HI ⊢
  go_enter Try.func25, Try.ntmps25
  go_wp2
  all_goals go_ret
  all_goals refine ⟨ret_bool ?_, below2 _ _ _⟩
  all_goals (first | (rw [Bool.eq_iff_iff, HI.out]; simp_all <;> omega) | skip)
set_option maxHeartbeats 2000000 in
theorem rabove_any (a b : Up) (w : World) (r : Bool) (hr : a.above b = r) :
    Calls Try.prog 33 #[.agg #[.int .i64 a.node, .int .u32 (a.inc : Int), .int .i64 a.st], .agg #[.int .i64 b.node, .int .u32 (b.inc : Int), .int .i64 b.st]] w fun e w' => e = .returned (.bool r) ∧ Below w.heap.size w w' := by
  have h0 := Up.above_iff a b
  rw [hr] at h0
  have HI := Lib.hid h0
  clear h0 hr
  obtain ⟨na, ia, sa⟩ := a
  obtain ⟨nb, ib, sb⟩ := b
  simp only at HI ⊢
  go_enter Try.func33, Try.ntmps33
  go_wp2
  all_goals go_ret
  all_goals refine ⟨ret_bool ?_, below2 _ _ _⟩
  all_goals (first | (rw [Bool.eq_iff_iff, HI.out]; simp_all <;> omega) | skip)
set_option maxHeartbeats 4000000 in
theorem pright_any (a : Up) (w : World) (r : Bool) (hr : a.right = r) :
    Calls Try.prog 28 #[.agg #[.int .i64 a.node, .int .u32 (a.inc : Int), .int .i64 a.st]] w fun e w' => e = .returned (.bool r) ∧ Below w.heap.size w w' := by
  have h0 := Up.right_iff a
  rw [hr] at h0
  have HI := Lib.hid h0
  clear h0 hr
  obtain ⟨na, ia, sa⟩ := a
  simp only at HI ⊢
  go_enter Try.func28, Try.ntmps28
  go_wp2
  all_goals go_ret
  all_goals refine ⟨ret_bool ?_, below1 _ _⟩
  all_goals (first | (rw [Bool.eq_iff_iff, HI.out]; simp_all <;> omega) | skip)
set_option maxHeartbeats 4000000 in
theorem rright_any (a : Up) (w : World) (r : Bool) (hr : a.right = r) :
    Calls Try.prog 29 #[.agg #[.int .i64 a.node, .int .u32 (a.inc : Int), .int .i64 a.st]] w fun e w' => e = .returned (.bool r) ∧ Below w.heap.size w w' := by
  have h0 := Up.right_iff a
  rw [hr] at h0
  have HI := Lib.hid h0
  clear h0 hr
  obtain ⟨na, ia, sa⟩ := a
  simp only at HI ⊢
  go_enter Try.func29, Try.ntmps29
  go_wp2
  all_goals go_ret
  all_goals refine ⟨ret_bool ?_, below1 _ _⟩
  all_goals (first | (rw [Bool.eq_iff_iff, HI.out]; simp_all <;> omega) | skip)
end Go.Proofs.Ytmfokogckfoheaa
