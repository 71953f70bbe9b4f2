/-
  The document's Right (layer 8).
-/
import Derived.Test.YtjbemjnofnifaaaZj14
namespace Go.Proofs.Ytjbemjnofnifaaa
open Go.RowKit
set_option linter.unusedSimpArgs false
set_option linter.unusedVariables false

set_option maxHeartbeats 4000000 in
theorem rright_any (a : Up) (w : World) (r : Bool) (hr : a.right = r) :
    Calls Try.prog 29 #[.agg #[.int .i64 a.node, .int .u32 (a.inc : Int), .int .i64 a.st]] w fun e w' => e = .returned (.bool r) ∧ Below w.heap.size w w' := by
  have h0 := Up.right_iff a
  rw [hr] at h0
  have HI := Lib.hid h0
  clear h0 hr
  obtain ⟨na, ia, sa⟩ := a
  simp only at HI ⊢
  go_enter Try.func29, Try.ntmps29
  go_wp2
  all_goals go_ret
  all_goals refine ⟨ret_bool ?_, below1 _ _⟩
  all_goals (first | (rw [Bool.eq_iff_iff, HI.out]; simp_all <;> omega) | skip)
end Go.Proofs.Ytjbemjnofnifaaa
