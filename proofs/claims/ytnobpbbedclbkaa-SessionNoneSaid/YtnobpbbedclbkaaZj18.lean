/-
  slices.Grow of no row and slices.Concat at rows, walked.
-/
import Derived.Test.YtnobpbbedclbkaaZj10
import Derived.Test.YtnobpbbedclbkaaZj17
namespace Go.Proofs.Ytnobpbbedclbkaa.Sx
open Go.RowKit
set_option linter.unusedSimpArgs false
set_option linter.unusedVariables false

open Try renaming func41 → f_cat, func47 → f_grow, ntmps41 → n_cat, ntmps47 → n_grow, underlying78 → u_SR
set_option maxHeartbeats 1000000 in
theorem grow_any (n : Nat) (hn : n ≤ 1000) (w : World) :
    Calls Try.prog 47 #[.slice none 0 0, .int .i64 (n : Int)] w fun e w' => ∃ v, e = .returned v ∧ twRow w' w.heap.size v [] ∧ Below w.heap.size w w' := run_grow_any
set_option maxHeartbeats 2000000 in
theorem concat_any (Z : Nat) (ps : List (Pc Int)) (w : World) (h : Pcs trC 4 w Z ps) (hl : ps.length ≤ 100) (hj : (joinP ps).length ≤ 1000) :
    Calls Try.prog 41 #[.slice (some ⟨Z, 0, none⟩) ps.length ps.length] w fun e w' => ∃ v, e = .returned v ∧ twRow w' w.heap.size v (joinP ps) ∧ Below w.heap.size w w' := run_concat_any
end Go.Proofs.Ytnobpbbedclbkaa.Sx
