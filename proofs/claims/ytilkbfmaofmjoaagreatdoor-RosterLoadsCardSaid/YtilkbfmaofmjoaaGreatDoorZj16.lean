import Derived.Test.YtilkbfmaofmjoaaGreatDoorZj12
import Derived.Test.YtilkbfmaofmjoaaGreatDoorZj15
namespace Go.Proofs.YtilkbfmaofmjoaaGreatDoor.Nt
open Go.RowKit
set_option linter.unusedSimpArgs false
set_option linter.unusedVariables false
open Tryz renaming func116 → f_cat, func137 → f_grow, ntmps116 → n_cat, ntmps137 → n_grow, underlying86 → u_SR
set_option maxHeartbeats 1000000 in
theorem grow_any (n : Nat) (hn : n ≤ 1000) (w : World) :
    Calls Tryz.prog 137 #[.slice none 0 0, .int .i64 (n : Int)] w fun e w' => ∃ v, e = .returned v ∧ twRow w' w.heap.size v [] ∧ Below w.heap.size w w' := run_grow_any
set_option maxHeartbeats 2000000 in
theorem concat_any (Z : Nat) (ps : List (Pc NdW)) (w : World) (h : Pcs trC 7 w Z ps) (hl : ps.length ≤ 100) (hj : (joinP ps).length ≤ 1000) :
    Calls Tryz.prog 116 #[.slice (some ⟨Z, 0, none⟩) ps.length ps.length] w fun e w' => ∃ v, e = .returned v ∧ twRow w' w.heap.size v (joinP ps) ∧ Below w.heap.size w w' := run_concat_any
end Go.Proofs.YtilkbfmaofmjoaaGreatDoor.Nt
