import Derived.Test.YtilkbfmaofmjoaaGreatDoorZj20
import Derived.Test.YtilkbfmaofmjoaaGreatDoorZj21
namespace Go.Proofs.YtilkbfmaofmjoaaGreatDoor
open Go.RowKit Go.Rel
set_option linter.unusedSimpArgs false
set_option linter.unusedVariables false
end Go.Proofs.YtilkbfmaofmjoaaGreatDoor
namespace Go.Proofs.YtilkbfmaofmjoaaGreatDoor.Nt
open Go.RowKit Go.Rel
set_option linter.unusedSimpArgs false
set_option linter.unusedVariables false
open Tryz renaming func72 → f_Drop, ntmps72 → n_Drop
end Go.Proofs.YtilkbfmaofmjoaaGreatDoor.Nt
