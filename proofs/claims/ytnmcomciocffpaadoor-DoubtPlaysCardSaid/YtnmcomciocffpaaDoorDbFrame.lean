/-
  What comes into layer 11's laws: a plan by value, steps in a slice; and what the listed table gives.
-/
import Derived.Test.YtnmcomciocffpaaDoorDbStep
import Derived.Test.YtnmcomciocffpaaDoorCame
namespace Go.Proofs.YtnmcomciocffpaaDoor
open Go.Joins Go.ChangeShapes Go.WideShapes Go.ChangeAt Go.RowKit
set_option linter.unusedSimpArgs false

theorem wf64 {z : Int} (h : (Lit.int .i64 z).wf = true) : -9223372036854775808 ≤ z ∧ z ≤ 9223372036854775807 := by simpa [Lit.wf, IntKind.min, IntKind.max, IntKind.signed, IntKind.bits] using h
noncomputable def i64C : Came Tryd.prog 3 Int := Came.int Tryd.underlying3 (by kernel_rfl)
noncomputable def plnC : Came Tryd.prog 23 Pln :=
  (Came.struct (CameF.cons i64C (CameF.cons i64C (CameF.cons i64C (CameF.cons i64C (CameF.nil _))))) Tryd.underlying23 (by kernel_rfl) (by kernel_rfl)).re
    (fun x => ⟨x.1, x.2.1, x.2.2.1, x.2.2.2.1⟩) (fun x => [.int .i64 x.least, .int .i64 x.most, .int .i64 x.want, .int .i64 x.from_])
    (fun W N x => i64C.ok W N x.least ∧ i64C.ok W N x.most ∧ i64C.ok W N x.want ∧ i64C.ok W N x.from_) (fun _ => rfl)
    (fun h => ⟨rfl, h.1, h.2.1, h.2.2.1, h.2.2.2.1⟩) (fun h hb => ⟨i64C.keep h.1 hb, i64C.keep h.2.1 hb, i64C.keep h.2.2.1 hb, i64C.keep h.2.2.2 hb⟩)
noncomputable def stpC : Came Tryd.prog 37 St :=
  (Came.struct (CameF.cons i64C (CameF.cons i64C (CameF.nil _))) Tryd.underlying37 (by kernel_rfl) (by kernel_rfl)).re
    (fun x => ⟨x.1, x.2.1⟩) (fun x => [.int .i64 x.kind, .int .i64 x.from_])
    (fun W N x => i64C.ok W N x.kind ∧ i64C.ok W N x.from_) (fun _ => rfl)
    (fun h => ⟨rfl, h.1, h.2.1⟩) (fun h hb => ⟨i64C.keep h.1 hb, i64C.keep h.2 hb⟩)
theorem scIs_of {W : World} (h : laidMetH Tryd.prog [("sodality/doubt.scale", Rows.laid_sodality_doubt_scale)] W) : ScIs W :=
  laid_ints (zs := scaleL) (by kernel_rfl) (by kernel_rfl) Tryd.underlying45 Tryd.underlying3 (by kernel_rfl) h
end Go.Proofs.YtnmcomciocffpaaDoor
