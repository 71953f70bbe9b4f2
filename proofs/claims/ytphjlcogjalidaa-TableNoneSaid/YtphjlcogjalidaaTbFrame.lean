/-
  What comes into layer 15's laws: steps.
-/
import Derived.Test.YtphjlcogjalidaaTbStep
import Derived.Test.YtphjlcogjalidaaCame
namespace Go.Proofs.Ytphjlcogjalidaa
open Go.Joins Go.ChangeShapes Go.WideShapes Go.ChangeAt Go.RowKit
set_option linter.unusedSimpArgs false

theorem wf64 {z : Int} (h : (Lit.int .i64 z).wf = true) : -9223372036854775808 ≤ z ∧ z ≤ 9223372036854775807 := by simpa [Lit.wf, IntKind.min, IntKind.max, IntKind.signed, IntKind.bits] using h
noncomputable def i64C : Came Try.prog 3 Int := Came.int Try.underlying3 (by kernel_rfl)
theorem wfu64 (z : Int) (h : (Lit.int .u64 z).wf = true) : 0 ≤ z ∧ z < ((18446744073709551616 : Nat) : Int) := by
  have : 0 ≤ z ∧ z ≤ 18446744073709551615 := by simpa [Lit.wf, IntKind.min, IntKind.max, IntKind.signed, IntKind.bits] using h
  omega
noncomputable def u64C : Came Try.prog 28 Nat := Came.nat Try.underlying28 (by kernel_rfl) 18446744073709551616 wfu64
noncomputable def strC : Came Try.prog 9 ByteArray := Came.str Try.underlying9 (by kernel_rfl)
noncomputable def tstC : Came Try.prog 30 TSt :=
  (Came.struct (CameF.cons i64C (CameF.cons strC (CameF.cons i64C (CameF.cons u64C (CameF.nil _))))) Try.underlying30 (by kernel_rfl) (by kernel_rfl)).re
    (fun x => ⟨x.1, x.2.1, x.2.2.1, x.2.2.2.1⟩) (fun x => [.int .i64 x.kind, .string x.key, .int .i64 x.v, .int .u64 (x.ix : Int)])
    (fun W N x => i64C.ok W N x.kind ∧ strC.ok W N x.key ∧ i64C.ok W N x.v ∧ u64C.ok W N x.ix) (fun _ => rfl)
    (fun h => ⟨rfl, h.1, h.2.1, h.2.2.1, h.2.2.2.1⟩) (fun h hb => ⟨i64C.keep h.1 hb, strC.keep h.2.1 hb, i64C.keep h.2.2.1 hb, u64C.keep h.2.2.2 hb⟩)
theorem tst_ok {W : World} {N : Nat} {s : TSt} (h : tstC.ok W N s) : s.ok := ⟨h.2.1.1, wf64 h.2.2.1, h.2.2.2⟩
theorem tst_sk {W : World} {A : Option Addr} {n : Nat} {l : List TSt} (h : SK tstC.enc tstC.k W A n l) : SK tsC 4 W A n l := h
end Go.Proofs.Ytphjlcogjalidaa
