/-
  What comes into layer 17's laws: intentions, steps, two texts.
-/
import Derived.Test.YtmegfkclpjddgaaZj13
import Derived.Test.YtmegfkclpjddgaaZj48
namespace Go.Proofs.Ytmegfkclpjddgaa
open Go.Joins Go.ChangeShapes Go.WideShapes Go.ChangeAt Go.RowKit
set_option linter.unusedSimpArgs false

theorem wf64 {z : Int} (h : (Lit.int .i64 z).wf = true) : -9223372036854775808 ≤ z ∧ z ≤ 9223372036854775807 := by simpa [Lit.wf, IntKind.min, IntKind.max, IntKind.signed, IntKind.bits] using h
noncomputable def i64C : Came Try.prog 3 Int := Came.int Try.underlying3 (by kernel_rfl)
theorem wfu64 (z : Int) (h : (Lit.int .u64 z).wf = true) : 0 ≤ z ∧ z < ((18446744073709551616 : Nat) : Int) := by
  have : 0 ≤ z ∧ z ≤ 18446744073709551615 := by simpa [Lit.wf, IntKind.min, IntKind.max, IntKind.signed, IntKind.bits] using h
  omega
noncomputable def u64C : Came Try.prog 28 Nat := Came.nat Try.underlying28 (by kernel_rfl) 18446744073709551616 wfu64
noncomputable def strC : Came Try.prog 9 ByteArray := Came.str Try.underlying9 (by kernel_rfl)
noncomputable def boolC : Came Try.prog 4 Bool := Came.bool Try.underlying4 (by kernel_rfl)
noncomputable def irM : Came Try.prog 45 Ir :=
  (Came.struct (CameF.cons strC (CameF.cons strC (CameF.cons boolC (CameF.cons u64C (CameF.cons u64C (CameF.nil _)))))) Try.underlying45 (by kernel_rfl) (by kernel_rfl)).re
    (fun x => ⟨x.1, x.2.1, x.2.2.1, x.2.2.2.1, x.2.2.2.2.1⟩) (fun x => [.string x.src, .string x.dst, .bool x.allow, .int .u64 (x.made : Int), .int .u64 (x.ix : Int)])
    (fun W N x => strC.ok W N x.src ∧ strC.ok W N x.dst ∧ boolC.ok W N x.allow ∧ u64C.ok W N x.made ∧ u64C.ok W N x.ix) (fun _ => rfl)
    (fun h => ⟨rfl, h.1, h.2.1, h.2.2.1, h.2.2.2.1, h.2.2.2.2.1⟩) (fun h hb => ⟨strC.keep h.1 hb, strC.keep h.2.1 hb, boolC.keep h.2.2.1 hb, u64C.keep h.2.2.2.1 hb, u64C.keep h.2.2.2.2 hb⟩)
theorem ir_in {W : World} {N : Nat} {x : Ir} (h : irM.ok W N x) : x.In := ⟨h.1.1, h.2.1.1, h.2.2.2.1, h.2.2.2.2⟩
theorem ir_sk {W : World} {A : Option Addr} {n : Nat} {l : List Ir} (h : SK irM.enc irM.k W A n l) : SK irC 5 W A n l := h
noncomputable def twoS : Came Try.prog 47 (ByteArray × ByteArray) := strC.pair Try.underlying47 (by kernel_rfl)
end Go.Proofs.Ytmegfkclpjddgaa
