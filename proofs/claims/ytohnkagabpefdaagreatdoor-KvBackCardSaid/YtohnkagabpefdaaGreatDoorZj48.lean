/-
  What comes into layer 16's laws: steps.
-/
import Derived.Test.YtohnkagabpefdaaGreatDoorZj38
import Derived.Test.YtohnkagabpefdaaGreatDoorZj47
namespace Go.Proofs.YtohnkagabpefdaaGreatDoor
open Go.Joins Go.ChangeShapes Go.WideShapes Go.ChangeAt Go.RowKit
set_option linter.unusedSimpArgs false

theorem wf64 {z : Int} (h : (Lit.int .i64 z).wf = true) : -9223372036854775808 ≤ z ∧ z ≤ 9223372036854775807 := by simpa [Lit.wf, IntKind.min, IntKind.max, IntKind.signed, IntKind.bits] using h
noncomputable def i64C : Came Tryz.prog 3 Int := Came.int Tryz.underlying3 (by kernel_rfl)
theorem wfu64 (z : Int) (h : (Lit.int .u64 z).wf = true) : 0 ≤ z ∧ z < ((18446744073709551616 : Nat) : Int) := by
  have : 0 ≤ z ∧ z ≤ 18446744073709551615 := by simpa [Lit.wf, IntKind.min, IntKind.max, IntKind.signed, IntKind.bits] using h
  omega
noncomputable def u64C : Came Tryz.prog 28 Nat := Came.nat Tryz.underlying28 (by kernel_rfl) 18446744073709551616 wfu64
noncomputable def strC : Came Tryz.prog 9 ByteArray := Came.str Tryz.underlying9 (by kernel_rfl)
noncomputable def stC : Came Tryz.prog 30 KSt :=
  (Came.struct (CameF.cons i64C (CameF.cons strC (CameF.cons strC (CameF.cons u64C (CameF.cons u64C (CameF.cons u64C (CameF.nil _))))))) Tryz.underlying30 (by kernel_rfl) (by kernel_rfl)).re
    (fun x => ⟨x.1, x.2.1, x.2.2.1, x.2.2.2.1, x.2.2.2.2.1, x.2.2.2.2.2.1⟩) (fun x => [.int .i64 x.kind, .string x.key, .string x.val, .int .u64 (x.old : Int), .int .u64 (x.ses : Int), .int .u64 (x.ix : Int)])
    (fun W N x => i64C.ok W N x.kind ∧ strC.ok W N x.key ∧ strC.ok W N x.val ∧ u64C.ok W N x.old ∧ u64C.ok W N x.ses ∧ u64C.ok W N x.ix) (fun _ => rfl)
    (fun h => ⟨rfl, h.1, h.2.1, h.2.2.1, h.2.2.2.1, h.2.2.2.2.1, h.2.2.2.2.2.1⟩) (fun h hb => ⟨i64C.keep h.1 hb, strC.keep h.2.1 hb, strC.keep h.2.2.1 hb, u64C.keep h.2.2.2.1 hb, u64C.keep h.2.2.2.2.1 hb, u64C.keep h.2.2.2.2.2 hb⟩)
theorem kst_ok {W : World} {N : Nat} {s : KSt} (h : stC.ok W N s) : s.Ok := ⟨h.2.1.1, h.2.2.1.1, h.2.2.2.1, h.2.2.2.2.1, h.2.2.2.2.2⟩
theorem kst_sk {W : World} {A : Option Addr} {n : Nat} {l : List KSt} (h : SK stC.enc stC.k W A n l) : SK stCs 6 W A n l := h
end Go.Proofs.YtohnkagabpefdaaGreatDoor
