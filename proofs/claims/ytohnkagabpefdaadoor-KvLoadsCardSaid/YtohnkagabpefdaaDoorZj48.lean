/-
  What comes into layer 16's laws: steps.
-/
import Derived.Test.YtohnkagabpefdaaDoorZj46
import Derived.Test.YtohnkagabpefdaaDoorZj47
import Derived.Test.YtohnkagabpefdaaDoorZj42
namespace Go.Proofs.YtohnkagabpefdaaDoor
open Go.Joins Go.ChangeShapes Go.WideShapes Go.ChangeAt Go.RowKit
set_option linter.unusedSimpArgs false

theorem wf64 {z : Int} (h : (Lit.int .i64 z).wf = true) : -9223372036854775808 ≤ z ∧ z ≤ 9223372036854775807 := by simpa [Lit.wf, IntKind.min, IntKind.max, IntKind.signed, IntKind.bits] using h
noncomputable def i64C : Came Tryd.prog 3 Int := Came.int Tryd.underlying3 (by kernel_rfl)
theorem wfu64 (z : Int) (h : (Lit.int .u64 z).wf = true) : 0 ≤ z ∧ z < ((18446744073709551616 : Nat) : Int) := by
  have : 0 ≤ z ∧ z ≤ 18446744073709551615 := by simpa [Lit.wf, IntKind.min, IntKind.max, IntKind.signed, IntKind.bits] using h
  omega
noncomputable def u64C : Came Tryd.prog 23 Nat := Came.nat Tryd.underlying23 (by kernel_rfl) 18446744073709551616 wfu64
noncomputable def strC : Came Tryd.prog 9 ByteArray := Came.str Tryd.underlying9 (by kernel_rfl)
noncomputable def stC : Came Tryd.prog 34 KSt :=
  (Came.struct (CameF.cons i64C (CameF.cons strC (CameF.cons strC (CameF.cons u64C (CameF.cons u64C (CameF.cons u64C (CameF.nil _))))))) Tryd.underlying34 (by kernel_rfl) (by kernel_rfl)).re
    (fun x => ⟨x.1, x.2.1, x.2.2.1, x.2.2.2.1, x.2.2.2.2.1, x.2.2.2.2.2.1⟩) (fun x => [.int .i64 x.kind, .string x.key, .string x.val, .int .u64 (x.old : Int), .int .u64 (x.ses : Int), .int .u64 (x.ix : Int)])
    (fun W N x => i64C.ok W N x.kind ∧ strC.ok W N x.key ∧ strC.ok W N x.val ∧ u64C.ok W N x.old ∧ u64C.ok W N x.ses ∧ u64C.ok W N x.ix) (fun _ => rfl)
    (fun h => ⟨rfl, h.1, h.2.1, h.2.2.1, h.2.2.2.1, h.2.2.2.2.1, h.2.2.2.2.2.1⟩) (fun h hb => ⟨i64C.keep h.1 hb, strC.keep h.2.1 hb, strC.keep h.2.2.1 hb, u64C.keep h.2.2.2.1 hb, u64C.keep h.2.2.2.2.1 hb, u64C.keep h.2.2.2.2.2 hb⟩)
theorem kst_ok {W : World} {N : Nat} {s : KSt} (h : stC.ok W N s) : s.Ok := ⟨h.2.1.1, h.2.2.1.1, h.2.2.2.1, h.2.2.2.2.1, h.2.2.2.2.2⟩
theorem kst_sk {W : World} {A : Option Addr} {n : Nat} {l : List KSt} (h : SK stC.enc stC.k W A n l) : SK stCs 6 W A n l := h
end Go.Proofs.YtohnkagabpefdaaDoor
/-
  Entries, as they come into layer 16's laws.
-/
namespace Go.Proofs.YtohnkagabpefdaaDoor
open Go.Joins Go.ChangeShapes Go.WideShapes Go.ChangeAt Go.RowKit
noncomputable def enM : Came Tryd.prog 40 En :=
  (Came.struct (CameF.cons strC (CameF.cons strC (CameF.cons u64C (CameF.cons u64C (CameF.cons u64C (CameF.cons u64C (CameF.nil _))))))) Tryd.underlying40 (by kernel_rfl) (by kernel_rfl)).re
    (fun x => ⟨x.1, ⟨x.2.1, x.2.2.1, x.2.2.2.1⟩, x.2.2.2.2.1, x.2.2.2.2.2.1⟩) (fun x => [.string x.key, .string x.val.v, .int .u64 (x.val.ses : Int), .int .u64 (x.val.lck : Int), .int .u64 (x.made : Int), .int .u64 (x.ix : Int)])
    (fun W N x => strC.ok W N x.key ∧ strC.ok W N x.val.v ∧ u64C.ok W N x.val.ses ∧ u64C.ok W N x.val.lck ∧ u64C.ok W N x.made ∧ u64C.ok W N x.ix) (fun _ => rfl)
    (fun h => ⟨rfl, h.1, h.2.1, h.2.2.1, h.2.2.2.1, h.2.2.2.2.1, h.2.2.2.2.2.1⟩) (fun h hb => ⟨strC.keep h.1 hb, strC.keep h.2.1 hb, u64C.keep h.2.2.1 hb, u64C.keep h.2.2.2.1 hb, u64C.keep h.2.2.2.2.1 hb, u64C.keep h.2.2.2.2.2 hb⟩)
theorem en_in {W : World} {N : Nat} {e : En} (h : enM.ok W N e) : InE e := ⟨h.1.1, h.2.1.1, h.2.2.1, h.2.2.2.1, h.2.2.2.2.1, h.2.2.2.2.2⟩
theorem en_sk {W : World} {A : Option Addr} {n : Nat} {l : List En} (h : SK enM.enc enM.k W A n l) : SK enC 6 W A n l := h
end Go.Proofs.YtohnkagabpefdaaDoor
