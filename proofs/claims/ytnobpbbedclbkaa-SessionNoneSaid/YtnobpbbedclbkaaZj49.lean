/-
  What comes into layer 18's laws: sessions, steps.
-/
import Derived.Test.YtnobpbbedclbkaaZj28
import Derived.Test.YtnobpbbedclbkaaZj9
import Derived.Test.YtnobpbbedclbkaaZj48
namespace Go.Proofs.Ytnobpbbedclbkaa
open Go.Joins Go.ChangeShapes Go.WideShapes Go.ChangeAt Go.RowKit
set_option linter.unusedSimpArgs false

theorem wf64 {z : Int} (h : (Lit.int .i64 z).wf = true) : -9223372036854775808 ≤ z ∧ z ≤ 9223372036854775807 := by simpa [Lit.wf, IntKind.min, IntKind.max, IntKind.signed, IntKind.bits] using h
noncomputable def i64C : Came Try.prog 3 Int := Came.int Try.underlying3 (by kernel_rfl)
theorem wfu64 (z : Int) (h : (Lit.int .u64 z).wf = true) : 0 ≤ z ∧ z < ((18446744073709551616 : Nat) : Int) := by
  have : 0 ≤ z ∧ z ≤ 18446744073709551615 := by simpa [Lit.wf, IntKind.min, IntKind.max, IntKind.signed, IntKind.bits] using h
  omega
noncomputable def u64C : Came Try.prog 27 Nat := Came.nat Try.underlying27 (by kernel_rfl) 18446744073709551616 wfu64
noncomputable def snM : Came Try.prog 48 Sn :=
  (Came.struct (CameF.cons u64C (CameF.cons i64C (CameF.cons u64C (CameF.cons u64C (CameF.nil _))))) Try.underlying48 (by kernel_rfl) (by kernel_rfl)).re
    (fun x => ⟨x.1, x.2.1, x.2.2.1, x.2.2.2.1⟩) (fun x => [.int .u64 (x.id : Int), .int .i64 x.node, .int .u64 (x.made : Int), .int .u64 (x.ix : Int)])
    (fun W N x => u64C.ok W N x.id ∧ i64C.ok W N x.node ∧ u64C.ok W N x.made ∧ u64C.ok W N x.ix) (fun _ => rfl)
    (fun h => ⟨rfl, h.1, h.2.1, h.2.2.1, h.2.2.2.1⟩) (fun h hb => ⟨u64C.keep h.1 hb, i64C.keep h.2.1 hb, u64C.keep h.2.2.1 hb, u64C.keep h.2.2.2 hb⟩)
noncomputable def stM : Came Try.prog 29 NSt :=
  (Came.struct (CameF.cons i64C (CameF.cons i64C (CameF.cons u64C (CameF.cons u64C (CameF.nil _))))) Try.underlying29 (by kernel_rfl) (by kernel_rfl)).re
    (fun x => ⟨x.1, x.2.1, x.2.2.1, x.2.2.2.1⟩) (fun x => [.int .i64 x.kind, .int .i64 x.node, .int .u64 (x.id : Int), .int .u64 (x.ix : Int)])
    (fun W N x => i64C.ok W N x.kind ∧ i64C.ok W N x.node ∧ u64C.ok W N x.id ∧ u64C.ok W N x.ix) (fun _ => rfl)
    (fun h => ⟨rfl, h.1, h.2.1, h.2.2.1, h.2.2.2.1⟩) (fun h hb => ⟨i64C.keep h.1 hb, i64C.keep h.2.1 hb, u64C.keep h.2.2.1 hb, u64C.keep h.2.2.2 hb⟩)
theorem sn_in {W : World} {N : Nat} {x : Sn} (h : snM.ok W N x) : x.In := ⟨h.1, by
  have h1 : (Lit.int .i64 x.node).wf = true := h.2.1
  simpa [Lit.wf, IntKind.min, IntKind.max, IntKind.signed, IntKind.bits] using h1, h.2.2.1, h.2.2.2⟩
theorem sn_sk {W : World} {A : Option Addr} {n : Nat} {l : List Sn} (h : SK snM.enc snM.k W A n l) : SK snC 4 W A n l := h
theorem nst_ok {W : World} {N : Nat} {s : NSt} (h : stM.ok W N s) : s.Ok := ⟨h.2.2.1, h.2.2.2⟩
theorem nst_sk {W : World} {A : Option Addr} {n : Nat} {l : List NSt} (h : SK stM.enc stM.k W A n l) : SK stC 4 W A n l := h
end Go.Proofs.Ytnobpbbedclbkaa
