/-
  What comes into layer 12's laws: steps with their lists, pairs, lists of lists.
-/
import Derived.Test.YtckeknhoimgccaaPrSt
import Derived.Test.YtckeknhoimgccaaCame
namespace Go.Proofs.Ytckeknhoimgccaa
open Go.Joins Go.ChangeShapes Go.WideShapes Go.ChangeAt Go.RowKit
set_option linter.unusedSimpArgs false

theorem wf64 {z : Int} (h : (Lit.int .i64 z).wf = true) : -9223372036854775808 ≤ z ∧ z ≤ 9223372036854775807 := by simpa [Lit.wf, IntKind.min, IntKind.max, IntKind.signed, IntKind.bits] using h
noncomputable def i64C : Came Try.prog 3 Int := Came.int Try.underlying3 (by kernel_rfl)
theorem wfu8 (z : Int) (h : (Lit.int .u8 z).wf = true) : 0 ≤ z ∧ z < ((256 : Nat) : Int) := by
  have : 0 ≤ z ∧ z ≤ 255 := by simpa [Lit.wf, IntKind.min, IntKind.max, IntKind.signed, IntKind.bits] using h
  omega
noncomputable def u8C : Came Try.prog 5 Nat := Came.nat Try.underlying5 (by kernel_rfl) 256 wfu8
noncomputable def stpC : Came Try.prog 35 St :=
  (Came.struct (CameF.cons i64C (CameF.cons i64C (CameF.cons i64C (CameF.cons (i64C.slice (by decide) Try.underlying27 (by kernel_rfl)) (CameF.nil _))))) Try.underlying35 (by kernel_rfl) (by kernel_rfl)).re
    (fun x => ⟨x.1, x.2.1, x.2.2.1, x.2.2.2.1⟩) (fun x => [.int .i64 x.kind, .int .i64 x.node, .int .i64 x.many, .slice x.live.A x.live.l.length x.live.c])
    (fun W N x => i64C.ok W N x.kind ∧ i64C.ok W N x.node ∧ i64C.ok W N x.many ∧ (i64C.slice (by decide) Try.underlying27 (by kernel_rfl)).ok W N x.live) (fun _ => rfl)
    (fun h => ⟨rfl, h.1, h.2.1, h.2.2.1, h.2.2.2.1⟩) (fun h hb => ⟨i64C.keep h.1 hb, i64C.keep h.2.1 hb, i64C.keep h.2.2.1 hb, (i64C.slice (by decide) Try.underlying27 (by kernel_rfl)).keep h.2.2.2 hb⟩)
noncomputable def livC : Came Try.prog 27 (Sl Int) := i64C.slice (by decide) Try.underlying27 (by kernel_rfl)
noncomputable def two8 : Came Try.prog 51 (Nat × Nat) := u8C.pair Try.underlying51 (by kernel_rfl)
noncomputable def twoI : Came Try.prog 56 (Int × Int) := i64C.pair Try.underlying56 (by kernel_rfl)
theorem liv_of {W : World} {N : Nat} {s : Sl Int} (h : livC.ok W N s) : Liv W s := Liv.of_sk (enc := i64C.enc) (fun _ => rfl) h.1 h.2.2.1 h.2.2.2.1
end Go.Proofs.Ytckeknhoimgccaa
