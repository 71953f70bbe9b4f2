/-
  Pieces of a list of rows (two-index slices), and Get, walked.
-/
import Derived.Test.YtnobpbbedclbkaaZj16
import Derived.Test.YtnobpbbedclbkaaZj18
import Derived.Test.YtnobpbbedclbkaaZj19
namespace Go.Proofs.Ytnobpbbedclbkaa.Sx
open Go.RowKit
set_option linter.unusedSimpArgs false
set_option linter.unusedVariables false

open Try renaming func27 → f_Get, ntmps27 → n_Get, results27 → r_Get
theorem tw_size (w : World) : (sizeOf (Try.prog.elem 78)).run Try.prog w = .ok 4 w := by kernel_rfl
theorem run_tail {A : Option Addr} {L c lo : Nat} (w : World) (h1 : lo ≤ L) (h2 : L ≤ c) : (Instr.sliceAt 78 (.slice A L c) (some (.int .i64 (lo : Int))) none none).run Try.prog w = .ok (.slice (tailA 4 A lo c) (L - lo) (c - lo)) w := run_run_tail
theorem run_head {A : Option Addr} {L c i : Nat} (w : World) (h : A = none ∨ ∃ g, A = some ⟨g, 0, none⟩) (h2 : i ≤ c) : (Instr.sliceAt 78 (.slice A L c) none (some (.int .i64 (i : Int))) none).run Try.prog w = .ok (.slice A i c) w := run_run_head
/-- A row of no key. -/
def noRw : Rw Int := ⟨⟨#[]⟩, 0, 0, 0⟩
/-- The row with a key, or the row of none. -/
def gotR (o : Option (Rw Int)) : Value := .tuple #[trV (o.getD noRw), .bool o.isSome]
section
variable {S : Nat → Prop} {w : World} {B : Nat} {t : Tb Int}
set_option maxHeartbeats 2000000 in
theorem get_any (key : ByteArray) (h : TAt S w B t) :
    Calls Try.prog 27 #[.pointer (some ⟨B, 0, none⟩), .string key] w fun e w' => e = .returned (gotR (getR t.l key)) ∧ Below w.heap.size w w' := run_get_any
theorem get_no {q : Option Addr} (key : ByteArray) (h : NoTp 80 w q) : Calls Try.prog 27 #[.pointer q, .string key] w fun e w' => e = .returned (gotR none) ∧ Below w.heap.size w w' := run_get_no
end
end Go.Proofs.Ytnobpbbedclbkaa.Sx
