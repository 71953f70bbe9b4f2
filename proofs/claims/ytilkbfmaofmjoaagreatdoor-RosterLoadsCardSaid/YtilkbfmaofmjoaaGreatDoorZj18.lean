import Derived.Test.YtilkbfmaofmjoaaGreatDoorZj14
import Derived.Test.YtilkbfmaofmjoaaGreatDoorZj16
import Derived.Test.YtilkbfmaofmjoaaGreatDoorZj17
namespace Go.Proofs.YtilkbfmaofmjoaaGreatDoor.Nt
open Go.RowKit
set_option linter.unusedSimpArgs false
set_option linter.unusedVariables false
open Tryz renaming func103 → f_Get, ntmps103 → n_Get, results103 → r_Get
theorem tw_size (w : World) : (sizeOf (Tryz.prog.elem 86)).run Tryz.prog w = .ok 7 w := by kernel_rfl
theorem run_tail {A : Option Addr} {L c lo : Nat} (w : World) (h1 : lo ≤ L) (h2 : L ≤ c) : (Instr.sliceAt 86 (.slice A L c) (some (.int .i64 (lo : Int))) none none).run Tryz.prog w = .ok (.slice (tailA 7 A lo c) (L - lo) (c - lo)) w := run_run_tail
theorem run_head {A : Option Addr} {L c i : Nat} (w : World) (h : A = none ∨ ∃ g, A = some ⟨g, 0, none⟩) (h2 : i ≤ c) : (Instr.sliceAt 86 (.slice A L c) none (some (.int .i64 (i : Int))) none).run Tryz.prog w = .ok (.slice A i c) w := run_run_head
def noRw : Rw NdW := ⟨⟨#[]⟩, ⟨⟨0, ⟨#[]⟩⟩, 0, 0⟩, 0, 0⟩
def gotR (o : Option (Rw NdW)) : Value := .tuple #[trV (o.getD noRw), .bool o.isSome]
section
variable {S : Nat → Prop} {w : World} {B : Nat} {t : Tb NdW}
set_option maxHeartbeats 2000000 in
theorem get_any (key : ByteArray) (h : TAt S w B t) :
    Calls Tryz.prog 103 #[.pointer (some ⟨B, 0, none⟩), .string key] w fun e w' => e = .returned (gotR (getR t.l key)) ∧ Below w.heap.size w w' := run_get_any
end
end Go.Proofs.YtilkbfmaofmjoaaGreatDoor.Nt
