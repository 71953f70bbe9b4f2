/-
  Where a key's row stands: find, by sort.Search and a closure, walked.
-/
import Derived.Test.YtnobpbbedclbkaaZj10
import Derived.Test.YtnobpbbedclbkaaZj15
namespace Go.Proofs.Ytnobpbbedclbkaa.Sx
open Go.RowKit Go.Shelf
set_option linter.unusedSimpArgs false
set_option linter.unusedVariables false

open Try renaming func40 → f_find, func46 → f_find1, ntmps40 → n_find, ntmps46 → n_find1
/-- '>=' of two texts. -/
theorem run_geq_str (x y : ByteArray) (b : Bool) (h : ltT x y = b) (w : World) : (binOp .geq 9 (.string x) (.string y)).run Try.prog w = .ok (.bool !b) w := by
  unfold ltT at h
  simp [binOp, Op.binOp, Try.underlying9, Op.stringOp, h]
theorem closure_any {S : Nat → Prop} {w : World} {B : Nat} {A : Option Addr} {c : Nat} {t : Tb Int} (key : ByteArray) (X Y : Nat) (i : Nat) (h : TIs S w B A c t) (hx : w.heap[X]? = some (.cells #[.pointer (some ⟨B, 0, none⟩)] 57 (0, 0))) (hy : w.heap[Y]? = some (.cells #[.string key] 9 (0, 0))) (hi : i < t.l.length) :
    Calls Try.prog 46 #[.int .i64 (i : Int), .pointer (some ⟨X, 0, none⟩), .pointer (some ⟨Y, 0, none⟩)] w fun e w' => e = .returned (.bool (geK t.l key i)) ∧ Below w.heap.size w w' := run_closure_any
set_option maxHeartbeats 1000000 in
theorem find_any {S : Nat → Prop} {w : World} {B : Nat} {t : Tb Int} (key : ByteArray) (h : TAt S w B t) :
    Calls Try.prog 40 #[.pointer (some ⟨B, 0, none⟩), .string key] w fun e w' => e = .returned (.tuple #[.int .i64 (plc t.l key : Int), .bool (hasB t.l key)]) ∧ Below w.heap.size w w' := run_find_any
end Go.Proofs.Ytnobpbbedclbkaa.Sx
