import Derived.Test.YtilkbfmaofmjoaaGreatDoorZj12
import Derived.Test.YtilkbfmaofmjoaaGreatDoorZj13
namespace Go.Proofs.YtilkbfmaofmjoaaGreatDoor.Nt
open Go.RowKit Go.Shelf
set_option linter.unusedSimpArgs false
set_option linter.unusedVariables false
open Tryz renaming func115 → f_find, func136 → f_find1, ntmps115 → n_find, ntmps136 → n_find1
theorem run_geq_str (x y : ByteArray) (b : Bool) (h : ltT x y = b) (w : World) : (binOp .geq 9 (.string x) (.string y)).run Tryz.prog w = .ok (.bool !b) w := by
  unfold ltT at h
  simp [binOp, Op.binOp, Tryz.underlying9, Op.stringOp, h]
theorem closure_any {S : Nat → Prop} {w : World} {B : Nat} {A : Option Addr} {c : Nat} {t : Tb NdW} (key : ByteArray) (X Y : Nat) (i : Nat) (h : TIs S w B A c t) (hx : w.heap[X]? = some (.cells #[.pointer (some ⟨B, 0, none⟩)] 66 (0, 0))) (hy : w.heap[Y]? = some (.cells #[.string key] 9 (0, 0))) (hi : i < t.l.length) :
    Calls Tryz.prog 136 #[.int .i64 (i : Int), .pointer (some ⟨X, 0, none⟩), .pointer (some ⟨Y, 0, none⟩)] w fun e w' => e = .returned (.bool (geK t.l key i)) ∧ Below w.heap.size w w' := run_closure_any
set_option maxHeartbeats 1000000 in
theorem find_any {S : Nat → Prop} {w : World} {B : Nat} {t : Tb NdW} (key : ByteArray) (h : TAt S w B t) :
    Calls Tryz.prog 115 #[.pointer (some ⟨B, 0, none⟩), .string key] w fun e w' => e = .returned (.tuple #[.int .i64 (plc t.l key : Int), .bool (hasB t.l key)]) ∧ Below w.heap.size w w' := run_find_any
end Go.Proofs.YtilkbfmaofmjoaaGreatDoor.Nt
