import Derived.Test.YtilkbfmaofmjoaaGreatDoorZj20
import Derived.Test.YtilkbfmaofmjoaaGreatDoorZj23
namespace Go.Proofs.YtilkbfmaofmjoaaGreatDoor.Nt
open Go.RowKit Go.Rel
set_option linter.unusedSimpArgs false
set_option linter.unusedVariables false
open Tryz renaming func72 → f_Drop, ntmps72 → n_Drop
def dropE (B : Nat) (A : Option Addr) (L : Nat) (c : Nat) (pa : Nat) (pb : Nat) : Nat → Value
  | 0 | 1 | 2 | 7 | 8 | 16 => .pointer (some ⟨B, 0, none⟩)
  | 3 | 9 | 17 => .pointer (some ⟨B, 2, none⟩)
  | 4 | 10 => .slice A L c
  | 5 | 11 => .int .i64 (pa : Int)
  | 6 => .slice A pa c
  | 12 => .int .i64 (pb : Int)
  | 13 => .slice (tailA 7 A pb c) (L - pb) (c - pb)
  | _ => undef
set_option maxHeartbeats 8000000 in
set_option maxRecDepth 100000 in
theorem drop_any {S : Nat → Prop} {w : World} {B : Nat} {t : Tb NdW} (k : ByteArray) (i : Nat) (h : TAt S w B t) (hi : i < 18446744073709551616) :
    Calls Tryz.prog 72 #[.pointer (some ⟨B, 0, none⟩), .string k, .int .u64 (i : Int)] w fun e w' => e = .returned (.bool (getR t.l k).isSome) ∧ TAt (fun k => S k ∨ w.heap.size ≤ k) w' B (t.dropT k i) ∧ But (· = B) w w' := run_drop_any
end Go.Proofs.YtilkbfmaofmjoaaGreatDoor.Nt
