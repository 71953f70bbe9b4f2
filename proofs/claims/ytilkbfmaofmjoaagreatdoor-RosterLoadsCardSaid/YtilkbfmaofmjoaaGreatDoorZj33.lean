import Derived.Test.YtilkbfmaofmjoaaGreatDoorZj30
import Derived.Test.YtilkbfmaofmjoaaGreatDoorZj32
namespace Go.Proofs.YtilkbfmaofmjoaaGreatDoor.Vt
open Go.RowKit Go.Shelf Go.Rel
attribute [local go_sem] Oper.semAt_some
set_option linter.unusedSimpArgs false
set_option linter.unusedVariables false
open Tryz renaming func53 → f_Under, func143 → f_it, ntmps53 → n_Under, underlying95 → u_SR
def unMk (pv : Value) (p : ByteArray) (Pb X : Nat) (fv : Value) (x : Rw SvW) (Bx : Nat) : Act := { tmps := #[pv, .string p, undef, .pointer (some ⟨Pb, 0, none⟩), .slice none 0 0, .pointer (some ⟨X, 0, none⟩), .pointer (some ⟨Bx, 0, none⟩), pv, fv, .agg #[.string x.key, .int .i64 x.val.a.node, .string x.val.a.id, .string x.val.a.name, .slice x.val.A x.val.n x.val.c, .int .i64 x.val.a.port, .int .u64 (x.val.jm : Int), .int .u64 (x.val.ji : Int), .int .u64 (x.made : Int), .int .u64 (x.ix : Int)], undef, undef, undef, undef, undef, undef, undef, undef, undef], defers := [] }
set_option maxHeartbeats 4000000 in
set_option maxRecDepth 100000 in
theorem under_walk {q : Option Addr} {l : List (Rw SvW)} (p : ByteArray) (w : World) (hp : p.size ≤ maxLen) (hks : ∀ x ∈ l, x.key.size ≤ maxLen) (h64 : l.length ≤ 64)
    (hnow : ∀ W, Below w.heap.size w W → Calls Tryz.prog 91 #[.pointer q] W fun e w' => ∃ v Bx A c, e = .returned v ∧ Now W w' v l Bx A c ∧ ∀ k, RowsB A l.length k → k < w.heap.size) :
    Calls Tryz.prog 53 #[.pointer q, .string p] w (New w (undR l p)) := run_under_walk
theorem under_t {S : Nat → Prop} {w : World} {B : Nat} {t : Tb SvW} (p : ByteArray) (h : TAt S w B t) (hp : p.size ≤ maxLen) : Calls Tryz.prog 53 #[.pointer (some ⟨B, 0, none⟩), .string p] w (New w (undR t.l p)) := run_under_t
end Go.Proofs.YtilkbfmaofmjoaaGreatDoor.Vt
