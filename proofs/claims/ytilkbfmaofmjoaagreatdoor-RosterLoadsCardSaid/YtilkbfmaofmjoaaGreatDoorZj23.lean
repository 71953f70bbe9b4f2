import Derived.Test.YtilkbfmaofmjoaaGreatDoorZj21
import Derived.Test.YtilkbfmaofmjoaaGreatDoorZj22
namespace Go.Proofs.YtilkbfmaofmjoaaGreatDoor.Nt
open Go.RowKit Go.Rel
set_option linter.unusedSimpArgs false
set_option linter.unusedVariables false
open Tryz renaming func114 → f_Put, ntmps114 → n_Put, results114 → r_Put
def putE (B : Nat) (Y : Nat) (A : Option Addr) (L : Nat) (c : Nat) (pa : Nat) (pb : Nat) (r : Rw NdW) : Nat → Value
  | 0 | 1 | 2 | 9 | 10 | 17 => .pointer (some ⟨B, 0, none⟩)
  | 3 | 11 | 18 => .pointer (some ⟨B, 2, none⟩)
  | 4 | 12 => .slice A L c
  | 5 => .int .i64 (pa : Int)
  | 6 => .slice A pa c
  | 7 => .agg #[.string r.key, .int .i64 r.val.a.node, .string r.val.a.addr, .int .u64 (r.val.jm : Int), .int .u64 (r.val.ji : Int), .int .u64 (r.made : Int), .int .u64 (r.ix : Int)]
  | 13 => .int .i64 (pb : Int)
  | 14 => .slice (tailA 7 A pb c) (L - pb) (c - pb)
  | _ => undef
def putV (t : Tb NdW) (k : ByteArray) (v : NdW) (i : Nat) : Value := if t.fullB k then .tuple #[trV noRw, .int .i64 5] else .tuple #[trV (t.row k v i), .int .i64 0]
theorem fullB_iff (t : Tb NdW) (k : ByteArray) : t.fullB k = true ↔ t.full k := by
  unfold Tb.fullB Tb.full
  cases getR t.l k <;> simp
structure Ahead (S2 : Nat → Prop) (w W0 : World) (X0 X B Y : Nat) (A : Option Addr) (L c pa pb : Nat) (t : Tb NdW) (k : ByteArray) (v : NdW) (i : Nat) (r : Rw NdW) : Prop where
  tb : TIs S2 W0 B A c t
  row : t.row k v i = r
  y : W0.heap[Y]? = some (.cells #[.string r.key, .int .i64 r.val.a.node, .string r.val.a.addr, .int .u64 (r.val.jm : Int), .int .u64 (r.val.ji : Int), .int .u64 (r.made : Int), .int .u64 (r.ix : Int)] 130 (0, 0))
  x : W0.heap[X]? = some (.cells #[.string ⟨#[]⟩, .int .i64 0, .string ⟨#[]⟩, .int .u64 0, .int .u64 0, .int .u64 0, .int .u64 0] 130 (0, 0))
  below : Below X0 w W0
  full : t.fullB k = false
  lay : layR r false t.l = t.l.take pa ++ r :: t.l.drop pb
  ab : pa ≤ L ∧ pb ≤ L ∧ pa ≤ pb
set_option maxHeartbeats 8000000 in
set_option maxRecDepth 100000 in
theorem put_any {S : Nat → Prop} {w : World} {B : Nat} {t : Tb NdW} (k : ByteArray) (v : NdW) (i : Nat) (h : TAt S w B t) (hi : i < 18446744073709551616) (hk : k.size ≤ maxLen) :
    Calls Tryz.prog 114 #[.pointer (some ⟨B, 0, none⟩), .string k, .agg #[.int .i64 v.a.node, .string v.a.addr, .int .u64 (v.jm : Int), .int .u64 (v.ji : Int)], .int .u64 (i : Int)] w fun e w' => e = .returned (putV t k v i) ∧ TAt (fun k => S k ∨ w.heap.size ≤ k) w' B (t.putT k v i) ∧ But (· = B) w w' := run_put_any
end Go.Proofs.YtilkbfmaofmjoaaGreatDoor.Nt
