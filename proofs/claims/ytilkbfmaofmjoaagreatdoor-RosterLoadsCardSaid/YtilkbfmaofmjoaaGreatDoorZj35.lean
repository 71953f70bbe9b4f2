import Derived.Test.YtilkbfmaofmjoaaGreatDoorZj34
import Derived.Test.YtilkbfmaofmjoaaGreatDoorZj13
import Derived.Test.YtilkbfmaofmjoaaGreatDoorZj15
import Derived.Test.YtilkbfmaofmjoaaGreatDoorZj17
import Derived.Test.YtilkbfmaofmjoaaGreatDoorZj20
import Derived.Test.YtilkbfmaofmjoaaGreatDoorZj22
import Derived.Test.YtilkbfmaofmjoaaGreatDoorZj24
import Derived.Test.YtilkbfmaofmjoaaGreatDoorZj25
import Derived.Test.YtilkbfmaofmjoaaGreatDoorZj27
import Derived.Test.YtilkbfmaofmjoaaGreatDoorZj32
namespace Go.Proofs.YtilkbfmaofmjoaaGreatDoor.Ct
open Go.RowKit Go.Shelf
set_option linter.unusedSimpArgs false
set_option linter.unusedVariables false
open Tryz renaming func107 → f_find, func134 → f_find1, ntmps107 → n_find, ntmps134 → n_find1
theorem run_geq_str (x y : ByteArray) (b : Bool) (h : ltT x y = b) (w : World) : (binOp .geq 9 (.string x) (.string y)).run Tryz.prog w = .ok (.bool !b) w := by
  unfold ltT at h
  simp [binOp, Op.binOp, Tryz.underlying9, Op.stringOp, h]
theorem closure_any {S : Nat → Prop} {w : World} {B : Nat} {A : Option Addr} {c : Nat} {t : Tb CkW} (key : ByteArray) (X Y : Nat) (i : Nat) (h : TIs S w B A c t) (hx : w.heap[X]? = some (.cells #[.pointer (some ⟨B, 0, none⟩)] 68 (0, 0))) (hy : w.heap[Y]? = some (.cells #[.string key] 9 (0, 0))) (hi : i < t.l.length) :
    Calls Tryz.prog 134 #[.int .i64 (i : Int), .pointer (some ⟨X, 0, none⟩), .pointer (some ⟨Y, 0, none⟩)] w fun e w' => e = .returned (.bool (geK t.l key i)) ∧ Below w.heap.size w w' := run_closure_any
set_option maxHeartbeats 1000000 in
theorem find_any {S : Nat → Prop} {w : World} {B : Nat} {t : Tb CkW} (key : ByteArray) (h : TAt S w B t) :
    Calls Tryz.prog 107 #[.pointer (some ⟨B, 0, none⟩), .string key] w fun e w' => e = .returned (.tuple #[.int .i64 (plc t.l key : Int), .bool (hasB t.l key)]) ∧ Below w.heap.size w w' := run_find_any
end Go.Proofs.YtilkbfmaofmjoaaGreatDoor.Ct
namespace Go.Proofs.YtilkbfmaofmjoaaGreatDoor.Ct
open Go.RowKit
set_option linter.unusedSimpArgs false
set_option linter.unusedVariables false
open Tryz renaming func108 → f_cat, func135 → f_grow, ntmps108 → n_cat, ntmps135 → n_grow, underlying103 → u_SR
set_option maxHeartbeats 1000000 in
theorem grow_any (n : Nat) (hn : n ≤ 1000) (w : World) :
    Calls Tryz.prog 135 #[.slice none 0 0, .int .i64 (n : Int)] w fun e w' => ∃ v, e = .returned v ∧ twRow w' w.heap.size v [] ∧ Below w.heap.size w w' := run_grow_any
set_option maxHeartbeats 2000000 in
theorem concat_any (Z : Nat) (ps : List (Pc CkW)) (w : World) (h : Pcs trC 10 w Z ps) (hl : ps.length ≤ 100) (hj : (joinP ps).length ≤ 1000) :
    Calls Tryz.prog 108 #[.slice (some ⟨Z, 0, none⟩) ps.length ps.length] w fun e w' => ∃ v, e = .returned v ∧ twRow w' w.heap.size v (joinP ps) ∧ Below w.heap.size w w' := run_concat_any
end Go.Proofs.YtilkbfmaofmjoaaGreatDoor.Ct
namespace Go.Proofs.YtilkbfmaofmjoaaGreatDoor.Ct
open Go.RowKit
set_option linter.unusedSimpArgs false
set_option linter.unusedVariables false
theorem tw_size (w : World) : (sizeOf (Tryz.prog.elem 103)).run Tryz.prog w = .ok 10 w := by kernel_rfl
theorem run_tail {A : Option Addr} {L c lo : Nat} (w : World) (h1 : lo ≤ L) (h2 : L ≤ c) : (Instr.sliceAt 103 (.slice A L c) (some (.int .i64 (lo : Int))) none none).run Tryz.prog w = .ok (.slice (tailA 10 A lo c) (L - lo) (c - lo)) w := run_run_tail
theorem run_head {A : Option Addr} {L c i : Nat} (w : World) (h : A = none ∨ ∃ g, A = some ⟨g, 0, none⟩) (h2 : i ≤ c) : (Instr.sliceAt 103 (.slice A L c) none (some (.int .i64 (i : Int))) none).run Tryz.prog w = .ok (.slice A i c) w := run_run_head
def noRw : Rw CkW := ⟨⟨#[]⟩, ⟨⟨0, ⟨#[]⟩, ⟨#[]⟩, ⟨#[]⟩, 0⟩, 0, 0⟩, 0, 0⟩
def gotR (o : Option (Rw CkW)) : Value := .tuple #[trV (o.getD noRw), .bool o.isSome]
end Go.Proofs.YtilkbfmaofmjoaaGreatDoor.Ct
namespace Go.Proofs.YtilkbfmaofmjoaaGreatDoor.Ct
open Go.RowKit Go.Rel
set_option linter.unusedSimpArgs false
set_option linter.unusedVariables false
theorem cat3 {S : Nat → Prop} {W : World} {B : Nat} {A : Option Addr} {c : Nat} {t : Tb CkW} (h : TIs S W B A c t) {a b : Nat} (ha : a ≤ t.l.length) (hb : b ≤ t.l.length) (hab : a ≤ b) (h64 : t.l.length ≤ 64) (r : Rw CkW) {Z Y : Nat}
    (kz : W.heap[Z]? = some (.cells #[.slice A a c, .slice (some ⟨Y, 0, none⟩) 1 1, .slice (tailA 10 A b c) (t.l.length - b) (c - b)] 103 (0, 0))) (ky : W.heap[Y]? = some (.cells #[.string r.key, .int .i64 r.val.a.node, .string r.val.a.id, .string r.val.a.svc, .string r.val.a.note, .int .i64 r.val.a.status, .int .u64 (r.val.jm : Int), .int .u64 (r.val.ji : Int), .int .u64 (r.made : Int), .int .u64 (r.ix : Int)] 120 (0, 0))) :
    Calls Tryz.prog 108 #[.slice (some ⟨Z, 0, none⟩) 3 3] W fun e w' => ∃ v, e = .returned v ∧ twRow w' W.heap.size v (t.l.take a ++ r :: t.l.drop b) ∧ Below W.heap.size W w' := run_cat3
end Go.Proofs.YtilkbfmaofmjoaaGreatDoor.Ct
namespace Go.Proofs.YtilkbfmaofmjoaaGreatDoor.Ct
open Go.RowKit Go.Rel
set_option linter.unusedSimpArgs false
set_option linter.unusedVariables false
open Tryz renaming func105 → f_Put, ntmps105 → n_Put, results105 → r_Put
def putE (B : Nat) (Y : Nat) (A : Option Addr) (L : Nat) (c : Nat) (pa : Nat) (pb : Nat) (r : Rw CkW) : Nat → Value
  | 0 | 1 | 2 | 9 | 10 | 17 => .pointer (some ⟨B, 0, none⟩)
  | 3 | 11 | 18 => .pointer (some ⟨B, 2, none⟩)
  | 4 | 12 => .slice A L c
  | 5 => .int .i64 (pa : Int)
  | 6 => .slice A pa c
  | 7 => .agg #[.string r.key, .int .i64 r.val.a.node, .string r.val.a.id, .string r.val.a.svc, .string r.val.a.note, .int .i64 r.val.a.status, .int .u64 (r.val.jm : Int), .int .u64 (r.val.ji : Int), .int .u64 (r.made : Int), .int .u64 (r.ix : Int)]
  | 13 => .int .i64 (pb : Int)
  | 14 => .slice (tailA 10 A pb c) (L - pb) (c - pb)
  | _ => undef
def putV (t : Tb CkW) (k : ByteArray) (v : CkW) (i : Nat) : Value := if t.fullB k then .tuple #[trV noRw, .int .i64 5] else .tuple #[trV (t.row k v i), .int .i64 0]
theorem fullB_iff (t : Tb CkW) (k : ByteArray) : t.fullB k = true ↔ t.full k := by
  unfold Tb.fullB Tb.full
  cases getR t.l k <;> simp
structure Ahead (S2 : Nat → Prop) (w W0 : World) (X0 X B Y : Nat) (A : Option Addr) (L c pa pb : Nat) (t : Tb CkW) (k : ByteArray) (v : CkW) (i : Nat) (r : Rw CkW) : Prop where
  tb : TIs S2 W0 B A c t
  row : t.row k v i = r
  y : W0.heap[Y]? = some (.cells #[.string r.key, .int .i64 r.val.a.node, .string r.val.a.id, .string r.val.a.svc, .string r.val.a.note, .int .i64 r.val.a.status, .int .u64 (r.val.jm : Int), .int .u64 (r.val.ji : Int), .int .u64 (r.made : Int), .int .u64 (r.ix : Int)] 120 (0, 0))
  x : W0.heap[X]? = some (.cells #[.string ⟨#[]⟩, .int .i64 0, .string ⟨#[]⟩, .string ⟨#[]⟩, .string ⟨#[]⟩, .int .i64 0, .int .u64 0, .int .u64 0, .int .u64 0, .int .u64 0] 120 (0, 0))
  below : Below X0 w W0
  full : t.fullB k = false
  lay : layR r false t.l = t.l.take pa ++ r :: t.l.drop pb
  ab : pa ≤ L ∧ pb ≤ L ∧ pa ≤ pb
set_option maxHeartbeats 8000000 in
set_option maxRecDepth 100000 in
theorem put_any {S : Nat → Prop} {w : World} {B : Nat} {t : Tb CkW} (k : ByteArray) (v : CkW) (i : Nat) (h : TAt S w B t) (hi : i < 18446744073709551616) (hk : k.size ≤ maxLen) :
    Calls Tryz.prog 105 #[.pointer (some ⟨B, 0, none⟩), .string k, .agg #[.int .i64 v.a.node, .string v.a.id, .string v.a.svc, .string v.a.note, .int .i64 v.a.status, .int .u64 (v.jm : Int), .int .u64 (v.ji : Int)], .int .u64 (i : Int)] w fun e w' => e = .returned (putV t k v i) ∧ TAt (fun k => S k ∨ w.heap.size ≤ k) w' B (t.putT k v i) ∧ But (· = B) w w' := run_put_any
end Go.Proofs.YtilkbfmaofmjoaaGreatDoor.Ct
namespace Go.Proofs.YtilkbfmaofmjoaaGreatDoor.Ct
open Go.RowKit Go.Rel
set_option linter.unusedSimpArgs false
set_option linter.unusedVariables false
open Tryz renaming func62 → f_Drop, ntmps62 → n_Drop
end Go.Proofs.YtilkbfmaofmjoaaGreatDoor.Ct
namespace Go.Proofs.YtilkbfmaofmjoaaGreatDoor.Ct
open Go.RowKit Go.Shelf Go.Rel
attribute [local go_sem] Oper.semAt_some
set_option linter.unusedSimpArgs false
set_option linter.unusedVariables false
open Tryz renaming func144 → f_it, ntmps144 → n_it
def rwEncs (x : Rw CkW) : Array Value := #[trV x]
set_option maxHeartbeats 4000000 in
set_option maxRecDepth 100000 in
theorem values_tells (D : Nat → Prop) (k : Nat) (hk : 1 ≤ k) (Bx c : Nat) (A : Option Addr) (l : List (Rw CkW)) (w : World) (hl : l.length ≤ 1000) (hD : ∀ k, RowsB A l.length k → ¬ D k) (hBx : w.heap[Bx]? = some (.cells #[.slice A l.length c] 103 (0, 0))) (hR : SK trC 10 w A l.length l) :
    SeqP Fence.wide k Tryz.prog 144 #[.pointer (some ⟨Bx, 0, none⟩)] rwEncs (nextIs l) (KpD D) (fun xs => xs = l) (fun pre => ∃ j, pre = l.take j) l.length w := run_values_tells
theorem twRow.slice {w w' : World} {u : Value} {l : List (Rw CkW)} {base : Nat} (h : twRow w' base u l) : ∃ A c, u = .slice A l.length c ∧ SK trC 10 w' A l.length l ∧ l.length ≤ c ∧ c ≤ maxLen ∧ ∀ b off, A = some ⟨b, off, none⟩ → base ≤ b := SK.of_row trC_len h
end Go.Proofs.YtilkbfmaofmjoaaGreatDoor.Ct
namespace Go.Proofs.YtilkbfmaofmjoaaGreatDoor.Ct
open Go.RowKit Go.Shelf Go.Rel
attribute [local go_sem] Oper.semAt_some
set_option linter.unusedSimpArgs false
set_option linter.unusedVariables false
open Tryz renaming func50 → f_List, func126 → f_aseq, func94 → f_coll, func144 → f_it, ntmps50 → n_List, ntmps126 → n_aseq, ntmps94 → n_coll, underlying103 → u_SR
def apMk (X : Nat) (fv : Value) (x : Rw CkW) (Bx : Nat) : Act := { tmps := #[.slice none 0 0, fv, .pointer (some ⟨X, 0, none⟩), undef, .slice none 0 0, .pointer (some ⟨Bx, 0, none⟩), fv, .agg #[.string x.key, .int .i64 x.val.a.node, .string x.val.a.id, .string x.val.a.svc, .string x.val.a.note, .int .i64 x.val.a.status, .int .u64 (x.val.jm : Int), .int .u64 (x.val.ji : Int), .int .u64 (x.made : Int), .int .u64 (x.ix : Int)], undef, undef, undef, undef, undef], defers := [] }
set_option maxHeartbeats 4000000 in
set_option maxRecDepth 100000 in
theorem append_seq_any (k : Nat) (hk : 2 ≤ k) (lb : Array Value) (l : List (Rw CkW)) (hN : l.length ≤ 1000) (w : World) (hseq : SeqP Fence.wide (k - 1) Tryz.prog 144 lb rwEncs (nextIs l) (KpD (fun k => w.heap.size ≤ k)) (fun xs => xs = l) (fun pre => ∃ j, pre = l.take j) l.length w) :
    CallsIn Fence.wide k Tryz.prog 126 #[.slice none 0 0, .func (.func 144) #[] lb] w fun e w' => ∃ v, e = .returned v ∧ twRow w' w.heap.size v l ∧ Below w.heap.size w w' := run_append_seq_any
set_option maxHeartbeats 2000000 in
theorem collect_any (k : Nat) (hk : 3 ≤ k) (lb : Array Value) (l : List (Rw CkW)) (hN : l.length ≤ 1000) (w : World) (hseq : SeqP Fence.wide (k - 1 - 1) Tryz.prog 144 lb rwEncs (nextIs l) (KpD (fun k => w.heap.size ≤ k)) (fun xs => xs = l) (fun pre => ∃ j, pre = l.take j) l.length w) :
    CallsIn Fence.wide k Tryz.prog 94 #[.func (.func 144) #[] lb] w fun e w' => ∃ v, e = .returned v ∧ twRow w' w.heap.size v l ∧ Below w.heap.size w w' := run_collect_any
theorem collect_now {w w' : World} {v : Value} {l : List (Rw CkW)} {Bx : Nat} {A : Option Addr} {c : Nat} (h : Now w w' v l Bx A c) (hl : l.length ≤ 1000) :
    Calls Tryz.prog 94 #[v] w' fun e w2 => ∃ u, e = .returned u ∧ twRow w2 w'.heap.size u l ∧ Below w'.heap.size w' w2 := run_collect_now
section
variable {S : Nat → Prop} {w : World} {B : Nat} {t : Tb CkW}
theorem now_t (h : TAt S w B t) : Calls Tryz.prog 95 #[.pointer (some ⟨B, 0, none⟩)] w fun e w' => ∃ v Bx A c, e = .returned v ∧ Now w w' v t.l Bx A c := by
  obtain ⟨hok, A, c, h1⟩ := h
  exact (now_is h1 hok.most.1).mono fun e w' ⟨v, Bx, a, b⟩ => ⟨v, Bx, A, c, a, b⟩
theorem list_any (h : TAt S w B t) : Calls Tryz.prog 50 #[.pointer (some ⟨B, 0, none⟩)] w (New w t.l) := run_list_any
end
end Go.Proofs.YtilkbfmaofmjoaaGreatDoor.Ct
namespace Go.Proofs.YtilkbfmaofmjoaaGreatDoor.Ct
open Go.RowKit Go.Shelf Go.Rel
attribute [local go_sem] Oper.semAt_some
set_option linter.unusedSimpArgs false
set_option linter.unusedVariables false
open Tryz renaming func54 → f_Under, func144 → f_it, ntmps54 → n_Under, underlying103 → u_SR
def unMk (pv : Value) (p : ByteArray) (Pb X : Nat) (fv : Value) (x : Rw CkW) (Bx : Nat) : Act := { tmps := #[pv, .string p, undef, .pointer (some ⟨Pb, 0, none⟩), .slice none 0 0, .pointer (some ⟨X, 0, none⟩), .pointer (some ⟨Bx, 0, none⟩), pv, fv, .agg #[.string x.key, .int .i64 x.val.a.node, .string x.val.a.id, .string x.val.a.svc, .string x.val.a.note, .int .i64 x.val.a.status, .int .u64 (x.val.jm : Int), .int .u64 (x.val.ji : Int), .int .u64 (x.made : Int), .int .u64 (x.ix : Int)], undef, undef, undef, undef, undef, undef, undef, undef, undef], defers := [] }
set_option maxHeartbeats 4000000 in
set_option maxRecDepth 100000 in
theorem under_walk {q : Option Addr} {l : List (Rw CkW)} (p : ByteArray) (w : World) (hp : p.size ≤ maxLen) (hks : ∀ x ∈ l, x.key.size ≤ maxLen) (h64 : l.length ≤ 64)
    (hnow : ∀ W, Below w.heap.size w W → Calls Tryz.prog 95 #[.pointer q] W fun e w' => ∃ v Bx A c, e = .returned v ∧ Now W w' v l Bx A c ∧ ∀ k, RowsB A l.length k → k < w.heap.size) :
    Calls Tryz.prog 54 #[.pointer q, .string p] w (New w (undR l p)) := run_under_walk
theorem under_t {S : Nat → Prop} {w : World} {B : Nat} {t : Tb CkW} (p : ByteArray) (h : TAt S w B t) (hp : p.size ≤ maxLen) : Calls Tryz.prog 54 #[.pointer (some ⟨B, 0, none⟩), .string p] w (New w (undR t.l p)) := run_under_t
end Go.Proofs.YtilkbfmaofmjoaaGreatDoor.Ct
