import Derived.Test.YtilkbfmaofmjoaaGreatDoorZj26
import Derived.Test.YtilkbfmaofmjoaaGreatDoorZj27
namespace Go.Proofs.YtilkbfmaofmjoaaGreatDoor.Nt
open Go.RowKit Go.Shelf Go.Rel
attribute [local go_sem] Oper.semAt_some
set_option linter.unusedSimpArgs false
set_option linter.unusedVariables false
open Tryz renaming func44 → f_List, func122 → f_aseq, func86 → f_coll, func142 → f_it, ntmps44 → n_List, ntmps122 → n_aseq, ntmps86 → n_coll, underlying86 → u_SR
def apMk (X : Nat) (fv : Value) (x : Rw NdW) (Bx : Nat) : Act := { tmps := #[.slice none 0 0, fv, .pointer (some ⟨X, 0, none⟩), undef, .slice none 0 0, .pointer (some ⟨Bx, 0, none⟩), fv, .agg #[.string x.key, .int .i64 x.val.a.node, .string x.val.a.addr, .int .u64 (x.val.jm : Int), .int .u64 (x.val.ji : Int), .int .u64 (x.made : Int), .int .u64 (x.ix : Int)], undef, undef, undef, undef, undef], defers := [] }
set_option maxHeartbeats 4000000 in
set_option maxRecDepth 100000 in
theorem append_seq_any (k : Nat) (hk : 2 ≤ k) (lb : Array Value) (l : List (Rw NdW)) (hN : l.length ≤ 1000) (w : World) (hseq : SeqP Fence.wide (k - 1) Tryz.prog 142 lb rwEncs (nextIs l) (KpD (fun k => w.heap.size ≤ k)) (fun xs => xs = l) (fun pre => ∃ j, pre = l.take j) l.length w) :
    CallsIn Fence.wide k Tryz.prog 122 #[.slice none 0 0, .func (.func 142) #[] lb] w fun e w' => ∃ v, e = .returned v ∧ twRow w' w.heap.size v l ∧ Below w.heap.size w w' := run_append_seq_any
set_option maxHeartbeats 2000000 in
theorem collect_any (k : Nat) (hk : 3 ≤ k) (lb : Array Value) (l : List (Rw NdW)) (hN : l.length ≤ 1000) (w : World) (hseq : SeqP Fence.wide (k - 1 - 1) Tryz.prog 142 lb rwEncs (nextIs l) (KpD (fun k => w.heap.size ≤ k)) (fun xs => xs = l) (fun pre => ∃ j, pre = l.take j) l.length w) :
    CallsIn Fence.wide k Tryz.prog 86 #[.func (.func 142) #[] lb] w fun e w' => ∃ v, e = .returned v ∧ twRow w' w.heap.size v l ∧ Below w.heap.size w w' := run_collect_any
theorem collect_now {w w' : World} {v : Value} {l : List (Rw NdW)} {Bx : Nat} {A : Option Addr} {c : Nat} (h : Now w w' v l Bx A c) (hl : l.length ≤ 1000) :
    Calls Tryz.prog 86 #[v] w' fun e w2 => ∃ u, e = .returned u ∧ twRow w2 w'.heap.size u l ∧ Below w'.heap.size w' w2 := run_collect_now
section
variable {S : Nat → Prop} {w : World} {B : Nat} {t : Tb NdW}
theorem now_t (h : TAt S w B t) : Calls Tryz.prog 87 #[.pointer (some ⟨B, 0, none⟩)] w fun e w' => ∃ v Bx A c, e = .returned v ∧ Now w w' v t.l Bx A c := by
  obtain ⟨hok, A, c, h1⟩ := h
  exact (now_is h1 hok.most.1).mono fun e w' ⟨v, Bx, a, b⟩ => ⟨v, Bx, A, c, a, b⟩
theorem list_any (h : TAt S w B t) : Calls Tryz.prog 44 #[.pointer (some ⟨B, 0, none⟩)] w (New w t.l) := run_list_any
end
end Go.Proofs.YtilkbfmaofmjoaaGreatDoor.Nt
