/-
  slices.AppendSeq and Collect at a table's rows; List, walked.
-/
import Derived.Test.YtnobpbbedclbkaaZj12
import Derived.Test.YtnobpbbedclbkaaZj13
namespace Go.Proofs.Ytnobpbbedclbkaa.Sx
open Go.RowKit Go.Shelf Go.Rel
attribute [local go_sem] Oper.semAt_some
set_option linter.unusedSimpArgs false
set_option linter.unusedVariables false

open Try renaming func42 → f_List, func50 → f_aseq, func48 → f_coll, func52 → f_it, ntmps42 → n_List, ntmps50 → n_aseq, ntmps48 → n_coll, underlying78 → u_SR
def apMk (X : Nat) (fv : Value) (x : Rw Int) (Bx : Nat) : Act := { tmps := #[.slice none 0 0, fv, .pointer (some ⟨X, 0, none⟩), undef, .slice none 0 0, .pointer (some ⟨Bx, 0, none⟩), fv, .agg #[.string x.key, .int .i64 x.val, .int .u64 (x.made : Int), .int .u64 (x.ix : Int)], undef, undef, undef, undef, undef], defers := [] }
set_option maxHeartbeats 4000000 in
set_option maxRecDepth 100000 in
theorem append_seq_any (k : Nat) (hk : 2 ≤ k) (lb : Array Value) (l : List (Rw Int)) (hN : l.length ≤ 1000) (w : World) (hseq : SeqP Fence.wide (k - 1) Try.prog 52 lb rwEncs (nextIs l) (KpD (fun k => w.heap.size ≤ k)) (fun xs => xs = l) (fun pre => ∃ j, pre = l.take j) l.length w) :
    CallsIn Fence.wide k Try.prog 50 #[.slice none 0 0, .func (.func 52) #[] lb] w fun e w' => ∃ v, e = .returned v ∧ twRow w' w.heap.size v l ∧ Below w.heap.size w w' := run_append_seq_any
set_option maxHeartbeats 2000000 in
theorem collect_any (k : Nat) (hk : 3 ≤ k) (lb : Array Value) (l : List (Rw Int)) (hN : l.length ≤ 1000) (w : World) (hseq : SeqP Fence.wide (k - 1 - 1) Try.prog 52 lb rwEncs (nextIs l) (KpD (fun k => w.heap.size ≤ k)) (fun xs => xs = l) (fun pre => ∃ j, pre = l.take j) l.length w) :
    CallsIn Fence.wide k Try.prog 48 #[.func (.func 52) #[] lb] w fun e w' => ∃ v, e = .returned v ∧ twRow w' w.heap.size v l ∧ Below w.heap.size w w' := run_collect_any
/-- All that a function yields, collected. -/
theorem collect_now {w w' : World} {v : Value} {l : List (Rw Int)} {Bx : Nat} {A : Option Addr} {c : Nat} (h : Now w w' v l Bx A c) (hl : l.length ≤ 1000) :
    Calls Try.prog 48 #[v] w' fun e w2 => ∃ u, e = .returned u ∧ twRow w2 w'.heap.size u l ∧ Below w'.heap.size w' w2 := run_collect_now
section
variable {S : Nat → Prop} {w : World} {B : Nat} {t : Tb Int}
theorem now_t (h : TAt S w B t) : Calls Try.prog 49 #[.pointer (some ⟨B, 0, none⟩)] w fun e w' => ∃ v Bx A c, e = .returned v ∧ Now w w' v t.l Bx A c := by
  obtain ⟨hok, A, c, h1⟩ := h
  exact (now_is h1 hok.most.1).mono fun e w' ⟨v, Bx, a, b⟩ => ⟨v, Bx, A, c, a, b⟩
theorem list_any (h : TAt S w B t) : Calls Try.prog 42 #[.pointer (some ⟨B, 0, none⟩)] w (New w t.l) := run_list_any
theorem list_no {p : Option Addr} (h : NoTp 80 w p) : Calls Try.prog 42 #[.pointer p] w (New w []) := run_list_no
end
end Go.Proofs.Ytnobpbbedclbkaa.Sx
