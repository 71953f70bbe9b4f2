import Derived.Test.YtilkbfmaofmjoaaGreatDoorZj12
import Derived.Test.YtilkbfmaofmjoaaGreatDoorZj25
namespace Go.Proofs.YtilkbfmaofmjoaaGreatDoor.Nt
open Go.RowKit Go.Shelf Go.Rel
attribute [local go_sem] Oper.semAt_some
set_option linter.unusedSimpArgs false
set_option linter.unusedVariables false
open Tryz renaming func142 → f_it, ntmps142 → n_it
def rwEncs (x : Rw NdW) : Array Value := #[trV x]
set_option maxHeartbeats 4000000 in
set_option maxRecDepth 100000 in
theorem values_tells (D : Nat → Prop) (k : Nat) (hk : 1 ≤ k) (Bx c : Nat) (A : Option Addr) (l : List (Rw NdW)) (w : World) (hl : l.length ≤ 1000) (hD : ∀ k, RowsB A l.length k → ¬ D k) (hBx : w.heap[Bx]? = some (.cells #[.slice A l.length c] 86 (0, 0))) (hR : SK trC 7 w A l.length l) :
    SeqP Fence.wide k Tryz.prog 142 #[.pointer (some ⟨Bx, 0, none⟩)] rwEncs (nextIs l) (KpD D) (fun xs => xs = l) (fun pre => ∃ j, pre = l.take j) l.length w := run_values_tells
theorem twRow.slice {w w' : World} {u : Value} {l : List (Rw NdW)} {base : Nat} (h : twRow w' base u l) : ∃ A c, u = .slice A l.length c ∧ SK trC 7 w' A l.length l ∧ l.length ≤ c ∧ c ≤ maxLen ∧ ∀ b off, A = some ⟨b, off, none⟩ → base ≤ b := SK.of_row trC_len h
end Go.Proofs.YtilkbfmaofmjoaaGreatDoor.Nt
