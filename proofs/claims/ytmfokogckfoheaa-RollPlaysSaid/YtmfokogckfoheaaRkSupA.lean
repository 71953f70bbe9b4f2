/-
  The program's Join tells a slice that reads as the table; Same of equal ones (layer 8; without the document's Join).
-/
import Derived.Test.YtmfokogckfoheaaRkJoin
namespace Go.Proofs.Ytmfokogckfoheaa
open Go.RowKit
set_option linter.unusedSimpArgs false
set_option linter.unusedVariables false

/-- A slice is told that reads as j; what was there is as it was. -/
def JoinPost (w : World) (j : List Up) (e : Ending) (w' : World) : Prop := ∃ A c, e = .returned (.slice A j.length c) ∧ SUp w' A j.length j ∧ j.length ≤ c ∧ c ≤ maxLen ∧ Below w.heap.size w w'
theorem JoinPost.of {w : World} {j : List Up} {e : Ending} {w' : World} (h : (∃ v, e = .returned v ∧ upRow w' w.heap.size v j) ∧ Below w.heap.size w w') : JoinPost w j e w' := by
  obtain ⟨⟨v, rfl, hv⟩, hb⟩ := h
  obtain ⟨A, c, rfl, h1, h2, h3⟩ := SUp.of_row hv
  exact ⟨A, c, rfl, h1, h2, h3, hb⟩
theorem join_sup (A : Option Addr) (n c : Nat) (l : List Up) (A2 : Option Addr) (n2 c2 : Nat) (l2 : List Up) (w : World) (hS : SUp w A n l) (hnc : n ≤ c) (hm : c ≤ maxLen) (hS2 : SUp w A2 n2 l2) (hnc2 : n2 ≤ c2) (hm2 : c2 ≤ maxLen) :
    Calls Try.prog 26 #[.slice A n c, .slice A2 n2 c2] w (JoinPost w (joinU l l2)) := (join_any A n c l A2 n2 c2 l2 w hS hnc hm hS2 hnc2 hm2).mono (fun e w' h => JoinPost.of h)
theorem same_yes (A : Option Addr) (n c : Nat) (A2 : Option Addr) (n2 c2 : Nat) (l : List Up) (w : World) (hS : SUp w A n l) (hS2 : SUp w A2 n2 l) (hnc : n ≤ c) (hm : c ≤ maxLen) :
    Calls Try.prog 19 #[.slice A n c, .slice A2 n2 c2] w fun e w' => e = .returned (.bool true) ∧ Below w.heap.size w w' := by
  have := same_any A n c l A2 n2 c2 l w hS hS2 hnc hm
  unfold sameL at this
  rwa [decide_eq_true rfl] at this
end Go.Proofs.Ytmfokogckfoheaa
