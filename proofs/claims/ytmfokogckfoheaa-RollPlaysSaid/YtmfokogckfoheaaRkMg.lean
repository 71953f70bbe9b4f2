/-
  The program's merger in memory (layer 8).
-/
import Derived.Test.YtmfokogckfoheaaRkSame
namespace Go.Proofs.Ytmfokogckfoheaa
open Go.RowKit
set_option linter.unusedSimpArgs false
set_option linter.unusedVariables false

theorem blk_cells {w : World} {B : Nat} {cur : Array Value} {t : TypeId} (h : w.heap[B]? = some (.cells cur t (0, 0))) (i : Nat) (v : Value) (hv : cur[i]? = some v) : w.cell? ⟨B, i, none⟩ = some v := by
  rw [cell_of_row w B i cur t (0, 0) h]
  simpa using hv
def slotU (o : Option Up) : Up := o.getD zeroUp
def abvV : Value := .func (.func 25) #[] #[]
/-- The merger, in block M, when the updates of L have come. -/
structure MgAt (w : World) (M : Nat) (L : List Up) (cur : Array Value) : Prop where
  blk : w.heap[M]? = some (.cells cur 79 (0, 0))
  size : cur.size = 33
  fn : cur[0]? = some abvV
  slot : ∀ k : Nat, k < 8 → cur[1 + k * 4]? = some (.int .i64 (slotU (bestOf (k : Int) L)).node) ∧ cur[1 + k * 4 + 1]? = some (.int .u32 ((slotU (bestOf (k : Int) L)).inc : Int)) ∧ cur[1 + k * 4 + 2]? = some (.int .i64 (slotU (bestOf (k : Int) L)).st) ∧ cur[1 + k * 4 + 3]? = some (.bool (bestOf (k : Int) L).isSome)
theorem MgAt.keep {w w' : World} {M : Nat} {L : List Up} {cur : Array Value} (h : MgAt w M L cur) (hb : w'.heap[M]? = w.heap[M]?) : MgAt w' M L cur := ⟨hb.trans h.blk, h.size, h.fn, h.slot⟩
theorem MgAt.skip {w : World} {M : Nat} {L : List Up} {cur : Array Value} (h : MgAt w M L cur) {x : Up} (hx : x.right = false ∨ ∃ v, bestOf x.node L = some v ∧ x.above v = false) : MgAt w M (L ++ [x]) cur := by
  have key : ∀ n : Int, bestOf n (L ++ [x]) = bestOf n L := fun n => by
    rw [bestOf_snoc]
    rcases hx with hx | ⟨v, hv, hx⟩
    · exact stepB_wrong n _ hx
    · by_cases hn : x.node = n
      · subst hn
        rw [hv]
        exact stepB_below _ hx
      · exact stepB_other _ hn
  exact ⟨h.blk, h.size, h.fn, fun k hk => by rw [key]; exact h.slot k hk⟩
theorem MgAt.write {w : World} {M : Nat} {L : List Up} {cur : Array Value} (h : MgAt w M L cur) {x : Up} (hr : x.right = true) {j : Nat} (hj : j < 8) (hn : x.node = (j : Int)) (hx : bestOf (j : Int) L = none ∨ ∃ v, bestOf (j : Int) L = some v ∧ x.above v = true) :
    MgAt ((((w.setCell ⟨M, 1 + j * 4, none⟩ (.int .i64 x.node)).setCell ⟨M, 1 + j * 4 + 1, none⟩ (.int .u32 (x.inc : Int))).setCell ⟨M, 1 + j * 4 + 2, none⟩ (.int .i64 x.st)).setCell ⟨M, 1 + j * 4 + 3, none⟩ (.bool true)) M (L ++ [x])
      ((((cur.setIfInBounds (1 + j * 4) (.int .i64 x.node)).setIfInBounds (1 + j * 4 + 1) (.int .u32 (x.inc : Int))).setIfInBounds (1 + j * 4 + 2) (.int .i64 x.st)).setIfInBounds (1 + j * 4 + 3) (.bool true)) := by
  have hs := h.size
  refine ⟨block_set (block_set (block_set (block_set h.blk _ _) _ _) _ _) _ _, by simp [hs], ?_, fun k hk => ?_⟩
  · rw [Array.getElem?_setIfInBounds_ne (by omega), Array.getElem?_setIfInBounds_ne (by omega), Array.getElem?_setIfInBounds_ne (by omega), Array.getElem?_setIfInBounds_ne (by omega)]
    exact h.fn
  · rw [bestOf_snoc]
    by_cases hkj : k = j
    · subst hkj
      rw [stepB_new hr hn hx]
      refine ⟨?_, ?_, ?_, ?_⟩ <;> simp [Array.getElem?_setIfInBounds, hs, slotU] <;> omega
    · rw [stepB_other _ (by omega)]
      obtain ⟨h0, h1, h2, h3⟩ := h.slot k hk
      refine ⟨?_, ?_, ?_, ?_⟩ <;> (rw [Array.getElem?_setIfInBounds_ne (by omega), Array.getElem?_setIfInBounds_ne (by omega), Array.getElem?_setIfInBounds_ne (by omega), Array.getElem?_setIfInBounds_ne (by omega)]; assumption)
end Go.Proofs.Ytmfokogckfoheaa
