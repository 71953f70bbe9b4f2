/-
  New variables that hold an update, within a region that draws its order (layer 8; without the laws of layer 8).
-/
import Derived.Test.YtmfokogckfoheaaRkRef
import Derived.Test.YtmfokogckfoheaaRelA
import Derived.Test.YtmfokogckfoheaaRkEq
namespace Go.Proofs.Ytmfokogckfoheaa
open Go.RowKit
set_option linter.unusedSimpArgs false
set_option linter.unusedVariables false

abbrev TU : TypeId := 32
/-- What was there is as it was; a new variable of an update stays one. -/
structure LeT (G : Nat) (w w' : World) : Prop where
  but : But (fun k => G ≤ k) w w'
  var : ∀ B u0 u1 u2, G ≤ B → w.heap[B]? = some (.cells #[u0, u1, u2] TU (0, 0)) → ∃ v0 v1 v2, w'.heap[B]? = some (.cells #[v0, v1, v2] TU (0, 0))
theorem LeT.refl (G : Nat) (w : World) : LeT G w w := ⟨But.refl _ _, fun B u0 u1 u2 _ h => ⟨u0, u1, u2, h⟩⟩
theorem LeT.trans {G : Nat} {a b c : World} (h : LeT G a b) (k : LeT G b c) : LeT G a c := ⟨h.but.trans k.but, fun B u0 u1 u2 hB hb => by
  obtain ⟨v0, v1, v2, e⟩ := h.var B u0 u1 u2 hB hb
  exact k.var B v0 v1 v2 hB e⟩
theorem LeT.of_below {G : Nat} {w w' : World} (h : Below w.heap.size w w') : LeT G w w' := ⟨But.of_below h, fun B u0 u1 u2 _ hb => ⟨u0, u1, u2, (h.block B (block_lt hb)).trans hb⟩⟩
theorem LeT.set {G : Nat} (w : World) {X : Nat} (hX : G ≤ X) {c0 c1 c2 : Value} (hh : w.heap[X]? = some (.cells #[c0, c1, c2] TU (0, 0))) (a b c : Value) : LeT G w (((w.setCell ⟨X, 0, none⟩ a).setCell ⟨X, 1, none⟩ b).setCell ⟨X, 2, none⟩ c) := by
  have hb : But (· = X) w (((w.setCell ⟨X, 0, none⟩ a).setCell ⟨X, 1, none⟩ b).setCell ⟨X, 2, none⟩ c) := ((But.set (S := (· = X)) _ (p := ⟨X, 0, none⟩) rfl _).trans (But.set (S := (· = X)) _ (p := ⟨X, 1, none⟩) rfl _)).trans (But.set (S := (· = X)) _ (p := ⟨X, 2, none⟩) rfl _)
  refine ⟨hb.mono (fun k e => by rw [e]; exact hX), fun B u0 u1 u2 hB hu => ?_⟩
  by_cases e : B = X
  · subst e
    exact ⟨a, b, c, set3_blk hh a b c⟩
  · exact ⟨u0, u1, u2, (hb.block B (block_lt hu) e).trans hu⟩
/-- Slot t holds a new variable with the update d. -/
def Holds (G : Nat) (d : Up) (t : Nat) (a : Act) (w : World) : Prop := ∃ B, a.tmps[t]? = some (.pointer (some ⟨B, 0, none⟩)) ∧ G ≤ B ∧ w.heap[B]? = some (.cells #[.int .i64 d.node, .int .u32 (d.inc : Int), .int .i64 d.st] TU (0, 0))
theorem Holds.keep {G : Nat} {d : Up} {t : Nat} {a : Act} {w w' : World} (h : Holds G d t a w) (hb : Below w.heap.size w w') {s : Nat} (hs : s ≠ t) (v : Value) : Holds G d t (a.put (some s) v) w' := by
  obtain ⟨B, h1, h2, h3⟩ := h
  refine ⟨B, ?_, h2, (hb.block B (block_lt h3)).trans h3⟩
  rw [show (a.put (some s) v).tmps = a.tmps.setIfInBounds s v from rfl, Array.getElem?_setIfInBounds_ne hs]
  exact h1
end Go.Proofs.Ytmfokogckfoheaa
