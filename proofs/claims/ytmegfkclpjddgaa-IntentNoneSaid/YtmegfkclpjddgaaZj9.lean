/-
  Names and patterns in plain words (layer 1), for later layers. Nothing of any program stands here.
-/
import Derived.Test.YtmegfkclpjddgaaZj8
import Derived.Lib.IndexAny
import Derived.Lib.Strings
namespace Go.Proofs.Ytmegfkclpjddgaa
open Go Go.RowKit
set_option linter.unusedSimpArgs false

/-- A name. -/
def rightB (l : List UInt8) : Bool := decide (l.length ≤ 24) && spellsB [45] l && !Lib.hasPrefix l [45] && !Lib.hasSuffix l [45]
/-- A pattern. -/
def patternB (l : List UInt8) : Bool := l == [42] || rightB l
/-- Does a pattern take a name? -/
def matchB (p l : List UInt8) : Bool := (p == [42] || p == l) && rightB l

theorem right_true {l : List UInt8} (h1 : 1 ≤ l.length) (h2 : l.length ≤ 24) (h : ∀ j (hj : j < l.length), plainB l[j] = true ∨ (l[j] = 45 ∧ j ≠ 0 ∧ j ≠ l.length - 1)) : rightB l = true := by
  have hs : spellsB [45] l = true := by
    rw [spells_of]
    refine ⟨by rintro rfl; simp at h1, fun c hc => ?_⟩
    obtain ⟨j, hj, rfl⟩ := List.mem_iff_getElem.1 hc
    rcases h j hj with h | ⟨h, _⟩
    · simp [okB, h]
    · simp [okB, h]
  have np : plainB 45 = false := by decide
  have hp : Lib.hasPrefix l [45] = false := by
    rw [Bool.eq_false_iff]
    intro e
    rw [hasPrefix_one] at e
    have h0 : l[0] = 45 := by simpa [List.getElem?_eq_getElem (show 0 < l.length by omega)] using e
    rcases h 0 (by omega) with h | ⟨_, h, _⟩
    · rw [h0, np] at h; cases h
    · exact h rfl
  have hq : Lib.hasSuffix l [45] = false := by
    rw [Bool.eq_false_iff]
    intro e
    rw [hasSuffix_one] at e
    have h0 : l[l.length - 1] = 45 := by simpa [List.getElem?_eq_getElem (show l.length - 1 < l.length by omega)] using e.2
    rcases h (l.length - 1) (by omega) with h | ⟨_, _, h⟩
    · rw [h0, np] at h; cases h
    · exact h rfl
  simp [rightB, hs, hp, hq, h2]

theorem right_false {l : List UInt8} {j : Nat} (hj : j < l.length) (hp : plainB l[j] = false) (h : l[j] ≠ 45 ∨ j = 0 ∨ j = l.length - 1) : rightB l = false := by
  rw [Bool.eq_false_iff]
  intro e
  unfold rightB at e
  simp only [Bool.and_eq_true, decide_eq_true_eq, Bool.not_eq_true'] at e
  obtain ⟨⟨⟨_, hs⟩, h1⟩, h2⟩ := e
  have ho := ((spells_of _ _).1 hs).2 l[j] (List.getElem_mem hj)
  have h45 : l[j] = 45 := by simpa [okB, hp] using ho
  rcases h with h | h | h
  · exact h h45
  · subst h
    have : Lib.hasPrefix l [45] = true := by rw [hasPrefix_one, List.getElem?_eq_getElem hj, h45]
    rw [this] at h1; cases h1
  · have : Lib.hasSuffix l [45] = true := by
      rw [hasSuffix_one]
      refine ⟨by rintro rfl; simp at hj, ?_⟩
      subst h
      rw [List.getElem?_eq_getElem hj, h45]
    rw [this] at h2; cases h2

theorem right_short {l : List UInt8} (h : l.length < 1 ∨ 24 < l.length) : rightB l = false := by
  rcases h with h | h
  · have : l = [] := List.eq_nil_of_length_eq_zero (by omega)
    subst this
    decide
  · simp [rightB, show ¬ l.length ≤ 24 by omega]

/-! ### Keys -/
end Go.Proofs.Ytmegfkclpjddgaa
