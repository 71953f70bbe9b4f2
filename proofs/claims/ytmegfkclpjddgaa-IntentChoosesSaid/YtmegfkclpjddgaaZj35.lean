/-
  The best of those that apply, told one after another, in plain words (layer 17). Nothing of any program stands here.
-/
import Derived.Test.YtmegfkclpjddgaaZj10
namespace Go.Proofs.Ytmegfkclpjddgaa
open Go Go.RowKit
set_option linter.unusedSimpArgs false
set_option linter.unusedVariables false

/-- Those of the first j that apply, with their places. -/
def tellI (l : List Ir) (s d : ByteArray) : Nat → List (Nat × Ir)
  | 0 => []
  | j + 1 => tellI l s d j ++ (match l[j]? with | some x => if x.app s d then [(j, x)] else [] | none => [])
theorem tell_yes {l : List Ir} {s d : ByteArray} {j : Nat} {x : Ir} (hx : l[j]? = some x) (ha : x.app s d = true) : tellI l s d (j + 1) = tellI l s d j ++ [(j, x)] := by
  rw [tellI, hx]
  simp [ha]
theorem tell_no {l : List Ir} {s d : ByteArray} {j : Nat} {x : Ir} (hx : l[j]? = some x) (ha : x.app s d = false) : tellI l s d (j + 1) = tellI l s d j := by
  rw [tellI, hx]
  simp [ha]
theorem tell_length (l : List Ir) (s d : ByteArray) : ∀ j, (tellI l s d j).length ≤ j
  | 0 => Nat.le_refl _
  | j + 1 => by
    have := tell_length l s d j
    rw [tellI]
    split
    · split <;> simp <;> omega
    · simp; omega
/-- What is chosen when one more is told. -/
def betI (o : Option (Nat × Ir)) (x : Nat × Ir) : Option (Nat × Ir) := match o with | none => some x | some y => if y.2.rank < x.2.rank then some x else some y
def bestI (pre : List (Nat × Ir)) : Option (Nat × Ir) := pre.foldl betI none
theorem best_snoc (pre : List (Nat × Ir)) (x : Nat × Ir) : bestI (pre ++ [x]) = betI (bestI pre) x := by
  unfold bestI
  rw [List.foldl_append]
  rfl
/-- The best of the first j. -/
def BestUp (l : List Ir) (s d : ByteArray) (j : Nat) : Option (Nat × Ir) → Prop
  | none => ∀ i, i < j → ∀ h : i < l.length, l[i].app s d = false
  | some (k, x) => k < j ∧ l[k]? = some x ∧ x.app s d = true ∧ (∀ i, i < j → ∀ h : i < l.length, l[i].app s d = true → l[i].rank ≤ x.rank) ∧ ∀ i, i < k → ∀ h : i < l.length, l[i].app s d = true → l[i].rank < x.rank
theorem best_up (l : List Ir) (s d : ByteArray) : ∀ j, j ≤ l.length → BestUp l s d j (bestI (tellI l s d j))
  | 0, _ => fun i hi => absurd hi (Nat.not_lt_zero i)
  | j + 1, hj => by
    have ih := best_up l s d j (by omega)
    have hjl : j < l.length := hj
    have hx : l[j]? = some l[j] := List.getElem?_eq_getElem hjl
    cases ha : l[j].app s d with
    | false =>
      rw [tell_no hx ha]
      cases hb : bestI (tellI l s d j) with
      | none =>
        rw [hb] at ih
        intro i hi h
        by_cases e : i < j
        · exact ih i e h
        · obtain rfl : i = j := by omega
          exact ha
      | some p =>
        obtain ⟨k, x⟩ := p
        rw [hb] at ih
        obtain ⟨h1, h2, h3, h4, h5⟩ := ih
        refine ⟨by omega, h2, h3, fun i hi h hia => ?_, h5⟩
        by_cases e : i < j
        · exact h4 i e h hia
        · obtain rfl : i = j := by omega
          rw [ha] at hia; cases hia
    | true =>
      rw [tell_yes hx ha, best_snoc]
      cases hb : bestI (tellI l s d j) with
      | none =>
        rw [hb] at ih
        refine ⟨by omega, hx, ha, fun i hi h hia => ?_, fun i hi h hia => ?_⟩
        · by_cases e : i < j
          · rw [ih i e h] at hia; cases hia
          · obtain rfl : i = j := by omega
            exact Nat.le_refl _
        · rw [ih i hi h] at hia; cases hia
      | some p =>
        obtain ⟨k, x⟩ := p
        rw [hb] at ih
        obtain ⟨h1, h2, h3, h4, h5⟩ := ih
        unfold betI
        simp only
        by_cases hr : x.rank < l[j].rank
        · rw [if_pos hr]
          refine ⟨by omega, hx, ha, fun i hi h hia => ?_, fun i hi h hia => ?_⟩
          · by_cases e : i < j
            · have := h4 i e h hia; omega
            · obtain rfl : i = j := by omega
              exact Nat.le_refl _
          · have := h4 i hi h hia; omega
        · rw [if_neg hr]
          refine ⟨by omega, h2, h3, fun i hi h hia => ?_, h5⟩
          by_cases e : i < j
          · exact h4 i e h hia
          · obtain rfl : i = j := by omega
            omega
theorem best_chosen (l : List Ir) (s d : ByteArray) : Chosen l s d ((bestI (tellI l s d l.length)).map (·.1)) := by
  have h := best_up l s d l.length (Nat.le_refl _)
  cases hb : bestI (tellI l s d l.length) with
  | none =>
    rw [hb] at h
    exact fun j hj => h j hj hj
  | some p =>
    obtain ⟨k, x⟩ := p
    rw [hb] at h
    obtain ⟨h1, h2, h3, h4, h5⟩ := h
    have hk : l[k] = x := by rw [List.getElem?_eq_getElem h1] at h2; exact Option.some.inj h2
    subst hk
    exact ⟨h1, h3, fun j hj ha => h4 j hj hj ha, fun j hj ha => h5 j hj (Nat.lt_trans hj h1) ha⟩
theorem best_at {l : List Ir} {s d : ByteArray} {j k : Nat} {x : Ir} (hj : j ≤ l.length) (h : bestI (tellI l s d j) = some (k, x)) : k < j ∧ l[k]? = some x := by
  have := best_up l s d j hj
  rw [h] at this
  exact ⟨this.1, this.2.1⟩
/-- What is said: the decision and the place. -/
def saidB (b : Bool) : Option (Nat × Ir) → Bool
  | none => b
  | some p => p.2.allow
def saidK : Option (Nat × Ir) → Int
  | none => -1
  | some p => (p.1 : Int)
end Go.Proofs.Ytmegfkclpjddgaa
