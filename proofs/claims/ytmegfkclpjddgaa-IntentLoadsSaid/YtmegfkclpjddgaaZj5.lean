/-
  Intentions in plain words (layer 17): how exact one is, which one counts, the rows. Nothing of any program stands here.
-/
import Derived.Test.YtmegfkclpjddgaaZj3
import Derived.Test.YtmegfkclpjddgaaZj4
namespace Go.Proofs.Ytmegfkclpjddgaa
open Go Go.RowKit
set_option linter.unusedSimpArgs false
set_option linter.unusedVariables false

/-- An intention. -/
structure Ir where
  src : ByteArray
  dst : ByteArray
  allow : Bool
  made : Nat
  ix : Nat
def starB (s : ByteArray) : Bool := s.toList == [42]
/-- How exact it is. -/
def rankI (a b : ByteArray) : Nat := if starB b then (if starB a then 0 else 1) else if starB a then 2 else 3
def Ir.rank (x : Ir) : Nat := rankI x.src x.dst
theorem rank_le (x : Ir) : x.rank ≤ 3 := by
  unfold Ir.rank rankI
  split <;> split <;> omega
/-- Does it apply? -/
def Ir.app (x : Ir) (s d : ByteArray) : Bool := matchB x.src.data.toList s.data.toList && matchB x.dst.data.toList d.data.toList
/-- Does one stand ahead of another one? -/
def aheadI (a b : Ir) : Bool := if a.rank = b.rank then ltT a.dst b.dst || (a.dst.toList == b.dst.toList && ltT a.src b.src) else decide (b.rank < a.rank)
/-- Which one counts, if any. -/
def Chosen (l : List Ir) (s d : ByteArray) : Option Nat → Prop
  | none => ∀ j, ∀ h : j < l.length, l[j].app s d = false
  | some k => ∃ h : k < l.length, l[k].app s d = true ∧ (∀ j, ∀ hj : j < l.length, l[j].app s d = true → l[j].rank ≤ l[k].rank) ∧ ∀ j, ∀ hj : j < k, l[j].app s d = true → l[j].rank < l[k].rank
theorem Chosen.uniq {l : List Ir} {s d : ByteArray} {o p : Option Nat} (h : Chosen l s d o) (k : Chosen l s d p) : o = p := by
  cases o with
  | none =>
    cases p with
    | none => rfl
    | some j =>
      obtain ⟨hj, ha, _⟩ := k
      rw [h j hj] at ha; cases ha
  | some i =>
    obtain ⟨hi, ha, hb, hc⟩ := h
    cases p with
    | none =>
      rw [k i hi] at ha; cases ha
    | some j =>
      obtain ⟨hj, ka, kb, kc⟩ := k
      rcases Nat.lt_trichotomy i j with q | q | q
      · have h1 := kc i q ha
        have h2 := hb j hj ka
        omega
      · rw [q]
      · have h1 := hc j q ka
        have h2 := kb i hi ha
        omega
theorem chosen_ex (l : List Ir) (s d : ByteArray) : ∃ o, Chosen l s d o := by
  suffices H : ∀ n, n ≤ l.length → ∃ o, Chosen (l.take n) s d o by
    obtain ⟨o, h⟩ := H l.length (Nat.le_refl _)
    exact ⟨o, by rw [List.take_length] at h; exact h⟩
  intro n
  induction n with
  | zero => intro _; exact ⟨none, fun j h => by simp at h⟩
  | succ n ih =>
    intro hn
    obtain ⟨o, ho⟩ := ih (by omega)
    have hlt : n < l.length := by omega
    have len : (l.take (n + 1)).length = n + 1 := by simp; omega
    have len' : (l.take n).length = n := by simp; omega
    have get : ∀ j (h : j < (l.take (n + 1)).length), (l.take (n + 1))[j] = l[j]'(by simp at h; omega) := fun j h => by simp
    have get' : ∀ j (h : j < (l.take n).length), (l.take n)[j] = l[j]'(by simp at h; omega) := fun j h => by simp
    cases ha : l[n].app s d with
    | false =>
      cases o with
      | none =>
        refine ⟨none, fun j h => ?_⟩
        rw [get]
        by_cases hj : j < n
        · have := ho j (by omega); rwa [get'] at this
        · obtain rfl : j = n := by omega
          exact ha
      | some i =>
        obtain ⟨hi, h1, h2, h3⟩ := ho
        rw [get'] at h1
        refine ⟨some i, by omega, by rw [get]; exact h1, fun j hj hja => ?_, fun j hj hja => ?_⟩
        · rw [get] at hja ⊢
          rw [get]
          by_cases hjn : j < n
          · have := h2 j (by omega) (by rw [get']; exact hja); rwa [get', get'] at this
          · obtain rfl : j = n := by omega
            rw [ha] at hja; cases hja
        · rw [get] at hja ⊢
          rw [get]
          have := h3 j hj (by rw [get']; exact hja); rwa [get', get'] at this
    | true =>
      cases o with
      | none =>
        have no : ∀ j (h : j < n), l[j].app s d = false := fun j h => by have := ho j (by omega); rwa [get'] at this
        refine ⟨some n, by omega, by rw [get]; exact ha, fun j hj hja => ?_, fun j hj hja => ?_⟩
        · rw [get] at hja ⊢
          rw [get]
          by_cases hjn : j < n
          · rw [no j hjn] at hja; cases hja
          · obtain rfl : j = n := by omega
            exact Nat.le_refl _
        · rw [get] at hja
          rw [no j hj] at hja; cases hja
      | some i =>
        obtain ⟨hi, h1, h2, h3⟩ := ho
        rw [get'] at h1
        have hin : i < n := by omega
        by_cases hr : l[i].rank < l[n].rank
        · refine ⟨some n, by omega, by rw [get]; exact ha, fun j hj hja => ?_, fun j hj hja => ?_⟩
          · rw [get] at hja ⊢
            rw [get]
            by_cases hjn : j < n
            · have := h2 j (by omega) (by rw [get']; exact hja); rw [get', get'] at this; omega
            · obtain rfl : j = n := by omega
              exact Nat.le_refl _
          · rw [get] at hja ⊢
            rw [get]
            have := h2 j (by omega) (by rw [get']; exact hja); rw [get', get'] at this; omega
        · refine ⟨some i, by omega, by rw [get]; exact h1, fun j hj hja => ?_, fun j hj hja => ?_⟩
          · rw [get] at hja ⊢
            rw [get]
            by_cases hjn : j < n
            · have := h2 j (by omega) (by rw [get']; exact hja); rwa [get', get'] at this
            · obtain rfl : j = n := by omega
              omega
          · rw [get] at hja ⊢
            rw [get]
            have := h3 j hj (by rw [get']; exact hja); rwa [get', get'] at this
end Go.Proofs.Ytmegfkclpjddgaa
