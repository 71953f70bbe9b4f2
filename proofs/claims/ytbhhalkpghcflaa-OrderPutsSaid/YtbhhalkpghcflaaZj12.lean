/-
  Behind a region that was walked by wp_region_grew: the whole frame, slot by slot (own law, of whatever program).
-/
import Derived.Test.YtbhhalkpghcflaaZj11
namespace Go.Rel
open Go Go.RowKit

/-- One slot is written anew. -/
def reset (a : Act) (t : Array Value) (o : Oper) : Array Value := match o.dst with | some d => t.setIfInBounds d (a.tmps.getD d undef) | none => t
theorem reset_size (a : Act) (t : Array Value) (o : Oper) : (reset a t o).size = t.size := by unfold reset; split <;> simp
theorem reset_all (a : Act) : ∀ (l : List Oper) (t : Array Value), (l.foldl (reset a) t).size = t.size ∧ ∀ i, (l.foldl (reset a) t)[i]? = if (l.any fun o => o.dst == some i) = true ∧ i < t.size then some (a.tmps.getD i undef) else t[i]?
  | [], t => ⟨rfl, fun i => by simp⟩
  | o :: l, t => by
    obtain ⟨h1, h2⟩ := reset_all a l (reset a t o)
    refine ⟨by rw [List.foldl_cons, h1, reset_size], fun i => ?_⟩
    rw [List.foldl_cons, h2, reset_size, List.any_cons]
    by_cases hl : (l.any fun o => o.dst == some i) = true
    · by_cases hi : i < t.size
      · rw [if_pos ⟨hl, hi⟩, if_pos ⟨by rw [hl, Bool.or_true], hi⟩]
      · rw [if_neg (fun h => hi h.2), if_neg (fun h => hi h.2)]
        have k1 : (reset a t o)[i]? = none := Array.getElem?_eq_none (by rw [reset_size]; exact Nat.le_of_not_lt hi)
        have k2 : t[i]? = none := Array.getElem?_eq_none (Nat.le_of_not_lt hi)
        rw [k1, k2]
    · rw [if_neg (fun h => hl h.1)]
      have hl' : (l.any fun o => o.dst == some i) = false := by simpa using hl
      rw [hl', Bool.or_false]
      unfold reset
      cases hd : o.dst with
      | none => simp
      | some d =>
        by_cases e : d = i
        · subst e
          by_cases hi : d < t.size
          · simp [hi]
          · simp [hi]
        · have hb : (some d == some i) = false := by simpa using e
          simp [Array.getElem?_setIfInBounds_ne e, hb]
theorem Same.shape {ops : Array Oper} {a0 a : Act} (h : Same ops a0 a) : a = { tmps := ops.toList.foldl (reset a) a0.tmps, defers := a0.defers } := by
  obtain ⟨h1, h2, h3⟩ := h
  obtain ⟨k1, k2⟩ := reset_all a ops.toList a0.tmps
  have e : a.tmps = ops.toList.foldl (reset a) a0.tmps := by
    apply Array.ext_getElem?
    intro i
    rw [k2]
    by_cases hi : (ops.toList.any fun o => o.dst == some i) = true
    · by_cases hs : i < a0.tmps.size
      · rw [if_pos ⟨hi, hs⟩]
        simp [Array.getD_eq_getD_getElem?, show i < a.tmps.size by omega]
      · rw [if_neg (fun h => hs h.2), Array.getElem?_eq_none (by omega), Array.getElem?_eq_none (by omega)]
    · rw [if_neg (fun h => hi h.1)]
      refine h3 i ?_
      have hi' : (ops.toList.any fun o => o.dst == some i) = false := by simpa using hi
      rw [List.any_eq_false] at hi'
      rw [Array.all_eq_true_iff_forall_mem]
      intro o ho
      have := hi' o (by simpa using ho)
      simpa using this
  cases a
  simp only at h1 e
  rw [← h1, ← e]
end Go.Rel
