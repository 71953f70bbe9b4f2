/-
  Rows of structs of k cells behind the library's sort, of whatever program.
-/
import Derived.Test.YtmegfkclpjddgaaZj6
import Derived.Shelf.GgSortFunc.RowK
import Derived.Shelf.SlSortCmp.InsertionK
namespace Go.Proofs.Ytmegfkclpjddgaa
open Go.RowKit Go.Sort
set_option linter.unusedSimpArgs false

section
variable {α : Type} {enc : α → List Value} {k : Nat} {E : TypeId} {w w' : World} {A : Option Addr} {n base : Nat} {ss l : List α} {v : Value}
/-! ### Behind the sort -/
variable [Inhabited α]
theorem flatK_at (hk : ∀ x, (enc x).length = k) (l : List α) (t : Nat) (ht : t < l.length * k) : (l.flatMap enc)[t]? = some (flatK enc k l.toArray)[t]! := by
  have hk0 : 0 < k := by
    rcases Nat.eq_zero_or_pos k with e | e
    · rw [e] at ht; omega
    · exact e
  have hd : t / k < l.length := (Nat.div_lt_iff_lt_mul hk0).2 ht
  have hm : t % k < k := Nat.mod_lt _ hk0
  have e := flat_at hk hd (t % k) hm
  have ht2 : t / k * k + t % k = t := by rw [Nat.mul_comm]; exact Nat.div_add_mod t k
  rw [ht2] at e
  rw [e, get_flatK _ _ _ _ (by simpa using ht)]
  have hx : (l.toArray)[t / k]! = l[t / k] := by simp [hd]
  rw [hx, List.getElem!_eq_getElem?_getD, List.getElem?_eq_getElem (by rw [hk]; exact hm)]
  rfl
theorem holdsK_of_row (hk : ∀ x, (enc x).length = k) {g c : Nat} (h : rowK enc E k w base (.slice (some ⟨g, 0, none⟩) l.length c) l) : HoldsK enc k w g 0 l.toArray := by
  have h0 := h
  rcases h.2 with ⟨e, _⟩ | ⟨g', cap, cur, e, hg, hh, hnc, hm, hsz, ht⟩
  · cases e
  · simp only [Value.slice.injEq, Option.some.injEq, Addr.mk.injEq, true_and, and_true] at e
    obtain ⟨rfl, rfl⟩ := e
    intro j hj
    have hj' : j < l.length * k := by simpa using hj
    refine ⟨?_, by simp [World.frozen?, hh]⟩
    have := World.ownsRow.cells h0 (g := g) rfl j _ (flatK_at hk l j hj')
    rwa [plain_add] at this
theorem heap_sortK {g m : Nat} {os : Array Obj} {cur : Array Value} {e : TypeId} {fr : Nat × Nat} (d : Array α) (hb : w.heap[g]? = some (.cells cur e fr)) :
    (sortWorldK enc k w g 0 m d os).heap[g]? = some (.cells (putCells id 0 (flatK enc k d) cur) e fr) := by
  have hg : g < w.heap.size := (Array.getElem?_eq_some_iff.1 hb).1
  unfold sortWorldK putRowK
  rw [heap_grow_old _ _ (by simpa using hg)]
  simp [putRow, mapBlock, Sort.ahead, Array.getElem?_modify, hb, onCells]
theorem grownBy_sortK {g m : Nat} {os : Array Obj} (d : Array α) : w.grownBy (sortWorldK enc k w g 0 m d os) (some g) := by
  unfold sortWorldK putRowK
  refine ⟨rfl, rfl, rfl, by simp, fun k hk hne => ?_⟩
  rw [heap_grow_old _ _ (by simpa using hk)]
  have : g ≠ k := fun e => hne (by rw [e])
  simp [putRow, mapBlock, Sort.ahead, Array.getElem?_modify, this]
/-- Behind the sort the same slice is the row of the sorted list. -/
theorem rowK.sorted (hk : ∀ x, (enc x).length = k) {g c m : Nat} {os : Array Obj} {l' : List α} (hl : l'.length = l.length) (h : rowK enc E k w base (.slice (some ⟨g, 0, none⟩) l.length c) l) : rowK enc E k (sortWorldK enc k w g 0 m l'.toArray os) base (.slice (some ⟨g, 0, none⟩) l.length c) l' := by
  rcases h.2 with ⟨e, _⟩ | ⟨g', cap, cur, e, hg, hh, hnc, hm, hsz, ht⟩
  · cases e
  · simp only [Value.slice.injEq, Option.some.injEq, Addr.mk.injEq, true_and, and_true] at e
    obtain ⟨rfl, rfl⟩ := e
    refine ⟨flat_length hk l', .inr ⟨g, c, _, by rw [hl], hg, heap_sortK _ hh, by omega, hm, by simp [putCells, hsz], ?_⟩⟩
    apply List.ext_getElem?
    intro j
    by_cases hj : j < l'.length * k
    · rw [List.getElem?_take_of_lt hj, Array.getElem?_toList, flatK_at hk l' j hj]
      have hjc : j < cur.size := by
        have := Nat.mul_le_mul_right k hnc
        rw [hsz]
        rw [hl] at hj
        omega
      simp only [putCells, Array.getElem?_mapIdx, Array.getElem?_eq_getElem hjc, Option.map_some]
      rw [if_pos ⟨Nat.zero_le _, by simpa using hj⟩]
      rfl
    · rw [List.getElem?_take_eq_none (by omega), List.getElem?_eq_none (by rw [flat_length hk]; omega)]
end
end Go.Proofs.Ytmegfkclpjddgaa
