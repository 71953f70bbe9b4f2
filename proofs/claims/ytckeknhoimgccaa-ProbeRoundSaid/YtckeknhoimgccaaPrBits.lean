/-
  Nodes by bits; what some others are: plain (layer 12).
-/
import Derived.Test.YtckeknhoimgccaaPrSt
namespace Go.Proofs.Ytckeknhoimgccaa
open Go.RowKit
set_option linter.unusedSimpArgs false

/-- Is bit k on? -/
def onB (z : Int) (k : Nat) : Bool := bits BinOp.and IntKind.u8 (z / 2 ^ k) 1 == 1
/-- The nodes below k that p tells. -/
def nodesL (p : Nat → Bool) (k : Nat) : List Int := ((List.range k).filter p).map fun i : Nat => (i : Int)
theorem nodesL_yes {p : Nat → Bool} {k : Nat} (h : p k = true) : nodesL p (k + 1) = nodesL p k ++ [(k : Int)] := by
  unfold nodesL
  rw [List.range_succ, List.filter_append, List.map_append]
  simp [h]
theorem nodesL_no {p : Nat → Bool} {k : Nat} (h : p k = false) : nodesL p (k + 1) = nodesL p k := by
  unfold nodesL
  rw [List.range_succ, List.filter_append, List.map_append]
  simp [h]
theorem nodesL_zero (p : Nat → Bool) : nodesL p 0 = [] := rfl
theorem nodesL_mem {p : Nat → Bool} {k : Nat} {x : Int} : x ∈ nodesL p k ↔ ∃ i : Nat, i < k ∧ p i = true ∧ x = (i : Int) := by
  unfold nodesL
  rw [List.mem_map]
  constructor
  · rintro ⟨i, hi, rfl⟩
    rw [List.mem_filter, List.mem_range] at hi
    exact ⟨i, hi.1, hi.2, rfl⟩
  · rintro ⟨i, h1, h2, rfl⟩
    exact ⟨i, by rw [List.mem_filter, List.mem_range]; exact ⟨h1, h2⟩, rfl⟩
theorem nodesL_nodup (p : Nat → Bool) (k : Nat) : (nodesL p k).Nodup := by
  unfold nodesL
  have h : ((List.range k).filter p).Nodup := List.nodup_range.sublist List.filter_sublist
  rw [List.nodup_iff_pairwise_ne] at h ⊢
  rw [List.pairwise_map]
  exact h.imp fun h e => h (by omega)
theorem nodesL_len (p : Nat → Bool) (k : Nat) : (nodesL p k).length ≤ k := by
  unfold nodesL
  rw [List.length_map]
  have := List.length_filter_le p (List.range k)
  rw [List.length_range] at this
  exact this
theorem butL_count {l : List Int} (hd : l.Nodup) (x : Int) : (butL l x).length = l.length - (if l.contains x then 1 else 0) := by
  unfold butL
  by_cases h : x ∈ l
  · have := filter_len hd h
    rw [if_pos (by simpa using h)]
    omega
  · rw [filter_out h, if_neg (by simpa using h)]
    rfl
theorem others_len (l : List Int) (x many : Int) (d : Dr) (hn : l.length ≤ 64) : (othersL l x many d).length = min many.toNat (butL l x).length := by
  have := butL_len l x
  unfold othersL Dr.some_
  rw [pickL_length, List.length_take, order_length, sizeO_of (by omega)]
theorem pick_nodup {l : List Int} (hl : l.Nodup) {is : List Nat} (hi : is.Nodup) (h : ∀ i ∈ is, i < l.length) : (pickL l is).Nodup := by
  unfold pickL
  rw [List.nodup_iff_pairwise_ne, List.pairwise_map]
  refine List.Pairwise.imp_of_mem (fun {a b} ha hb (hab : a ≠ b) e => ?_) (List.nodup_iff_pairwise_ne.1 hi)
  have h1 := h a ha
  have h2 := h b hb
  simp only [List.getD, List.getElem?_eq_getElem h1, List.getElem?_eq_getElem h2, Option.getD_some] at e
  have hp := List.pairwise_iff_getElem.1 hl
  rcases Nat.lt_trichotomy a b with hlt | he | hgt
  · exact hp a b h1 h2 hlt e
  · exact hab he
  · exact hp b a h2 h1 hgt e.symm
theorem others_each {l : List Int} (hl : l.Nodup) (x many : Int) {d : Dr} (hd : okDr d) (hn : l.length ≤ 64) : (othersL l x many d).Nodup ∧ ∀ y ∈ othersL l x many d, y ∈ l ∧ y ≠ x := by
  have hb := butL_len l x
  obtain ⟨h1, h2⟩ := some_in hd (butL l x).length many (by omega)
  have hbn : (butL l x).Nodup := hl.sublist List.filter_sublist
  refine ⟨pick_nodup hbn h1 h2, fun y hy => ?_⟩
  unfold othersL pickL at hy
  obtain ⟨i, hi, rfl⟩ := List.mem_map.1 hy
  have h3 := h2 i hi
  have e : (butL l x).getD i 0 = (butL l x)[i] := by simp [List.getD, h3]
  rw [e]
  have h4 : (butL l x)[i] ∈ butL l x := List.getElem_mem h3
  have h5 : (butL l x)[i] ∈ l.filter (fun y => !(y == x)) := h4
  have := List.mem_filter.1 h5
  refine ⟨this.1, fun e => ?_⟩
  have h6 := this.2
  rw [e] at h6
  simp at h6
end Go.Proofs.Ytckeknhoimgccaa
