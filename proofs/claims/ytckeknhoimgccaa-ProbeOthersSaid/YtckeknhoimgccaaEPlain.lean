/-
  Plain lemmas on draws (layer 5): a number below a bound, a row in another order. Nothing of any program stands here.
-/
namespace Go.Proofs.Ytckeknhoimgccaa

/-- The draws, and how many are used up. -/
structure Dr where
  l : List Nat
  at_ : Nat
def Dr.spent (n : Int) (d : Dr) : Prop := n < 2 ∨ d.l.length ≤ d.at_
instance (n : Int) (d : Dr) : Decidable (d.spent n) := by unfold Dr.spent; exact inferInstance
def capB (n : Int) : Nat := if 2147483648 < n then 2147483648 else n.toNat
def Dr.below (n : Int) (d : Dr) : Nat := if d.spent n then 0 else d.l.getD d.at_ 0 * capB n / 4294967296
def Dr.next (n : Int) (d : Dr) : Dr := if d.spent n then d else ⟨d.l, d.at_ + 1⟩
theorem Dr.next_l (n : Int) (d : Dr) : (d.next n).l = d.l := by unfold Dr.next; split <;> rfl
theorem Dr.next_le (n : Int) (d : Dr) (h : d.at_ ≤ d.l.length) : (d.next n).at_ ≤ (d.next n).l.length := by
  unfold Dr.next
  split
  · exact h
  · rename_i hs
    unfold Dr.spent at hs
    show d.at_ + 1 ≤ d.l.length
    omega
def okDr (d : Dr) : Prop := ∀ x ∈ d.l, x < 4294967296
theorem okDr.next {d : Dr} (h : okDr d) (n : Int) : okDr (d.next n) := by unfold okDr; rw [Dr.next_l]; exact h
theorem okDr.get {d : Dr} (h : okDr d) (i : Nat) : d.l.getD i 0 < 4294967296 := by
  rcases Nat.lt_or_ge i d.l.length with hi | hi
  · have : d.l.getD i 0 = d.l[i] := by simp [List.getD, List.getElem?_eq_getElem hi]
    rw [this]; exact h _ (List.getElem_mem hi)
  · have : d.l.getD i 0 = 0 := by simp [List.getD, List.getElem?_eq_none hi]
    rw [this]; omega
/-- What is drawn below a positive number is below it. -/
theorem below_lt {d : Dr} (h : okDr d) {n : Int} (hn : 1 ≤ n) : ((d.below n : Nat) : Int) < n := by
  unfold Dr.below
  split
  · omega
  · rename_i hs
    have hx := h.get d.at_
    have hc : 0 < capB n ∧ ((capB n : Nat) : Int) ≤ n := by
      unfold capB
      split <;> omega
    have h1 : d.l.getD d.at_ 0 * capB n < 4294967296 * capB n := Nat.mul_lt_mul_of_pos_right hx hc.1
    have h2 : d.l.getD d.at_ 0 * capB n / 4294967296 < capB n := Nat.div_lt_of_lt_mul h1
    omega

/-! ### A row in another order -/
def swapL (l : List Nat) (i j : Nat) : List Nat := (l.set i (l.getD j 0)).set j (l.getD i 0)
theorem swapL_length (l : List Nat) (i j : Nat) : (swapL l i j).length = l.length := by simp [swapL]
theorem swapL_count (l : List Nat) (i j : Nat) (hi : i < l.length) (hj : j < l.length) (x : Nat) : (swapL l i j).count x = l.count x := by
  have gi : l.getD i 0 = l[i] := by simp [List.getD, List.getElem?_eq_getElem hi]
  have gj : l.getD j 0 = l[j] := by simp [List.getD, List.getElem?_eq_getElem hj]
  unfold swapL
  rw [gi, gj]
  have h1 := List.count_set (l := l) (i := i) (a := l[j]) (b := x) hi
  have hj' : j < (l.set i l[j]).length := by simpa using hj
  have h2 := List.count_set (l := l.set i l[j]) (i := j) (a := l[i]) (b := x) hj'
  have hg : (l.set i l[j])[j] = l[j] := by
    rw [List.getElem_set]
    split
    · rfl
    · rfl
  have c1 : l[i] = x → 0 < List.count x l := fun e => List.count_pos_iff.2 (e ▸ List.getElem_mem hi)
  rw [h2, hg, h1, Nat.add_sub_cancel]
  by_cases e1 : l[i] = x
  · have := c1 e1
    have hb : (l[i] == x) = true := by simpa using e1
    rw [if_pos hb]
    omega
  · have hb : ¬ (l[i] == x) = true := by simpa using e1
    rw [if_neg hb, Nat.sub_zero, Nat.add_zero]
def ordGo : Nat → List Nat → Dr → List Nat × Dr
  | 0, l, d => (l, d)
  | i + 1, l, d => ordGo i (swapL l (i + 1) (d.below ((i : Int) + 2))) (d.next ((i : Int) + 2))
def sizeO (n : Int) : Nat := if n < 0 then 0 else if 64 < n then 64 else n.toNat
def Dr.order (n : Int) (d : Dr) : List Nat := (ordGo (sizeO n - 1) (List.range (sizeO n)) d).1
def Dr.afterO (n : Int) (d : Dr) : Dr := (ordGo (sizeO n - 1) (List.range (sizeO n)) d).2
def Dr.some_ (n k : Int) (d : Dr) : List Nat := (d.order n).take k.toNat
theorem ordGo_length : ∀ (i : Nat) (l : List Nat) (d : Dr), (ordGo i l d).1.length = l.length
  | 0, _, _ => rfl
  | i + 1, l, d => by rw [ordGo, ordGo_length i, swapL_length]
theorem ordGo_count : ∀ (i : Nat) (l : List Nat) (d : Dr), okDr d → (i = 0 ∨ i < l.length) → ∀ x, (ordGo i l d).1.count x = l.count x
  | 0, _, _, _, _, _ => rfl
  | i + 1, l, d, h, hi, x => by
    have hlt : i + 1 < l.length := by omega
    have hb := below_lt h (n := (i : Int) + 2) (by omega)
    rw [ordGo, ordGo_count i _ _ (h.next _) (by rw [swapL_length]; omega) x, swapL_count l (i + 1) _ hlt (by omega) x]
theorem ordGo_ok : ∀ (i : Nat) (l : List Nat) (d : Dr), okDr d → okDr (ordGo i l d).2
  | 0, _, _, h => h
  | i + 1, l, d, h => by rw [ordGo]; exact ordGo_ok i _ _ (h.next _)
theorem ordGo_l : ∀ (i : Nat) (l : List Nat) (d : Dr), (ordGo i l d).2.l = d.l
  | 0, _, _ => rfl
  | i + 1, l, d => by rw [ordGo, ordGo_l i, Dr.next_l]
theorem order_length (n : Int) (d : Dr) : (d.order n).length = sizeO n := by rw [Dr.order, ordGo_length, List.length_range]
/-- Each place stands in it once. -/
theorem order_once {d : Dr} (h : okDr d) (n : Int) : (d.order n).Nodup ∧ ∀ x ∈ d.order n, x < sizeO n := by
  have hc : ∀ x, (d.order n).count x = (List.range (sizeO n)).count x := ordGo_count _ _ _ h (by rw [List.length_range]; omega)
  refine ⟨?_, fun x hx => ?_⟩
  · rw [List.nodup_iff_count]
    intro x
    rw [hc]
    exact List.nodup_iff_count.1 List.nodup_range x
  · have h1 : 0 < (d.order n).count x := List.count_pos_iff.2 hx
    rw [hc] at h1
    exact List.mem_range.1 (List.count_pos_iff.1 h1)
end Go.Proofs.Ytckeknhoimgccaa
