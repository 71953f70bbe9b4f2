/-
  Plain lemmas on lists of texts in rising order (layer 1): what Sorted, Has, With, Without and Tags give, in words that both the program and the document's plain form meet. Nothing of any program stands here.
-/
import Derived.Test.YtcnfjimncifbgaaDoorPlain
import Derived.Sort.Walk0
import Derived.Shelf.Spec.SearchS
namespace Go.Proofs.YtcnfjimncifbgaaDoor
open Go

/-! ### The order of texts -/
def ltS (x y : ByteArray) : Bool := Op.bytesLess x.toList y.toList
theorem ltS_iff (x y : ByteArray) : ltS x y = true ↔ x.data.toList < y.data.toList := by
  unfold ltS
  rw [bytesLess_eq, ByteArray.toList_eq, ByteArray.toList_eq, decide_eq_true_eq]
theorem ltS_irr (x : ByteArray) : ltS x x = false := by
  rw [Bool.eq_false_iff]
  intro e
  exact List.lt_irrefl _ ((ltS_iff _ _).1 e)
theorem ltS_trans {x y z : ByteArray} (h : ltS x y = true) (k : ltS y z = true) : ltS x z = true :=
  (ltS_iff _ _).2 (List.lt_trans ((ltS_iff _ _).1 h) ((ltS_iff _ _).1 k))
theorem ltS_asymm {x y : ByteArray} (h : ltS x y = true) : ltS y x = false := by
  rw [Bool.eq_false_iff]
  intro e
  have := ltS_trans h e
  rw [ltS_irr] at this; cases this
theorem data_inj {x y : ByteArray} (h : x.data.toList = y.data.toList) : x = y := by
  obtain ⟨⟨a⟩⟩ := x
  obtain ⟨⟨b⟩⟩ := y
  simp at h
  rw [h]
theorem ltS_tri {x y : ByteArray} (h : ltS x y = false) (k : ltS y x = false) : x = y := by
  have h1 : ¬ x.data.toList < y.data.toList := fun e => by rw [(ltS_iff _ _).2 e] at h; cases h
  have h2 : ¬ y.data.toList < x.data.toList := fun e => by rw [(ltS_iff _ _).2 e] at k; cases k
  exact data_inj (List.le_antisymm (List.not_lt.1 h2) (List.not_lt.1 h1))
theorem ltS_ne {x y : ByteArray} (h : ltS x y = true) : x ≠ y := by
  rintro rfl
  rw [ltS_irr] at h; cases h

/-- Rising, each once. -/
def SS (l : List ByteArray) : Prop := l.Pairwise fun a b => ltS a b = true

theorem SS_ext : ∀ {l m : List ByteArray}, SS l → SS m → (∀ x, x ∈ l ↔ x ∈ m) → l = m
  | [], [], _, _, _ => rfl
  | [], b :: m, _, _, h => absurd ((h b).2 (List.mem_cons_self)) (by simp)
  | a :: l, [], _, _, h => absurd ((h a).1 (List.mem_cons_self)) (by simp)
  | a :: l, b :: m, hl, hm, h => by
    obtain ⟨ha, hl'⟩ := List.pairwise_cons.1 hl
    obtain ⟨hb, hm'⟩ := List.pairwise_cons.1 hm
    have e : a = b := by
      rcases List.mem_cons.1 ((h a).1 List.mem_cons_self) with e | e
      · exact e
      · rcases List.mem_cons.1 ((h b).2 List.mem_cons_self) with e' | e'
        · exact e'.symm
        · have := ltS_trans (ha b e') (hb a e)
          rw [ltS_irr] at this; cases this
    subst e
    rw [SS_ext hl' hm' fun x => ?_]
    constructor
    · intro hx
      rcases List.mem_cons.1 ((h x).1 (List.mem_cons_of_mem _ hx)) with e | e
      · exact absurd e.symm (ltS_ne (ha x hx))
      · exact e
    · intro hx
      rcases List.mem_cons.1 ((h x).2 (List.mem_cons_of_mem _ hx)) with e | e
      · exact absurd e.symm (ltS_ne (hb x hx))
      · exact e

/-! ### With -/
def withB (l : List ByteArray) (s : ByteArray) : List ByteArray := l.filter (fun x => ltS x s) ++ s :: l.filter (fun x => ltS s x)
/-- The document's plain With: 'laid': s stands already. -/
def rWith (s : ByteArray) : Bool → List ByteArray → List ByteArray
  | laid, [] => if laid then [] else [s]
  | laid, x :: r => if (laid || x.toList == s.toList) = false ∧ ltS s x = true then s :: x :: rWith s true r else x :: rWith s (laid || x.toList == s.toList) r

theorem same_list {x y : ByteArray} : (x.toList == y.toList) = true ↔ x = y := by
  rw [ByteArray.toList_eq, ByteArray.toList_eq, beq_iff_eq]
  exact ⟨data_inj, fun h => by rw [h]⟩
theorem other_list {x y : ByteArray} : (x.toList == y.toList) = false ↔ x ≠ y := by
  rw [Bool.eq_false_iff]
  exact not_congr same_list

theorem rWith_true (s : ByteArray) : ∀ l, rWith s true l = l
  | [] => rfl
  | x :: r => by rw [rWith, if_neg (by simp), Bool.true_or, rWith_true s r]

theorem rWith_eq (s : ByteArray) : ∀ {l : List ByteArray}, SS l → rWith s false l = withB l s
  | [], _ => rfl
  | x :: r, h => by
    obtain ⟨hx, hr⟩ := List.pairwise_cons.1 h
    have hlow : ltS s x = true ∨ x = s → r.filter (fun y => ltS y s) = [] := fun hs => by
      rw [List.filter_eq_nil_iff]
      intro y hy e
      have h1 := hx y hy
      rcases hs with hs | hs
      · have := ltS_trans (ltS_trans hs h1) e
        rw [ltS_irr] at this; cases this
      · subst hs
        have := ltS_trans h1 e
        rw [ltS_irr] at this; cases this
    have hhigh : ltS s x = true ∨ x = s → r.filter (fun y => ltS s y) = r := fun hs => by
      rw [List.filter_eq_self]
      intro y hy
      have h1 := hx y hy
      rcases hs with hs | hs
      · exact ltS_trans hs h1
      · subst hs; exact h1
    by_cases h1 : x = s
    · subst h1
      have e : (x.toList == x.toList) = true := same_list.2 rfl
      rw [rWith, e, if_neg (by simp), Bool.or_true, rWith_true]
      simp [withB, ltS_irr, hlow (Or.inr rfl), hhigh (Or.inr rfl)]
    · have e : (x.toList == s.toList) = false := other_list.2 h1
      rw [rWith, e]
      cases h2 : ltS s x with
      | true =>
        have h3 := ltS_asymm h2
        rw [if_pos (by simp), rWith_true]
        simp [withB, h2, h3, hlow (Or.inl h2), hhigh (Or.inl h2)]
      | false =>
        have h3 : ltS x s = true := by
          rw [← Bool.not_eq_false]
          intro h4
          exact h1 (ltS_tri h4 h2)
        rw [if_neg (by simp), Bool.or_false, rWith_eq s hr]
        simp [withB, h2, h3]

theorem mem_withB (l : List ByteArray) (s x : ByteArray) : x ∈ withB l s ↔ x ∈ l ∨ x = s := by
  simp only [withB, List.mem_append, List.mem_filter, List.mem_cons]
  constructor
  · rintro (⟨h, _⟩ | h | ⟨h, _⟩)
    · exact Or.inl h
    · exact Or.inr h
    · exact Or.inl h
  · rintro (h | h)
    · by_cases e : x = s
      · exact Or.inr (Or.inl e)
      · cases h1 : ltS x s with
        | true => exact Or.inl ⟨h, rfl⟩
        | false =>
          cases h2 : ltS s x with
          | true => exact Or.inr (Or.inr ⟨h, rfl⟩)
          | false => exact absurd (ltS_tri h1 h2) e
    · exact Or.inr (Or.inl h)

theorem SS_filter {l : List ByteArray} (h : SS l) (f : ByteArray → Bool) : SS (l.filter f) := List.Pairwise.filter f h
theorem SS_withB {l : List ByteArray} (h : SS l) (s : ByteArray) : SS (withB l s) := by
  unfold SS withB
  rw [List.pairwise_append]
  refine ⟨SS_filter h _, List.pairwise_cons.2 ⟨fun y hy => (List.mem_filter.1 hy).2, SS_filter h _⟩, fun a ha b hb => ?_⟩
  have h1 := (List.mem_filter.1 ha).2
  rcases List.mem_cons.1 hb with e | hb
  · rw [e]; exact h1
  · exact ltS_trans h1 (List.mem_filter.1 hb).2

theorem withB_length (l : List ByteArray) (s : ByteArray) : (withB l s).length ≤ l.length * 2 + 1 := by
  simp only [withB, List.length_append, List.length_cons]
  have h1 := List.length_filter_le (fun x => ltS x s) l
  have h2 := List.length_filter_le (fun x => ltS s x) l
  omega

/-! ### Without -/
def withoutB (l : List ByteArray) (s : ByteArray) : List ByteArray := l.filter fun x => x.toList != s.toList
theorem mem_withoutB (l : List ByteArray) (s x : ByteArray) : x ∈ withoutB l s ↔ x ∈ l ∧ x ≠ s := by
  simp only [withoutB, List.mem_filter, bne, Bool.not_eq_true']
  rw [other_list]

/-! ### Sorted -/
def rSorted (l : List ByteArray) : List ByteArray := l.foldl (fun m x => rWith x false m) []
theorem rSorted_go : ∀ (l m : List ByteArray), SS m → SS (l.foldl (fun m x => rWith x false m) m) ∧ ∀ x, x ∈ l.foldl (fun m x => rWith x false m) m ↔ x ∈ m ∨ x ∈ l
  | [], m, h => ⟨h, fun x => by simp⟩
  | y :: l, m, h => by
    rw [List.foldl_cons, rWith_eq y h]
    obtain ⟨h1, h2⟩ := rSorted_go l (withB m y) (SS_withB h y)
    refine ⟨h1, fun x => ?_⟩
    rw [h2, mem_withB, List.mem_cons, or_assoc]
theorem SS_rSorted (l : List ByteArray) : SS (rSorted l) := (rSorted_go l [] List.Pairwise.nil).1
theorem mem_rSorted (l : List ByteArray) (x : ByteArray) : x ∈ rSorted l ↔ x ∈ l := by
  rw [show rSorted l = l.foldl (fun m x => rWith x false m) [] from rfl, (rSorted_go l [] List.Pairwise.nil).2]
  simp

/-- The library's sort, in lists of texts. -/
def sortedB (l : List ByteArray) : List ByteArray := ((l.map (·.data.toList)).mergeSort fun x y => decide (x ≤ y)).map fun x => ⟨x.toArray⟩
theorem sortedB_length (l : List ByteArray) : (sortedB l).length = l.length := by simp [sortedB, List.length_mergeSort]
theorem mem_sortedB (l : List ByteArray) (x : ByteArray) : x ∈ sortedB l ↔ x ∈ l := by
  simp only [sortedB, List.mem_map, List.mem_mergeSort]
  constructor
  · rintro ⟨y, ⟨z, hz, rfl⟩, rfl⟩
    exact hz
  · intro h
    exact ⟨x.data.toList, ⟨x, h, rfl⟩, rfl⟩
theorem sortedB_le (l : List ByteArray) : (sortedB l).Pairwise fun a b => ltS b a = false := by
  unfold sortedB
  rw [List.pairwise_map]
  have h := List.pairwise_mergeSort (le := fun x y : List UInt8 => decide (x ≤ y)) (fun a b c h1 h2 => by simp only [decide_eq_true_eq] at *; exact List.le_trans h1 h2) (fun a b => by simp only [Bool.or_eq_true, decide_eq_true_eq]; exact List.le_total a b) (l.map (·.data.toList))
  refine h.imp fun {a b} hab => ?_
  rw [Bool.eq_false_iff]
  intro e
  have h1 := (ltS_iff _ _).1 e
  simp only [decide_eq_true_eq] at hab
  exact List.not_lt.2 hab h1

/-- What name.Sorted keeps of a sorted row. -/
def freshB : Bool → ByteArray → List ByteArray → List ByteArray
  | _, _, [] => []
  | begun, last, x :: r => if begun = true ∧ x = last then freshB true x r else x :: freshB true x r
theorem fresh_true : ∀ (l : List ByteArray) (last : ByteArray), (last :: l).Pairwise (fun a b => ltS b a = false) →
    SS (freshB true last l) ∧ (∀ x ∈ freshB true last l, ltS last x = true) ∧ (∀ x, x ∈ freshB true last l ∨ x = last ↔ x ∈ l ∨ x = last)
  | [], last, _ => ⟨List.Pairwise.nil, by simp [freshB], by simp [freshB]⟩
  | y :: l, last, h => by
    obtain ⟨h0, h1⟩ := List.pairwise_cons.1 h
    obtain ⟨i1, i2, i3⟩ := fresh_true l y h1
    by_cases e : y = last
    · subst e
      rw [freshB, if_pos ⟨rfl, rfl⟩]
      refine ⟨i1, i2, fun x => ?_⟩
      rw [i3, List.mem_cons]
      constructor
      · rintro (h | h)
        · exact Or.inl (Or.inr h)
        · exact Or.inr h
      · rintro ((h | h) | h)
        · exact Or.inr h
        · exact Or.inl h
        · exact Or.inr h
    · rw [freshB, if_neg (by simp [e])]
      have hl : ltS last y = true := by
        rw [← Bool.not_eq_false]
        intro h4
        exact e (ltS_tri (h0 y List.mem_cons_self) h4)
      refine ⟨List.pairwise_cons.2 ⟨i2, i1⟩, fun x hx => ?_, fun x => ?_⟩
      · rcases List.mem_cons.1 hx with hx | hx
        · rw [hx]; exact hl
        · exact ltS_trans hl (i2 x hx)
      · rw [List.mem_cons, or_comm (a := x = y), i3, List.mem_cons, or_comm (a := x = y)]
theorem fresh_false (l : List ByteArray) (e : ByteArray) (h : l.Pairwise (fun a b => ltS b a = false)) : SS (freshB false e l) ∧ ∀ x, x ∈ freshB false e l ↔ x ∈ l := by
  cases l with
  | nil => exact ⟨List.Pairwise.nil, by simp [freshB]⟩
  | cons y l =>
    obtain ⟨i1, i2, i3⟩ := fresh_true l y h
    rw [freshB, if_neg (by simp)]
    refine ⟨List.pairwise_cons.2 ⟨i2, i1⟩, fun x => ?_⟩
    rw [List.mem_cons, or_comm, i3, List.mem_cons, or_comm]
def nSorted (l : List ByteArray) : List ByteArray := freshB false ByteArray.empty (sortedB l)
theorem SS_nSorted (l : List ByteArray) : SS (nSorted l) := (fresh_false _ _ (sortedB_le l)).1
theorem mem_nSorted (l : List ByteArray) (x : ByteArray) : x ∈ nSorted l ↔ x ∈ l := by
  rw [show nSorted l = freshB false ByteArray.empty (sortedB l) from rfl, (fresh_false _ _ (sortedB_le l)).2, mem_sortedB]
theorem nSorted_eq (l : List ByteArray) : nSorted l = rSorted l := SS_ext (SS_nSorted l) (SS_rSorted l) fun x => by rw [mem_nSorted, mem_rSorted]
theorem nSorted_same {l : List ByteArray} (h : SS l) : nSorted l = l := SS_ext (SS_nSorted l) h fun x => mem_nSorted l x
theorem fresh_length : ∀ (l : List ByteArray) (b : Bool) (e : ByteArray), (freshB b e l).length ≤ l.length
  | [], _, _ => by simp [freshB]
  | y :: l, b, e => by
    rw [freshB]
    have := fresh_length l true y
    split
    · simp only [List.length_cons]; omega
    · simp only [List.length_cons]; omega
theorem nSorted_length (l : List ByteArray) : (nSorted l).length ≤ l.length := by
  have := fresh_length (sortedB l) false ByteArray.empty
  rw [sortedB_length] at this
  exact this

/-! ### Has -/
def hasB (l : List ByteArray) (s : ByteArray) : Bool := l.any fun x => x.toList == s.toList
theorem hasB_iff (l : List ByteArray) (s : ByteArray) : hasB l s = true ↔ s ∈ l := by
  unfold hasB
  rw [List.any_eq_true]
  constructor
  · rintro ⟨x, hx, e⟩
    rw [← same_list.1 e]; exact hx
  · intro h
    exact ⟨s, h, same_list.2 rfl⟩
theorem cut_at : ∀ {l : List ByteArray} (_ : SS l) (x : ByteArray), ∃ k, k ≤ l.length ∧ (∀ t (h : t < l.length), t < k → ltS l[t] x = true) ∧ (∀ t (h : t < l.length), k ≤ t → ltS l[t] x = false)
  | [], _, x => ⟨0, Nat.le_refl _, fun t h => absurd h (by simp), fun t h => absurd h (by simp)⟩
  | y :: l, h, x => by
    obtain ⟨h0, h1⟩ := List.pairwise_cons.1 h
    cases hy : ltS y x with
    | true =>
      obtain ⟨k, hk, i1, i2⟩ := cut_at h1 x
      refine ⟨k + 1, by simpa using hk, fun t ht htk => ?_, fun t ht htk => ?_⟩
      · cases t with
        | zero => exact hy
        | succ t => simpa using i1 t (by simpa using ht) (by omega)
      · cases t with
        | zero => omega
        | succ t => simpa using i2 t (by simpa using ht) (by omega)
    | false =>
      refine ⟨0, Nat.zero_le _, fun t _ htk => absurd htk (by omega), fun t ht _ => ?_⟩
      cases t with
      | zero => exact hy
      | succ t =>
        have hm : l[t]'(by simpa using ht) ∈ l := List.getElem_mem _
        rw [Bool.eq_false_iff]
        intro e
        have := ltS_trans (h0 _ hm) (by simpa using e)
        rw [hy] at this; cases this
/-- The library's search, of a rising row. -/
def getS (l : List ByteArray) (x : ByteArray) (t : Nat) : ByteArray := if h : t < l.length then l[t] else x
theorem search_eq {l : List ByteArray} (h : SS l) (x : ByteArray) :
    decide (Lib.bsGo (fun t => Op.bytesLess (getS l x t).toList x.toList) l.length 0 l.length < l.length ∧ getS l x (Lib.bsGo (fun t => Op.bytesLess (getS l x t).toList x.toList) l.length 0 l.length) = x) = hasB l x := by
  obtain ⟨k, hk, i1, i2⟩ := cut_at h x
  have e : Lib.bsGo (fun t => Op.bytesLess (getS l x t).toList x.toList) l.length 0 l.length = k := by
    refine Lib.bsGo_spec _ k (fun t ht => ?_) (fun t ht => ?_) _ _ _ (by omega) (Nat.zero_le _) hk
    · have hlt : t < l.length := by omega
      have := i1 t hlt ht
      simpa [getS, hlt, ltS] using this
    · by_cases hlt : t < l.length
      · have := i2 t hlt ht
        simpa [getS, hlt, ltS] using this
      · have := ltS_irr x
        simpa [getS, hlt, ltS] using this
  rw [e]
  rw [Bool.eq_iff_iff, hasB_iff, decide_eq_true_eq]
  constructor
  · rintro ⟨h1, h2⟩
    rw [getS, dif_pos h1] at h2
    rw [← h2]
    exact List.getElem_mem h1
  · intro hm
    obtain ⟨i, hi, hx⟩ := List.mem_iff_getElem.1 hm
    have h1 : ¬ i < k := fun hlt => by
      have := i1 i hi hlt
      rw [hx, ltS_irr] at this; cases this
    have h2 : i = k := by
      rcases Nat.lt_or_ge k i with hlt | hge
      · have h3 := List.pairwise_iff_getElem.1 h k i (by omega) hi hlt
        rw [hx, i2 k (by omega) (Nat.le_refl _)] at h3; cases h3
      · omega
    subst h2
    exact ⟨hi, by rw [getS, dif_pos hi, hx]⟩

/-! ### Rising, Tags -/
end Go.Proofs.YtcnfjimncifbgaaDoor
