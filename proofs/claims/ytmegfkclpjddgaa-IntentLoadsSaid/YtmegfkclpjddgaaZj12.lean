/-
  What intentions are, and what each call makes of them, in plain words (layer 17). Nothing of any program stands here.
-/
import Derived.Test.YtmegfkclpjddgaaZj11
namespace Go.Proofs.Ytmegfkclpjddgaa
open Go Go.RowKit
set_option linter.unusedSimpArgs false
set_option linter.unusedVariables false

/-! ### The order -/
theorem ahead_irr (a : Ir) : aheadI a a = false := by
  unfold aheadI
  rw [if_pos rfl, ltT_irr, ltT_irr]
  simp
theorem ahead_cases {a b : Ir} : aheadI a b = true ↔ b.rank < a.rank ∨ (a.rank = b.rank ∧ (ltT a.dst b.dst = true ∨ (a.dst = b.dst ∧ ltT a.src b.src = true))) := by
  unfold aheadI
  by_cases h : a.rank = b.rank
  · rw [if_pos h, Bool.or_eq_true, Bool.and_eq_true, text_same]
    constructor
    · exact fun k => .inr ⟨h, k⟩
    · rintro (k | k)
      · omega
      · exact k.2
  · rw [if_neg h, decide_eq_true_eq]
    constructor
    · exact .inl
    · rintro (k | k)
      · exact k
      · exact absurd k.1 h
theorem ahead_trans {a b c : Ir} (h : aheadI a b = true) (k : aheadI b c = true) : aheadI a c = true := by
  rw [ahead_cases] at h k ⊢
  rcases h with h | ⟨h1, h2⟩
  · left
    rcases k with k | k <;> omega
  · rcases k with k | ⟨k1, k2⟩
    · left; omega
    · right
      refine ⟨by omega, ?_⟩
      rcases h2 with h2 | ⟨h2, h3⟩ <;> rcases k2 with k2 | ⟨k2, k3⟩
      · exact .inl (ltT_trans h2 k2)
      · exact .inl (k2 ▸ h2)
      · exact .inl (h2 ▸ k2)
      · exact .inr ⟨h2.trans k2, ltT_trans h3 k3⟩
theorem ahead_asymm {a b : Ir} (h : aheadI a b = true) : aheadI b a = false := by
  rw [Bool.eq_false_iff]
  intro k
  have := ahead_trans h k
  rw [ahead_irr] at this; cases this
/-- The source and the destination. -/
def samI (x : Ir) (s d : ByteArray) : Bool := x.src.toList == s.toList && x.dst.toList == d.toList
theorem sam_iff {x : Ir} {s d : ByteArray} : samI x s d = true ↔ x.src = s ∧ x.dst = d := by
  unfold samI
  rw [Bool.and_eq_true, text_same, text_same]
theorem ahead_tri {a b : Ir} (h : aheadI a b = false) (k : aheadI b a = false) : a.src = b.src ∧ a.dst = b.dst := by
  rw [Bool.eq_false_iff] at h k
  rw [Ne, ahead_cases] at h k
  have hr : a.rank = b.rank := by
    rcases Nat.lt_trichotomy a.rank b.rank with q | q | q
    · exact absurd (.inl q) k
    · exact q
    · exact absurd (.inl q) h
  have d1 : ltT a.dst b.dst = false := by rw [Bool.eq_false_iff]; exact fun z => h (.inr ⟨hr, .inl z⟩)
  have d2 : ltT b.dst a.dst = false := by rw [Bool.eq_false_iff]; exact fun z => k (.inr ⟨hr.symm, .inl z⟩)
  have hd := ltT_tri d1 d2
  have s1 : ltT a.src b.src = false := by rw [Bool.eq_false_iff]; exact fun z => h (.inr ⟨hr, .inr ⟨hd, z⟩⟩)
  have s2 : ltT b.src a.src = false := by rw [Bool.eq_false_iff]; exact fun z => k (.inr ⟨hr.symm, .inr ⟨hd.symm, z⟩⟩)
  exact ⟨ltT_tri s1 s2, hd⟩
theorem ahead_diff {a b : Ir} (h : aheadI a b = true) : samI a b.src b.dst = false := by
  rw [Bool.eq_false_iff]
  intro z
  obtain ⟨h1, h2⟩ := sam_iff.1 z
  have hr : a.rank = b.rank := by unfold Ir.rank; rw [h1, h2]
  rcases ahead_cases.1 h with k | ⟨_, k | k⟩
  · omega
  · rw [h2, ltT_irr] at k; cases k
  · rw [h1, ltT_irr] at k; cases k.2
/-! ### The calls -/
def findI (l : List Ir) (s d : ByteArray) : Option Nat := l.findIdx? fun x => samI x s d
theorem findI_none {l : List Ir} {s d : ByteArray} (h : ∀ j, ∀ hj : j < l.length, samI l[j] s d = false) : findI l s d = none := by
  unfold findI
  rw [List.findIdx?_eq_none_iff]
  intro x hx
  obtain ⟨j, hj, rfl⟩ := List.getElem_of_mem hx
  exact h j hj
theorem findI_some {l : List Ir} {s d : ByteArray} {k : Nat} (hk : k < l.length) (h1 : samI l[k] s d = true) (h : ∀ j, ∀ hj : j < k, samI l[j] s d = false) : findI l s d = some k := by
  unfold findI
  rw [List.findIdx?_eq_some_iff_getElem]
  exact ⟨hk, h1, fun j hj => by rw [h j hj]; exact Bool.false_ne_true⟩
theorem findI_at {l : List Ir} {s d : ByteArray} {k : Nat} (h : findI l s d = some k) : ∃ hk : k < l.length, samI l[k] s d = true ∧ ∀ j, ∀ hj : j < k, samI l[j] s d = false := by
  unfold findI at h
  rw [List.findIdx?_eq_some_iff_getElem] at h
  obtain ⟨hk, h1, h2⟩ := h
  exact ⟨hk, h1, fun j hj => by have := h2 j hj; rwa [Bool.not_eq_true] at this⟩
def insI (x : Ir) : List Ir → List Ir
  | [] => [x]
  | y :: l => if aheadI x y then x :: y :: l else y :: insI x l
theorem insI_mem (x : Ir) (l : List Ir) : ∀ y, y ∈ insI x l ↔ y = x ∨ y ∈ l := by
  induction l with
  | nil => intro y; simp [insI]
  | cons a l ih =>
    intro y
    unfold insI
    split
    · simp
    · rw [List.mem_cons, ih, List.mem_cons]
      constructor
      · rintro (h | h | h)
        · exact .inr (.inl h)
        · exact .inl h
        · exact .inr (.inr h)
      · rintro (h | h | h)
        · exact .inr (.inl h)
        · exact .inl h
        · exact .inr (.inr h)
theorem insI_length (x : Ir) (l : List Ir) : (insI x l).length = l.length + 1 := by
  induction l with
  | nil => rfl
  | cons a l ih =>
    unfold insI
    split
    · rfl
    · simp [ih]
/-- Sorted. -/
def SI (l : List Ir) : Prop := l.Pairwise fun a b => aheadI a b = true
theorem SI.ins {l : List Ir} {x : Ir} (h : SI l) (hn : ∀ y ∈ l, samI y x.src x.dst = false) : SI (insI x l) := by
  induction l with
  | nil => simp [insI, SI]
  | cons a l ih =>
    unfold SI at h
    rw [List.pairwise_cons] at h
    unfold insI
    cases hx : aheadI x a with
    | true =>
      rw [if_pos rfl]
      unfold SI
      rw [List.pairwise_cons, List.pairwise_cons]
      exact ⟨fun y hy => by
        rcases List.mem_cons.1 hy with rfl | hy
        · exact hx
        · exact ahead_trans hx (h.1 y hy), h⟩
    | false =>
      rw [if_neg (by simp)]
      unfold SI
      rw [List.pairwise_cons]
      refine ⟨fun y hy => ?_, ih h.2 fun y hy => hn y (List.mem_cons_of_mem _ hy)⟩
      rcases (insI_mem x l y).1 hy with rfl | hy
      · cases ha : aheadI a y with
        | true => rfl
        | false =>
          have := ahead_tri ha hx
          have h0 := hn a (List.mem_cons_self ..)
          rw [sam_iff.2 this] at h0
          cases h0
      · exact h.1 y hy
/-- Two sorted lists of the same are the same. -/
theorem SI.ext : ∀ {l m : List Ir}, SI l → SI m → (∀ x, x ∈ l ↔ x ∈ m) → l = m
  | [], [], _, _, _ => rfl
  | [], b :: m, _, _, h => absurd ((h b).2 (List.mem_cons_self ..)) (by simp)
  | a :: l, [], _, _, h => absurd ((h a).1 (List.mem_cons_self ..)) (by simp)
  | a :: l, b :: m, hl, hm, h => by
    unfold SI at hl hm
    rw [List.pairwise_cons] at hl hm
    have hab : a = b := by
      rcases List.mem_cons.1 ((h a).1 (List.mem_cons_self ..)) with e | e
      · exact e
      rcases List.mem_cons.1 ((h b).2 (List.mem_cons_self ..)) with e2 | e2
      · exact e2.symm
      have h1 := hm.1 a e
      have h2 := hl.1 b e2
      rw [ahead_asymm h1] at h2
      cases h2
    subst hab
    refine congrArg (a :: ·) (SI.ext hl.2 hm.2 fun x => ?_)
    constructor
    · intro hx
      rcases List.mem_cons.1 ((h x).1 (List.mem_cons_of_mem _ hx)) with e | e
      · have := hl.1 x hx
        rw [e, ahead_irr] at this; cases this
      · exact e
    · intro hx
      rcases List.mem_cons.1 ((h x).2 (List.mem_cons_of_mem _ hx)) with e | e
      · have := hm.1 x hx
        rw [e, ahead_irr] at this; cases this
      · exact e
abbrev Im := Ls Ir
def patsI (s d : ByteArray) : Bool := patternB s.data.toList && patternB d.data.toList
def Ls.addI (t : Im) (s d : ByteArray) (b : Bool) (i : Nat) : Nat × Im :=
  if patsI s d = false then (10, t)
  else match findI t.l s d with
  | some _ => (20, t)
  | none => if t.most ≤ t.l.length then (5, t) else (0, Ls.raise { t with l := insI ⟨s, d, b, i, i⟩ t.l } i)
def Ls.askI (t : Im) (s d : ByteArray) (old : Nat) : Nat × Nat :=
  if patsI s d = false then (0, 10)
  else match findI t.l s d with
  | none => (0, 4)
  | some k => if old ≠ 0 ∧ (t.l.map (·.ix)).getD k 0 ≠ old then (0, 21) else (k, 0)
def Ls.turnI (t : Im) (s d : ByteArray) (b : Bool) (old i : Nat) : Nat × Im :=
  if (t.askI s d old).2 = 0 then (0, Ls.raise { t with l := t.l.modify (t.askI s d old).1 fun x => { x with allow := b, ix := i } } i) else ((t.askI s d old).2, t)
def Ls.dropI (t : Im) (s d : ByteArray) (old i : Nat) : Nat × Im :=
  if (t.askI s d old).2 = 0 then (0, Ls.raise { t with l := t.l.eraseIdx (t.askI s d old).1 } i) else ((t.askI s d old).2, t)
def forI (l : List Ir) (d : ByteArray) : List Ir := l.filter fun x => matchB x.dst.data.toList d.data.toList
/-- What the calls keep. -/
structure ImOk (t : Im) : Prop where
  most : 1 ≤ t.most ∧ t.most ≤ 64
  len : t.l.length ≤ t.most
  sorted : SI t.l
  pats : ∀ x ∈ t.l, patsI x.src x.dst = true
  in_ : ∀ x ∈ t.l, x.In
  last : t.last < 18446744073709551616
theorem ask_place {t : Im} {s d : ByteArray} {old : Nat} (h : (t.askI s d old).2 = 0) : findI t.l s d = some (t.askI s d old).1 := by
  unfold Ls.askI at h ⊢
  cases hp : patsI s d with
  | false => rw [hp] at h; cases h
  | true =>
    rw [hp] at h
    cases hf : findI t.l s d with
    | none => rw [hf] at h; cases h
    | some k =>
      rw [hf] at h
      by_cases hq : old ≠ 0 ∧ (t.l.map (·.ix)).getD k 0 ≠ old
      · simp only [if_pos hq] at h
        cases h
      · simp only [if_neg hq]
        rfl
theorem ask_pats {t : Im} {s d : ByteArray} {old : Nat} (h : (t.askI s d old).2 = 0) : patsI s d = true := by
  unfold Ls.askI at h
  split at h
  · cases h
  · rename_i hp
    simpa using hp
theorem ImOk.raise {t : Im} (h : ImOk t) {i : Nat} (hi : i < 18446744073709551616) : ImOk (t.raise i) :=
  ⟨h.most, h.len, h.sorted, h.pats, h.in_, by have := h.last; show max t.last i < _; omega⟩
theorem ImOk.add {t : Im} (h : ImOk t) {s d : ByteArray} {b : Bool} {i : Nat} (hs : s.size ≤ maxLen) (hd : d.size ≤ maxLen) (hi : i < 18446744073709551616) : ImOk (t.addI s d b i).2 := by
  unfold Ls.addI
  split
  · exact h
  · rename_i hp
    split
    · exact h
    · rename_i hf
      split
      · exact h
      · rename_i hm
        refine ImOk.raise (t := { t with l := insI ⟨s, d, b, i, i⟩ t.l }) ⟨h.most, ?_, ?_, fun x hx => ?_, fun x hx => ?_, h.last⟩ hi
        · show (insI _ t.l).length ≤ t.most
          rw [insI_length]; omega
        · refine SI.ins h.sorted fun y hy => ?_
          unfold findI at hf
          rw [List.findIdx?_eq_none_iff] at hf
          exact hf y hy
        · rcases (insI_mem _ _ _).1 hx with rfl | hx
          · simpa using hp
          · exact h.pats x hx
        · rcases (insI_mem _ _ _).1 hx with rfl | hx
          · exact ⟨hs, hd, hi, hi⟩
          · exact h.in_ x hx
theorem modify_mem {α : Type} {f : α → α} {l : List α} {k : Nat} {x : α} (h : x ∈ l.modify k f) : x ∈ l ∨ ∃ y ∈ l, x = f y := by
  obtain ⟨j, hj, rfl⟩ := List.getElem_of_mem h
  rw [List.getElem_modify]
  rw [List.length_modify] at hj
  split
  · exact .inr ⟨_, List.getElem_mem hj, rfl⟩
  · exact .inl (List.getElem_mem hj)
theorem SI.modify {l : List Ir} (h : SI l) (k : Nat) (b : Bool) (i : Nat) : SI (l.modify k fun x => { x with allow := b, ix := i }) := by
  unfold SI at h ⊢
  rw [List.pairwise_iff_getElem] at h ⊢
  intro p q hp hq hpq
  rw [List.length_modify] at hp hq
  have := h p q hp hq hpq
  rw [List.getElem_modify, List.getElem_modify]
  split <;> split <;> exact this
theorem ImOk.turn {t : Im} (h : ImOk t) {s d : ByteArray} {b : Bool} {old i : Nat} (hi : i < 18446744073709551616) : ImOk (t.turnI s d b old i).2 := by
  unfold Ls.turnI
  split
  · refine ImOk.raise (t := { t with l := t.l.modify (t.askI s d old).1 fun x => { x with allow := b, ix := i } }) ⟨h.most, ?_, h.sorted.modify _ _ _, fun x hx => ?_, fun x hx => ?_, h.last⟩ hi
    · show (t.l.modify _ _).length ≤ t.most
      rw [List.length_modify]; exact h.len
    · rcases modify_mem hx with hx | ⟨y, hy, rfl⟩
      · exact h.pats x hx
      · exact h.pats y hy
    · rcases modify_mem hx with hx | ⟨y, hy, rfl⟩
      · exact h.in_ x hx
      · have := h.in_ y hy
        exact ⟨this.src, this.dst, this.made, hi⟩
  · exact h
theorem ImOk.drop {t : Im} (h : ImOk t) {s d : ByteArray} {old i : Nat} (hi : i < 18446744073709551616) : ImOk (t.dropI s d old i).2 := by
  unfold Ls.dropI
  split
  · refine ImOk.raise (t := { t with l := t.l.eraseIdx (t.askI s d old).1 }) ⟨h.most, ?_, ?_, fun x hx => h.pats x (List.mem_of_mem_eraseIdx hx), fun x hx => h.in_ x (List.mem_of_mem_eraseIdx hx), h.last⟩ hi
    · exact Nat.le_trans (List.length_eraseIdx_le _ _) h.len
    · exact List.Pairwise.sublist (List.eraseIdx_sublist _ _) h.sorted
  · exact h
/-- Which may be loaded. -/
def ImLoad (m : Nat) (l : List Ir) (last : Nat) : Prop := l.length ≤ m ∧ (∀ j, ∀ h1 : 1 ≤ j, ∀ h : j < l.length, aheadI (l[j - 1]'(by omega)) l[j] = true) ∧ ∀ x ∈ l, patsI x.src x.dst = true ∧ x.made ≤ x.ix ∧ x.ix ≤ last
end Go.Proofs.Ytmegfkclpjddgaa
