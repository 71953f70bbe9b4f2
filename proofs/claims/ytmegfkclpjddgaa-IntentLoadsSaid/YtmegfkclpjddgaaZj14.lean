/-
  What may be loaded, and what laying one after the other makes of it, in plain words (layer 17). Nothing of any program stands here.
-/
import Derived.Test.YtmegfkclpjddgaaZj13
namespace Go.Proofs.Ytmegfkclpjddgaa
open Go Go.RowKit
set_option linter.unusedSimpArgs false
set_option linter.unusedVariables false

/-- One that may be of those whose last index is known. -/
def gdI (x : Ir) (last : Nat) : Bool := patternB x.src.data.toList && (patternB x.dst.data.toList && (decide (x.made ≤ x.ix) && decide (x.ix ≤ last)))
theorem gdI_iff {x : Ir} {last : Nat} : gdI x last = true ↔ patsI x.src x.dst = true ∧ x.made ≤ x.ix ∧ x.ix ≤ last := by
  unfold gdI patsI
  simp only [Bool.and_eq_true, decide_eq_true_eq]
  constructor
  · rintro ⟨a, b, c, d⟩; exact ⟨⟨a, b⟩, c, d⟩
  · rintro ⟨⟨a, b⟩, c, d⟩; exact ⟨a, b, c, d⟩
theorem ImLoad.sorted {m last : Nat} {l : List Ir} (h : ImLoad m l last) : SI l := by
  unfold SI
  rw [List.pairwise_iff_getElem]
  intro i j hi hj hij
  obtain ⟨e, he⟩ : ∃ e, j = i + 1 + e := ⟨j - (i + 1), by omega⟩
  subst he
  clear hij
  induction e with
  | zero => exact h.2.1 (i + 1) (by omega) (by omega)
  | succ e ih =>
    have h1 := ih (by omega)
    have h2 := h.2.1 (i + 1 + (e + 1)) (by omega) hj
    have e2 : i + 1 + (e + 1) - 1 = i + 1 + e := by omega
    simp only [e2] at h2
    exact ahead_trans h1 h2
theorem SI.load {m last : Nat} {l : List Ir} (hs : SI l) (hl : l.length ≤ m) (hg : ∀ x ∈ l, gdI x last = true) : ImLoad m l last := by
  unfold SI at hs
  rw [List.pairwise_iff_getElem] at hs
  exact ⟨hl, fun j h1 h => hs (j - 1) j (by omega) h (by omega), fun x hx => gdI_iff.1 (hg x hx)⟩
theorem insI_last {x : Ir} : ∀ {l : List Ir}, (∀ y ∈ l, aheadI x y = false) → insI x l = l ++ [x]
  | [], _ => rfl
  | a :: l, h => by
    unfold insI
    rw [h a (List.mem_cons_self ..)]
    simp only [Bool.false_eq_true, if_false, List.cons_append]
    rw [insI_last fun y hy => h y (List.mem_cons_of_mem _ hy)]
theorem modify_last {α : Type} {l : List α} {x : α} {f : α → α} : (l ++ [x]).modify l.length f = l ++ [f x] := by
  induction l with
  | nil => rfl
  | cons a l ih => simp [ih]
/-- As its first index had it. -/
def atMade (x : Ir) : Ir := ⟨x.src, x.dst, x.allow, x.made, x.made⟩
/-- What stands when k have been laid. -/
structure LdK (l : List Ir) (m last : Nat) (k : Nat) (t : Im) : Prop where
  most : t.most = m
  lst : t.last ≤ last
  good : ∀ x ∈ l.take k, gdI x last = true
  as_ : ImLoad m l last → t.l = l.take k
theorem LdK.start (l : List Ir) (m last : Nat) : LdK l m last 0 ⟨m, [], 0⟩ :=
  ⟨rfl, Nat.zero_le _, by simp, fun _ => by simp⟩
section
variable {l : List Ir} {m last k : Nat} {t : Im}
theorem layI_most (t : Im) (s d : ByteArray) (b : Bool) (i : Nat) : (t.layI s d b i).2.most = t.most := by
  unfold Ls.layI
  split
  · rfl
  · split <;> rfl
theorem layI_last (t : Im) (s d : ByteArray) (b : Bool) {i z : Nat} (ht : t.last ≤ z) (hi : i ≤ z) : (t.layI s d b i).2.last ≤ z := by
  unfold Ls.layI
  split
  · exact Nat.max_le.2 ⟨ht, hi⟩
  · split
    · exact ht
    · exact Nat.max_le.2 ⟨ht, hi⟩
theorem take_more (hk : k < l.length) : l.take (k + 1) = l.take k ++ [l[k]] := List.take_succ_eq_append_getElem hk
theorem SI.take_ (h : SI l) (n : Nat) : SI (l.take n) := List.Pairwise.sublist (List.take_sublist _ _) h
theorem LdK.first (h : LdK l m last k t) (hk : k < l.length) (hL : ImLoad m l last) : t.layI l[k].src l[k].dst l[k].allow l[k].made = (0, Ls.raise { t with l := l.take k ++ [atMade l[k]] } l[k].made) := by
  have hs := hL.sorted.take_ (k + 1)
  rw [take_more hk] at hs
  unfold SI at hs
  rw [List.pairwise_append] at hs
  have ha : ∀ y ∈ l.take k, aheadI y l[k] = true := fun y hy => hs.2.2 y hy _ (List.mem_singleton.2 rfl)
  have e := h.as_ hL
  have hf : findI t.l l[k].src l[k].dst = none := by
    rw [e]
    exact findI_none fun j hj => ahead_diff (ha _ (List.getElem_mem hj))
  have hm : ¬ t.most ≤ t.l.length := by
    have := hL.1
    rw [h.most, e, List.length_take]
    omega
  unfold Ls.layI
  rw [hf]
  simp only [if_neg hm]
  rw [e]
  have hi := insI_last (x := atMade l[k]) (l := l.take k) fun y hy => ahead_asymm (show aheadI y (atMade l[k]) = true from ha y hy)
  unfold atMade at hi
  rw [hi]
  rfl
theorem LdK.next (h : LdK l m last k t) (hk : k < l.length) (hg : gdI l[k] last = true) : LdK l m last (k + 1) ((t.layI l[k].src l[k].dst l[k].allow l[k].made).2.layI l[k].src l[k].dst l[k].allow l[k].ix).2 := by
  have hg2 := gdI_iff.1 hg
  refine ⟨by rw [layI_most, layI_most]; exact h.most, layI_last _ _ _ _ (layI_last _ _ _ _ h.lst (by omega)) hg2.2.2, fun x hx => ?_, fun hL => ?_⟩
  · rw [take_more hk, List.mem_append, List.mem_singleton] at hx
    rcases hx with hx | rfl
    · exact h.good x hx
    · exact hg
  · have hs := hL.sorted.take_ (k + 1)
    rw [take_more hk] at hs
    have hsn : SI (l.take k ++ [atMade l[k]]) := by
      unfold SI at hs ⊢
      rw [List.pairwise_append] at hs ⊢
      refine ⟨hs.1, List.pairwise_singleton _ _, fun y hy z hz => ?_⟩
      rw [List.mem_singleton] at hz
      subst hz
      exact (hs.2.2 y hy _ (List.mem_singleton.2 rfl) : aheadI y l[k] = true)
    have hlen : (l.take k).length = k := by rw [List.length_take]; omega
    have hkk : k < (l.take k ++ [atMade l[k]]).length := by rw [List.length_append, hlen]; simp
    have hat : (l.take k ++ [atMade l[k]])[k]'hkk = atMade l[k] := by
      rw [List.getElem_append_right (by omega)]
      simp [hlen]
    have hf : findI (l.take k ++ [atMade l[k]]) l[k].src l[k].dst = some k := hsn.place hkk (by rw [hat]; exact sam_iff.2 ⟨rfl, rfl⟩)
    rw [h.first hk hL]
    unfold Ls.layI Ls.raise
    simp only
    rw [hf]
    simp only
    have hm := modify_last (l := l.take k) (x := atMade l[k]) (f := fun x => { x with allow := l[k].allow, ix := l[k].ix })
    rw [hlen] at hm
    rw [hm, take_more hk]
    rfl
theorem LdK.bad (h : LdK l m last k t) (hk : k < l.length) (hg : gdI l[k] last = false) : ¬ ImLoad m l last := fun hL => by
  rw [gdI_iff.2 (hL.2.2 _ (List.getElem_mem hk))] at hg
  cases hg
theorem LdK.full (h : LdK l m last k t) (hk : k < l.length) (hg : (t.layI l[k].src l[k].dst l[k].allow l[k].made).1 ≠ 0) : ¬ ImLoad m l last := fun hL => by
  rw [h.first hk hL] at hg
  exact hg rfl
theorem LdK.done (h : LdK l m last k t) (hk : l.length ≤ k) (ho : ImOk t) : t.l = l ↔ ImLoad m l last := by
  have e := List.take_of_length_le hk
  constructor
  · intro q
    have h1 := ho.sorted
    have h2 := ho.len
    rw [q] at h1 h2
    refine h1.load (by rw [← h.most]; exact h2) fun x hx => h.good x (by rw [e]; exact hx)
  · intro hL
    rw [h.as_ hL, e]
theorem LdK.raised (h : LdK l m last k t) (he : t.l = l) : t.raise last = ⟨m, l, last⟩ := by
  have h1 := h.most
  have h2 := h.lst
  have h3 : t.raise last = ⟨t.most, t.l, max t.last last⟩ := rfl
  rw [h3, h1, he, Nat.max_eq_right h2]
end
end Go.Proofs.Ytmegfkclpjddgaa
