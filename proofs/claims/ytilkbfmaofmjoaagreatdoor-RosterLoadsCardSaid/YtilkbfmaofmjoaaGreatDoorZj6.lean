import Derived.Test.YtilkbfmaofmjoaaGreatDoorZj2
import Derived.Lib.IndexAny
import Derived.Lib.Strings
import Derived.Test.YtilkbfmaofmjoaaGreatDoorZj3
namespace Go.Proofs.YtilkbfmaofmjoaaGreatDoor
open Go Go.RowKit
set_option linter.unusedSimpArgs false
def plainB (c : UInt8) : Bool := decide (97 ≤ c.toNat ∧ c.toNat ≤ 122 ∨ 48 ≤ c.toNat ∧ c.toNat ≤ 57)
def okB (al : List UInt8) (c : UInt8) : Bool := plainB c || al.contains c
def spellsB (al l : List UInt8) : Bool := l.all (okB al) && !l.isEmpty
theorem spells_of (al l : List UInt8) : spellsB al l = true ↔ l ≠ [] ∧ ∀ c ∈ l, okB al c = true := by
  unfold spellsB
  simp [and_comm]
def keyGo (ok : UInt8 → Bool) : Bool → List UInt8 → Bool
  | b, [] => !b
  | b, c :: l => if c == 47 then !b && keyGo ok true l else ok c && keyGo ok false l
def keyB (l : List UInt8) : Bool := decide (l.length ≤ 32) && keyGo (okB [45, 95, 46]) true l
def consHead (c : UInt8) : List (List UInt8) → List (List UInt8)
  | [] => [[c]]
  | h :: t => (c :: h) :: t
theorem splitK_ne_nil (k : Nat) (l : List UInt8) : Lib.splitK [47] 0 k l ≠ [] := by
  cases k with
  | zero => simp [Lib.splitK]
  | succ k => unfold Lib.splitK; split <;> simp
theorem splitK_slash (k : Nat) (l : List UInt8) : Lib.splitK [47] 0 (k + 1) (47 :: l) = [] :: Lib.splitK [47] 0 k l := by
  have hix : Lib.index (47 :: l) [47] = 0 := by rw [Lib.index]; simp [List.isPrefixOf]
  rw [Lib.splitK, hix]
  simp
theorem splitK_other (k : Nat) (c : UInt8) (l : List UInt8) (h : c ≠ 47) : Lib.splitK [47] 0 k (c :: l) = consHead c (Lib.splitK [47] 0 k l) := by
  cases k with
  | zero => simp [Lib.splitK, consHead]
  | succ k =>
    have hp : ([47] : List UInt8).isPrefixOf (c :: l) = false := by simp [List.isPrefixOf, Ne.symm h]
    have hix : Lib.index (c :: l) [47] = if Lib.index l [47] == -1 then -1 else Lib.index l [47] + 1 := by rw [Lib.index, hp]; simp
    have hge := Lib.index_ge l [47]
    by_cases hm : Lib.index l [47] = -1
    · rw [Lib.splitK, Lib.splitK, hix]
      simp [hm, consHead]
    · have hm' : (Lib.index l [47] == -1) = false := by simpa using hm
      have hn : (Lib.index l [47] + 1 == -1) = false := by rw [beq_eq_false_iff_ne]; omega
      obtain ⟨j, hj⟩ : ∃ j : Nat, Lib.index l [47] = j := ⟨(Lib.index l [47]).toNat, by omega⟩
      rw [Lib.splitK, Lib.splitK, hix]
      simp only [hm', hn, Bool.false_eq_true, if_false, consHead]
      rw [hj, show ((j : Int) + 1).toNat = j + 1 by omega, show ((j : Int)).toNat = j by omega]
      simp
theorem split_key (ok : UInt8 → Bool) : ∀ l : List UInt8,
    (Lib.splitK [47] 0 (Lib.count l [47]) l).all (fun p => p.all ok && !p.isEmpty) = keyGo ok true l ∧
    (∀ h t, Lib.splitK [47] 0 (Lib.count l [47]) l = h :: t → (h.all ok && t.all (fun p => p.all ok && !p.isEmpty)) = keyGo ok false l)
  | [] => by
    have : Lib.splitK [47] 0 (Lib.count [] [47]) [] = [[]] := by rw [Lib.count_one]; rfl
    rw [this]
    refine ⟨by simp [keyGo], fun h t e => ?_⟩
    cases e
    simp [keyGo]
  | c :: l => by
    obtain ⟨h1, h2⟩ := split_key ok l
    by_cases hc : c = 47
    · subst hc
      rw [Lib.count_cons_eq, Nat.add_comm, splitK_slash]
      refine ⟨by simp [keyGo], fun h t e => ?_⟩
      cases e
      rw [h1]
      simp [keyGo]
    · rw [Lib.count_cons_ne c 47 l hc, splitK_other _ _ _ hc]
      cases hs : Lib.splitK [47] 0 (Lib.count l [47]) l with
      | nil => exact absurd hs (splitK_ne_nil _ _)
      | cons h t =>
        have h3 := h2 h t hs
        have hc' : (c == 47) = false := by simpa using hc
        refine ⟨?_, fun h' t' e => ?_⟩
        · simp only [consHead, List.all_cons, keyGo, hc', Bool.false_eq_true, if_false, ← h3, List.isEmpty_cons, Bool.not_false, Bool.and_true, Bool.and_assoc]
        · simp only [consHead] at e
          cases e
          simp only [List.all_cons, keyGo, hc', Bool.false_eq_true, if_false, ← h3, Bool.and_assoc]
def goodB (p : List UInt8) : Bool := p.all (okB [45, 95, 46]) && !p.isEmpty
def PartsOk (P : List ByteArray) (k : Nat) : Prop := ∀ p ∈ P.take k, goodB p.data.toList = true
theorem PartsOk.zero (P : List ByteArray) : PartsOk P 0 := by intro p hp; simp at hp
theorem PartsOk.next {P : List ByteArray} {k : Nat} (h : PartsOk P k) (hk : k < P.length) (ho : goodB P[k].data.toList = true) : PartsOk P (k + 1) := by
  intro p hp
  rw [List.take_succ_eq_append_getElem hk, List.mem_append, List.mem_singleton] at hp
  rcases hp with hp | rfl
  · exact h p hp
  · exact ho
theorem parts_key {s : ByteArray} {P : List ByteArray} (hP : P.map (·.data.toList) = Lib.splitK [47] 0 (Lib.count s.data.toList [47]) s.data.toList) : keyGo (okB [45, 95, 46]) true s.data.toList = P.all fun p => goodB p.data.toList := by
  rw [← (split_key (okB [45, 95, 46]) s.data.toList).1, ← hP, List.all_map]
  rfl
theorem PartsOk.all {s : ByteArray} {P : List ByteArray} (hP : P.map (·.data.toList) = Lib.splitK [47] 0 (Lib.count s.data.toList [47]) s.data.toList) (h : PartsOk P P.length) : keyGo (okB [45, 95, 46]) true s.data.toList = true := by
  rw [parts_key hP, List.all_eq_true]
  intro p hp
  exact h p (by rw [List.take_length]; exact hp)
theorem take_snoc (s : ByteArray) (k : Nat) (h : k < s.size) : s.data.toList.take (k + 1) = s.data.toList.take k ++ [s[k]] := by
  rw [List.take_succ_eq_append_getElem (by simpa using h)]; rfl
theorem get_list (s : ByteArray) (k : Nat) (h : k < s.size) : s.data.toList[k]'(by simpa using h) = s[k] := rfl
def Spelt (al l : List UInt8) (k : Nat) : Prop := ∀ c ∈ l.take k, okB al c = true
theorem Spelt.zero (al l : List UInt8) : Spelt al l 0 := by intro c hc; simp at hc
theorem Spelt.next {al : List UInt8} {s : ByteArray} {k : Nat} (h : Spelt al s.data.toList k) (hk : k < s.size) (ho : okB al s[k] = true) : Spelt al s.data.toList (k + 1) := by
  intro c hc
  rw [take_snoc s k hk, List.mem_append, List.mem_singleton] at hc
  rcases hc with hc | rfl
  · exact h c hc
  · exact ho
theorem Spelt.no {al : List UInt8} {s : ByteArray} {k : Nat} (hk : k < s.size) (ho : okB al s[k] = false) : spellsB al s.data.toList = false := by
  rw [Bool.eq_false_iff]
  intro e
  have := ((spells_of _ _).1 e).2 s[k] (by rw [← get_list s k hk]; exact List.getElem_mem _)
  rw [ho] at this; cases this
theorem Spelt.yes {al : List UInt8} {s : ByteArray} (h : Spelt al s.data.toList s.size) : (!s.toList.isEmpty) = spellsB al s.data.toList := by
  have ha : s.data.toList.all (okB al) = true := by
    rw [List.all_eq_true]
    intro c hc
    refine h c ?_
    rw [List.take_of_length_le (by rw [← Lib.size_eq]; exact Nat.le_refl _)]
    exact hc
  rw [ByteArray.toList_eq]
  simp [spellsB, ha]
def KeyRun (l : List UInt8) (k : Nat) : Prop := ∃ b, keyGo (okB [45, 95, 46]) true l = keyGo (okB [45, 95, 46]) b (l.drop k) ∧ (b = true ↔ k = 0 ∨ l[k - 1]? = some 47) ∧ (k = l.length → b = false)
theorem KeyRun.zero {l : List UInt8} (h : 1 ≤ l.length) : KeyRun l 0 := ⟨true, by simp, by simp, fun e => by omega⟩
theorem KeyRun.all {s : ByteArray} (h : KeyRun s.data.toList s.size) (h32 : s.size ≤ 32) : keyB s.data.toList = true := by
  obtain ⟨b, h1, _, h3⟩ := h
  have hb := h3 (Lib.size_eq s)
  have hd : s.data.toList.drop s.size = [] := List.drop_eq_nil_of_le (by rw [← Lib.size_eq]; exact Nat.le_refl _)
  rw [keyB, h1, hb, hd, ← Lib.size_eq]
  simp [keyGo, h32]
end Go.Proofs.YtilkbfmaofmjoaaGreatDoor
namespace Go.Proofs.YtilkbfmaofmjoaaGreatDoor
open Go Go.RowKit
set_option linter.unusedSimpArgs false
def rightB (l : List UInt8) : Bool := decide (l.length ≤ 24) && spellsB [45] l && !Lib.hasPrefix l [45] && !Lib.hasSuffix l [45]
theorem right_true {l : List UInt8} (h1 : 1 ≤ l.length) (h2 : l.length ≤ 24) (h : ∀ j (hj : j < l.length), plainB l[j] = true ∨ (l[j] = 45 ∧ j ≠ 0 ∧ j ≠ l.length - 1)) : rightB l = true := by
  have hs : spellsB [45] l = true := by
    rw [spells_of]
    refine ⟨by rintro rfl; simp at h1, fun c hc => ?_⟩
    obtain ⟨j, hj, rfl⟩ := List.mem_iff_getElem.1 hc
    rcases h j hj with h | ⟨h, _⟩
    · simp [okB, h]
    · simp [okB, h]
  have np : plainB 45 = false := by decide
  have hp : Lib.hasPrefix l [45] = false := by
    rw [Bool.eq_false_iff]
    intro e
    rw [hasPrefix_one] at e
    have h0 : l[0] = 45 := by simpa [List.getElem?_eq_getElem (show 0 < l.length by omega)] using e
    rcases h 0 (by omega) with h | ⟨_, h, _⟩
    · rw [h0, np] at h; cases h
    · exact h rfl
  have hq : Lib.hasSuffix l [45] = false := by
    rw [Bool.eq_false_iff]
    intro e
    rw [hasSuffix_one] at e
    have h0 : l[l.length - 1] = 45 := by simpa [List.getElem?_eq_getElem (show l.length - 1 < l.length by omega)] using e.2
    rcases h (l.length - 1) (by omega) with h | ⟨_, _, h⟩
    · rw [h0, np] at h; cases h
    · exact h rfl
  simp [rightB, hs, hp, hq, h2]
theorem right_false {l : List UInt8} {j : Nat} (hj : j < l.length) (hp : plainB l[j] = false) (h : l[j] ≠ 45 ∨ j = 0 ∨ j = l.length - 1) : rightB l = false := by
  rw [Bool.eq_false_iff]
  intro e
  unfold rightB at e
  simp only [Bool.and_eq_true, decide_eq_true_eq, Bool.not_eq_true'] at e
  obtain ⟨⟨⟨_, hs⟩, h1⟩, h2⟩ := e
  have ho := ((spells_of _ _).1 hs).2 l[j] (List.getElem_mem hj)
  have h45 : l[j] = 45 := by simpa [okB, hp] using ho
  rcases h with h | h | h
  · exact h h45
  · subst h
    have : Lib.hasPrefix l [45] = true := by rw [hasPrefix_one, List.getElem?_eq_getElem hj, h45]
    rw [this] at h1; cases h1
  · have : Lib.hasSuffix l [45] = true := by
      rw [hasSuffix_one]
      refine ⟨by rintro rfl; simp at hj, ?_⟩
      subst h
      rw [List.getElem?_eq_getElem hj, h45]
    rw [this] at h2; cases h2
theorem right_short {l : List UInt8} (h : l.length < 1 ∨ 24 < l.length) : rightB l = false := by
  rcases h with h | h
  · have : l = [] := List.eq_nil_of_length_eq_zero (by omega)
    subst this
    decide
  · simp [rightB, show ¬ l.length ≤ 24 by omega]
end Go.Proofs.YtilkbfmaofmjoaaGreatDoor
namespace Go.Proofs.YtilkbfmaofmjoaaGreatDoor
open Go Go.RowKit
set_option linter.unusedSimpArgs false
set_option linter.unusedVariables false
def risingB : List ByteArray → Bool
  | x :: y :: r => ltT x y && risingB (y :: r)
  | _ => true
theorem rising_iff : ∀ l : List ByteArray, risingB l = true ↔ ∀ k (h : k + 1 < l.length), ltT l[k] l[k + 1] = true
  | [] => by simp [risingB]
  | [x] => by simp [risingB]
  | x :: y :: r => by
    rw [risingB, Bool.and_eq_true, rising_iff (y :: r)]
    constructor
    · rintro ⟨h1, h2⟩ k hk
      cases k with
      | zero => exact h1
      | succ k => exact h2 k (by simpa using hk)
    · intro h
      exact ⟨h 0 (by simp), fun k hk => h (k + 1) (by simpa using hk)⟩
def RisesTo (l : List ByteArray) (k : Nat) : Prop := ∀ j (h : j + 1 < l.length), j + 1 < k → ltT l[j] l[j + 1] = true
theorem RisesTo.one (l : List ByteArray) : RisesTo l 1 := fun j _ h => absurd h (by omega)
theorem RisesTo.next {l : List ByteArray} {k : Nat} (h : RisesTo l k) (hk : k < l.length) (h1 : 1 ≤ k) (hl : ltT (l[k - 1]'(by omega)) l[k] = true) : RisesTo l (k + 1) := by
  intro j hj hjk
  by_cases e : j + 1 = k
  · subst e; exact hl
  · exact h j hj (by omega)
theorem RisesTo.all {l : List ByteArray} {k : Nat} (h : RisesTo l k) (hk : l.length ≤ k) : risingB l = true := (rising_iff l).2 fun j hj => h j hj (by omega)
theorem rises_no {l : List ByteArray} {k : Nat} (hk : k < l.length) (h1 : 1 ≤ k) (hl : ltT (l[k - 1]'(by omega)) l[k] = false) : risingB l = false := by
  rw [Bool.eq_false_iff]
  intro e
  have := (rising_iff l).1 e (k - 1) (by omega)
  simp only [Nat.sub_add_cancel h1] at this
  rw [hl] at this; cases this
def tagsB (l : List ByteArray) : Bool := decide (l.length ≤ 4) && risingB l && l.all fun x => rightB x.data.toList
def RightsTo (l : List ByteArray) (k : Nat) : Prop := ∀ j (h : j < l.length), j < k → rightB l[j].data.toList = true
theorem RightsTo.zero (l : List ByteArray) : RightsTo l 0 := fun _ _ h => absurd h (by omega)
theorem RightsTo.next {l : List ByteArray} {k : Nat} (h : RightsTo l k) (hk : k < l.length) (ho : rightB l[k].data.toList = true) : RightsTo l (k + 1) := by
  intro j hj hjk
  by_cases e : j = k
  · subst e; exact ho
  · exact h j hj (by omega)
theorem tags_all {l : List ByteArray} {k : Nat} (h : RightsTo l k) (hk : l.length ≤ k) (h4 : l.length ≤ 4) (hr : risingB l = true) : tagsB l = true := by
  have : (l.all fun x => rightB x.data.toList) = true := by
    rw [List.all_eq_true]
    intro x hx
    obtain ⟨j, hj, rfl⟩ := List.mem_iff_getElem.1 hx
    exact h j hj (by omega)
  simp [tagsB, this, hr, h4]
theorem tags_wrong {l : List ByteArray} {k : Nat} (hk : k < l.length) (ho : rightB l[k].data.toList = false) : tagsB l = false := by
  have : (l.all fun x => rightB x.data.toList) = false := by
    rw [Bool.eq_false_iff]
    intro e
    have := List.all_eq_true.1 e l[k] (List.getElem_mem hk)
    rw [ho] at this; cases this
  simp [tagsB, this]
theorem tags_falls {l : List ByteArray} (h : risingB l = false) : tagsB l = false := by simp [tagsB, h]
theorem tags_long {l : List ByteArray} (h : 4 < l.length) : tagsB l = false := by simp [tagsB, show ¬ l.length ≤ 4 by omega]
end Go.Proofs.YtilkbfmaofmjoaaGreatDoor
