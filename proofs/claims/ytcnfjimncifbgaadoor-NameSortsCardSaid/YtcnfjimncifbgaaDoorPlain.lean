/-
  Plain lemmas on lists of bytes: what a name and a key are (layer 1), in words that both the program and the document's plain form meet. Nothing of any program stands here.
-/
import Derived.Lib.Split
import Derived.Lib.SplitLaws
import Derived.Lib.IndexBytes
import Derived.Lib.IndexAny
import Derived.Lib.Strings
namespace Go.Proofs.YtcnfjimncifbgaaDoor
open Go

/-- A small letter or a digit. -/
def plainB (c : UInt8) : Bool := decide (97 ≤ c.toNat ∧ c.toNat ≤ 122 ∨ 48 ≤ c.toNat ∧ c.toNat ≤ 57)
/-- A byte that is plain, or one of the alphabet's. -/
def okB (al : List UInt8) (c : UInt8) : Bool := plainB c || al.contains c
/-- A text that is not empty, of such bytes alone. -/
def spellsB (al l : List UInt8) : Bool := l.all (okB al) && !l.isEmpty
/-- A name. -/
def rightB (l : List UInt8) : Bool := decide (l.length ≤ 24) && spellsB [45] l && !Lib.hasPrefix l [45] && !Lib.hasSuffix l [45]
/-- A pattern. -/
def patternB (l : List UInt8) : Bool := l == [42] || rightB l
/-- Does a pattern take a name? -/
def matchB (p l : List UInt8) : Bool := (p == [42] || p == l) && rightB l

theorem hasPrefix_one (l : List UInt8) (c : UInt8) : Lib.hasPrefix l [c] = true ↔ l[0]? = some c := by
  cases l with
  | nil => simp [Lib.hasPrefix, List.isPrefixOf]
  | cons b t =>
    simp [Lib.hasPrefix, List.isPrefixOf]
    exact eq_comm

theorem hasSuffix_one (l : List UInt8) (c : UInt8) : Lib.hasSuffix l [c] = true ↔ l ≠ [] ∧ l[l.length - 1]? = some c := by
  unfold Lib.hasSuffix
  rw [List.isSuffixOf_iff_suffix]
  constructor
  · rintro ⟨t, rfl⟩
    simp
  · rintro ⟨hne, h⟩
    refine ⟨l.dropLast, ?_⟩
    have hl : l.getLast? = some c := by rw [List.getLast?_eq_getElem?]; exact h
    have e : l.getLast hne = c := by rw [List.getLast?_eq_some_getLast hne] at hl; exact Option.some.inj hl
    rw [← e]
    exact List.dropLast_concat_getLast hne

theorem spells_of (al l : List UInt8) : spellsB al l = true ↔ l ≠ [] ∧ ∀ c ∈ l, okB al c = true := by
  unfold spellsB
  simp [and_comm]

/-- What a name is, place by place. -/
theorem right_true {l : List UInt8} (h1 : 1 ≤ l.length) (h2 : l.length ≤ 24) (h : ∀ j (hj : j < l.length), plainB l[j] = true ∨ (l[j] = 45 ∧ j ≠ 0 ∧ j ≠ l.length - 1)) : rightB l = true := by
  have hs : spellsB [45] l = true := by
    rw [spells_of]
    refine ⟨by rintro rfl; simp at h1, fun c hc => ?_⟩
    obtain ⟨j, hj, rfl⟩ := List.mem_iff_getElem.1 hc
    rcases h j hj with h | ⟨h, _⟩
    · simp [okB, h]
    · simp [okB, h]
  have np : plainB 45 = false := by decide
  have hp : Lib.hasPrefix l [45] = false := by
    rw [Bool.eq_false_iff]
    intro e
    rw [hasPrefix_one] at e
    have h0 : l[0] = 45 := by simpa [List.getElem?_eq_getElem (show 0 < l.length by omega)] using e
    rcases h 0 (by omega) with h | ⟨_, h, _⟩
    · rw [h0, np] at h; cases h
    · exact h rfl
  have hq : Lib.hasSuffix l [45] = false := by
    rw [Bool.eq_false_iff]
    intro e
    rw [hasSuffix_one] at e
    have h0 : l[l.length - 1] = 45 := by simpa [List.getElem?_eq_getElem (show l.length - 1 < l.length by omega)] using e.2
    rcases h (l.length - 1) (by omega) with h | ⟨_, _, h⟩
    · rw [h0, np] at h; cases h
    · exact h rfl
  simp [rightB, hs, hp, hq, h2]

theorem right_false {l : List UInt8} {j : Nat} (hj : j < l.length) (hp : plainB l[j] = false) (h : l[j] ≠ 45 ∨ j = 0 ∨ j = l.length - 1) : rightB l = false := by
  rw [Bool.eq_false_iff]
  intro e
  unfold rightB at e
  simp only [Bool.and_eq_true, decide_eq_true_eq, Bool.not_eq_true'] at e
  obtain ⟨⟨⟨_, hs⟩, h1⟩, h2⟩ := e
  have ho := ((spells_of _ _).1 hs).2 l[j] (List.getElem_mem hj)
  have h45 : l[j] = 45 := by simpa [okB, hp] using ho
  rcases h with h | h | h
  · exact h h45
  · subst h
    have : Lib.hasPrefix l [45] = true := by rw [hasPrefix_one, List.getElem?_eq_getElem hj, h45]
    rw [this] at h1; cases h1
  · have : Lib.hasSuffix l [45] = true := by
      rw [hasSuffix_one]
      refine ⟨by rintro rfl; simp at hj, ?_⟩
      subst h
      rw [List.getElem?_eq_getElem hj, h45]
    rw [this] at h2; cases h2

theorem right_short {l : List UInt8} (h : l.length < 1 ∨ 24 < l.length) : rightB l = false := by
  rcases h with h | h
  · have : l = [] := List.eq_nil_of_length_eq_zero (by omega)
    subst this
    decide
  · simp [rightB, show ¬ l.length ≤ 24 by omega]

/-! ### Keys -/
/-- A key's rest: 'b': the part under way is empty. -/
def keyGo (ok : UInt8 → Bool) : Bool → List UInt8 → Bool
  | b, [] => !b
  | b, c :: l => if c == 47 then !b && keyGo ok true l else ok c && keyGo ok false l
def keyB (l : List UInt8) : Bool := decide (l.length ≤ 32) && keyGo (okB [45, 95, 46]) true l

def consHead (c : UInt8) : List (List UInt8) → List (List UInt8)
  | [] => [[c]]
  | h :: t => (c :: h) :: t

theorem splitK_ne_nil (k : Nat) (l : List UInt8) : Lib.splitK [47] 0 k l ≠ [] := by
  cases k with
  | zero => simp [Lib.splitK]
  | succ k => unfold Lib.splitK; split <;> simp

theorem splitK_slash (k : Nat) (l : List UInt8) : Lib.splitK [47] 0 (k + 1) (47 :: l) = [] :: Lib.splitK [47] 0 k l := by
  have hix : Lib.index (47 :: l) [47] = 0 := by rw [Lib.index]; simp [List.isPrefixOf]
  rw [Lib.splitK, hix]
  simp

theorem splitK_other (k : Nat) (c : UInt8) (l : List UInt8) (h : c ≠ 47) : Lib.splitK [47] 0 k (c :: l) = consHead c (Lib.splitK [47] 0 k l) := by
  cases k with
  | zero => simp [Lib.splitK, consHead]
  | succ k =>
    have hp : ([47] : List UInt8).isPrefixOf (c :: l) = false := by simp [List.isPrefixOf, Ne.symm h]
    have hix : Lib.index (c :: l) [47] = if Lib.index l [47] == -1 then -1 else Lib.index l [47] + 1 := by rw [Lib.index, hp]; simp
    have hge := Lib.index_ge l [47]
    by_cases hm : Lib.index l [47] = -1
    · rw [Lib.splitK, Lib.splitK, hix]
      simp [hm, consHead]
    · have hm' : (Lib.index l [47] == -1) = false := by simpa using hm
      have hn : (Lib.index l [47] + 1 == -1) = false := by rw [beq_eq_false_iff_ne]; omega
      obtain ⟨j, hj⟩ : ∃ j : Nat, Lib.index l [47] = j := ⟨(Lib.index l [47]).toNat, by omega⟩
      rw [Lib.splitK, Lib.splitK, hix]
      simp only [hm', hn, Bool.false_eq_true, if_false, consHead]
      rw [hj, show ((j : Int) + 1).toNat = j + 1 by omega, show ((j : Int)).toNat = j by omega]
      simp

/-- Split's parts, and a key's rest. -/
theorem split_key (ok : UInt8 → Bool) : ∀ l : List UInt8,
    (Lib.splitK [47] 0 (Lib.count l [47]) l).all (fun p => p.all ok && !p.isEmpty) = keyGo ok true l ∧
    (∀ h t, Lib.splitK [47] 0 (Lib.count l [47]) l = h :: t → (h.all ok && t.all (fun p => p.all ok && !p.isEmpty)) = keyGo ok false l)
  | [] => by
    have : Lib.splitK [47] 0 (Lib.count [] [47]) [] = [[]] := by rw [Lib.count_one]; rfl
    rw [this]
    refine ⟨by simp [keyGo], fun h t e => ?_⟩
    cases e
    simp [keyGo]
  | c :: l => by
    obtain ⟨h1, h2⟩ := split_key ok l
    by_cases hc : c = 47
    · subst hc
      rw [Lib.count_cons_eq, Nat.add_comm, splitK_slash]
      refine ⟨by simp [keyGo], fun h t e => ?_⟩
      cases e
      rw [h1]
      simp [keyGo]
    · rw [Lib.count_cons_ne c 47 l hc, splitK_other _ _ _ hc]
      cases hs : Lib.splitK [47] 0 (Lib.count l [47]) l with
      | nil => exact absurd hs (splitK_ne_nil _ _)
      | cons h t =>
        have h3 := h2 h t hs
        have hc' : (c == 47) = false := by simpa using hc
        refine ⟨?_, fun h' t' e => ?_⟩
        · simp only [consHead, List.all_cons, keyGo, hc', Bool.false_eq_true, if_false, ← h3, List.isEmpty_cons, Bool.not_false, Bool.and_true, Bool.and_assoc]
        · simp only [consHead] at e
          cases e
          simp only [List.all_cons, keyGo, hc', Bool.false_eq_true, if_false, ← h3, Bool.and_assoc]

theorem key_drop {ok : UInt8 → Bool} {l : List UInt8} {k : Nat} (b : Bool) (hk : k < l.length) : keyGo ok b (l.drop k) = if l[k] == 47 then !b && keyGo ok true (l.drop (k + 1)) else ok l[k] && keyGo ok false (l.drop (k + 1)) := by
  rw [List.drop_eq_getElem_cons hk, keyGo]

/-! ### Under -/
/-- Does a key lie under a prefix? -/
def underB (l p : List UInt8) : Bool := Lib.hasPrefix l p && (p == [] || Lib.hasSuffix p [47] || Lib.trimPrefix l p == [] || Lib.hasPrefix (Lib.trimPrefix l p) [47])
end Go.Proofs.YtcnfjimncifbgaaDoor
