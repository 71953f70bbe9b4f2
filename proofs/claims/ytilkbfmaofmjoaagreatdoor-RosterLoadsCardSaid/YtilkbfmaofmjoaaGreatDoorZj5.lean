import Derived.Test.YtilkbfmaofmjoaaGreatDoorZj2
import Derived.Test.YtilkbfmaofmjoaaGreatDoorZj4
import Derived.Test.YtilkbfmaofmjoaaGreatDoorZj3
import Derived.Lib.ItoaNum
namespace Go.Proofs.YtilkbfmaofmjoaaGreatDoor
open Go Go.RowKit
set_option linter.unusedSimpArgs false
set_option linter.unusedVariables false
def nodeB (node : Int) : Bool := decide (0 ≤ node) && decide (node ≤ 7)
theorem nodeB_iff {n : Int} : nodeB n = true ↔ 0 ≤ n ∧ n ≤ 7 := by
  unfold nodeB
  simp
def pfxL (node : Int) : List UInt8 := Lib.itoa node ++ [47]
def keyL (node : Int) (id : List UInt8) : List UInt8 := Lib.itoa node ++ 47 :: id
def keyO (node : Int) (id : ByteArray) : ByteArray := ⟨(keyL node id.data.toList).toArray⟩
abbrev noT : ByteArray := ⟨#[]⟩
theorem dig_ne {n : Nat} (h : n < 10) : UInt8.ofNat (48 + n) ≠ 47 := (by decide : ∀ n : Fin 10, UInt8.ofNat (48 + n.val) ≠ 47) ⟨n, h⟩
theorem dig_ne2 {n : Nat} (h : n < 10) : UInt8.ofNat (48 + n) ≠ 45 := (by decide : ∀ n : Fin 10, UInt8.ofNat (48 + n.val) ≠ 45) ⟨n, h⟩
theorem dec_all : ∀ (u : Nat), ∀ c ∈ Lib.decDigits u, c ≠ 47 := by
  intro u
  induction u using Nat.strongRecOn with
  | _ u ih =>
    intro c hc
    rw [Lib.decDigits] at hc
    split at hc
    · rename_i h
      rw [List.mem_singleton] at hc
      exact hc ▸ dig_ne h
    · rename_i h
      rcases List.mem_append.1 hc with hc | hc
      · exact ih (u / 10) (by omega) c hc
      · rw [List.mem_singleton] at hc
        exact hc ▸ dig_ne (Nat.mod_lt _ (by decide))
theorem dec_ne (u : Nat) : Lib.decDigits u ≠ [] := by
  rw [Lib.decDigits]
  split <;> simp
theorem dec_two (u : Nat) (h : 10 ≤ u) : ∃ a b t, Lib.decDigits u = a :: b :: t := by
  rw [Lib.decDigits, dif_neg (by omega)]
  cases e : Lib.decDigits (u / 10) with
  | nil => exact absurd e (dec_ne _)
  | cons a t =>
    cases t with
    | nil => exact ⟨a, _, [], rfl⟩
    | cons b t => exact ⟨a, b, t ++ [UInt8.ofNat (48 + u % 10)], rfl⟩
theorem itoa_one {n : Int} (h0 : 0 ≤ n) (h1 : n < 10) : Lib.itoa n = [UInt8.ofNat (48 + n.toNat)] := by
  unfold Lib.itoa
  rw [if_neg (by omega), Lib.decDigits, dif_pos (by omega)]
theorem dig_inj {a b : Int} (ha : 0 ≤ a ∧ a < 10) (hb : 0 ≤ b ∧ b < 10) (h : UInt8.ofNat (48 + a.toNat) = UInt8.ofNat (48 + b.toNat)) : a = b := by
  have := (by decide : ∀ a b : Fin 10, UInt8.ofNat (48 + a.val) = UInt8.ofNat (48 + b.val) → a = b) ⟨a.toNat, by omega⟩ ⟨b.toNat, by omega⟩ h
  have := congrArg Fin.val this
  simp only at this
  omega
theorem dig_lt {a b : Int} (ha : 0 ≤ a ∧ a < 10) (hb : 0 ≤ b ∧ b < 10) : UInt8.ofNat (48 + a.toNat) < UInt8.ofNat (48 + b.toNat) ↔ a < b := by
  have := (by decide : ∀ a b : Fin 10, UInt8.ofNat (48 + a.val) < UInt8.ofNat (48 + b.val) ↔ a.val < b.val) ⟨a.toNat, by omega⟩ ⟨b.toNat, by omega⟩
  rw [this]
  show a.toNat < b.toNat ↔ _
  omega
theorem key_cases (b : Int) : (∃ h : 0 ≤ b ∧ b < 10, Lib.itoa b = [UInt8.ofNat (48 + b.toNat)]) ∨ (¬ (0 ≤ b ∧ b < 10) ∧ ((∃ t, Lib.itoa b = 45 :: t) ∨ ∃ x y t, Lib.itoa b = x :: y :: t ∧ y ≠ 47)) := by
  by_cases h : 0 ≤ b ∧ b < 10
  · exact .inl ⟨h, itoa_one h.1 h.2⟩
  · refine .inr ⟨h, ?_⟩
    by_cases h0 : b < 0
    · left
      unfold Lib.itoa
      rw [if_pos h0]
      exact ⟨_, rfl⟩
    · right
      unfold Lib.itoa
      rw [if_neg h0]
      obtain ⟨x, y, t, e⟩ := dec_two b.toNat (by omega)
      exact ⟨x, y, t, e, dec_all b.toNat y (by rw [e]; simp)⟩
theorem keyL_inj {a b : Int} {x y : List UInt8} (ha : nodeB a = true) (h : keyL a x = keyL b y) : a = b ∧ x = y := by
  have ha := nodeB_iff.1 ha
  unfold keyL at h
  rw [itoa_one ha.1 (by omega)] at h
  rcases key_cases b with ⟨hb, e⟩ | ⟨_, ⟨t, e⟩ | ⟨p, q, t, e, hq⟩⟩
  · rw [e] at h
    simp only [List.cons_append, List.nil_append, List.cons.injEq, true_and] at h
    exact ⟨dig_inj ⟨ha.1, by omega⟩ hb h.1, h.2⟩
  · rw [e] at h
    simp only [List.cons_append, List.nil_append, List.cons.injEq] at h
    exact absurd h.1 (dig_ne2 (by omega))
  · rw [e] at h
    simp only [List.cons_append, List.nil_append, List.cons.injEq] at h
    exact absurd h.2.1.symm hq
theorem pfx_is {a b : Int} {x : List UInt8} (ha : nodeB a = true) : Lib.hasPrefix (keyL a x) (pfxL b) = decide (a = b) := by
  have ha := nodeB_iff.1 ha
  unfold keyL pfxL
  rw [itoa_one ha.1 (by omega)]
  rcases key_cases b with ⟨hb, e⟩ | ⟨hb, ⟨t, e⟩ | ⟨p, q, t, e, hq⟩⟩
  · rw [e]
    by_cases h : a = b
    · subst h
      simp [Lib.hasPrefix, List.isPrefixOf]
    · rw [decide_eq_false h]
      have : ¬ UInt8.ofNat (48 + b.toNat) = UInt8.ofNat (48 + a.toNat) := fun e => h (dig_inj ⟨ha.1, by omega⟩ hb e.symm)
      generalize UInt8.ofNat (48 + b.toNat) = p at this ⊢
      generalize UInt8.ofNat (48 + a.toNat) = q at this ⊢
      simp [Lib.hasPrefix, List.isPrefixOf, this]
  · rw [e, decide_eq_false (fun e => hb (by omega))]
    have : ¬ (45 : UInt8) = UInt8.ofNat (48 + a.toNat) := fun e => dig_ne2 (n := a.toNat) (by omega) e.symm
    generalize UInt8.ofNat (48 + a.toNat) = q at this ⊢
    simp [Lib.hasPrefix, List.isPrefixOf, this]
  · rw [e, decide_eq_false (fun e => hb (by omega))]
    have : ¬ q = (47 : UInt8) := hq
    simp [Lib.hasPrefix, List.isPrefixOf, this]
theorem keyO_list (a : Int) (x : ByteArray) : (keyO a x).data.toList = keyL a x.data.toList := by
  unfold keyO
  simp
theorem keyO_inj {a b : Int} {x y : ByteArray} (ha : nodeB a = true) (h : keyO a x = keyO b y) : a = b ∧ x = y := by
  have h := congrArg (fun k => k.data.toList) h
  simp only [keyO_list] at h
  obtain ⟨h1, h2⟩ := keyL_inj ha h
  exact ⟨h1, text_inj h2⟩
theorem und_is {a b : Int} {x : ByteArray} (ha : nodeB a = true) : underB (keyO a x).data.toList (keyO b noT).data.toList = decide (a = b) := by
  rw [keyO_list, keyO_list]
  show underB (keyL a x.data.toList) (pfxL b) = _
  unfold underB
  rw [pfx_is ha]
  have : Lib.hasSuffix (pfxL b) [47] = true := by
    rw [hasSuffix_one]
    unfold pfxL
    refine ⟨by simp, ?_⟩
    rw [List.length_append, List.getElem?_append_right (by simp)]
    simp
  rw [this]
  simp
theorem keyO_lt {a b : Int} {x y : ByteArray} (ha : nodeB a = true) (hb : nodeB b = true) : ltT (keyO a x) (keyO b y) = true ↔ a < b ∨ a = b ∧ ltT x y = true := by
  have ha := nodeB_iff.1 ha
  have hb := nodeB_iff.1 hb
  rw [ltT_iff, ltT_iff, keyO_list, keyO_list]
  unfold keyL
  rw [itoa_one ha.1 (by omega), itoa_one hb.1 (by omega)]
  simp only [List.cons_append, List.nil_append]
  rw [List.cons_lt_cons_iff, List.cons_lt_cons_iff, dig_lt ⟨ha.1, by omega⟩ ⟨hb.1, by omega⟩]
  have q47 : ¬ (47 : UInt8) < 47 := by decide
  constructor
  · rintro (h | ⟨h1, h | ⟨_, h⟩⟩)
    · exact .inl h
    · exact absurd h q47
    · exact .inr ⟨dig_inj ⟨ha.1, by omega⟩ ⟨hb.1, by omega⟩ h1, h⟩
  · rintro (h | ⟨rfl, h⟩)
    · exact .inl h
    · exact .inr ⟨rfl, .inr ⟨rfl, h⟩⟩
theorem keyO_same {a b : Int} {x y : ByteArray} (ha : nodeB a = true) : ((keyO a x).toList == (keyO b y).toList) = (decide (a = b) && (x.toList == y.toList)) := by
  rw [Bool.eq_iff_iff, Bool.and_eq_true, decide_eq_true_eq, text_same, text_same]
  constructor
  · exact keyO_inj ha
  · rintro ⟨rfl, rfl⟩
    rfl
theorem keyO_size {a : Int} {x : ByteArray} (ha : nodeB a = true) : (keyO a x).size = x.size + 2 := by
  have ha := nodeB_iff.1 ha
  show (keyO a x).data.size = x.data.size + 2
  rw [← Array.length_toList, keyO_list, ← Array.length_toList]
  unfold keyL
  rw [itoa_one ha.1 (by omega)]
  simp
end Go.Proofs.YtilkbfmaofmjoaaGreatDoor
