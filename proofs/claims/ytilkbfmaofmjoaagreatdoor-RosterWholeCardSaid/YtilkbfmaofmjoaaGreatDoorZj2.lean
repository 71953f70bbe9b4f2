/-
  What lies under a prefix (name.Under, layer 1), in plain words.
-/
import Derived.Test.YtilkbfmaofmjoaaGreatDoorZj1
import Derived.Lib.Split
import Derived.Lib.SplitLaws
import Derived.Lib.IndexBytes
import Derived.Lib.IndexAny
import Derived.Lib.Strings
namespace Go.Proofs.YtilkbfmaofmjoaaGreatDoor
open Go Go.RowKit
set_option linter.unusedSimpArgs false

theorem ret_bool {a b : Bool} (h : a = b) : Ending.returned (.bool a) = .returned (.bool b) := by rw [h]
theorem byte_is {c : UInt8} {n : Nat} (hn : n < 256) (hc : c = n.toUInt8) : ((c.toNat : Int) == (n : Int)) = true := by
  subst hc
  rw [beq_iff_eq]
  have : n.toUInt8.toNat = n := by simp; omega
  omega
theorem byte_ne {c : UInt8} {n : Nat} (hc : c ≠ n.toUInt8) : ((c.toNat : Int) == (n : Int)) = false := by
  rw [beq_eq_false_iff_ne]
  intro e
  apply hc
  have : c.toNat = n := by omega
  rw [← this]
  simp
theorem at_list {s : ByteArray} {k : Nat} (h : k < s.size) : s.data.toList[k]? = some s[k] := Lib.data_getElem? s k h
theorem hasPrefix_one (l : List UInt8) (c : UInt8) : Lib.hasPrefix l [c] = true ↔ l[0]? = some c := by
  cases l with
  | nil => simp [Lib.hasPrefix, List.isPrefixOf]
  | cons b t =>
    simp [Lib.hasPrefix, List.isPrefixOf]
    exact eq_comm
theorem hasSuffix_one (l : List UInt8) (c : UInt8) : Lib.hasSuffix l [c] = true ↔ l ≠ [] ∧ l[l.length - 1]? = some c := by
  unfold Lib.hasSuffix
  rw [List.isSuffixOf_iff_suffix]
  constructor
  · rintro ⟨t, rfl⟩
    simp
  · rintro ⟨hne, h⟩
    refine ⟨l.dropLast, ?_⟩
    have hl : l.getLast? = some c := by rw [List.getLast?_eq_getElem?]; exact h
    have e : l.getLast hne = c := by rw [List.getLast?_eq_some_getLast hne] at hl; exact Option.some.inj hl
    rw [← e]
    exact List.dropLast_concat_getLast hne
def underB (l p : List UInt8) : Bool := Lib.hasPrefix l p && (p == [] || Lib.hasSuffix p [47] || Lib.trimPrefix l p == [] || Lib.hasPrefix (Lib.trimPrefix l p) [47])
theorem prefix_le {l p : List UInt8} (h : Lib.hasPrefix l p = true) : p.length ≤ l.length := by
  obtain ⟨t, rfl⟩ := List.isPrefixOf_iff_prefix.1 h
  simp
theorem under_places {s p : ByteArray} (h : Lib.hasPrefix s.data.toList p.data.toList = true) :
    underB s.data.toList p.data.toList = (decide (p.size = 0) || decide (p.size = s.size) || decide (p.data.toList[p.size - 1]? = some 47) || decide (s.data.toList[p.size]? = some 47)) := by
  have hle := prefix_le h
  have ep := Lib.size_eq p
  have es := Lib.size_eq s
  have ht : Lib.trimPrefix s.data.toList p.data.toList = s.data.toList.drop p.size := by unfold Lib.trimPrefix; rw [h, ep]; simp
  rw [Bool.eq_iff_iff]
  unfold underB
  rw [h, ht]
  simp only [Bool.true_and, Bool.or_eq_true, beq_iff_eq, decide_eq_true_eq, hasSuffix_one, hasPrefix_one, List.getElem?_drop, Nat.add_zero, ← ep]
  rw [List.drop_eq_nil_iff, ← es]
  constructor
  · rintro (((h | ⟨_, h⟩) | h) | h)
    · exact Or.inl (Or.inl (Or.inl (by rw [ep, h]; rfl)))
    · exact Or.inl (Or.inr h)
    · exact Or.inl (Or.inl (Or.inr (by omega)))
    · exact Or.inr h
  · rintro (((h | h) | h) | h)
    · exact Or.inl (Or.inl (Or.inl (List.eq_nil_of_length_eq_zero (by omega))))
    · exact Or.inl (Or.inr (by omega))
    · refine Or.inl (Or.inl (Or.inr ⟨?_, h⟩))
      intro e
      rw [e] at h
      simp at h
    · exact Or.inr h
end Go.Proofs.YtilkbfmaofmjoaaGreatDoor
