import Derived.Test.YtilkbfmaofmjoaaGreatDoorZj1
import Derived.Lib.Split
import Derived.Lib.SplitLaws
import Derived.Lib.IndexBytes
import Derived.Lib.IndexAny
import Derived.Lib.Strings
namespace Go.Proofs.YtilkbfmaofmjoaaGreatDoor
open Go Go.RowKit
set_option linter.unusedSimpArgs false
theorem ret_bool {a b : Bool} (h : a = b) : Ending.returned (.bool a) = .returned (.bool b) := by rw [h]
theorem byte_ne {c : UInt8} {n : Nat} (hc : c ≠ n.toUInt8) : ((c.toNat : Int) == (n : Int)) = false := by
  rw [beq_eq_false_iff_ne]
  intro e
  apply hc
  have : c.toNat = n := by omega
  rw [← this]
  simp
theorem hasPrefix_one (l : List UInt8) (c : UInt8) : Lib.hasPrefix l [c] = true ↔ l[0]? = some c := by
  cases l with
  | nil => simp [Lib.hasPrefix, List.isPrefixOf]
  | cons b t =>
    simp [Lib.hasPrefix, List.isPrefixOf]
    exact eq_comm
theorem hasSuffix_one (l : List UInt8) (c : UInt8) : Lib.hasSuffix l [c] = true ↔ l ≠ [] ∧ l[l.length - 1]? = some c := by
  unfold Lib.hasSuffix
  rw [List.isSuffixOf_iff_suffix]
  constructor
  · rintro ⟨t, rfl⟩
    simp
  · rintro ⟨hne, h⟩
    refine ⟨l.dropLast, ?_⟩
    have hl : l.getLast? = some c := by rw [List.getLast?_eq_getElem?]; exact h
    have e : l.getLast hne = c := by rw [List.getLast?_eq_some_getLast hne] at hl; exact Option.some.inj hl
    rw [← e]
    exact List.dropLast_concat_getLast hne
def underB (l p : List UInt8) : Bool := Lib.hasPrefix l p && (p == [] || Lib.hasSuffix p [47] || Lib.trimPrefix l p == [] || Lib.hasPrefix (Lib.trimPrefix l p) [47])
theorem prefix_le {l p : List UInt8} (h : Lib.hasPrefix l p = true) : p.length ≤ l.length := by
  obtain ⟨t, rfl⟩ := List.isPrefixOf_iff_prefix.1 h
  simp
end Go.Proofs.YtilkbfmaofmjoaaGreatDoor
