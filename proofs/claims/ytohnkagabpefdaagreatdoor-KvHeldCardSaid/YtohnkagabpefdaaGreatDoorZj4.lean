/-
  What lies under a prefix (name.Under, layer 1), as the document's plain Under finds it: what later layers need of it.
-/
import Derived.Test.YtohnkagabpefdaaGreatDoorZj1
import Derived.Lib.Split
import Derived.Lib.SplitLaws
import Derived.Lib.IndexBytes
import Derived.Lib.IndexAny
import Derived.Lib.Strings
namespace Go.Proofs.YtohnkagabpefdaaGreatDoor
open Go Go.RowKit
set_option linter.unusedSimpArgs false

theorem ret_bool {a b : Bool} (h : a = b) : Ending.returned (.bool a) = .returned (.bool b) := by rw [h]
theorem byte_is {c : UInt8} {n : Nat} (hn : n < 256) (hc : c = n.toUInt8) : ((c.toNat : Int) == (n : Int)) = true := by
  subst hc
  rw [beq_iff_eq]
  have : n.toUInt8.toNat = n := by simp; omega
  omega
theorem byte_ne {c : UInt8} {n : Nat} (hc : c ≠ n.toUInt8) : ((c.toNat : Int) == (n : Int)) = false := by
  rw [beq_eq_false_iff_ne]
  intro e
  apply hc
  have : c.toNat = n := by omega
  rw [← this]
  simp
theorem at_list {s : ByteArray} {k : Nat} (h : k < s.size) : s.data.toList[k]? = some s[k] := Lib.data_getElem? s k h
theorem hasPrefix_one (l : List UInt8) (c : UInt8) : Lib.hasPrefix l [c] = true ↔ l[0]? = some c := by
  cases l with
  | nil => simp [Lib.hasPrefix, List.isPrefixOf]
  | cons b t =>
    simp [Lib.hasPrefix, List.isPrefixOf]
    exact eq_comm
theorem hasSuffix_one (l : List UInt8) (c : UInt8) : Lib.hasSuffix l [c] = true ↔ l ≠ [] ∧ l[l.length - 1]? = some c := by
  unfold Lib.hasSuffix
  rw [List.isSuffixOf_iff_suffix]
  constructor
  · rintro ⟨t, rfl⟩
    simp
  · rintro ⟨hne, h⟩
    refine ⟨l.dropLast, ?_⟩
    have hl : l.getLast? = some c := by rw [List.getLast?_eq_getElem?]; exact h
    have e : l.getLast hne = c := by rw [List.getLast?_eq_some_getLast hne] at hl; exact Option.some.inj hl
    rw [← e]
    exact List.dropLast_concat_getLast hne
def underB (l p : List UInt8) : Bool := Lib.hasPrefix l p && (p == [] || Lib.hasSuffix p [47] || Lib.trimPrefix l p == [] || Lib.hasPrefix (Lib.trimPrefix l p) [47])
theorem prefix_le {l p : List UInt8} (h : Lib.hasPrefix l p = true) : p.length ≤ l.length := by
  obtain ⟨t, rfl⟩ := List.isPrefixOf_iff_prefix.1 h
  simp
theorem under_places {s p : ByteArray} (h : Lib.hasPrefix s.data.toList p.data.toList = true) :
    underB s.data.toList p.data.toList = (decide (p.size = 0) || decide (p.size = s.size) || decide (p.data.toList[p.size - 1]? = some 47) || decide (s.data.toList[p.size]? = some 47)) := by
  have hle := prefix_le h
  have ep := Lib.size_eq p
  have es := Lib.size_eq s
  have ht : Lib.trimPrefix s.data.toList p.data.toList = s.data.toList.drop p.size := by unfold Lib.trimPrefix; rw [h, ep]; simp
  rw [Bool.eq_iff_iff]
  unfold underB
  rw [h, ht]
  simp only [Bool.true_and, Bool.or_eq_true, beq_iff_eq, decide_eq_true_eq, hasSuffix_one, hasPrefix_one, List.getElem?_drop, Nat.add_zero, ← ep]
  rw [List.drop_eq_nil_iff, ← es]
  constructor
  · rintro (((h | ⟨_, h⟩) | h) | h)
    · exact Or.inl (Or.inl (Or.inl (by rw [ep, h]; rfl)))
    · exact Or.inl (Or.inr h)
    · exact Or.inl (Or.inl (Or.inr (by omega)))
    · exact Or.inr h
  · rintro (((h | h) | h) | h)
    · exact Or.inl (Or.inl (Or.inl (List.eq_nil_of_length_eq_zero (by omega))))
    · exact Or.inl (Or.inr (by omega))
    · refine Or.inl (Or.inl (Or.inr ⟨?_, h⟩))
      intro e
      rw [e] at h
      simp at h
    · exact Or.inr h
set_option maxHeartbeats 1000000 in
theorem runder_any (s p : ByteArray) (w : World) (hs : s.size ≤ maxLen) (hp : p.size ≤ maxLen) :
    Calls Tryz.prog 60 #[.string s, .string p] w fun e w' => e = .returned (.bool (underB s.data.toList p.data.toList)) ∧ w = w' := by
  unfold maxLen at hs hp
  by_cases hle : p.size ≤ s.size
  · have hraw := Lib.hasPrefix_raw s p
    rw [decide_eq_true hle, Bool.true_and] at hraw
    cases e1 : Lib.hasPrefix s.data.toList p.data.toList with
    | false =>
      have HS : Hid (underB s.data.toList p.data.toList = false) := Lib.hid (by unfold underB; rw [e1]; simp)
      have t1 : ((s.extract 0 p.size).toList == p.toList) = false := hraw.trans e1
      have t2 : ((s.extract 0 p.size).toList != p.toList) = true := by rw [bne, t1]; rfl
      clear e1 hraw
      go_enter Tryz.func60, Tryz.ntmps60
      go_wp2
      go_ret
      exact ⟨ret_bool HS.out.symm, rfl⟩
    | true =>
      have HU := Lib.hid (under_places e1)
      have t1 : ((s.extract 0 p.size).toList == p.toList) = true := hraw.trans e1
      have t2 : ((s.extract 0 p.size).toList != p.toList) = false := by rw [bne, t1]; rfl
      clear e1 hraw
      by_cases h0 : p.size = 0
      · have HS : Hid (underB s.data.toList p.data.toList = true) := Lib.hid (by rw [HU.out, decide_eq_true h0]; rfl)
        have f1 : ((p.size : Int) == 0) = true := by rw [beq_iff_eq]; omega
        have H0 := Lib.hid h0
        clear h0
        go_enter Tryz.func60, Tryz.ntmps60
        go_wp2
        go_ret
        exact ⟨ret_bool HS.out.symm, rfl⟩
      · have f1 : ((p.size : Int) == 0) = false := by rw [beq_eq_false_iff_ne]; omega
        by_cases hn : p.size = s.size
        · have HS : Hid (underB s.data.toList p.data.toList = true) := Lib.hid (by rw [HU.out, decide_eq_true hn]; simp)
          have f2 : ((p.size : Int) == (s.size : Int)) = true := by rw [beq_iff_eq]; omega
          have H0 := Lib.hid hn
          clear hn
          go_enter Tryz.func60, Tryz.ntmps60
          go_wp2
          go_ret
          exact ⟨ret_bool HS.out.symm, rfl⟩
        · have f2 : ((p.size : Int) == (s.size : Int)) = false := by rw [beq_eq_false_iff_ne]; omega
          have hl1 : p.size - 1 < p.size := by omega
          have hl2 : p.size < s.size := by omega
          by_cases hc : p[p.size - 1] = 47
          · have HS : Hid (underB s.data.toList p.data.toList = true) := Lib.hid (by rw [HU.out, at_list hl1, hc]; simp)
            have b1 : ((p[p.size - 1].toNat : Int) == 47) = true := byte_is (n := 47) (by decide) hc
            clear hc
            go_enter Tryz.func60, Tryz.ntmps60
            go_wp2
            go_ret
            exact ⟨ret_bool HS.out.symm, rfl⟩
          · have HS : Hid (underB s.data.toList p.data.toList = decide (s[p.size] = 47)) := Lib.hid (by rw [HU.out, at_list hl1, at_list hl2]; simp [h0, hn, hc])
            have b1 : ((p[p.size - 1].toNat : Int) == 47) = false := byte_ne (n := 47) hc
            clear hc
            by_cases hd : s[p.size] = 47
            · have b2 : ((s[p.size].toNat : Int) == 47) = true := byte_is (n := 47) (by decide) hd
              have HS2 : Hid (underB s.data.toList p.data.toList = true) := Lib.hid (by rw [HS.out]; simp [hd])
              clear hd
              go_enter Tryz.func60, Tryz.ntmps60
              go_wp2
              go_ret
              exact ⟨ret_bool HS2.out.symm, rfl⟩
            · have b2 : ((s[p.size].toNat : Int) == 47) = false := byte_ne (n := 47) hd
              have HS2 : Hid (underB s.data.toList p.data.toList = false) := Lib.hid (by rw [HS.out]; simp [hd])
              clear hd
              go_enter Tryz.func60, Tryz.ntmps60
              go_wp2
              go_ret
              exact ⟨ret_bool HS2.out.symm, rfl⟩
  · have HS : Hid (underB s.data.toList p.data.toList = false) := Lib.hid (by
      have : Lib.hasPrefix s.data.toList p.data.toList = false := by
        rw [Bool.eq_false_iff]
        intro e
        have := prefix_le e
        rw [← Lib.size_eq, ← Lib.size_eq] at this
        omega
      unfold underB; rw [this]; simp)
    go_enter Tryz.func60, Tryz.ntmps60
    go_wp2
    go_ret
    exact ⟨ret_bool HS.out.symm, rfl⟩
end Go.Proofs.YtohnkagabpefdaaGreatDoor
