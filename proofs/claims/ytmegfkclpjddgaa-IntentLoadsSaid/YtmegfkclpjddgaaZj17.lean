/-
  name.Right, Pattern and Match, and the document's, walked (layer 1), for later layers.
-/
import Derived.Test.YtmegfkclpjddgaaZj3
import Derived.Test.YtmegfkclpjddgaaZj16
import Derived.Lib.Hide
namespace Go.Proofs.Ytmegfkclpjddgaa
open Go.RowKit Go.ChangeShapes Go.WideShapes Go.ChangeAt
set_option linter.unusedSimpArgs false

set_option maxHeartbeats 400000 in
theorem right_any (s : ByteArray) (w : World) (hs : s.size ≤ maxLen) :
    Calls Try.prog 62 #[.string s] w fun e w' => e = .returned (.bool (rightB s.data.toList)) ∧ w = w' := by
  have hm : s.size ≤ 9223372036854775807 := by unfold maxLen at hs; omega
  have c1 := spells_any ⟨#[45]⟩ s w hs
  have c2 := Try.strings_HasPrefix s ⟨#[45]⟩ w
  have c3 := Try.strings_HasSuffix s ⟨#[45]⟩ w hm
  unfold maxLen at hs
  by_cases h24 : s.size ≤ 24
  · cases e1 : spellsB [45] s.data.toList with
    | false =>
      have HS : Hid (rightB s.data.toList = false) := Lib.hid (by unfold rightB; rw [e1]; simp)
      go_enter Try.func62, Try.ntmps62
      go_wp2_with (go_at_call 76; refine c1.mono ?_; rintro e w' ⟨rfl, rfl⟩)
      go_ret
      exact ⟨ret_bool HS.out.symm, rfl⟩
    | true =>
      cases e2 : Lib.hasPrefix s.data.toList [45] with
      | true =>
        have HS : Hid (rightB s.data.toList = false) := Lib.hid (by unfold rightB; rw [e2]; simp)
        go_enter Try.func62, Try.ntmps62
        go_wp2_with (first | (go_at_call 76; refine c1.mono ?_; rintro e w' ⟨rfl, rfl⟩) | (go_at_call 77; refine c2.mono ?_; rintro e w' ⟨rfl, rfl⟩))
        go_ret
        exact ⟨ret_bool HS.out.symm, rfl⟩
      | false =>
        have HS : Hid (rightB s.data.toList = !Lib.hasSuffix s.data.toList [45]) := Lib.hid (by unfold rightB; rw [e1, e2, ← Lib.size_eq]; simp [h24])
        go_enter Try.func62, Try.ntmps62
        go_wp2_with (first | (go_at_call 76; refine c1.mono ?_; rintro e w' ⟨rfl, rfl⟩) | (go_at_call 77; refine c2.mono ?_; rintro e w' ⟨rfl, rfl⟩) | (go_at_call 78; refine c3.mono ?_; rintro e w' ⟨rfl, rfl⟩))
        go_ret
        exact ⟨ret_bool HS.out.symm, rfl⟩
  · have HS : Hid (rightB s.data.toList = false) := Lib.hid (right_short (by rw [← Lib.size_eq]; omega))
    go_enter Try.func62, Try.ntmps62
    go_wp2
    go_ret
    exact ⟨ret_bool HS.out.symm, rfl⟩

theorem data_of_list {s : ByteArray} {l : List UInt8} (h : s.data.toList = l) : s = ⟨l.toArray⟩ := by
  obtain ⟨⟨x⟩⟩ := s
  simp at h
  rw [h]

theorem pattern_any (s : ByteArray) (w : World) (hs : s.size ≤ maxLen) :
    Calls Try.prog 71 #[.string s] w fun e w' => e = .returned (.bool (patternB s.data.toList)) ∧ w = w' := by
  have c := right_any s w hs
  cases e1 : (s.data.toList == [42]) with
  | true =>
    obtain rfl := data_of_list (eq_of_beq e1)
    go_enter Try.func71, Try.ntmps71
    go_wp2
    go_ret
    exact ⟨ret_bool (by decide), rfl⟩
  | false =>
    have HS : Hid (patternB s.data.toList = rightB s.data.toList) := Lib.hid (by unfold patternB; rw [e1]; simp)
    have e2 : (s.toList == [42]) = false := by rw [ByteArray.toList_eq]; exact e1
    clear e1
    go_enter Try.func71, Try.ntmps71
    go_wp2_with (go_at_call 62; refine c.mono ?_; rintro e w' ⟨rfl, rfl⟩)
    go_ret
    exact ⟨ret_bool HS.out.symm, rfl⟩

theorem match_any (p s : ByteArray) (w : World) (hs : s.size ≤ maxLen) :
    Calls Try.prog 37 #[.string p, .string s] w fun e w' => e = .returned (.bool (matchB p.data.toList s.data.toList)) ∧ w = w' := by
  have c := right_any s w hs
  cases e1 : (p.data.toList == [42]) with
  | true =>
    have HS : Hid (matchB p.data.toList s.data.toList = rightB s.data.toList) := Lib.hid (by unfold matchB; rw [e1]; simp)
    have e2 : (p.toList == [42]) = true := by rw [ByteArray.toList_eq]; exact e1
    clear e1
    go_enter Try.func37, Try.ntmps37
    go_wp2_with (go_at_call 62; refine c.mono ?_; rintro e w' ⟨rfl, rfl⟩)
    go_ret
    exact ⟨ret_bool HS.out.symm, rfl⟩
  | false =>
    have e2 : (p.toList == [42]) = false := by rw [ByteArray.toList_eq]; exact e1
    cases e3 : (p.data.toList == s.data.toList) with
    | true =>
      have HS : Hid (matchB p.data.toList s.data.toList = rightB s.data.toList) := Lib.hid (by unfold matchB; rw [e3]; simp)
      have e4 : (p.toList == s.toList) = true := by rw [ByteArray.toList_eq, ByteArray.toList_eq]; exact e3
      clear e1 e3
      go_enter Try.func37, Try.ntmps37
      go_wp2_with (go_at_call 62; refine c.mono ?_; rintro e w' ⟨rfl, rfl⟩)
      go_ret
      exact ⟨ret_bool HS.out.symm, rfl⟩
    | false =>
      have HS : Hid (matchB p.data.toList s.data.toList = false) := Lib.hid (by unfold matchB; rw [e1, e3]; simp)
      have e4 : (p.toList == s.toList) = false := by rw [ByteArray.toList_eq, ByteArray.toList_eq]; exact e3
      clear e1 e3
      go_enter Try.func37, Try.ntmps37
      go_wp2
      go_ret
      exact ⟨ret_bool HS.out.symm, rfl⟩

/-! ### The document's plain forms -/
/-- The first k bytes are as a name's may be. -/
def Named (l : List UInt8) (k : Nat) : Prop := ∀ j (hj : j < l.length), j < k → plainB l[j] = true ∨ (l[j] = 45 ∧ j ≠ 0 ∧ j ≠ l.length - 1)
theorem Named.zero (l : List UInt8) : Named l 0 := fun _ _ h => absurd h (by omega)
theorem Named.next {s : ByteArray} {k : Nat} (h : Named s.data.toList k) (hk : k < s.size) (ho : plainB s[k] = true ∨ (s[k] = 45 ∧ k ≠ 0 ∧ k ≠ s.size - 1)) : Named s.data.toList (k + 1) := by
  intro j hj hjk
  by_cases e : j = k
  · subst e
    rcases ho with ho | ⟨h1, h2, h3⟩
    · exact Or.inl ho
    · exact Or.inr ⟨h1, h2, by rw [← Lib.size_eq]; exact h3⟩
  · exact h j hj (by omega)
theorem Named.all {s : ByteArray} (h : Named s.data.toList s.size) (h1 : 1 ≤ s.size) (h2 : s.size ≤ 24) : rightB s.data.toList = true :=
  right_true (by rw [← Lib.size_eq]; exact h1) (by rw [← Lib.size_eq]; exact h2) (fun j hj => h j hj (by rw [Lib.size_eq]; exact hj))
theorem right_no {s : ByteArray} {k : Nat} (hk : k < s.size) (hp : plainB s[k] = false) (h : s[k] ≠ 45 ∨ k = 0 ∨ k = s.size - 1) : rightB s.data.toList = false :=
  right_false (j := k) (by rw [← Lib.size_eq]; exact hk) hp (h.imp id (Or.imp id (fun e1 => by have e := Lib.size_eq s; omega)))

set_option maxHeartbeats 1000000 in
theorem rright_any (s : ByteArray) (w : World) (hs : s.size ≤ maxLen) :
    Calls Try.prog 25 #[.string s] w fun e w' => e = .returned (.bool (rightB s.data.toList)) ∧ w = w' := by
  unfold maxLen at hs
  by_cases h0 : s.size < 1
  · have HS : Hid (rightB s.data.toList = false) := Lib.hid (right_short (by rw [← Lib.size_eq]; omega))
    go_enter Try.func25, Try.ntmps25
    go_wp2
    go_ret
    exact ⟨ret_bool HS.out.symm, rfl⟩
  by_cases h24 : 24 < s.size
  · have HS : Hid (rightB s.data.toList = false) := Lib.hid (right_short (by rw [← Lib.size_eq]; omega))
    go_enter Try.func25, Try.ntmps25
    go_wp2
    go_ret
    exact ⟨ret_bool HS.out.symm, rfl⟩
  go_enter Try.func25, Try.ntmps25
  go_wp2
  go_loop [3] (fun i => ∃ k : Nat, k ≤ s.size ∧ i = .int .i64 k ∧ Named s.data.toList k) (fun i => s.size - (intOf i).toNat)
  case atStart => exact ⟨0, Nat.zero_le _, rfl, Named.zero _⟩
  case round =>
    obtain ⟨k, hk, rfl, hnm⟩ := hrel
    by_cases hlt : k < s.size
    · cases hp : plainB s[k] with
      | true =>
        have HS := Lib.hid (hnm.next hlt (Or.inl hp))
        clear hnm
        go_wp2_with (go_at_call 47; refine (plain_any _ _).mono ?_; rintro e w' ⟨rfl, rfl⟩)
        go_round
        case rel => exact ⟨k + 1, by omega, by go_num, HS.out⟩
        case measure => simp [intOf]; omega
      | false =>
        by_cases h45 : s[k] = 45
        · have b1 : ((s[k].toNat : Int) == 45) = true := by rw [h45]; rfl
          have b2 : ((s[k].toNat : Int) != 45) = false := by rw [h45]; rfl
          by_cases hk0 : k = 0
          · subst hk0
            have HS := Lib.hid (right_no hlt hp (by simp))
            clear hnm h45
            go_wp2_with (go_at_call 47; refine (plain_any _ _).mono ?_; rintro e w' ⟨rfl, rfl⟩)
            go_ret
            exact ⟨ret_bool HS.out.symm, rfl⟩
          · by_cases hkl : k = s.size - 1
            · have HS := Lib.hid (right_no hlt hp (Or.inr (Or.inr hkl)))
              have f1 : ((k : Int) == (s.size : Int) - 1) = true := by simp; omega
              clear hnm h45 hkl
              go_wp2_with (go_at_call 47; refine (plain_any _ _).mono ?_; rintro e w' ⟨rfl, rfl⟩)
              go_ret
              exact ⟨ret_bool HS.out.symm, rfl⟩
            · have HS := Lib.hid (hnm.next hlt (Or.inr ⟨h45, hk0, hkl⟩))
              have f1 : ((k : Int) == (s.size : Int) - 1) = false := by simp; omega
              clear hnm h45
              go_wp2_with (go_at_call 47; refine (plain_any _ _).mono ?_; rintro e w' ⟨rfl, rfl⟩)
              go_round
              case rel => exact ⟨k + 1, by omega, by go_num, HS.out⟩
              case measure => simp [intOf]; omega
        · have b1 : ((s[k].toNat : Int) == 45) = false := byte_ne (n := 45) h45
          have b2 : ((s[k].toNat : Int) != 45) = true := by rw [bne, b1]; rfl
          have HS := Lib.hid (right_no hlt hp (Or.inl h45))
          clear hnm h45
          go_wp2_with (go_at_call 47; refine (plain_any _ _).mono ?_; rintro e w' ⟨rfl, rfl⟩)
          go_ret
          exact ⟨ret_bool HS.out.symm, rfl⟩
    · obtain rfl : k = s.size := by omega
      have HS := Lib.hid (hnm.all (by omega) (by omega))
      clear hnm
      go_wp2
      go_ret
      exact ⟨ret_bool HS.out.symm, rfl⟩

theorem rpattern_any (s : ByteArray) (w : World) (hs : s.size ≤ maxLen) :
    Calls Try.prog 52 #[.string s] w fun e w' => e = .returned (.bool (patternB s.data.toList)) ∧ w = w' := by
  have c := rright_any s w hs
  cases e1 : (s.data.toList == [42]) with
  | true =>
    obtain rfl := data_of_list (eq_of_beq e1)
    go_enter Try.func52, Try.ntmps52
    go_wp2
    go_ret
    exact ⟨ret_bool (by decide), rfl⟩
  | false =>
    have HS : Hid (patternB s.data.toList = rightB s.data.toList) := Lib.hid (by unfold patternB; rw [e1]; simp)
    have e2 : (s.toList == [42]) = false := by rw [ByteArray.toList_eq]; exact e1
    clear e1
    go_enter Try.func52, Try.ntmps52
    go_wp2_with (go_at_call 25; refine c.mono ?_; rintro e w' ⟨rfl, rfl⟩)
    go_ret
    exact ⟨ret_bool HS.out.symm, rfl⟩

theorem rmatch_any (p s : ByteArray) (w : World) (hs : s.size ≤ maxLen) :
    Calls Try.prog 24 #[.string p, .string s] w fun e w' => e = .returned (.bool (matchB p.data.toList s.data.toList)) ∧ w = w' := by
  have c := rright_any s w hs
  cases e0 : rightB s.data.toList with
  | false =>
    have HS : Hid (matchB p.data.toList s.data.toList = false) := Lib.hid (by unfold matchB; rw [e0]; simp)
    go_enter Try.func24, Try.ntmps24
    go_wp2_with (go_at_call 25; refine c.mono ?_; rintro e w' ⟨rfl, rfl⟩)
    go_ret
    exact ⟨ret_bool HS.out.symm, rfl⟩
  | true =>
    cases e3 : (p.data.toList == s.data.toList) with
    | true =>
      have HS : Hid (matchB p.data.toList s.data.toList = true) := Lib.hid (by unfold matchB; rw [e0, e3]; simp)
      have e4 : (p.toList == s.toList) = true := by rw [ByteArray.toList_eq, ByteArray.toList_eq]; exact e3
      clear e3
      go_enter Try.func24, Try.ntmps24
      go_wp2_with (go_at_call 25; refine c.mono ?_; rintro e w' ⟨rfl, rfl⟩)
      go_ret
      exact ⟨ret_bool HS.out.symm, rfl⟩
    | false =>
      have HS : Hid (matchB p.data.toList s.data.toList = (p.data.toList == [42])) := Lib.hid (by unfold matchB; rw [e0, e3]; simp)
      have e4 : (p.toList == s.toList) = false := by rw [ByteArray.toList_eq, ByteArray.toList_eq]; exact e3
      clear e3
      go_enter Try.func24, Try.ntmps24
      go_wp2_with (go_at_call 25; refine c.mono ?_; rintro e w' ⟨rfl, rfl⟩)
      go_ret
      exact ⟨ret_bool (by rw [HS.out, ByteArray.toList_eq]), rfl⟩
end Go.Proofs.Ytmegfkclpjddgaa
