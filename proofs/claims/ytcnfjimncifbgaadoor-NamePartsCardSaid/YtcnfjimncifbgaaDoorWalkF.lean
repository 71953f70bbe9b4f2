/-
  The walks of the document's plain Under, and of the laws NameRights, NameKeys and NameParts (layer 1).
-/
import Derived.Test.YtcnfjimncifbgaaDoorWalkE
namespace Go.Proofs.YtcnfjimncifbgaaDoor
open Go.RowKit Go.ChangeShapes Go.WideShapes Go.ChangeAt
set_option linter.unusedSimpArgs false

theorem prefix_le {l p : List UInt8} (h : Lib.hasPrefix l p = true) : p.length ≤ l.length := by
  obtain ⟨t, rfl⟩ := List.isPrefixOf_iff_prefix.1 h
  simp
/-- Under, by places. -/
theorem under_places {s p : ByteArray} (h : Lib.hasPrefix s.data.toList p.data.toList = true) :
    underB s.data.toList p.data.toList = (decide (p.size = 0) || decide (p.size = s.size) || decide (p.data.toList[p.size - 1]? = some 47) || decide (s.data.toList[p.size]? = some 47)) := by
  have hle := prefix_le h
  have ep := Lib.size_eq p
  have es := Lib.size_eq s
  have ht : Lib.trimPrefix s.data.toList p.data.toList = s.data.toList.drop p.size := by unfold Lib.trimPrefix; rw [h, ep]; simp
  rw [Bool.eq_iff_iff]
  unfold underB
  rw [h, ht]
  simp only [Bool.true_and, Bool.or_eq_true, beq_iff_eq, decide_eq_true_eq, hasSuffix_one, hasPrefix_one, List.getElem?_drop, Nat.add_zero, ← ep]
  rw [List.drop_eq_nil_iff, ← es]
  constructor
  · rintro (((h | ⟨_, h⟩) | h) | h)
    · exact Or.inl (Or.inl (Or.inl (by rw [ep, h]; rfl)))
    · exact Or.inl (Or.inr h)
    · exact Or.inl (Or.inl (Or.inr (by omega)))
    · exact Or.inr h
  · rintro (((h | h) | h) | h)
    · exact Or.inl (Or.inl (Or.inl (List.eq_nil_of_length_eq_zero (by omega))))
    · exact Or.inl (Or.inr (by omega))
    · refine Or.inl (Or.inl (Or.inr ⟨?_, h⟩))
      intro e
      rw [e] at h
      simp at h
    · exact Or.inr h

set_option maxHeartbeats 1000000 in
theorem runder_any (s p : ByteArray) (w : World) (hs : s.size ≤ maxLen) (hp : p.size ≤ maxLen) :
    Calls Tryd.prog 19 #[.string s, .string p] w fun e w' => e = .returned (.bool (underB s.data.toList p.data.toList)) ∧ w = w' := by
  unfold maxLen at hs hp
  by_cases hle : p.size ≤ s.size
  · have hraw := Lib.hasPrefix_raw s p
    rw [decide_eq_true hle, Bool.true_and] at hraw
    cases e1 : Lib.hasPrefix s.data.toList p.data.toList with
    | false =>
      have HS : Hid (underB s.data.toList p.data.toList = false) := Lib.hid (by unfold underB; rw [e1]; simp)
      have t1 : ((s.extract 0 p.size).toList == p.toList) = false := hraw.trans e1
      have t2 : ((s.extract 0 p.size).toList != p.toList) = true := by rw [bne, t1]; rfl
      clear e1 hraw
      go_enter Tryd.func19, Tryd.ntmps19
      go_wp2
      go_ret
      exact ⟨ret_bool HS.out.symm, rfl⟩
    | true =>
      have HU := Lib.hid (under_places e1)
      have t1 : ((s.extract 0 p.size).toList == p.toList) = true := hraw.trans e1
      have t2 : ((s.extract 0 p.size).toList != p.toList) = false := by rw [bne, t1]; rfl
      clear e1 hraw
      by_cases h0 : p.size = 0
      · have HS : Hid (underB s.data.toList p.data.toList = true) := Lib.hid (by rw [HU.out, decide_eq_true h0]; rfl)
        have f1 : ((p.size : Int) == 0) = true := by rw [beq_iff_eq]; omega
        have H0 := Lib.hid h0
        clear h0
        go_enter Tryd.func19, Tryd.ntmps19
        go_wp2
        go_ret
        exact ⟨ret_bool HS.out.symm, rfl⟩
      · have f1 : ((p.size : Int) == 0) = false := by rw [beq_eq_false_iff_ne]; omega
        by_cases hn : p.size = s.size
        · have HS : Hid (underB s.data.toList p.data.toList = true) := Lib.hid (by rw [HU.out, decide_eq_true hn]; simp)
          have f2 : ((p.size : Int) == (s.size : Int)) = true := by rw [beq_iff_eq]; omega
          have H0 := Lib.hid hn
          clear hn
          go_enter Tryd.func19, Tryd.ntmps19
          go_wp2
          go_ret
          exact ⟨ret_bool HS.out.symm, rfl⟩
        · have f2 : ((p.size : Int) == (s.size : Int)) = false := by rw [beq_eq_false_iff_ne]; omega
          have hl1 : p.size - 1 < p.size := by omega
          have hl2 : p.size < s.size := by omega
          by_cases hc : p[p.size - 1] = 47
          · have HS : Hid (underB s.data.toList p.data.toList = true) := Lib.hid (by rw [HU.out, at_list hl1, hc]; simp)
            have b1 : ((p[p.size - 1].toNat : Int) == 47) = true := byte_is (n := 47) (by decide) hc
            clear hc
            go_enter Tryd.func19, Tryd.ntmps19
            go_wp2
            go_ret
            exact ⟨ret_bool HS.out.symm, rfl⟩
          · have HS : Hid (underB s.data.toList p.data.toList = decide (s[p.size] = 47)) := Lib.hid (by rw [HU.out, at_list hl1, at_list hl2]; simp [h0, hn, hc])
            have b1 : ((p[p.size - 1].toNat : Int) == 47) = false := byte_ne (n := 47) hc
            clear hc
            by_cases hd : s[p.size] = 47
            · have b2 : ((s[p.size].toNat : Int) == 47) = true := byte_is (n := 47) (by decide) hd
              have HS2 : Hid (underB s.data.toList p.data.toList = true) := Lib.hid (by rw [HS.out]; simp [hd])
              clear hd
              go_enter Tryd.func19, Tryd.ntmps19
              go_wp2
              go_ret
              exact ⟨ret_bool HS2.out.symm, rfl⟩
            · have b2 : ((s[p.size].toNat : Int) == 47) = false := byte_ne (n := 47) hd
              have HS2 : Hid (underB s.data.toList p.data.toList = false) := Lib.hid (by rw [HS.out]; simp [hd])
              clear hd
              go_enter Tryd.func19, Tryd.ntmps19
              go_wp2
              go_ret
              exact ⟨ret_bool HS2.out.symm, rfl⟩
  · have HS : Hid (underB s.data.toList p.data.toList = false) := Lib.hid (by
      have : Lib.hasPrefix s.data.toList p.data.toList = false := by
        rw [Bool.eq_false_iff]
        intro e
        have := prefix_le e
        rw [← Lib.size_eq, ← Lib.size_eq] at this
        omega
      unfold underB; rw [this]; simp)
    go_enter Tryd.func19, Tryd.ntmps19
    go_wp2
    go_ret
    exact ⟨ret_bool HS.out.symm, rfl⟩

/-! ### The laws -/
set_option maxHeartbeats 1000000 in
theorem rights_walk (s p : ByteArray) (w : World) (hs : s.size ≤ maxLen) (hM : MaxIs w) :
    Calls Tryd.prog 3 #[.string s, .string p] w fun e w' => e = .returned (.bool true) ∧ Below w.heap.size w w' := by
  have c1 := right_any s w hs
  have c2 := rright_any s w hs
  have c3 := pattern_any s w hs
  have c4 := rpattern_any s w hs
  have c5 := match_any p s w hs
  have c6 := rmatch_any p s w hs
  have c7 := works_any w hM
  clear hM
  generalize rightB s.data.toList = r1 at c1 c2
  generalize patternB s.data.toList = r2 at c3 c4
  generalize matchB p.data.toList s.data.toList = r3 at c5 c6
  go_enter Tryd.func3, Tryd.ntmps3
  go_wp2_with (first
    | (go_at_call 9; refine c1.mono ?_; rintro e w' ⟨rfl, rfl⟩)
    | (go_at_call 10; refine c2.mono ?_; rintro e w' ⟨rfl, rfl⟩)
    | (go_at_call 11; refine c3.mono ?_; rintro e w' ⟨rfl, rfl⟩)
    | (go_at_call 12; refine c4.mono ?_; rintro e w' ⟨rfl, rfl⟩)
    | (go_at_call 13; refine c5.mono ?_; rintro e w' ⟨rfl, rfl⟩)
    | (go_at_call 14; refine c6.mono ?_; rintro e w' ⟨rfl, rfl⟩)
    | (go_at_call 15; refine c7.mono ?_; rintro e w1 ⟨rfl, hb⟩))
  go_ret
  exact ⟨rfl, hb⟩

set_option maxHeartbeats 1000000 in
theorem keys_walk (s p : ByteArray) (w : World) (hs : s.size ≤ maxLen) (hp : p.size ≤ maxLen) (hM : MaxIs w) (hz : 0 < w.heap.size) :
    Calls Tryd.prog 4 #[.string s, .string p] w fun e w' => e = .returned (.bool true) ∧ Below w.heap.size w w' := by
  have c1 := key_any s w hs hM
  have c2 := fun W => rkey_any s W hs
  have c3 := fun W => under_any s p W hp
  have c4 := fun W => runder_any s p W hs hp
  have c7 : Hid (∀ W, Below w.heap.size w W → Calls Tryd.prog 15 #[] W fun e w' => e = .returned (.bool true) ∧ Below w.heap.size w w') := Lib.hid (fun W hb =>
    (works_any W (hM.imp fun m hm => (hb.cell (p := ⟨0, 0, none⟩) hz).trans hm)).mono (by rintro e w' ⟨rfl, hb2⟩; exact ⟨rfl, hb.trans (hb2.mono hb.size)⟩))
  clear hM hz
  generalize keyB s.data.toList = r1 at c1 c2
  generalize underB s.data.toList p.data.toList = r2 at c3 c4
  go_enter Tryd.func4, Tryd.ntmps4
  go_wp2_with (first
    | (go_at_call 16; refine c1.mono ?_; rintro e w1 ⟨rfl, hb⟩)
    | (go_at_call 17; refine (c2 _).mono ?_; rintro e w' ⟨rfl, rfl⟩)
    | (go_at_call 18; refine (c3 _).mono ?_; rintro e w' ⟨rfl, rfl⟩)
    | (go_at_call 19; refine (c4 _).mono ?_; rintro e w' ⟨rfl, rfl⟩)
    | (go_at_call 15; refine (c7.out _ hb).mono ?_; rintro e w2 ⟨rfl, hb2⟩))
  go_ret
  exact ⟨rfl, hb2⟩

/-! ### NameParts -/
/-- Under a beginning of itself. -/
theorem under_take (s : ByteArray) (k : Nat) (hk : k ≤ s.size) :
    underB s.data.toList (s.extract 0 k).data.toList = (decide (k = 0) || decide (k = s.size) || decide (s.data.toList[k - 1]? = some 47) || decide (s.data.toList[k]? = some 47)) := by
  have hd : (s.extract 0 k).data.toList = s.data.toList.take k := Lib.extract_from_zero s k
  have hz : (s.extract 0 k).size = k := by rw [ByteArray.size_extract]; omega
  have hpre : Lib.hasPrefix s.data.toList (s.extract 0 k).data.toList = true := by
    rw [hd]
    exact List.isPrefixOf_iff_prefix.2 (List.take_prefix k _)
  rw [under_places hpre, hz, hd]
  by_cases h0 : k = 0
  · subst h0; simp
  · rw [List.getElem?_take, if_pos (by omega)]

theorem key_empty (w : World) (hM : MaxIs w) :
    Calls Tryd.prog 16 #[.string ⟨#[]⟩] w fun e w' => e = .returned (.bool false) ∧ Below w.heap.size w w' :=
  (key_any ⟨#[]⟩ w (by decide) hM).mono (by rintro e w' ⟨rfl, hb⟩; exact ⟨ret_bool (by decide), hb⟩)
theorem under_empty (w : World) :
    Calls Tryd.prog 18 #[.string ⟨#[]⟩, .string ⟨#[]⟩] w fun e w' => e = .returned (.bool true) ∧ w = w' :=
  (under_any ⟨#[]⟩ ⟨#[]⟩ w (by decide)).mono (by rintro e w' ⟨rfl, hb⟩; exact ⟨ret_bool (by decide), hb⟩)
theorem empty_of {s : ByteArray} (h : s.size = 0) : s = ⟨#[]⟩ := data_of_list (l := []) (List.eq_nil_of_length_eq_zero (by rw [← Lib.size_eq]; exact h))

set_option maxHeartbeats 1000000 in
theorem parts_none (n : Int) (w : World) (hM : MaxIs w) (hz : 0 < w.heap.size) :
    Calls Tryd.prog 8 #[.string ⟨#[]⟩, .int .u8 n] w fun e w' => e = .returned (.bool true) ∧ Below w.heap.size w w' := by
  have c1 := key_empty w hM
  have c3 := under_empty
  have c7 : Hid (∀ W, Below w.heap.size w W → Calls Tryd.prog 15 #[] W fun e w' => e = .returned (.bool true) ∧ Below w.heap.size w w') := Lib.hid (fun W hb =>
    (works_any W (hM.imp fun m hm => (hb.cell (p := ⟨0, 0, none⟩) hz).trans hm)).mono (by rintro e w' ⟨rfl, hb2⟩; exact ⟨rfl, hb.trans (hb2.mono hb.size)⟩))
  clear hM hz
  go_enter Tryd.func8, Tryd.ntmps8
  go_wp2_with (first
    | (go_at_call 16; refine c1.mono ?_; rintro e w1 ⟨rfl, hb⟩)
    | (go_at_call 18; refine (c3 _).mono ?_; rintro e w' ⟨rfl, rfl⟩)
    | (go_at_call 15; refine (c7.out _ hb).mono ?_; rintro e w2 ⟨rfl, hb2⟩))
  go_ret
  exact ⟨rfl, hb2⟩

set_option maxHeartbeats 1000000 in
theorem parts_some (s : ByteArray) (n : Int) (w : World) (h0 : s.size ≠ 0) (hs : s.size ≤ 140737488351232) (hn : 0 ≤ n) (hn2 : n ≤ 255) (hM : MaxIs w) :
    Calls Tryd.prog 8 #[.string s, .int .u8 n] w fun e w' => e = .returned (.bool true) ∧ Below w.heap.size w w' := by
  obtain ⟨k, hk, hks⟩ : ∃ k : Nat, n % ((s.size : Int) + 1) = (k : Int) ∧ k ≤ s.size :=
    ⟨(n % ((s.size : Int) + 1)).toNat, by have := Int.emod_nonneg n (show (s.size : Int) + 1 ≠ 0 by omega); omega, by
      have := Int.emod_nonneg n (show (s.size : Int) + 1 ≠ 0 by omega)
      have := Int.emod_lt_of_pos n (show 0 < (s.size : Int) + 1 by omega)
      omega⟩
  have c7 := works_any w hM
  have f0 : ((s.size : Int) == 0) = false := by rw [beq_eq_false_iff_ne]; omega
  have hm : s.size ≤ maxLen := by unfold maxLen; omega
  clear hM
  by_cases hk0 : k = 0
  · subst hk0
    have c3 : Calls Tryd.prog 18 #[.string s, .string ByteArray.empty] w fun e w' => e = .returned (.bool true) ∧ w = w' :=
      (under_any s ByteArray.empty w (by decide)).mono (by
        rintro e w' ⟨rfl, rfl⟩
        refine ⟨ret_bool ?_, rfl⟩
        show underB s.data.toList [] = true
        unfold underB
        have : Lib.hasPrefix s.data.toList [] = true := by cases s.data.toList <;> rfl
        rw [this]; rfl)
    go_enter Tryd.func8, Tryd.ntmps8
    go_wp2_with (first
      | (go_at_call 18; refine c3.mono ?_; rintro e w' ⟨rfl, rfl⟩)
      | (go_at_call 15; refine c7.mono ?_; rintro e w2 ⟨rfl, hb2⟩))
    go_ret
    exact ⟨rfl, hb2⟩
  by_cases hkn : k = s.size
  · subst hkn
    have c3 : Calls Tryd.prog 18 #[.string s, .string s] w fun e w' => e = .returned (.bool true) ∧ w = w' :=
      (under_any s s w hm).mono (by
        rintro e w' ⟨rfl, rfl⟩
        refine ⟨ret_bool ?_, rfl⟩
        have hp : Lib.hasPrefix s.data.toList s.data.toList = true := List.isPrefixOf_iff_prefix.2 (List.prefix_refl _)
        rw [under_places hp]
        simp)
    go_enter Tryd.func8, Tryd.ntmps8
    go_wp2_with (first
      | (go_at_call 18; refine c3.mono ?_; rintro e w' ⟨rfl, rfl⟩)
      | (go_at_call 15; refine c7.mono ?_; rintro e w2 ⟨rfl, hb2⟩))
    go_ret
    exact ⟨rfl, hb2⟩
  have hl1 : k < s.size := by omega
  have hl2 : k - 1 < s.size := by omega
  have hu := under_take s k hks
  rw [at_list hl1, at_list hl2, decide_eq_false hk0, decide_eq_false hkn] at hu
  have hz : (s.extract 0 k).size = k := by rw [ByteArray.size_extract]; omega
  have c := under_any s (s.extract 0 k) w (by rw [hz]; exact Nat.le_trans hks hm)
  rw [hu] at c
  have f1 : ((k : Int) == 0) = false := by rw [beq_eq_false_iff_ne]; omega
  have f2 : ((k : Int) == (s.size : Int)) = false := by rw [beq_eq_false_iff_ne]; omega
  clear hz hu
  by_cases hc : s[k] = 47
  · have b1 : ((s[k].toNat : Int) == 47) = true := byte_is (n := 47) (by decide) hc
    have c3 : Calls Tryd.prog 18 #[.string s, .string (s.extract 0 k)] w fun e w' => e = .returned (.bool true) ∧ w = w' := c.mono (by rintro e w' ⟨rfl, rfl⟩; exact ⟨ret_bool (by simp [hc]), rfl⟩)
    clear hc c
    go_enter Tryd.func8, Tryd.ntmps8
    go_wp2_with (first
      | (go_at_call 18; refine c3.mono ?_; rintro e w' ⟨rfl, rfl⟩)
      | (go_at_call 15; refine c7.mono ?_; rintro e w2 ⟨rfl, hb2⟩))
    go_ret
    exact ⟨rfl, hb2⟩
  · have b1 : ((s[k].toNat : Int) == 47) = false := byte_ne (n := 47) hc
    by_cases hd : s[k - 1] = 47
    · have b2 : ((s[k - 1].toNat : Int) == 47) = true := byte_is (n := 47) (by decide) hd
      have c3 : Calls Tryd.prog 18 #[.string s, .string (s.extract 0 k)] w fun e w' => e = .returned (.bool true) ∧ w = w' := c.mono (by rintro e w' ⟨rfl, rfl⟩; exact ⟨ret_bool (by simp [hd]), rfl⟩)
      clear hc hd c
      go_enter Tryd.func8, Tryd.ntmps8
      go_wp2_with (first
        | (go_at_call 18; refine c3.mono ?_; rintro e w' ⟨rfl, rfl⟩)
        | (go_at_call 15; refine c7.mono ?_; rintro e w2 ⟨rfl, hb2⟩))
      go_ret
      exact ⟨rfl, hb2⟩
    · have b2 : ((s[k - 1].toNat : Int) == 47) = false := byte_ne (n := 47) hd
      have c3 : Calls Tryd.prog 18 #[.string s, .string (s.extract 0 k)] w fun e w' => e = .returned (.bool false) ∧ w = w' := c.mono (by rintro e w' ⟨rfl, rfl⟩; exact ⟨ret_bool (by simp [hd, hc]), rfl⟩)
      clear hc hd c
      go_enter Tryd.func8, Tryd.ntmps8
      go_wp2_with (first
        | (go_at_call 18; refine c3.mono ?_; rintro e w' ⟨rfl, rfl⟩)
        | (go_at_call 15; refine c7.mono ?_; rintro e w2 ⟨rfl, hb2⟩))
      go_ret
      exact ⟨rfl, hb2⟩
end Go.Proofs.YtcnfjimncifbgaaDoor
