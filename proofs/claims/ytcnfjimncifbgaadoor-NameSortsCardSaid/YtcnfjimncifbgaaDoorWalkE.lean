/-
  The walks of name.Under, the document's plain Key and Under, and works (layer 1).
-/
import Derived.Test.YtcnfjimncifbgaaDoorWalkD
namespace Go.Proofs.YtcnfjimncifbgaaDoor
open Go.RowKit Go.ChangeShapes Go.WideShapes Go.ChangeAt
set_option linter.unusedSimpArgs false

theorem works_any (w : World) (hM : MaxIs w) :
    Calls Tryd.prog 15 #[] w fun e w' => e = .returned (.bool true) ∧ Below w.heap.size w w' := by
  have c1 : Calls Tryd.prog 9 #[.string ⟨#[119, 101, 98, 45, 49]⟩] w fun e w' => e = .returned (.bool true) ∧ w = w' :=
    (right_any _ w (by decide)).mono (by rintro e w' ⟨rfl, rfl⟩; exact ⟨ret_bool (by decide), rfl⟩)
  have c2 : Calls Tryd.prog 16 #[.string ⟨#[97, 47, 98, 46, 99]⟩] w fun e w' => e = .returned (.bool true) ∧ Below w.heap.size w w' :=
    (key_any _ w (by decide) hM).mono (by rintro e w' ⟨rfl, hb⟩; exact ⟨ret_bool (by decide), hb⟩)
  have c3 : ∀ w1, Calls Tryd.prog 13 #[.string ⟨#[42]⟩, .string ⟨#[119, 101, 98]⟩] w1 fun e w' => e = .returned (.bool true) ∧ w1 = w' := fun w1 =>
    (match_any _ _ w1 (by decide)).mono (by rintro e w' ⟨rfl, rfl⟩; exact ⟨ret_bool (by decide), rfl⟩)
  clear hM
  go_enter Tryd.func15, Tryd.ntmps15
  go_wp2_with (first | (go_at_call 9; refine c1.mono ?_; rintro e w' ⟨rfl, rfl⟩) | (go_at_call 16; refine c2.mono ?_; rintro e w1 ⟨rfl, hb⟩) | (go_at_call 13; refine (c3 _).mono ?_; rintro e w' ⟨rfl, rfl⟩))
  go_ret
  exact ⟨rfl, hb⟩

theorem cut_any (s p : ByteArray) (w : World) :
    Calls Tryd.prog 37 #[.string s, .string p] w fun e w' => ∃ r : ByteArray, r.data.toList = Lib.trimPrefix s.data.toList p.data.toList ∧ e = .returned (.tuple #[.string r, .bool (Lib.hasPrefix s.data.toList p.data.toList)]) ∧ w = w' :=
  (Tryd.strings_CutPrefix s p w).mono (by rintro e w' ⟨rfl, rfl⟩; exact ⟨_, rfl, rfl, rfl⟩)

theorem under_end {r : ByteArray} {t : List UInt8} (hr : r.data.toList = t) : (r.toList.isEmpty || Lib.hasPrefix r.data.toList [47]) = (t == [] || Lib.hasPrefix t [47]) := by
  subst hr
  rw [ByteArray.toList_eq]
  cases r.data.toList <;> rfl

theorem under_any (s p : ByteArray) (w : World) (hp : p.size ≤ maxLen) :
    Calls Tryd.prog 18 #[.string s, .string p] w fun e w' => e = .returned (.bool (underB s.data.toList p.data.toList)) ∧ w = w' := by
  have hm : p.size ≤ 9223372036854775807 := by unfold maxLen at hp; omega
  have c1 := cut_any s p w
  have c2 := Tryd.strings_HasSuffix p ⟨#[47]⟩ w hm
  have c3 := fun r => Tryd.strings_HasPrefix r ⟨#[47]⟩ w
  cases e1 : Lib.hasPrefix s.data.toList p.data.toList with
  | false =>
    have HS : Hid (underB s.data.toList p.data.toList = false) := Lib.hid (by unfold underB; rw [e1]; simp)
    go_enter Tryd.func18, Tryd.ntmps18
    go_wp2_with (go_at_call 37; refine c1.mono ?_; rintro e w' ⟨r, hr, rfl, rfl⟩; have HR := Lib.hid hr; clear hr)
    go_ret
    exact ⟨ret_bool HS.out.symm, rfl⟩
  | true =>
    cases e2 : (p.data.toList == []) with
    | true =>
      have HS : Hid (underB s.data.toList p.data.toList = true) := Lib.hid (by unfold underB; rw [e1, e2]; simp)
      have e3 : p.toList.isEmpty = true := by rw [ByteArray.toList_eq]; simpa using e2
      have e4 : p.toList = [] := by rw [ByteArray.toList_eq]; simpa using e2
      clear e2
      go_enter Tryd.func18, Tryd.ntmps18
      go_wp2_with (go_at_call 37; refine c1.mono ?_; rintro e w' ⟨r, hr, rfl, rfl⟩; have HR := Lib.hid hr; clear hr)
      go_ret
      exact ⟨ret_bool HS.out.symm, rfl⟩
    | false =>
      have e3 : p.toList.isEmpty = false := by rw [ByteArray.toList_eq]; simpa using e2
      cases e5 : Lib.hasSuffix p.data.toList [47] with
      | true =>
        have HS : Hid (underB s.data.toList p.data.toList = true) := Lib.hid (by unfold underB; rw [e1, e5]; simp)
        clear e2
        go_enter Tryd.func18, Tryd.ntmps18
        go_wp2_with (first | (go_at_call 37; refine c1.mono ?_; rintro e w' ⟨r, hr, rfl, rfl⟩; have HR := Lib.hid hr; clear hr) | (go_at_call 34; refine c2.mono ?_; rintro e w' ⟨rfl, rfl⟩))
        go_ret
        exact ⟨ret_bool HS.out.symm, rfl⟩
      | false =>
        have HS : Hid (underB s.data.toList p.data.toList = (Lib.trimPrefix s.data.toList p.data.toList == [] || Lib.hasPrefix (Lib.trimPrefix s.data.toList p.data.toList) [47])) := Lib.hid (by unfold underB; rw [e1, e2, e5]; simp)
        clear e2
        go_enter Tryd.func18, Tryd.ntmps18
        go_wp2_with (first | (go_at_call 37; refine c1.mono ?_; rintro e w' ⟨r, hr, rfl, rfl⟩; have HR := Lib.hid hr; clear hr) | (go_at_call 34; refine c2.mono ?_; rintro e w' ⟨rfl, rfl⟩) | (go_at_call 33; refine (c3 _).mono ?_; rintro e w' ⟨rfl, rfl⟩))
        · rename_i hnil
          go_ret
          exact ⟨ret_bool (by rw [HS.out, ← HR.out]; rw [ByteArray.toList_eq] at hnil; simp [hnil]), rfl⟩
        · go_ret
          exact ⟨ret_bool (by rw [HS.out, under_end HR.out]), rfl⟩

/-! ### The document's plain Key -/
def KeyRun (l : List UInt8) (k : Nat) : Prop := ∃ b, keyGo (okB [45, 95, 46]) true l = keyGo (okB [45, 95, 46]) b (l.drop k) ∧ (b = true ↔ k = 0 ∨ l[k - 1]? = some 47) ∧ (k = l.length → b = false)
theorem KeyRun.zero {l : List UInt8} (h : 1 ≤ l.length) : KeyRun l 0 := ⟨true, by simp, by simp, fun e => by omega⟩
theorem at_list {s : ByteArray} {k : Nat} (h : k < s.size) : s.data.toList[k]? = some s[k] := Lib.data_getElem? s k h
theorem drop_list {s : ByteArray} {k : Nat} (h : k < s.size) : s.data.toList.drop k = s[k] :: s.data.toList.drop (k + 1) := by
  rw [List.drop_eq_getElem_cons (by rw [← Lib.size_eq]; exact h)]; rfl
theorem KeyRun.char {s : ByteArray} {k : Nat} (h : KeyRun s.data.toList k) (hk : k < s.size) (hc : s[k] ≠ 47) (ho : okB [45, 95, 46] s[k] = true) : KeyRun s.data.toList (k + 1) := by
  obtain ⟨b, h1, _, _⟩ := h
  have hc' : (s[k] == 47) = false := by simpa using hc
  refine ⟨false, ?_, ?_, fun _ => rfl⟩
  · rw [h1, drop_list hk, keyGo, hc', ho]; simp
  · rw [Nat.add_sub_cancel, at_list hk]; simp [hc]
theorem KeyRun.bad {s : ByteArray} {k : Nat} (h : KeyRun s.data.toList k) (hk : k < s.size) (hc : s[k] ≠ 47) (ho : okB [45, 95, 46] s[k] = false) : keyB s.data.toList = false := by
  obtain ⟨b, h1, _, _⟩ := h
  have hc' : (s[k] == 47) = false := by simpa using hc
  rw [keyB, h1, drop_list hk, keyGo, hc', ho]; simp
theorem KeyRun.slash {s : ByteArray} {k : Nat} (h : KeyRun s.data.toList k) (hk : k < s.size) (hc : s[k] = 47) (h0 : k ≠ 0) (hl : k ≠ s.size - 1) (hp : s.data.toList[k - 1]? ≠ some 47) : KeyRun s.data.toList (k + 1) := by
  obtain ⟨b, h1, h2, _⟩ := h
  have hb : b = false := by
    rw [Bool.eq_false_iff]
    intro e
    rcases h2.1 e with e | e
    · exact h0 e
    · exact hp e
  subst hb
  refine ⟨true, ?_, ?_, fun e => ?_⟩
  · rw [h1, drop_list hk, keyGo, hc]; simp
  · rw [Nat.add_sub_cancel, at_list hk, hc]; simp
  · rw [← Lib.size_eq] at e; omega
theorem KeyRun.wrong {s : ByteArray} {k : Nat} (h : KeyRun s.data.toList k) (hk : k < s.size) (hc : s[k] = 47) (hw : k = 0 ∨ k = s.size - 1 ∨ s.data.toList[k - 1]? = some 47) : keyB s.data.toList = false := by
  obtain ⟨b, h1, h2, _⟩ := h
  rw [keyB, h1, drop_list hk, keyGo, hc]
  rcases hw with e | e | e
  · rw [h2.2 (Or.inl e)]; simp
  · have hd : s.data.toList.drop (k + 1) = [] := List.drop_eq_nil_of_le (by rw [← Lib.size_eq]; omega)
    rw [hd]; simp [keyGo]
  · rw [h2.2 (Or.inr e)]; simp
theorem KeyRun.all {s : ByteArray} (h : KeyRun s.data.toList s.size) (h32 : s.size ≤ 32) : keyB s.data.toList = true := by
  obtain ⟨b, h1, _, h3⟩ := h
  have hb := h3 (Lib.size_eq s)
  have hd : s.data.toList.drop s.size = [] := List.drop_eq_nil_of_le (by rw [← Lib.size_eq]; exact Nat.le_refl _)
  rw [keyB, h1, hb, hd, ← Lib.size_eq]
  simp [keyGo, h32]
theorem key_short {l : List UInt8} (h : l.length < 1 ∨ 32 < l.length) : keyB l = false := by
  rcases h with h | h
  · have : l = [] := List.eq_nil_of_length_eq_zero (by omega)
    subst this
    decide
  · simp [keyB, show ¬ l.length ≤ 32 by omega]
theorem byte_is {c : UInt8} {n : Nat} (hn : n < 256) (hc : c = n.toUInt8) : ((c.toNat : Int) == (n : Int)) = true := by
  subst hc
  rw [beq_iff_eq]
  have : n.toUInt8.toNat = n := by simp; omega
  omega

set_option maxHeartbeats 2000000 in
theorem rkey_any (s : ByteArray) (w : World) (hs : s.size ≤ maxLen) :
    Calls Tryd.prog 17 #[.string s] w fun e w' => e = .returned (.bool (keyB s.data.toList)) ∧ w = w' := by
  unfold maxLen at hs
  by_cases h0 : s.size < 1
  · have HS : Hid (keyB s.data.toList = false) := Lib.hid (key_short (by rw [← Lib.size_eq]; omega))
    go_enter Tryd.func17, Tryd.ntmps17
    go_wp2
    go_ret
    exact ⟨ret_bool HS.out.symm, rfl⟩
  by_cases h32 : 32 < s.size
  · have HS : Hid (keyB s.data.toList = false) := Lib.hid (key_short (by rw [← Lib.size_eq]; omega))
    go_enter Tryd.func17, Tryd.ntmps17
    go_wp2
    go_ret
    exact ⟨ret_bool HS.out.symm, rfl⟩
  have hz := KeyRun.zero (l := s.data.toList) (by rw [← Lib.size_eq]; omega)
  go_enter Tryd.func17, Tryd.ntmps17
  go_wp2
  go_loop [3] (fun i => ∃ k : Nat, k ≤ s.size ∧ i = .int .i64 k ∧ KeyRun s.data.toList k) (fun i => s.size - (intOf i).toNat)
  case atStart => exact ⟨0, Nat.zero_le _, rfl, hz⟩
  case round =>
    clear hz
    obtain ⟨k, hk, rfl, hr⟩ := hrel
    by_cases hlt : k < s.size
    · by_cases h47 : s[k] = 47
      · have b1 : ((s[k].toNat : Int) == 47) = true := byte_is (n := 47) (by decide) h47
        by_cases hk0 : k = 0
        · subst hk0
          have HS := Lib.hid (hr.wrong hlt h47 (Or.inl rfl))
          clear hr h47
          go_wp2
          go_ret
          exact ⟨ret_bool HS.out.symm, rfl⟩
        · by_cases hkl : k = s.size - 1
          · have HS := Lib.hid (hr.wrong hlt h47 (Or.inr (Or.inl hkl)))
            have f1 : ((k : Int) == (s.size : Int) - 1) = true := by simp; omega
            clear hr h47 hkl
            go_wp2
            go_ret
            exact ⟨ret_bool HS.out.symm, rfl⟩
          · have f1 : ((k : Int) == (s.size : Int) - 1) = false := by simp; omega
            have hl1 : k - 1 < s.size := by omega
            by_cases hp : s[k - 1] = 47
            · have HS := Lib.hid (hr.wrong hlt h47 (Or.inr (Or.inr (by rw [at_list hl1, hp]))))
              have b2 : ((s[k - 1].toNat : Int) == 47) = true := byte_is (n := 47) (by decide) hp
              clear hr h47 hp
              go_wp2
              go_ret
              exact ⟨ret_bool HS.out.symm, rfl⟩
            · have HS := Lib.hid (hr.slash hlt h47 hk0 hkl (by rw [at_list hl1]; simpa using hp))
              have b2 : ((s[k - 1].toNat : Int) == 47) = false := byte_ne (n := 47) hp
              clear hr h47 hp
              go_wp2
              go_round
              case rel => exact ⟨k + 1, by omega, by go_num, HS.out⟩
              case measure => simp [intOf]; omega
      · have b1 : ((s[k].toNat : Int) == 47) = false := byte_ne (n := 47) h47
        cases hp : plainB s[k] with
        | true =>
          have HS := Lib.hid (hr.char hlt h47 (by simp [okB, hp]))
          clear hr h47
          go_wp2_with (go_at_call 35; refine (plain_any _ _).mono ?_; rintro e w' ⟨rfl, rfl⟩)
          go_round
          case rel => exact ⟨k + 1, by omega, by go_num, HS.out⟩
          case measure => simp [intOf]; omega
        | false =>
          by_cases h45 : s[k] = 45
          · have HS := Lib.hid (hr.char hlt h47 (by simp [okB, h45]))
            have t1 : ((s[k].toNat : Int) == 45) = true := byte_is (n := 45) (by decide) h45
            have t2 : ((s[k].toNat : Int) != 45) = false := by rw [bne, t1]; rfl
            clear hr h47 h45
            go_wp2_with (go_at_call 35; refine (plain_any _ _).mono ?_; rintro e w' ⟨rfl, rfl⟩)
            go_round
            case rel => exact ⟨k + 1, by omega, by go_num, HS.out⟩
            case measure => simp [intOf]; omega
          · have t1 : ((s[k].toNat : Int) == 45) = false := byte_ne (n := 45) h45
            have t2 : ((s[k].toNat : Int) != 45) = true := by rw [bne, t1]; rfl
            by_cases h95 : s[k] = 95
            · have HS := Lib.hid (hr.char hlt h47 (by simp [okB, h95]))
              have t3 : ((s[k].toNat : Int) == 95) = true := byte_is (n := 95) (by decide) h95
              have t4 : ((s[k].toNat : Int) != 95) = false := by rw [bne, t3]; rfl
              clear hr h47 h45 h95
              go_wp2_with (go_at_call 35; refine (plain_any _ _).mono ?_; rintro e w' ⟨rfl, rfl⟩)
              go_round
              case rel => exact ⟨k + 1, by omega, by go_num, HS.out⟩
              case measure => simp [intOf]; omega
            · have t3 : ((s[k].toNat : Int) == 95) = false := byte_ne (n := 95) h95
              have t4 : ((s[k].toNat : Int) != 95) = true := by rw [bne, t3]; rfl
              by_cases h46 : s[k] = 46
              · have HS := Lib.hid (hr.char hlt h47 (by simp [okB, h46]))
                have t5 : ((s[k].toNat : Int) == 46) = true := byte_is (n := 46) (by decide) h46
                have t6 : ((s[k].toNat : Int) != 46) = false := by rw [bne, t5]; rfl
                clear hr h47 h45 h95 h46
                go_wp2_with (go_at_call 35; refine (plain_any _ _).mono ?_; rintro e w' ⟨rfl, rfl⟩)
                go_round
                case rel => exact ⟨k + 1, by omega, by go_num, HS.out⟩
                case measure => simp [intOf]; omega
              · have HS := Lib.hid (hr.bad hlt h47 (by simp [okB, hp, h45, h95, h46]))
                have t5 : ((s[k].toNat : Int) == 46) = false := byte_ne (n := 46) h46
                have t6 : ((s[k].toNat : Int) != 46) = true := by rw [bne, t5]; rfl
                clear hr h47 h45 h95 h46
                go_wp2_with (go_at_call 35; refine (plain_any _ _).mono ?_; rintro e w' ⟨rfl, rfl⟩)
                go_ret
                exact ⟨ret_bool HS.out.symm, rfl⟩
    · obtain rfl : k = s.size := by omega
      have HS := Lib.hid (hr.all (by omega))
      clear hr
      go_wp2
      go_ret
      exact ⟨ret_bool HS.out.symm, rfl⟩
end Go.Proofs.YtcnfjimncifbgaaDoor
