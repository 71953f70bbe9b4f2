import Derived.Test.YtilkbfmaofmjoaaGreatDoorZj2
namespace Go.Proofs.YtilkbfmaofmjoaaGreatDoor
open Go Go.RowKit
set_option linter.unusedSimpArgs false
set_option linter.unusedVariables false
theorem lHasPrefix_any (s p : ByteArray) (w : World) (hs : s.size ≤ maxLen) (hp : p.size ≤ maxLen) :
    Calls Tryz.prog 131 #[.string s, .string p] w fun e w' => e = .returned (.bool (Lib.hasPrefix s.data.toList p.data.toList)) ∧ w = w' := by
  unfold maxLen at hs hp
  have hraw := Lib.hasPrefix_raw s p
  by_cases hle : p.size ≤ s.size
  · have d1 : decide ((p.size : Int) ≤ (s.size : Int)) = true := decide_eq_true (by omega)
    rw [decide_eq_true hle, Bool.true_and] at hraw
    have HR := Lib.hid hraw
    clear hraw
    go_enter Tryz.func131, Tryz.ntmps131
    go_wp2
    go_ret
    exact ⟨ret_bool HR.out, rfl⟩
  · have d1 : decide ((p.size : Int) ≤ (s.size : Int)) = false := decide_eq_false (by omega)
    rw [decide_eq_false hle, Bool.false_and] at hraw
    have HR := Lib.hid hraw
    clear hraw
    go_enter Tryz.func131, Tryz.ntmps131
    go_wp2
    go_ret
    exact ⟨ret_bool HR.out, rfl⟩
theorem lHasSuffix_any (s p : ByteArray) (w : World) (hs : s.size ≤ maxLen) (hp : p.size ≤ maxLen) :
    Calls Tryz.prog 132 #[.string s, .string p] w fun e w' => e = .returned (.bool (Lib.hasSuffix s.data.toList p.data.toList)) ∧ w = w' := by
  unfold maxLen at hs hp
  have hraw := Lib.hasSuffix_raw s p
  by_cases hle : p.size ≤ s.size
  · have d1 : decide ((p.size : Int) ≤ (s.size : Int)) = true := decide_eq_true (by omega)
    rw [decide_eq_true hle, Bool.true_and] at hraw
    obtain ⟨k, hk⟩ : ∃ k, s.size - p.size = k := ⟨_, rfl⟩
    have hq : ((s.size : Int) - (p.size : Int)) = (k : Int) := by omega
    have hks : k ≤ s.size := by omega
    rw [hk] at hraw
    have HR := Lib.hid hraw
    have HQ := Lib.hid hq
    clear hraw hk
    go_enter Tryz.func132, Tryz.ntmps132
    go_wp2
    go_ret
    exact ⟨ret_bool HR.out, rfl⟩
  · have d1 : decide ((p.size : Int) ≤ (s.size : Int)) = false := decide_eq_false (by omega)
    rw [decide_eq_false hle, Bool.false_and] at hraw
    have HR := Lib.hid hraw
    clear hraw
    go_enter Tryz.func132, Tryz.ntmps132
    go_wp2
    go_ret
    exact ⟨ret_bool HR.out, rfl⟩
theorem hasPrefix_any (s p : ByteArray) (w : World) (hs : s.size ≤ maxLen) (hp : p.size ≤ maxLen) :
    Calls Tryz.prog 101 #[.string s, .string p] w fun e w' => e = .returned (.bool (Lib.hasPrefix s.data.toList p.data.toList)) ∧ w = w' := by
  have H := Lib.hid (lHasPrefix_any s p w hs hp)
  clear hs hp
  go_enter Tryz.func101, Tryz.ntmps101
  go_wp2_with fail
  refine H.out.mono ?_
  rintro e w' ⟨rfl, rfl⟩
  go_wp2
  go_ret
  exact ⟨rfl, rfl⟩
theorem hasSuffix_any (s p : ByteArray) (w : World) (hs : s.size ≤ maxLen) (hp : p.size ≤ maxLen) :
    Calls Tryz.prog 102 #[.string s, .string p] w fun e w' => e = .returned (.bool (Lib.hasSuffix s.data.toList p.data.toList)) ∧ w = w' := by
  have H := Lib.hid (lHasSuffix_any s p w hs hp)
  clear hs hp
  go_enter Tryz.func102, Tryz.ntmps102
  go_wp2_with fail
  refine H.out.mono ?_
  rintro e w' ⟨rfl, rfl⟩
  go_wp2
  go_ret
  exact ⟨rfl, rfl⟩
def CutIs (s p : ByteArray) (w : World) (e : Ending) (w' : World) : Prop := ∃ r : ByteArray, r.data.toList = Lib.trimPrefix s.data.toList p.data.toList ∧ e = .returned (.tuple #[.string r, .bool (Lib.hasPrefix s.data.toList p.data.toList)]) ∧ w = w'
theorem lCut_any (s p : ByteArray) (w : World) (hs : s.size ≤ maxLen) (hp : p.size ≤ maxLen) :
    Calls Tryz.prog 146 #[.string s, .string p] w (CutIs s p w) := by
  have H := Lib.hid (lHasPrefix_any s p w hs hp)
  cases e1 : Lib.hasPrefix s.data.toList p.data.toList with
  | false =>
    have ht : Lib.trimPrefix s.data.toList p.data.toList = s.data.toList := by unfold Lib.trimPrefix; rw [e1]; rfl
    have HF : Hid (CutIs s p w (.returned (.tuple #[.string s, .bool false])) w) := Lib.hid ⟨s, ht.symm, by rw [e1], rfl⟩
    rw [e1] at H
    clear hs hp ht e1
    go_enter Tryz.func146, Tryz.ntmps146
    go_wp2_with fail
    refine H.out.mono ?_
    rintro e w' ⟨rfl, rfl⟩
    go_wp2
    go_ret2
    exact HF.out
  | true =>
    have hle : p.size ≤ s.size := by
      have := prefix_le e1
      rw [← Lib.size_eq, ← Lib.size_eq] at this
      exact this
    have h2 : ((s.extract 0 p.size).toList == p.toList) = true := by
      have := Lib.hasPrefix_raw s p
      rw [decide_eq_true hle, Bool.true_and] at this
      exact this.trans e1
    have ht : (s.extract p.size s.size).data.toList = Lib.trimPrefix s.data.toList p.data.toList := by
      rw [← Lib.trimPrefix_hit s p hle h2]
    have HF : Hid (CutIs s p w (.returned (.tuple #[.string (s.extract p.size s.size), .bool true])) w) := Lib.hid ⟨_, ht, by rw [e1], rfl⟩
    rw [e1] at H
    unfold maxLen at hs hp
    clear ht e1 h2
    go_enter Tryz.func146, Tryz.ntmps146
    go_wp2_with fail
    refine H.out.mono ?_
    rintro e w' ⟨rfl, rfl⟩
    go_wp2
    go_ret2
    exact HF.out
theorem cut_any (s p : ByteArray) (w : World) (hs : s.size ≤ maxLen) (hp : p.size ≤ maxLen) : Calls Tryz.prog 129 #[.string s, .string p] w (CutIs s p w) := by
  have H := Lib.hid (lCut_any s p w hs hp)
  clear hs hp
  go_enter Tryz.func129, Tryz.ntmps129
  go_wp2_with fail
  refine H.out.mono ?_
  rintro e w' ⟨r, hr, rfl, rfl⟩
  have HF : Hid (CutIs s p w (.returned (.tuple #[.string r, .bool (Lib.hasPrefix s.data.toList p.data.toList)])) w) := Lib.hid ⟨r, hr, rfl, rfl⟩
  clear hr
  go_wp2
  go_ret2
  exact HF.out
theorem under_end {r : ByteArray} {t : List UInt8} (hr : r.data.toList = t) : (r.toList.isEmpty || Lib.hasPrefix r.data.toList [47]) = (t == [] || Lib.hasPrefix t [47]) := by
  subst hr
  rw [ByteArray.toList_eq]
  cases r.data.toList <;> rfl
set_option maxHeartbeats 1000000 in
theorem under_any (s p : ByteArray) (w : World) (hs : s.size ≤ maxLen) (hp : p.size ≤ maxLen) :
    Calls Tryz.prog 99 #[.string s, .string p] w fun e w' => e = .returned (.bool (underB s.data.toList p.data.toList)) ∧ w = w' := by
  have c1 := Lib.hid (cut_any s p w hs hp)
  have c2 := Lib.hid (hasSuffix_any p ⟨#[47]⟩ w hp (by decide))
  have c3 := Lib.hid (fun (r : ByteArray) (hr : r.size ≤ maxLen) => hasPrefix_any r ⟨#[47]⟩ w hr (by decide))
  have HS0 := Lib.hid hs
  cases e1 : Lib.hasPrefix s.data.toList p.data.toList with
  | false =>
    have HS : Hid (underB s.data.toList p.data.toList = false) := Lib.hid (by unfold underB; rw [e1]; simp)
    unfold CutIs at c1
    rw [e1] at c1
    clear hs hp e1
    go_enter Tryz.func99, Tryz.ntmps99
    go_wp2_with fail
    refine c1.out.mono ?_
    rintro e w' ⟨r, hr, rfl, rfl⟩
    clear hr
    go_wp2
    go_ret
    exact ⟨ret_bool HS.out.symm, rfl⟩
  | true =>
    unfold CutIs at c1
    rw [e1] at c1
    cases e2 : (p.data.toList == []) with
    | true =>
      have HS : Hid (underB s.data.toList p.data.toList = true) := Lib.hid (by unfold underB; rw [e1, e2]; simp)
      have e3 : p.toList.isEmpty = true := by rw [ByteArray.toList_eq]; simpa using e2
      have e4 : p.toList = [] := by rw [ByteArray.toList_eq]; simpa using e2
      clear e2 e1 hs hp
      go_enter Tryz.func99, Tryz.ntmps99
      go_wp2_with fail
      refine c1.out.mono ?_
      rintro e w' ⟨r, hr, rfl, rfl⟩
      clear hr
      go_wp2
      go_ret
      exact ⟨ret_bool HS.out.symm, rfl⟩
    | false =>
      have e3 : p.toList.isEmpty = false := by rw [ByteArray.toList_eq]; simpa using e2
      cases e5 : Lib.hasSuffix p.data.toList [47] with
      | true =>
        have HS : Hid (underB s.data.toList p.data.toList = true) := Lib.hid (by unfold underB; rw [e1, e5]; simp)
        rw [show (⟨#[47]⟩ : ByteArray).data.toList = [47] from rfl, e5] at c2
        clear e2 e1 e5 hs hp
        go_enter Tryz.func99, Tryz.ntmps99
        go_wp2_with fail
        refine c1.out.mono ?_
        rintro e w' ⟨r, hr, rfl, rfl⟩
        clear hr
        go_wp2_with fail
        refine c2.out.mono ?_
        rintro e w' ⟨rfl, rfl⟩
        go_wp2
        go_ret
        exact ⟨ret_bool HS.out.symm, rfl⟩
      | false =>
        have HS : Hid (underB s.data.toList p.data.toList = (Lib.trimPrefix s.data.toList p.data.toList == [] || Lib.hasPrefix (Lib.trimPrefix s.data.toList p.data.toList) [47])) := Lib.hid (by unfold underB; rw [e1, e2, e5]; simp)
        rw [show (⟨#[47]⟩ : ByteArray).data.toList = [47] from rfl, e5] at c2
        clear e2 e1 e5 hs hp
        go_enter Tryz.func99, Tryz.ntmps99
        go_wp2_with fail
        refine c1.out.mono ?_
        rintro e w' ⟨r, hr, rfl, rfl⟩
        have HR := Lib.hid hr
        have h3 := c3.out r (by
          have e := Lib.trimPrefix_le s.data.toList p.data.toList
          rw [← hr, ← Lib.size_eq, ← Lib.size_eq] at e
          exact Nat.le_trans e HS0.out)
        have H3 := Lib.hid h3
        have HE := Lib.hid (under_end HR.out)
        clear hr h3
        cases e7 : r.toList.isEmpty with
        | true =>
          have e8 : r.toList = [] := by simpa using e7
          have HF : Hid (underB s.data.toList p.data.toList = true) := Lib.hid (by rw [HS.out, ← HE.out, e7]; rfl)
          go_wp2_with fail
          refine c2.out.mono ?_
          rintro e w' ⟨rfl, rfl⟩
          go_wp2
          go_ret
          exact ⟨ret_bool HF.out.symm, rfl⟩
        | false =>
          have HF : Hid (underB s.data.toList p.data.toList = Lib.hasPrefix r.data.toList [47]) := Lib.hid (by rw [HS.out, ← HE.out, e7]; rfl)
          go_wp2_with fail
          refine c2.out.mono ?_
          rintro e w' ⟨rfl, rfl⟩
          go_wp2_with fail
          refine H3.out.mono ?_
          rintro e w' ⟨rfl, rfl⟩
          go_wp2
          go_ret
          exact ⟨ret_bool HF.out.symm, rfl⟩
end Go.Proofs.YtilkbfmaofmjoaaGreatDoor
