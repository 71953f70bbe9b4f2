/-
  What lies under a prefix (name.Under, layer 1), as the document's plain Under finds it: what later layers need of it.
-/
import Derived.Test.YtohnkagabpefdaaGreatDoorZj3
namespace Go.Proofs.YtohnkagabpefdaaGreatDoor
open Go Go.RowKit
set_option linter.unusedSimpArgs false

set_option maxHeartbeats 1000000 in
theorem runder_any (s p : ByteArray) (w : World) (hs : s.size ≤ maxLen) (hp : p.size ≤ maxLen) :
    Calls Tryz.prog 60 #[.string s, .string p] w fun e w' => e = .returned (.bool (underB s.data.toList p.data.toList)) ∧ w = w' := by
  unfold maxLen at hs hp
  by_cases hle : p.size ≤ s.size
  · have hraw := Lib.hasPrefix_raw s p
    rw [decide_eq_true hle, Bool.true_and] at hraw
    cases e1 : Lib.hasPrefix s.data.toList p.data.toList with
    | false =>
      have HS : Hid (underB s.data.toList p.data.toList = false) := Lib.hid (by unfold underB; rw [e1]; simp)
      have t1 : ((s.extract 0 p.size).toList == p.toList) = false := hraw.trans e1
      have t2 : ((s.extract 0 p.size).toList != p.toList) = true := by rw [bne, t1]; rfl
      clear e1 hraw
      go_enter Tryz.func60, Tryz.ntmps60
      go_wp2
      go_ret
      exact ⟨ret_bool HS.out.symm, rfl⟩
    | true =>
      have HU := Lib.hid (under_places e1)
      have t1 : ((s.extract 0 p.size).toList == p.toList) = true := hraw.trans e1
      have t2 : ((s.extract 0 p.size).toList != p.toList) = false := by rw [bne, t1]; rfl
      clear e1 hraw
      by_cases h0 : p.size = 0
      · have HS : Hid (underB s.data.toList p.data.toList = true) := Lib.hid (by rw [HU.out, decide_eq_true h0]; rfl)
        have f1 : ((p.size : Int) == 0) = true := by rw [beq_iff_eq]; omega
        have H0 := Lib.hid h0
        clear h0
        go_enter Tryz.func60, Tryz.ntmps60
        go_wp2
        go_ret
        exact ⟨ret_bool HS.out.symm, rfl⟩
      · have f1 : ((p.size : Int) == 0) = false := by rw [beq_eq_false_iff_ne]; omega
        by_cases hn : p.size = s.size
        · have HS : Hid (underB s.data.toList p.data.toList = true) := Lib.hid (by rw [HU.out, decide_eq_true hn]; simp)
          have f2 : ((p.size : Int) == (s.size : Int)) = true := by rw [beq_iff_eq]; omega
          have H0 := Lib.hid hn
          clear hn
          go_enter Tryz.func60, Tryz.ntmps60
          go_wp2
          go_ret
          exact ⟨ret_bool HS.out.symm, rfl⟩
        · have f2 : ((p.size : Int) == (s.size : Int)) = false := by rw [beq_eq_false_iff_ne]; omega
          have hl1 : p.size - 1 < p.size := by omega
          have hl2 : p.size < s.size := by omega
          by_cases hc : p[p.size - 1] = 47
          · have HS : Hid (underB s.data.toList p.data.toList = true) := Lib.hid (by rw [HU.out, at_list hl1, hc]; simp)
            have b1 : ((p[p.size - 1].toNat : Int) == 47) = true := byte_is (n := 47) (by decide) hc
            clear hc
            go_enter Tryz.func60, Tryz.ntmps60
            go_wp2
            go_ret
            exact ⟨ret_bool HS.out.symm, rfl⟩
          · have HS : Hid (underB s.data.toList p.data.toList = decide (s[p.size] = 47)) := Lib.hid (by rw [HU.out, at_list hl1, at_list hl2]; simp [h0, hn, hc])
            have b1 : ((p[p.size - 1].toNat : Int) == 47) = false := byte_ne (n := 47) hc
            clear hc
            by_cases hd : s[p.size] = 47
            · have b2 : ((s[p.size].toNat : Int) == 47) = true := byte_is (n := 47) (by decide) hd
              have HS2 : Hid (underB s.data.toList p.data.toList = true) := Lib.hid (by rw [HS.out]; simp [hd])
              clear hd
              go_enter Tryz.func60, Tryz.ntmps60
              go_wp2
              go_ret
              exact ⟨ret_bool HS2.out.symm, rfl⟩
            · have b2 : ((s[p.size].toNat : Int) == 47) = false := byte_ne (n := 47) hd
              have HS2 : Hid (underB s.data.toList p.data.toList = false) := Lib.hid (by rw [HS.out]; simp [hd])
              clear hd
              go_enter Tryz.func60, Tryz.ntmps60
              go_wp2
              go_ret
              exact ⟨ret_bool HS2.out.symm, rfl⟩
  · have HS : Hid (underB s.data.toList p.data.toList = false) := Lib.hid (by
      have : Lib.hasPrefix s.data.toList p.data.toList = false := by
        rw [Bool.eq_false_iff]
        intro e
        have := prefix_le e
        rw [← Lib.size_eq, ← Lib.size_eq] at this
        omega
      unfold underB; rw [this]; simp)
    go_enter Tryz.func60, Tryz.ntmps60
    go_wp2
    go_ret
    exact ⟨ret_bool HS.out.symm, rfl⟩
end Go.Proofs.YtohnkagabpefdaaGreatDoor
