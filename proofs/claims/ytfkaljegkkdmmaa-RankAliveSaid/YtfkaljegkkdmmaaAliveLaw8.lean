/-
  What refutes is above what it refutes, as Alive, and above what the node said of itself: the law sodalitylaw08.RankAlive over the contracts (layer 8).
-/
import Derived.Test.YtfkaljegkkdmmaaRefutesLaw8
namespace Go.Proofs.Ytfkaljegkkdmmaa
open Go.RowKit
set_option linter.unusedSimpArgs false
set_option linter.unusedVariables false

set_option maxHeartbeats 4000000 in
theorem alive_walk (own : Nat) (u : Up) (w : World) (ho : own ≤ 4294967295) (hi : u.inc ≤ 4294967295) :
    Calls Try.prog 9 #[.int .u32 (own : Int), .agg #[.int .i64 u.node, .int .u32 (u.inc : Int), .int .i64 u.st]] w fun e w' => e = .returned (.bool true) ∧ Below w.heap.size w w' := by
  obtain ⟨X, hX⟩ : ∃ X, w.heap.size = X := ⟨_, rfl⟩
  have hu0 := up_new w u 24
  obtain ⟨W0, hW0⟩ : ∃ W0, w.alloc (.cells #[.int .i64 u.node, .int .u32 (u.inc : Int), .int .i64 u.st] 24) = W0 := ⟨_, rfl⟩
  have hb0 : Below w.heap.size w W0 := by rw [← hW0]; exact below1 _ _
  rw [hW0, hX] at hu0
  have HWk := Lib.hid (fun w => works_any w)
  have HX := Lib.hid hX
  have HW0 := Lib.hid hW0
  have HB0 := Lib.hid hb0
  have HU0 := Lib.hid hu0
  by_cases hmax : max own u.inc + 1 > 4294967295
  · have HP := Lib.hid (fun w => prefute_any own u w 0 80 (by unfold refuteN; rw [if_pos hmax]) ho hi)
    obtain ⟨c0, c1, c2⟩ := hu0
    simp only [Nat.zero_add] at c1 c2
    clear hX hW0 hb0
    by_cases hown : own = 4294967295
    · have z1 : ((own : Int) == 4294967295) = true := by rw [beq_iff_eq]; omega
      clear hown hmax ho hi
      go_enter Try.func9, Try.ntmps9
      go_wp2_with fail
      rw [HW0.out, HX.out]
      refine (HP.out _).mono ?_
      clear HP
      rintro e w1 ⟨rfl, hb1⟩
      have hu1 := HU0.out.below hb1
      have HB1 := Lib.hid (HB0.out.trans (hb1.mono HB0.out.size))
      clear c0 c1 c2 hb1
      obtain ⟨c0, c1, c2⟩ := hu1
      simp only [Nat.zero_add] at c1 c2
      go_wp2_with fail
      refine (HWk.out _).mono ?_
      clear HWk
      rintro e w3 ⟨rfl, hb3⟩
      have HB3 := Lib.hid (HB1.out.trans (hb3.mono HB1.out.size))
      clear hb3
      go_wp2
      go_ret
      exact ⟨by simp, HB3.out⟩
    · have z1 : ((own : Int) == 4294967295) = false := by rw [beq_eq_false_iff_ne]; omega
      have z2 : ((u.inc : Int) == 4294967295) = true := by rw [beq_iff_eq]; omega
      clear hown hmax ho hi
      go_enter Try.func9, Try.ntmps9
      go_wp2_with fail
      rw [HW0.out, HX.out]
      refine (HP.out _).mono ?_
      clear HP
      rintro e w1 ⟨rfl, hb1⟩
      have hu1 := HU0.out.below hb1
      have HB1 := Lib.hid (HB0.out.trans (hb1.mono HB0.out.size))
      clear c0 c1 c2 hb1
      obtain ⟨c0, c1, c2⟩ := hu1
      simp only [Nat.zero_add] at c1 c2
      go_wp2_with fail
      refine (HWk.out _).mono ?_
      clear HWk
      rintro e w3 ⟨rfl, hb3⟩
      have HB3 := Lib.hid (HB1.out.trans (hb3.mono HB1.out.size))
      clear hb3
      go_wp2
      go_ret
      exact ⟨by simp, HB3.out⟩
  · obtain ⟨r, hr⟩ : ∃ r, max own u.inc + 1 = r := ⟨_, rfl⟩
    have HP := Lib.hid (fun w => prefute_any own u w r 0 (by unfold refuteN; rw [if_neg hmax, hr]) ho hi)
    have HA1 : Hid (∀ w, Calls Try.prog 13 #[.agg #[.int .i64 u.node, .int .u32 (r : Int), .int .i64 0], .agg #[.int .i64 u.node, .int .u32 (u.inc : Int), .int .i64 u.st]] w fun e w' => e = .returned (.bool true) ∧ Below w.heap.size w w') := Lib.hid (fun w => pabove_any ⟨u.node, r, 0⟩ u w true (by rw [Up.above_iff]; exact ⟨rfl, .inl (by show u.inc < r; omega)⟩))
    have HA2 : Hid (∀ w, Calls Try.prog 13 #[.agg #[.int .i64 u.node, .int .u32 (r : Int), .int .i64 0], .agg #[.int .i64 u.node, .int .u32 (own : Int), .int .i64 0]] w fun e w' => e = .returned (.bool true) ∧ Below w.heap.size w w') := Lib.hid (fun w => pabove_any ⟨u.node, r, 0⟩ ⟨u.node, own, 0⟩ w true (by rw [Up.above_iff]; exact ⟨rfl, .inl (by show own < r; omega)⟩))
    obtain ⟨c0, c1, c2⟩ := hu0
    simp only [Nat.zero_add] at c1 c2
    clear hX hW0 hb0 hmax ho hi hr
    go_enter Try.func9, Try.ntmps9
    go_wp2_with fail
    rw [HW0.out, HX.out]
    refine (HP.out _).mono ?_
    clear HP
    rintro e w1 ⟨rfl, hb1⟩
    have hu1 := HU0.out.below hb1
    have HU1 := Lib.hid hu1
    have HB1 := Lib.hid (HB0.out.trans (hb1.mono HB0.out.size))
    have hXl : X < w1.heap.size := bcell_lt hu1.1
    clear c0 c1 c2 hb1
    obtain ⟨c0, c1, c2⟩ := hu1
    simp only [Nat.zero_add] at c1 c2
    go_wp2_with fail
    refine (HA1.out _).mono ?_
    clear HA1
    rintro e w2 ⟨rfl, hb2⟩
    have hu2 := (HU1.out.below (below1 w1 _)).below hb2
    have hy2 : UpAt w2 w1.heap.size 0 ⟨u.node, r, 0⟩ := (up_new w1 ⟨u.node, r, 0⟩ 24).below hb2
    have HB2 : Hid (Below w.heap.size w w2) := Lib.hid (((HB1.out.alloc HB1.out.size _)).trans (hb2.mono (by have := HB1.out.size; simp; omega)))
    clear c0 c1 c2 hb2 hXl
    obtain ⟨c0, c1, c2⟩ := hu2
    obtain ⟨d0, d1, d2⟩ := hy2
    simp only [Nat.zero_add] at c1 c2 d1 d2
    go_wp2_with fail
    refine (HA2.out _).mono ?_
    clear HA2
    rintro e w3 ⟨rfl, hb3⟩
    have HB3 := Lib.hid (HB2.out.trans (hb3.mono HB2.out.size))
    clear hb3
    go_wp2_with fail
    refine (HWk.out _).mono ?_
    clear HWk
    rintro e w4 ⟨rfl, hb4⟩
    have HB4 := Lib.hid (HB3.out.trans (hb4.mono HB3.out.size))
    clear hb4
    go_wp2
    go_ret
    exact ⟨by simp, HB4.out⟩
theorem alive_row (z : Int) (u : Up) (w : World) (hz : 0 ≤ z ∧ z ≤ 4294967295) (hu : u.inc < 4294967296) :
    Calls Try.prog 9 #[.int .u32 z, .agg #[.int .i64 u.node, .int .u32 (u.inc : Int), .int .i64 u.st]] w fun e w' => e = .returned (.bool true) ∧ Below w.heap.size w w' := by
  have h := alive_walk z.toNat u w (by omega) (by omega)
  rwa [show ((z.toNat : Nat) : Int) = z by omega] at h
end Go.Proofs.Ytfkaljegkkdmmaa
