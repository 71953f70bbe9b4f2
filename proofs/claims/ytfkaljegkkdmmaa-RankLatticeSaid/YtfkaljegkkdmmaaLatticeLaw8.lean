/-
  Tables together do not ask for order, brackets, or for how often: the law sodalitylaw08.RankLattice over the contracts (layer 8).
-/
import Derived.Test.YtfkaljegkkdmmaaRkSup
namespace Go.Proofs.Ytfkaljegkkdmmaa
open Go.RowKit
set_option linter.unusedSimpArgs false
set_option linter.unusedVariables false

set_option maxHeartbeats 16000000 in
theorem lattice_walk (A1 : Option Addr) (n1 c1 : Nat) (l1 : List Up) (A2 : Option Addr) (n2 c2 : Nat) (l2 : List Up) (A3 : Option Addr) (n3 c3 : Nat) (l3 : List Up) (w : World) (hS1 : SUp w A1 n1 l1) (hnc1 : n1 ≤ c1) (hm1 : c1 ≤ maxLen) (hS2 : SUp w A2 n2 l2) (hnc2 : n2 ≤ c2) (hm2 : c2 ≤ maxLen) (hS3 : SUp w A3 n3 l3) (hnc3 : n3 ≤ c3) (hm3 : c3 ≤ maxLen) :
    Calls Try.prog 7 #[.slice A1 n1 c1, .slice A2 n2 c2, .slice A3 n3 c3] w fun e w' => e = .returned (.bool true) ∧ Below w.heap.size w w' := by
  have HC1 := Lib.hid (cut_any A1 n1 c1 l1 w hS1 hnc1 hm1)
  obtain ⟨m1, hmm1⟩ : ∃ m, min n1 60 = m := ⟨_, rfl⟩
  rw [hmm1] at HC1
  have HN1 := Lib.hid (And.intro (show m1 ≤ c1 by omega) hm1)
  have HT := Lib.hid (hS1.take (show m1 ≤ n1 by omega))
  obtain ⟨p1, hp1⟩ : ∃ p, l1.take m1 = p := ⟨_, rfl⟩
  rw [hp1] at HT
  have HS1_0 := HT
  clear HT hS1 hnc1 hm1 hmm1 hp1
  have HC2 := Lib.hid (cut_any A2 n2 c2 l2 w hS2 hnc2 hm2)
  obtain ⟨m2, hmm2⟩ : ∃ m, min n2 60 = m := ⟨_, rfl⟩
  rw [hmm2] at HC2
  have HN2 := Lib.hid (And.intro (show m2 ≤ c2 by omega) hm2)
  have HT := Lib.hid (hS2.take (show m2 ≤ n2 by omega))
  obtain ⟨p2, hp2⟩ : ∃ p, l2.take m2 = p := ⟨_, rfl⟩
  rw [hp2] at HT
  have HS2_0 := HT
  clear HT hS2 hnc2 hm2 hmm2 hp2
  have HC3 := Lib.hid (cut_any A3 n3 c3 l3 w hS3 hnc3 hm3)
  obtain ⟨m3, hmm3⟩ : ∃ m, min n3 60 = m := ⟨_, rfl⟩
  rw [hmm3] at HC3
  have HN3 := Lib.hid (And.intro (show m3 ≤ c3 by omega) hm3)
  have HT := Lib.hid (hS3.take (show m3 ≤ n3 by omega))
  obtain ⟨p3, hp3⟩ : ∃ p, l3.take m3 = p := ⟨_, rfl⟩
  rw [hp3] at HT
  have HS3_0 := HT
  clear HT hS3 hnc3 hm3 hmm3 hp3
  have HWk := Lib.hid (fun w => works_any w)
  have HB_0 := Lib.hid (Below.refl w.heap.size w)
  have HS0_0 := Lib.hid (show SUp w none 0 [] from ⟨rfl, fun h => absurd h (Nat.lt_irrefl _)⟩)
  have HN0 := Lib.hid (And.intro (Nat.le_refl 0) (Nat.zero_le maxLen))
  go_enter Try.func7, Try.ntmps7
  go_wp2_with fail
  refine HC1.out.mono ?_
  rintro e w' ⟨rfl, hw'⟩
  rw [hw']
  clear hw' HC1
  go_wp2_with fail
  refine HC2.out.mono ?_
  rintro e w' ⟨rfl, hw'⟩
  rw [hw']
  clear hw' HC2
  go_wp2_with fail
  refine HC3.out.mono ?_
  rintro e w' ⟨rfl, hw'⟩
  rw [hw']
  clear hw' HC3
  go_wp2_with fail
  refine (join_sup A1 m1 c1 p1 A2 m2 c2 p2 w  HS1_0.out HN1.out.1 HN1.out.2 HS2_0.out HN2.out.1 HN2.out.2).mono ?_
  rintro e v1 ⟨A4, c4, rfl, hs, hn, hm, hb⟩
  obtain ⟨j4, hj⟩ : ∃ j, joinU p1 p2 = j := ⟨_, rfl⟩
  rw [hj] at hs hn ⊢
  have HJ4 := Lib.hid hj
  obtain ⟨n4, hn2⟩ : ∃ n, j4.length = n := ⟨_, rfl⟩
  rw [hn2] at hs hn ⊢
  have HN4 := Lib.hid (And.intro hn hm)
  have HSn := Lib.hid hs
  clear hs hn hm hj hn2
  have HS0_1 := Lib.hid (HS0_0.out.of_block hb)
  have HS1_1 := Lib.hid (HS1_0.out.of_block hb)
  have HS2_1 := Lib.hid (HS2_0.out.of_block hb)
  have HS3_1 := Lib.hid (HS3_0.out.of_block hb)
  have HB_1 := Lib.hid (HB_0.out.trans (hb.mono HB_0.out.size))
  clear hb HS0_0 HS1_0 HS2_0 HS3_0 HB_0
  have HS4_1 := HSn
  clear HSn
  go_wp2_with fail
  refine (join_sup A2 m2 c2 p2 A1 m1 c1 p1 v1  HS2_1.out HN2.out.1 HN2.out.2 HS1_1.out HN1.out.1 HN1.out.2).mono ?_
  rintro e v2 ⟨A5, c5, rfl, hs, hn, hm, hb⟩
  obtain ⟨j5, hj⟩ : ∃ j, joinU p2 p1 = j := ⟨_, rfl⟩
  rw [hj] at hs hn ⊢
  have HJ5 := Lib.hid hj
  obtain ⟨n5, hn2⟩ : ∃ n, j5.length = n := ⟨_, rfl⟩
  rw [hn2] at hs hn ⊢
  have HN5 := Lib.hid (And.intro hn hm)
  have HSn := Lib.hid hs
  clear hs hn hm hj hn2
  have HS0_2 := Lib.hid (HS0_1.out.of_block hb)
  have HS1_2 := Lib.hid (HS1_1.out.of_block hb)
  have HS2_2 := Lib.hid (HS2_1.out.of_block hb)
  have HS3_2 := Lib.hid (HS3_1.out.of_block hb)
  have HS4_2 := Lib.hid (HS4_1.out.of_block hb)
  have HB_2 := Lib.hid (HB_1.out.trans (hb.mono HB_1.out.size))
  clear hb HS0_1 HS1_1 HS2_1 HS3_1 HS4_1 HB_1
  have HS5_2 := HSn
  clear HSn
  have heq : j4 = j5 := by rw [← HJ4.out, ← HJ5.out]; exact joinU_comm p1 p2
  have hsy := HS5_2.out
  rw [← heq] at hsy
  have HSy := Lib.hid hsy
  clear heq hsy
  go_wp2_with fail
  refine (same_yes A4 n4 c4 A5 n5 c5 j4 v2  HS4_2.out HSy.out HN4.out.1 HN4.out.2).mono ?_
  clear HSy
  rintro e v3 ⟨rfl, hb⟩
  have HS0_3 := Lib.hid (HS0_2.out.of_block hb)
  have HS1_3 := Lib.hid (HS1_2.out.of_block hb)
  have HS2_3 := Lib.hid (HS2_2.out.of_block hb)
  have HS3_3 := Lib.hid (HS3_2.out.of_block hb)
  have HS4_3 := Lib.hid (HS4_2.out.of_block hb)
  have HS5_3 := Lib.hid (HS5_2.out.of_block hb)
  have HB_3 := Lib.hid (HB_2.out.trans (hb.mono HB_2.out.size))
  clear hb HS0_2 HS1_2 HS2_2 HS3_2 HS4_2 HS5_2 HB_2
  go_wp2_with fail
  refine (join_sup A2 m2 c2 p2 A3 m3 c3 p3 v3  HS2_3.out HN2.out.1 HN2.out.2 HS3_3.out HN3.out.1 HN3.out.2).mono ?_
  rintro e v4 ⟨A6, c6, rfl, hs, hn, hm, hb⟩
  obtain ⟨j6, hj⟩ : ∃ j, joinU p2 p3 = j := ⟨_, rfl⟩
  rw [hj] at hs hn ⊢
  have HJ6 := Lib.hid hj
  obtain ⟨n6, hn2⟩ : ∃ n, j6.length = n := ⟨_, rfl⟩
  rw [hn2] at hs hn ⊢
  have HN6 := Lib.hid (And.intro hn hm)
  have HSn := Lib.hid hs
  clear hs hn hm hj hn2
  have HS0_4 := Lib.hid (HS0_3.out.of_block hb)
  have HS1_4 := Lib.hid (HS1_3.out.of_block hb)
  have HS2_4 := Lib.hid (HS2_3.out.of_block hb)
  have HS3_4 := Lib.hid (HS3_3.out.of_block hb)
  have HS4_4 := Lib.hid (HS4_3.out.of_block hb)
  have HS5_4 := Lib.hid (HS5_3.out.of_block hb)
  have HB_4 := Lib.hid (HB_3.out.trans (hb.mono HB_3.out.size))
  clear hb HS0_3 HS1_3 HS2_3 HS3_3 HS4_3 HS5_3 HB_3
  have HS6_4 := HSn
  clear HSn
  go_wp2_with fail
  refine (join_sup A1 m1 c1 p1 A6 n6 c6 j6 v4  HS1_4.out HN1.out.1 HN1.out.2 HS6_4.out HN6.out.1 HN6.out.2).mono ?_
  rintro e v5 ⟨A7, c7, rfl, hs, hn, hm, hb⟩
  obtain ⟨j7, hj⟩ : ∃ j, joinU p1 j6 = j := ⟨_, rfl⟩
  rw [hj] at hs hn ⊢
  have HJ7 := Lib.hid hj
  obtain ⟨n7, hn2⟩ : ∃ n, j7.length = n := ⟨_, rfl⟩
  rw [hn2] at hs hn ⊢
  have HN7 := Lib.hid (And.intro hn hm)
  have HSn := Lib.hid hs
  clear hs hn hm hj hn2
  have HS0_5 := Lib.hid (HS0_4.out.of_block hb)
  have HS1_5 := Lib.hid (HS1_4.out.of_block hb)
  have HS2_5 := Lib.hid (HS2_4.out.of_block hb)
  have HS3_5 := Lib.hid (HS3_4.out.of_block hb)
  have HS4_5 := Lib.hid (HS4_4.out.of_block hb)
  have HS5_5 := Lib.hid (HS5_4.out.of_block hb)
  have HS6_5 := Lib.hid (HS6_4.out.of_block hb)
  have HB_5 := Lib.hid (HB_4.out.trans (hb.mono HB_4.out.size))
  clear hb HS0_4 HS1_4 HS2_4 HS3_4 HS4_4 HS5_4 HS6_4 HB_4
  have HS7_5 := HSn
  clear HSn
  go_wp2_with fail
  refine (join_sup A1 m1 c1 p1 A2 m2 c2 p2 v5  HS1_5.out HN1.out.1 HN1.out.2 HS2_5.out HN2.out.1 HN2.out.2).mono ?_
  rintro e v6 ⟨A8, c8, rfl, hs, hn, hm, hb⟩
  obtain ⟨j8, hj⟩ : ∃ j, joinU p1 p2 = j := ⟨_, rfl⟩
  rw [hj] at hs hn ⊢
  have HJ8 := Lib.hid hj
  obtain ⟨n8, hn2⟩ : ∃ n, j8.length = n := ⟨_, rfl⟩
  rw [hn2] at hs hn ⊢
  have HN8 := Lib.hid (And.intro hn hm)
  have HSn := Lib.hid hs
  clear hs hn hm hj hn2
  have HS0_6 := Lib.hid (HS0_5.out.of_block hb)
  have HS1_6 := Lib.hid (HS1_5.out.of_block hb)
  have HS2_6 := Lib.hid (HS2_5.out.of_block hb)
  have HS3_6 := Lib.hid (HS3_5.out.of_block hb)
  have HS4_6 := Lib.hid (HS4_5.out.of_block hb)
  have HS5_6 := Lib.hid (HS5_5.out.of_block hb)
  have HS6_6 := Lib.hid (HS6_5.out.of_block hb)
  have HS7_6 := Lib.hid (HS7_5.out.of_block hb)
  have HB_6 := Lib.hid (HB_5.out.trans (hb.mono HB_5.out.size))
  clear hb HS0_5 HS1_5 HS2_5 HS3_5 HS4_5 HS5_5 HS6_5 HS7_5 HB_5
  have HS8_6 := HSn
  clear HSn
  go_wp2_with fail
  refine (join_sup A8 n8 c8 j8 A3 m3 c3 p3 v6  HS8_6.out HN8.out.1 HN8.out.2 HS3_6.out HN3.out.1 HN3.out.2).mono ?_
  rintro e v7 ⟨A9, c9, rfl, hs, hn, hm, hb⟩
  obtain ⟨j9, hj⟩ : ∃ j, joinU j8 p3 = j := ⟨_, rfl⟩
  rw [hj] at hs hn ⊢
  have HJ9 := Lib.hid hj
  obtain ⟨n9, hn2⟩ : ∃ n, j9.length = n := ⟨_, rfl⟩
  rw [hn2] at hs hn ⊢
  have HN9 := Lib.hid (And.intro hn hm)
  have HSn := Lib.hid hs
  clear hs hn hm hj hn2
  have HS0_7 := Lib.hid (HS0_6.out.of_block hb)
  have HS1_7 := Lib.hid (HS1_6.out.of_block hb)
  have HS2_7 := Lib.hid (HS2_6.out.of_block hb)
  have HS3_7 := Lib.hid (HS3_6.out.of_block hb)
  have HS4_7 := Lib.hid (HS4_6.out.of_block hb)
  have HS5_7 := Lib.hid (HS5_6.out.of_block hb)
  have HS6_7 := Lib.hid (HS6_6.out.of_block hb)
  have HS7_7 := Lib.hid (HS7_6.out.of_block hb)
  have HS8_7 := Lib.hid (HS8_6.out.of_block hb)
  have HB_7 := Lib.hid (HB_6.out.trans (hb.mono HB_6.out.size))
  clear hb HS0_6 HS1_6 HS2_6 HS3_6 HS4_6 HS5_6 HS6_6 HS7_6 HS8_6 HB_6
  have HS9_7 := HSn
  clear HSn
  have heq : j7 = j9 := by rw [← HJ7.out, ← HJ9.out, ← HJ6.out, ← HJ8.out]; exact joinU_assoc p1 p2 p3
  have hsy := HS9_7.out
  rw [← heq] at hsy
  have HSy := Lib.hid hsy
  clear heq hsy
  go_wp2_with fail
  refine (same_yes A7 n7 c7 A9 n9 c9 j7 v7  HS7_7.out HSy.out HN7.out.1 HN7.out.2).mono ?_
  clear HSy
  rintro e v8 ⟨rfl, hb⟩
  have HS0_8 := Lib.hid (HS0_7.out.of_block hb)
  have HS1_8 := Lib.hid (HS1_7.out.of_block hb)
  have HS2_8 := Lib.hid (HS2_7.out.of_block hb)
  have HS3_8 := Lib.hid (HS3_7.out.of_block hb)
  have HS4_8 := Lib.hid (HS4_7.out.of_block hb)
  have HS5_8 := Lib.hid (HS5_7.out.of_block hb)
  have HS6_8 := Lib.hid (HS6_7.out.of_block hb)
  have HS7_8 := Lib.hid (HS7_7.out.of_block hb)
  have HS8_8 := Lib.hid (HS8_7.out.of_block hb)
  have HS9_8 := Lib.hid (HS9_7.out.of_block hb)
  have HB_8 := Lib.hid (HB_7.out.trans (hb.mono HB_7.out.size))
  clear hb HS0_7 HS1_7 HS2_7 HS3_7 HS4_7 HS5_7 HS6_7 HS7_7 HS8_7 HS9_7 HB_7
  go_wp2_with fail
  refine (join_sup A1 m1 c1 p1 none 0 0 [] v8  HS1_8.out HN1.out.1 HN1.out.2 HS0_8.out HN0.out.1 HN0.out.2).mono ?_
  rintro e v9 ⟨Ax, cx, rfl, hs, hn, hm, hb⟩
  obtain ⟨jx, hj⟩ : ∃ j, joinU p1 [] = j := ⟨_, rfl⟩
  rw [hj] at hs hn ⊢
  have HJx := Lib.hid hj
  obtain ⟨nx, hn2⟩ : ∃ n, jx.length = n := ⟨_, rfl⟩
  rw [hn2] at hs hn ⊢
  have HNx := Lib.hid (And.intro hn hm)
  have HSn := Lib.hid hs
  clear hs hn hm hj hn2
  have HS0_9 := Lib.hid (HS0_8.out.of_block hb)
  have HS1_9 := Lib.hid (HS1_8.out.of_block hb)
  have HS2_9 := Lib.hid (HS2_8.out.of_block hb)
  have HS3_9 := Lib.hid (HS3_8.out.of_block hb)
  have HS4_9 := Lib.hid (HS4_8.out.of_block hb)
  have HS5_9 := Lib.hid (HS5_8.out.of_block hb)
  have HS6_9 := Lib.hid (HS6_8.out.of_block hb)
  have HS7_9 := Lib.hid (HS7_8.out.of_block hb)
  have HS8_9 := Lib.hid (HS8_8.out.of_block hb)
  have HS9_9 := Lib.hid (HS9_8.out.of_block hb)
  have HB_9 := Lib.hid (HB_8.out.trans (hb.mono HB_8.out.size))
  clear hb HS0_8 HS1_8 HS2_8 HS3_8 HS4_8 HS5_8 HS6_8 HS7_8 HS8_8 HS9_8 HB_8
  have HSx_9 := HSn
  clear HSn
  go_wp2_with fail
  refine (join_sup A1 m1 c1 p1 A1 m1 c1 p1 v9  HS1_9.out HN1.out.1 HN1.out.2 HS1_9.out HN1.out.1 HN1.out.2).mono ?_
  rintro e v10 ⟨Aa, ca, rfl, hs, hn, hm, hb⟩
  obtain ⟨ja, hj⟩ : ∃ j, joinU p1 p1 = j := ⟨_, rfl⟩
  rw [hj] at hs hn ⊢
  have HJa := Lib.hid hj
  obtain ⟨na, hn2⟩ : ∃ n, ja.length = n := ⟨_, rfl⟩
  rw [hn2] at hs hn ⊢
  have HNa := Lib.hid (And.intro hn hm)
  have HSn := Lib.hid hs
  clear hs hn hm hj hn2
  have HS0_10 := Lib.hid (HS0_9.out.of_block hb)
  have HS1_10 := Lib.hid (HS1_9.out.of_block hb)
  have HS2_10 := Lib.hid (HS2_9.out.of_block hb)
  have HS3_10 := Lib.hid (HS3_9.out.of_block hb)
  have HS4_10 := Lib.hid (HS4_9.out.of_block hb)
  have HS5_10 := Lib.hid (HS5_9.out.of_block hb)
  have HS6_10 := Lib.hid (HS6_9.out.of_block hb)
  have HS7_10 := Lib.hid (HS7_9.out.of_block hb)
  have HS8_10 := Lib.hid (HS8_9.out.of_block hb)
  have HS9_10 := Lib.hid (HS9_9.out.of_block hb)
  have HSx_10 := Lib.hid (HSx_9.out.of_block hb)
  have HB_10 := Lib.hid (HB_9.out.trans (hb.mono HB_9.out.size))
  clear hb HS0_9 HS1_9 HS2_9 HS3_9 HS4_9 HS5_9 HS6_9 HS7_9 HS8_9 HS9_9 HSx_9 HB_9
  have HSa_10 := HSn
  clear HSn
  have heq : ja = jx := by rw [← HJa.out, ← HJx.out]; exact joinU_self p1
  have hsy := HSx_10.out
  rw [← heq] at hsy
  have HSy := Lib.hid hsy
  clear heq hsy
  go_wp2_with fail
  refine (same_yes Aa na ca Ax nx cx ja v10  HSa_10.out HSy.out HNa.out.1 HNa.out.2).mono ?_
  clear HSy
  rintro e v11 ⟨rfl, hb⟩
  have HS0_11 := Lib.hid (HS0_10.out.of_block hb)
  have HS1_11 := Lib.hid (HS1_10.out.of_block hb)
  have HS2_11 := Lib.hid (HS2_10.out.of_block hb)
  have HS3_11 := Lib.hid (HS3_10.out.of_block hb)
  have HS4_11 := Lib.hid (HS4_10.out.of_block hb)
  have HS5_11 := Lib.hid (HS5_10.out.of_block hb)
  have HS6_11 := Lib.hid (HS6_10.out.of_block hb)
  have HS7_11 := Lib.hid (HS7_10.out.of_block hb)
  have HS8_11 := Lib.hid (HS8_10.out.of_block hb)
  have HS9_11 := Lib.hid (HS9_10.out.of_block hb)
  have HSx_11 := Lib.hid (HSx_10.out.of_block hb)
  have HSa_11 := Lib.hid (HSa_10.out.of_block hb)
  have HB_11 := Lib.hid (HB_10.out.trans (hb.mono HB_10.out.size))
  clear hb HS0_10 HS1_10 HS2_10 HS3_10 HS4_10 HS5_10 HS6_10 HS7_10 HS8_10 HS9_10 HSx_10 HSa_10 HB_10
  go_wp2_with fail
  refine (join_sup Ax nx cx jx Ax nx cx jx v11  HSx_11.out HNx.out.1 HNx.out.2 HSx_11.out HNx.out.1 HNx.out.2).mono ?_
  rintro e v12 ⟨Ab, cb, rfl, hs, hn, hm, hb⟩
  obtain ⟨jb, hj⟩ : ∃ j, joinU jx jx = j := ⟨_, rfl⟩
  rw [hj] at hs hn ⊢
  have HJb := Lib.hid hj
  obtain ⟨nb, hn2⟩ : ∃ n, jb.length = n := ⟨_, rfl⟩
  rw [hn2] at hs hn ⊢
  have HNb := Lib.hid (And.intro hn hm)
  have HSn := Lib.hid hs
  clear hs hn hm hj hn2
  have HS0_12 := Lib.hid (HS0_11.out.of_block hb)
  have HS1_12 := Lib.hid (HS1_11.out.of_block hb)
  have HS2_12 := Lib.hid (HS2_11.out.of_block hb)
  have HS3_12 := Lib.hid (HS3_11.out.of_block hb)
  have HS4_12 := Lib.hid (HS4_11.out.of_block hb)
  have HS5_12 := Lib.hid (HS5_11.out.of_block hb)
  have HS6_12 := Lib.hid (HS6_11.out.of_block hb)
  have HS7_12 := Lib.hid (HS7_11.out.of_block hb)
  have HS8_12 := Lib.hid (HS8_11.out.of_block hb)
  have HS9_12 := Lib.hid (HS9_11.out.of_block hb)
  have HSx_12 := Lib.hid (HSx_11.out.of_block hb)
  have HSa_12 := Lib.hid (HSa_11.out.of_block hb)
  have HB_12 := Lib.hid (HB_11.out.trans (hb.mono HB_11.out.size))
  clear hb HS0_11 HS1_11 HS2_11 HS3_11 HS4_11 HS5_11 HS6_11 HS7_11 HS8_11 HS9_11 HSx_11 HSa_11 HB_11
  have HSb_12 := HSn
  clear HSn
  have heq : jb = jx := by rw [← HJb.out, ← HJx.out]; exact joinU_twice p1
  have hsy := HSx_12.out
  rw [← heq] at hsy
  have HSy := Lib.hid hsy
  clear heq hsy
  go_wp2_with fail
  refine (same_yes Ab nb cb Ax nx cx jb v12  HSb_12.out HSy.out HNb.out.1 HNb.out.2).mono ?_
  clear HSy
  rintro e v13 ⟨rfl, hb⟩
  have HS0_13 := Lib.hid (HS0_12.out.of_block hb)
  have HS1_13 := Lib.hid (HS1_12.out.of_block hb)
  have HS2_13 := Lib.hid (HS2_12.out.of_block hb)
  have HS3_13 := Lib.hid (HS3_12.out.of_block hb)
  have HS4_13 := Lib.hid (HS4_12.out.of_block hb)
  have HS5_13 := Lib.hid (HS5_12.out.of_block hb)
  have HS6_13 := Lib.hid (HS6_12.out.of_block hb)
  have HS7_13 := Lib.hid (HS7_12.out.of_block hb)
  have HS8_13 := Lib.hid (HS8_12.out.of_block hb)
  have HS9_13 := Lib.hid (HS9_12.out.of_block hb)
  have HSx_13 := Lib.hid (HSx_12.out.of_block hb)
  have HSa_13 := Lib.hid (HSa_12.out.of_block hb)
  have HSb_13 := Lib.hid (HSb_12.out.of_block hb)
  have HB_13 := Lib.hid (HB_12.out.trans (hb.mono HB_12.out.size))
  clear hb HS0_12 HS1_12 HS2_12 HS3_12 HS4_12 HS5_12 HS6_12 HS7_12 HS8_12 HS9_12 HSx_12 HSa_12 HSb_12 HB_12
  go_wp2_with fail
  refine (HWk.out _).mono ?_
  clear HWk
  rintro e wz ⟨rfl, hb⟩
  have HBz := Lib.hid (HB_13.out.trans (hb.mono HB_13.out.size))
  clear hb
  go_wp2
  go_ret
  exact ⟨by simp, HBz.out⟩
end Go.Proofs.Ytfkaljegkkdmmaa
