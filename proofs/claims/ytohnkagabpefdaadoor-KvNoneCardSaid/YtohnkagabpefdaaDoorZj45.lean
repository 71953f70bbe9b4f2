/-
  What is not there, and what no call made, has no keys: the law sodalitylaw16.KvNone, walked.
-/
import Derived.Test.YtohnkagabpefdaaDoorZj43
import Derived.Test.YtohnkagabpefdaaDoorZj44
namespace Go.Proofs.YtohnkagabpefdaaDoor
open Go.RowKit
set_option linter.unusedSimpArgs false
set_option linter.unusedVariables false

set_option maxHeartbeats 8000000 in
set_option maxRecDepth 100000 in
theorem none_walk (s : KSt) (w : World) (hM : MaxIs w) : Calls Tryd.prog 4 #[stV s] w fun e w' => e = .returned (.bool true) ∧ Below w.heap.size w w' := by
  unfold stV
  obtain ⟨P, hP⟩ : ∃ P, w.heap.size = P := ⟨_, rfl⟩
  obtain ⟨W1, hW1⟩ : ∃ W1, w.alloc (.cells #[.int .i64 s.kind, .string s.key, .string s.val, .int .u64 (s.old : Int), .int .u64 (s.ses : Int), .int .u64 (s.ix : Int)] TS) = W1 := ⟨_, rfl⟩
  have hb1 : Below w.heap.size w W1 := by rw [← hW1]; exact below1 _ _ _
  have k1 : W1.heap[P]? = some (.cells #[.int .i64 s.kind, .string s.key, .string s.val, .int .u64 (s.old : Int), .int .u64 (s.ses : Int), .int .u64 (s.ix : Int)] TS (0, 0)) := by rw [← hW1, ← hP]; exact heap_alloc_new w _
  have hs1 : W1.heap.size = P + 1 := by rw [← hW1, ← hP]; simp
  obtain ⟨W2, hW2⟩ : ∃ W2, W1.alloc (.cells #[.pointer none] 37) = W2 := ⟨_, rfl⟩
  have hb2 : Below W1.heap.size W1 W2 := by rw [← hW2]; exact below1 _ _ _
  have k2 : W2.heap[P + 1]? = some (.cells #[.pointer none] 37 (0, 0)) := by rw [← hW2, ← hs1]; exact heap_alloc_new W1 _
  have hs2 : W2.heap.size = P + 2 := by rw [← hW2]; simp [hs1]
  obtain ⟨W3, hW3⟩ : ∃ W3, W2.alloc (.cells #[.pointer none, .pointer (some ⟨P + 1, 0, none⟩)] 24) = W3 := ⟨_, rfl⟩
  have hb3 : Below W2.heap.size W2 W3 := by rw [← hW3]; exact below1 _ _ _
  have k3 : W3.heap[P + 2]? = some (.cells #[.pointer none, .pointer (some ⟨P + 1, 0, none⟩)] 24 (0, 0)) := by rw [← hW3, ← hs2]; exact heap_alloc_new W2 _
  have HB3 := Lib.hid (step_trans hb1 (step_trans hb2 hb3))
  have HM := Lib.hid hM
  have HP : Hid (∀ W, Below W3.heap.size W3 W → W.heap[P]? = some (.cells #[.int .i64 s.kind, .string s.key, .string s.val, .int .u64 (s.old : Int), .int .u64 (s.ses : Int), .int .u64 (s.ix : Int)] TS (0, 0))) := Lib.hid fun W h => (h.block P (by have := hb3.size; omega)).trans ((hb3.block P (by omega)).trans ((hb2.block P (by omega)).trans k1))
  have HK2 : Hid (∀ W, Below W3.heap.size W3 W → W.heap[P + 1]? = some (.cells #[.pointer none] 37 (0, 0))) := Lib.hid fun W h => (h.block (P + 1) (by have := hb3.size; omega)).trans ((hb3.block (P + 1) (by omega)).trans k2)
  have HK3 : Hid (∀ W, Below W3.heap.size W3 W → W.heap[P + 2]? = some (.cells #[.pointer none, .pointer (some ⟨P + 1, 0, none⟩)] 24 (0, 0))) := Lib.hid fun W h => (h.block (P + 2) (block_lt k3)).trans k3
  have HW1 := Lib.hid hW1
  have HW2 := Lib.hid hW2
  have HW3 := Lib.hid hW3
  have HPe := Lib.hid hP
  have HS1 := Lib.hid hs1
  have HS2 := Lib.hid hs2
  clear hM hP hW1 hb1 k1 hs1 hW2 hb2 k2 hs2 hW3 hb3 k3
  go_enter Tryd.func4, Tryd.ntmps4
  go_wp2_with fail
  rw [HPe.out, HW1.out, HW2.out, HW3.out]
  go_loopw [5] (fun iv wr => ∃ j : Nat, j ≤ 2 ∧ iv = .int .i64 (j : Int) ∧ Hid (Below W3.heap.size W3 wr)) (fun iv _ => 2 - (intOf iv).toNat)
  case atStart => exact ⟨0, by omega, rfl, Lib.hid (Below.refl _ _)⟩
  case round =>
    obtain ⟨j, hj, rfl, HB4⟩ := hrel
    obtain ⟨w4, rfl⟩ : ∃ w4 : World, w4 = wr := ⟨_, rfl⟩
    by_cases hlt : j < 2
    · have HE : ∃ pv, w4.cell? ⟨P + 2, j, none⟩ = some (.pointer pv) ∧ ∀ W, Below W3.heap.size W3 W → NoKv W pv := by
        have k := HK3.out w4 HB4.out
        rcases (show j = 0 ∨ j = 1 by omega) with rfl | rfl
        · exact ⟨none, cellsN k 0 _ rfl, fun W h => ⟨.inl rfl⟩⟩
        · exact ⟨_, cellsN k 1 _ rfl, fun W h => ⟨.inr ⟨P + 1, rfl, HK2.out W h⟩⟩⟩
      obtain ⟨pv, hcell, hno⟩ := HE
      have HN := Lib.hid hno
      have hbl := block_lt (HK3.out w4 HB4.out)
      clear hno
      have hn4 := HN.out w4 HB4.out
      obtain ⟨d0, d1, d2, d3, d4, d5⟩ := Kt.blk (HP.out w4 HB4.out)
      have C5 := Lib.hid (kget_no s.key hn4)
      clear hn4
      unfold enV Kt.trV at C5
      go_wp2_with fail
      refine C5.out.mono ?_
      rintro e w5 ⟨rfl, hb5⟩
      obtain ⟨Y, hY⟩ : ∃ Y, w5.heap.size = Y := ⟨_, rfl⟩
      obtain ⟨W5, hW5⟩ : ∃ W5, w5.alloc (.cells #[.string noEn.key, .string noEn.val.v, .int .u64 (noEn.val.ses : Int), .int .u64 (noEn.val.lck : Int), .int .u64 (noEn.made : Int), .int .u64 (noEn.ix : Int)] TEn) = W5 := ⟨_, rfl⟩
      have hb45 : Below w4.heap.size w4 W5 := by rw [← hW5]; exact hb5.alloc hb5.size _
      have HY5 : Hid (W5.heap[Y]? = some (.cells #[.string noEn.key, .string noEn.val.v, .int .u64 (noEn.val.ses : Int), .int .u64 (noEn.val.lck : Int), .int .u64 (noEn.made : Int), .int .u64 (noEn.ix : Int)] TEn (0, 0))) := Lib.hid (by rw [← hW5, ← hY]; exact heap_alloc_new w5 _)
      have HB5 := Lib.hid (step_trans HB4.out hb45)
      have HW5 := Lib.hid hW5
      have HY := Lib.hid hY
      have C6 := Lib.hid (kset_no s.key s.val 1 (HN.out W5 HB5.out))
      obtain ⟨d0', d1', d2', d3', d4', d5'⟩ := Kt.blk (HP.out W5 HB5.out)
      rw [← hW5] at d0' d1' d2' d3' d4' d5'
      clear hb5 hY hW5 hb45 C5 d0 d1 d2 d3 d4 d5
      go_wp2_with fail
      rw [HW5.out, HY.out]
      try go_wp2_with fail
      refine C6.out.mono ?_
      rintro e w6 ⟨rfl, hb6⟩
      have HB6 := Lib.hid (step_trans HB5.out hb6)
      have HS6 : Hid (Below W5.heap.size W5 w6) := Lib.hid hb6
      have hn6 := HN.out w6 HB6.out
      clear C6 hb6 d0' d1' d2' d3' d4' d5'
      have C7 := Lib.hid (kcas_no s.key s.val 0 1 (hn6))
      obtain ⟨d0, d1, d2, d3, d4, d5⟩ := Kt.blk (HP.out w6 HB6.out)
      clear hn6
      go_wp2_with fail
      refine C7.out.mono ?_
      rintro e w7 ⟨rfl, hb7⟩
      have HB7 := Lib.hid (step_trans HB6.out hb7)
      have HS7 := Lib.hid (step_trans HS6.out hb7)
      have hn7 := HN.out w7 HB7.out
      clear C7 hb7 d0 d1 d2 d3 d4 d5
      have C8 := Lib.hid (kdel_no s.key 1 (hn7))
      obtain ⟨d0, d1, d2, d3, d4, d5⟩ := Kt.blk (HP.out w7 HB7.out)
      clear hn7
      go_wp2_with fail
      refine C8.out.mono ?_
      rintro e w8 ⟨rfl, hb8⟩
      have HB8 := Lib.hid (step_trans HB7.out hb8)
      have HS8 := Lib.hid (step_trans HS7.out hb8)
      have hn8 := HN.out w8 HB8.out
      clear C8 hb8 d0 d1 d2 d3 d4 d5
      have C9 := Lib.hid (kdelCas_no s.key 0 1 (hn8))
      obtain ⟨d0, d1, d2, d3, d4, d5⟩ := Kt.blk (HP.out w8 HB8.out)
      clear hn8
      go_wp2_with fail
      refine C9.out.mono ?_
      rintro e w9 ⟨rfl, hb9⟩
      have HB9 := Lib.hid (step_trans HB8.out hb9)
      have HS9 := Lib.hid (step_trans HS8.out hb9)
      have hn9 := HN.out w9 HB9.out
      clear C9 hb9 d0 d1 d2 d3 d4 d5
      have C10 := Lib.hid (klock_no s.key s.val 1 1 (hn9))
      obtain ⟨d0, d1, d2, d3, d4, d5⟩ := Kt.blk (HP.out w9 HB9.out)
      clear hn9
      go_wp2_with fail
      refine C10.out.mono ?_
      rintro e w10 ⟨rfl, hb10⟩
      have HB10 := Lib.hid (step_trans HB9.out hb10)
      have HS10 := Lib.hid (step_trans HS9.out hb10)
      have hn10 := HN.out w10 HB10.out
      clear C10 hb10 d0 d1 d2 d3 d4 d5
      have C11 := Lib.hid (kunlock_no s.key s.val 1 1 (hn10))
      obtain ⟨d0, d1, d2, d3, d4, d5⟩ := Kt.blk (HP.out w10 HB10.out)
      clear hn10
      go_wp2_with fail
      refine C11.out.mono ?_
      rintro e w11 ⟨rfl, hb11⟩
      have HB11 := Lib.hid (step_trans HB10.out hb11)
      have HS11 := Lib.hid (step_trans HS10.out hb11)
      have hn11 := HN.out w11 HB11.out
      clear C11 hb11 d0 d1 d2 d3 d4 d5
      have C12 := Lib.hid (kfree_no s.ses 1 (hn11))
      obtain ⟨d0, d1, d2, d3, d4, d5⟩ := Kt.blk (HP.out w11 HB11.out)
      clear hn11
      go_wp2_with fail
      refine C12.out.mono ?_
      rintro e w12 ⟨A12, c12, rfl, hb12⟩
      have HB12 := Lib.hid (step_trans HB11.out hb12)
      have HS12 := Lib.hid (step_trans HS11.out hb12)
      have hn12 := HN.out w12 HB12.out
      clear C12 hb12 d0 d1 d2 d3 d4 d5
      have C13 := Lib.hid (klist_no ⟨#[]⟩ (hn12) (by decide))
      clear hn12
      go_wp2_with fail
      refine C13.out.mono ?_
      rintro e w13 ⟨A13, c13, rfl, -, -, -, -, hb13⟩
      have HB13 := Lib.hid (step_trans HB12.out hb13)
      have HS13 := Lib.hid (step_trans HS12.out hb13)
      have hn13 := HN.out w13 HB13.out
      clear C13 hb13
      obtain ⟨y0, y1, y2, y3, y4, y5⟩ := Kt.blk ((HS13.out.block Y (block_lt HY5.out)).trans HY5.out)
      have ue := en_eq noEn noEn
      rw [(eqE_iff _ _).2 rfl] at ue
      unfold enV Kt.trV at ue
      have ug := en_guard
      have CL := Lib.hid (klast_no hn13)
      have CC := Lib.hid (kcopy_no hn13)
      clear hn13
      simp only [noEn] at ue y0 y1 y2 y3 y4 y5
      go_wp2_with fail
      refine CL.out.mono ?_
      rintro e w' ⟨rfl, rfl⟩
      go_wp2_with fail
      refine CC.out.mono ?_
      rintro e w' ⟨rfl, rfl⟩
      clear y0 y1 y2 y3 y4 y5 ue CL CC
      go_wp2
      go_roundw
      case rel => exact ⟨j + 1, by omega, by go_num, HB13⟩
      case measure => simp [intOf]; omega
    · obtain rfl : j = 2 := by omega
      have HWk := Lib.hid (works_any w4 (HM.out.keep (step_trans HB3.out HB4.out)))
      go_wp2_with fail
      refine HWk.out.mono ?_
      rintro e w9 ⟨rfl, hb9⟩
      have HB9 := Lib.hid (step_trans HB3.out (step_trans HB4.out hb9))
      clear hb9 HWk
      go_wp2
      go_ret
      exact ⟨rfl, HB9.out⟩
end Go.Proofs.YtohnkagabpefdaaDoor
