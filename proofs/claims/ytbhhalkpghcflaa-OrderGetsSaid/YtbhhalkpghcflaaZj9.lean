/-
  The document's Right, walked (layer 20).
-/
import Derived.Test.YtbhhalkpghcflaaZj8
import Derived.LoopTactic
import Derived.Deep.QuietTactic
import Derived.BigQuiet
import Derived.Lib.Hide
import Derived.Deep.CutRange
import Derived.Deep.DeepCutAuto
namespace Go.Proofs.Ytbhhalkpghcflaa
open Go.RowKit
set_option linter.unusedSimpArgs false
set_option linter.unusedVariables false

set_option maxRecDepth 100000 in
set_option maxHeartbeats 4000000 in
theorem rright_gen (x : CmW) (tags : List (List UInt8)) (subs : List (CmW × List (List UInt8))) (w : World) (h0 : Cm0 w x tags)
    (hsub : subsN x = true → SK cmC 17 w x.sA x.sn (subs.map (·.1)) ∧ (∀ y ∈ subs, -9223372036854775808 ≤ y.1.kind ∧ y.1.kind ≤ 9223372036854775807) ∧ ∀ y ∈ subs, ∀ w', Below w.heap.size w w' → y.1.kind ≠ 18 → Calls Try.prog 9 #[cmV y.1] w' fun e w'' => e = .returned (.bool (right0 y.1 y.2)) ∧ Below w'.heap.size w' w'') :
    Calls Try.prog 9 #[cmV x] w fun e w' => e = .returned (.bool (right1 x tags subs)) ∧ Below w.heap.size w w' := by
  have HS := Lib.hid hsub
  have H0 := Lib.hid h0
  have CH := Lib.hid (fun W => rhas_any x.kind W h0.small.kind)
  have CT := Lib.hid (fun W => rtexts_any x W)
  clear hsub h0
  unfold cmV strV
  unfold cmV strV at CT
  go_enter Try.func9, Try.ntmps9
  have HB0 := Lib.hid (Bx.new w x)
  cases hk : kindOk x.kind with
  | false =>
    have e0 := hasS_no hk
    have hr : right1 x tags subs = false := by unfold right1 headOk; rw [hk]; rfl
    have HR := Lib.hid hr
    clear hk hr HS H0
    go_wp2_with (go_at_call 17; refine (CH.out _).mono ?_; rintro e w1 ⟨rfl, hb1⟩; rw [e0])
    go_ret
    exact ⟨by rw [HR.out]; rfl, ((Below.refl _ w).alloc (Nat.le_refl _) _).trans (hb1.mono (by simp))⟩
  | true =>
    obtain ⟨hs, hhs⟩ : ∃ hs, hasS x.kind = hs := ⟨_, rfl⟩
    have hz : hs.size = 16 := by rw [← hhs]; exact hasS_size hk
    have HX := Lib.hid (show ∀ i (hi : i < 16), hs[i]'(by omega) = if hasX x.kind i then 120 else 46 from fun i hi => by
      subst hhs
      exact hasS_at hk hi _)
    have hne : hs.toList.isEmpty = false := by
      cases e : hs.toList.isEmpty with
      | false => rfl
      | true =>
        rw [ByteArray.toList_eq] at e
        have e2 : hs.size = 0 := by
          show hs.data.size = 0
          rw [← Array.length_toList, List.isEmpty_iff.1 e]
          rfl
        omega
    have HK := Lib.hid hk
    clear hk
    go_wp2_with (go_at_call 17; refine (CH.out _).mono ?_; rw [hhs]; rintro e w1 ⟨rfl, hb1⟩; have hx1 : Bx w1 w.heap.size x := HB0.out.below hb1 (by simp); have q1 := hx1.c1; have q2 := hx1.c2; have q3 := hx1.c3)
    obtain ⟨w2, hw2⟩ : ∃ w2, w1.alloc (.cells #[.int .i64 x.node, .int .i64 x.port, .int .i64 x.status] 3) = w2 := ⟨_, rfl⟩
    rw [hw2]
    obtain ⟨N2, hN2⟩ : ∃ N2, w1.heap.size = N2 := ⟨_, rfl⟩
    rw [hN2]
    have HRV := Lib.hid (show RV w2 (some ⟨N2, 0, none⟩) 3 (x.nums.map (.int .i64 ·)) by rw [← hw2, ← hN2]; exact RV.new w1 _ _)
    have HB1 := Lib.hid (show Below w1.heap.size w1 w2 by rw [← hw2]; exact (Below.refl _ w1).alloc (Nat.le_refl _) _)
    have HBx := Lib.hid (show Bx w2 w.heap.size x from hx1.below HB1.out hx1.lt)
    have HB2 := Lib.hid (show Below w.heap.size w w2 from (((Below.refl _ w).alloc (Nat.le_refl _) _).trans (hb1.mono (by simp))).trans (HB1.out.mono (by have := hb1.size; simp at this; omega)))
    clear hb1 hx1 q1 q2 q3 hw2 hN2 HB1 HB0 hhs
    go_loopw [5] (fun i wr => ∃ k : Nat, k ≤ 3 ∧ i = .int .i64 k ∧ UpTo (nOk x.kind) x.nums k ∧ Below w2.heap.size w2 wr) (fun i _ => 3 - (intOf i).toNat)
    case atStart => exact ⟨0, Nat.zero_le _, rfl, UpTo.zero _ _, Below.refl _ _⟩
    case round =>
      obtain ⟨k, hk, rfl, hU, hb⟩ := hrel
      by_cases hlt : k < 3
      · obtain ⟨b, off, e, hbl, hc⟩ := (HRV.out.below hb).at_ hlt
        cases e
        obtain ⟨z, hz'⟩ : ∃ z, x.nums[k]'hlt = z := ⟨_, rfl⟩
        have hc' : wr.cell? ⟨N2, k, none⟩ = some (.int .i64 z) := by
          rw [Nat.zero_add] at hc
          rw [hc, List.getElem_map]
          exact congrArg some (congrArg (Value.int .i64) hz')
        have hxk := HX.out k (by omega)
        have t0 : (k : Int) < (hs.size : Int) := by omega
        clear hc
        have lt2 : k < x.nums.length := hlt
        have HBk := Lib.hid (HB2.out.trans (hb.mono HB2.out.size))
        have FAIL := Lib.hid (fun (e : nOk x.kind k z = false) => (⟨by rw [right1_n (upTo_no (f := nOk x.kind) lt2 ((congrArg (nOk x.kind k) hz').trans e))], HBk.out⟩ : Ending.returned (.bool false) = .returned (.bool (right1 x tags subs)) ∧ Below w.heap.size w wr))
        have PASS := Lib.hid (fun (e : nOk x.kind k z = true) => hU.next lt2 ((congrArg (nOk x.kind k) hz').trans e))
        have u1 : (k : Int) < 3 := by omega
        have u2 : (0 : Int) ≤ (k : Int) := by omega
        clear hU
        by_cases h1 : z < 0
        · have E := Lib.hid (nOk_neg (k := x.kind) (i := k) h1)
          go_wp2
          go_ret
          exact FAIL.out E.out
        · by_cases h2 : 65535 < z
          · have E := Lib.hid (nOk_big (k := x.kind) (i := k) h2)
            go_wp2
            go_ret
            exact FAIL.out E.out
          · by_cases h3 : z = 0
            · subst h3
              go_wp2
              go_roundw
              case rel => exact ⟨k + 1, by omega, by go_num, PASS.out nOk_zero, hb⟩
              case measure => simp [intOf]; omega
            · cases hh : hasX x.kind k with
              | true =>
                have E := Lib.hid (nOk_has (k := x.kind) (i := k) (z := z) (by omega) (by omega) hh)
                rw [hh, if_pos rfl] at hxk
                clear hh
                go_wp2
                go_roundw
                case rel => exact ⟨k + 1, by omega, by go_num, PASS.out E.out, hb⟩
                case measure => simp [intOf]; omega
              | false =>
                have E := Lib.hid (nOk_not (k := x.kind) (i := k) h3 hh)
                rw [hh, if_neg (by decide)] at hxk
                clear hh
                go_wp2
                go_ret
                exact FAIL.out E.out
      · obtain rfl : k = 3 := by omega
        have HN := Lib.hid (hU.all (Nat.le_refl 3))
        clear hU
        have hbx := HBx.out.below hb HBx.out.lt
        have HBk := Lib.hid (HB2.out.trans (hb.mono HB2.out.size))
        have HBx3 := Lib.hid hbx
        have HIt := Lib.hid hbx.item
        clear hbx HBx HRV HB2 hb
        go_wp2_with (first | (refine wpList_load_mid rfl TCm (.tmp 1) rfl w.heap.size 0 rfl (cmC x) _ HIt.out Try.underlying26 rfl (by kernel_rfl) ?_; unfold cmC strV) | (go_at_call 18; refine (CT.out _).mono ?_; rintro e w3 ⟨⟨B3, rfl, hB3, hrv3⟩, hb3⟩))
        obtain ⟨w4, hw4⟩ : ∃ w4, w3 = w4 := ⟨_, rfl⟩
        have HT3 := Lib.hid hrv3
        have HB3 := Lib.hid (HBk.out.trans (hb3.mono HBk.out.size))
        have HBx4 := Lib.hid (HBx3.out.below hb3 HBx3.out.lt)
        subst hw4
        clear hrv3 hb3 hB3 HBk HBx3 HIt CT
        go_loopw [7] (fun i wr => ∃ k : Nat, k ≤ 8 ∧ i = .int .i64 k ∧ UpTo (tOk x.kind) x.texts k ∧ Below w3.heap.size w3 wr) (fun i _ => 8 - (intOf i).toNat)
        case atStart => exact ⟨0, Nat.zero_le _, rfl, UpTo.zero _ _, Below.refl _ _⟩
        case round =>
          obtain ⟨k, hk, rfl, hU, hb⟩ := hrel
          by_cases hlt : k < 8
          · obtain ⟨b, off, e, hbl, hc⟩ := (HT3.out.below hb).at_ hlt
            cases e
            have lt2 : k < x.texts.length := hlt
            obtain ⟨z, hz'⟩ : ∃ z, x.texts[k]'lt2 = z := ⟨_, rfl⟩
            have hzm : z ∈ x.texts := by rw [← hz']; exact List.getElem_mem _
            obtain ⟨st, hst⟩ : ∃ st : ByteArray, (⟨z.toArray⟩ : ByteArray) = st := ⟨_, rfl⟩
            have hc' : wr.cell? ⟨B3, k, none⟩ = some (.string st) := by
              rw [Nat.zero_add] at hc
              rw [hc, List.getElem_map, ← hst]
              exact congrArg some (congrArg strV hz')
            have hss : st.size = z.length := by rw [← hst]; rfl
            have hse : st.toList.isEmpty = decide (z = []) := by
              rw [ByteArray.toList_eq, ← hst]
              cases z <;> simp
            have hsm := H0.out.small.texts z hzm
            unfold maxLen at hsm
            have hxk := HX.out (3 + k) (by omega)
            have ek : IntKind.i64.wrap (3 + (k : Int)) = 3 + (k : Int) := IntWalk.i64_in _ (by omega)
            have ek2 : (3 + (k : Int)).toNat = 3 + k := by omega
            have t0 : 3 + (k : Int) < (hs.size : Int) := by omega
            have t1 : (0 : Int) ≤ 3 + (k : Int) := by omega
            clear hc
            have HBk := Lib.hid (HB3.out.trans (hb.mono HB3.out.size))
            have FAIL := Lib.hid (fun (e : tOk x.kind k z = false) => (⟨by rw [right1_t (upTo_no (f := tOk x.kind) lt2 ((congrArg (tOk x.kind k) hz').trans e))], HBk.out⟩ : Ending.returned (.bool false) = .returned (.bool (right1 x tags subs)) ∧ Below w.heap.size w wr))
            have PASS := Lib.hid (fun (e : tOk x.kind k z = true) => hU.next lt2 ((congrArg (tOk x.kind k) hz').trans e))
            have u1 : (k : Int) < 8 := by omega
            have u2 : (0 : Int) ≤ (k : Int) := by omega
            clear hU
            by_cases h2 : 80 < z.length
            · have E := Lib.hid (tOk_big (k := x.kind) (i := k) h2)
              have h2' : (80 : Int) < (st.size : Int) := by omega
              go_wp2
              go_ret
              exact FAIL.out E.out
            · have h2' : ¬ (80 : Int) < (st.size : Int) := by omega
              by_cases h3 : z = []
              · rw [h3, decide_eq_true rfl] at hse
                have E := Lib.hid (show tOk x.kind k z = true by rw [h3]; exact tOk_nil)
                clear h3
                go_wp2
                go_roundw
                case rel => exact ⟨k + 1, by omega, by go_num, PASS.out E.out, hb⟩
                case measure => simp [intOf]; omega
              · rw [decide_eq_false h3] at hse
                cases hh : hasX x.kind (3 + k) with
                | true =>
                  have E := Lib.hid (tOk_has (k := x.kind) (i := k) (s := z) (by omega) hh)
                  rw [hh, if_pos rfl] at hxk
                  clear hh
                  go_wp2
                  go_roundw
                  case rel => exact ⟨k + 1, by omega, by go_num, PASS.out E.out, hb⟩
                  case measure => simp [intOf]; omega
                | false =>
                  have E := Lib.hid (tOk_not (k := x.kind) (i := k) h3 hh)
                  rw [hh, if_neg (by decide)] at hxk
                  clear hh
                  go_wp2
                  go_ret
                  exact FAIL.out E.out
          · obtain rfl : k = 8 := by omega
            have HT := Lib.hid (hU.all (Nat.le_refl 8))
            clear hU
            have hbx := HBx4.out.below hb HBx4.out.lt
            have HBk := Lib.hid (HB3.out.trans (hb.mono HB3.out.size))
            have HBx5 := Lib.hid hbx
            have q12 := hbx.c12
            have q13 := hbx.c13
            have q14 := hbx.c14
            have q15 := hbx.c15
            have q16 := hbx.c16
            obtain ⟨tn, htn⟩ : ∃ m, x.tn = m := ⟨_, rfl⟩
            obtain ⟨aw, haw⟩ : ∃ m, x.allow = m := ⟨_, rfl⟩
            obtain ⟨od, hod⟩ : ∃ m, x.old = m := ⟨_, rfl⟩
            obtain ⟨sv, hsv⟩ : ∃ m, x.ses = m := ⟨_, rfl⟩
            rw [htn] at q12
            rw [haw] at q13
            rw [hod] at q14
            rw [hsv] at q15
            have HTN := Lib.hid htn
            have HAL := Lib.hid haw
            have HO := Lib.hid hod
            have HSE := Lib.hid hsv
            clear htn haw hod hsv hbx HBx4 HT3 HB3 hb
            go_upto_region 16 with (fail)
            go_cut [120] (fun s120 wx => s120 = .bool (!midOk x) ∧ wx = wr)
            case first =>
              as_aux_lemma =>
                have g11 := HX.out 11 (by omega)
                have g12 := HX.out 12 (by omega)
                have g13 := HX.out 13 (by omega)
                have g14 := HX.out 14 (by omega)
                by_cases n8 : 8 < tn
                · have a8 : decide (tn ≤ 8) = false := decide_eq_false (by omega)
                  have b8 : (8 : Int) < (tn : Int) := by omega
                  have E := Lib.hid (show midOk x = false by unfold midOk; rw [HTN.out, HAL.out, HO.out, HSE.out]; simp only [a8, Bool.false_and])
                  go_wp2
                  go_meet
                  exact ⟨by rw [E.out]; first | rfl | (rw [show ((sv : Int) != 0) = true by simpa using s0]; rfl), rfl⟩
                have a8 : decide (tn ≤ 8) = true := decide_eq_true (by omega)
                have b8 : ¬ (8 : Int) < (tn : Int) := by omega
                by_cases n0 : tn = 0
                · have a0 : decide (tn = 0) = true := decide_eq_true n0
                  have b0 : ¬ (0 : Int) < (tn : Int) := by omega
                  cases al : aw with
                  | false =>
                    by_cases o0 : od = 0
                    · have c0 : decide (od = 0) = true := decide_eq_true o0
                      have d0 : (od : Int) = 0 := by omega
                      by_cases s0 : sv = 0
                      · have e0 : decide (sv = 0) = true := decide_eq_true s0
                        have f0 : (sv : Int) = 0 := by omega
                        have E := Lib.hid (show midOk x = true by unfold midOk; rw [HTN.out, HAL.out, HO.out, HSE.out]; simp only [a8, a0, al, c0, e0, Bool.true_and, Bool.and_true, Bool.true_or, Bool.or_true, Bool.false_or, Bool.not_false, Bool.not_true, Bool.false_and, Bool.and_false, Bool.or_self, Bool.and_self])
                        go_wp2
                        go_meet
                        exact ⟨by rw [E.out]; first | rfl | (rw [show ((sv : Int) != 0) = true by simpa using s0]; rfl), rfl⟩
                      · have e0 : decide (sv = 0) = false := decide_eq_false s0
                        have f0 : ¬ (sv : Int) = 0 := by omega
                        cases h14 : hasX x.kind 14 with
                        | false =>
                          have g14 := g14
                          rw [h14, if_neg (by decide)] at g14
                          have E := Lib.hid (show midOk x = false by unfold midOk; rw [HTN.out, HAL.out, HO.out, HSE.out]; simp only [a8, a0, al, c0, e0, h14, Bool.true_and, Bool.and_true, Bool.true_or, Bool.or_true, Bool.false_or, Bool.not_false, Bool.not_true, Bool.false_and, Bool.and_false, Bool.or_self, Bool.and_self])
                          go_wp2
                          go_meet
                          exact ⟨by rw [E.out]; first | rfl | (rw [show ((sv : Int) != 0) = true by simpa using s0]; rfl), rfl⟩
                        | true =>
                          have g14 := g14
                          rw [h14, if_pos rfl] at g14
                          have E := Lib.hid (show midOk x = true by unfold midOk; rw [HTN.out, HAL.out, HO.out, HSE.out]; simp only [a8, a0, al, c0, e0, h14, Bool.true_and, Bool.and_true, Bool.true_or, Bool.or_true, Bool.false_or, Bool.not_false, Bool.not_true, Bool.false_and, Bool.and_false, Bool.or_self, Bool.and_self])
                          go_wp2
                          go_meet
                          exact ⟨by rw [E.out]; first | rfl | (rw [show ((sv : Int) != 0) = true by simpa using s0]; rfl), rfl⟩
                    · have c0 : decide (od = 0) = false := decide_eq_false o0
                      have d0 : ¬ (od : Int) = 0 := by omega
                      cases h13 : hasX x.kind 13 with
                      | false =>
                        have g13 := g13
                        rw [h13, if_neg (by decide)] at g13
                        have E := Lib.hid (show midOk x = false by unfold midOk; rw [HTN.out, HAL.out, HO.out, HSE.out]; simp only [a8, a0, al, c0, h13, Bool.true_and, Bool.and_true, Bool.true_or, Bool.or_true, Bool.false_or, Bool.not_false, Bool.not_true, Bool.false_and, Bool.and_false, Bool.or_self, Bool.and_self])
                        go_wp2
                        go_meet
                        exact ⟨by rw [E.out]; first | rfl | (rw [show ((sv : Int) != 0) = true by simpa using s0]; rfl), rfl⟩
                      | true =>
                        have g13 := g13
                        rw [h13, if_pos rfl] at g13
                        by_cases s0 : sv = 0
                        · have e0 : decide (sv = 0) = true := decide_eq_true s0
                          have f0 : (sv : Int) = 0 := by omega
                          have E := Lib.hid (show midOk x = true by unfold midOk; rw [HTN.out, HAL.out, HO.out, HSE.out]; simp only [a8, a0, al, c0, h13, e0, Bool.true_and, Bool.and_true, Bool.true_or, Bool.or_true, Bool.false_or, Bool.not_false, Bool.not_true, Bool.false_and, Bool.and_false, Bool.or_self, Bool.and_self])
                          go_wp2
                          go_meet
                          exact ⟨by rw [E.out]; first | rfl | (rw [show ((sv : Int) != 0) = true by simpa using s0]; rfl), rfl⟩
                        · have e0 : decide (sv = 0) = false := decide_eq_false s0
                          have f0 : ¬ (sv : Int) = 0 := by omega
                          cases h14 : hasX x.kind 14 with
                          | false =>
                            have g14 := g14
                            rw [h14, if_neg (by decide)] at g14
                            have E := Lib.hid (show midOk x = false by unfold midOk; rw [HTN.out, HAL.out, HO.out, HSE.out]; simp only [a8, a0, al, c0, h13, e0, h14, Bool.true_and, Bool.and_true, Bool.true_or, Bool.or_true, Bool.false_or, Bool.not_false, Bool.not_true, Bool.false_and, Bool.and_false, Bool.or_self, Bool.and_self])
                            go_wp2
                            go_meet
                            exact ⟨by rw [E.out]; first | rfl | (rw [show ((sv : Int) != 0) = true by simpa using s0]; rfl), rfl⟩
                          | true =>
                            have g14 := g14
                            rw [h14, if_pos rfl] at g14
                            have E := Lib.hid (show midOk x = true by unfold midOk; rw [HTN.out, HAL.out, HO.out, HSE.out]; simp only [a8, a0, al, c0, h13, e0, h14, Bool.true_and, Bool.and_true, Bool.true_or, Bool.or_true, Bool.false_or, Bool.not_false, Bool.not_true, Bool.false_and, Bool.and_false, Bool.or_self, Bool.and_self])
                            go_wp2
                            go_meet
                            exact ⟨by rw [E.out]; first | rfl | (rw [show ((sv : Int) != 0) = true by simpa using s0]; rfl), rfl⟩
                  | true =>
                    cases h12 : hasX x.kind 12 with
                    | false =>
                      have g12 := g12
                      rw [h12, if_neg (by decide)] at g12
                      have E := Lib.hid (show midOk x = false by unfold midOk; rw [HTN.out, HAL.out, HO.out, HSE.out]; simp only [a8, a0, al, h12, Bool.true_and, Bool.and_true, Bool.true_or, Bool.or_true, Bool.false_or, Bool.not_false, Bool.not_true, Bool.false_and, Bool.and_false, Bool.or_self, Bool.and_self])
                      go_wp2
                      go_meet
                      exact ⟨by rw [E.out]; first | rfl | (rw [show ((sv : Int) != 0) = true by simpa using s0]; rfl), rfl⟩
                    | true =>
                      have g12 := g12
                      rw [h12, if_pos rfl] at g12
                      by_cases o0 : od = 0
                      · have c0 : decide (od = 0) = true := decide_eq_true o0
                        have d0 : (od : Int) = 0 := by omega
                        by_cases s0 : sv = 0
                        · have e0 : decide (sv = 0) = true := decide_eq_true s0
                          have f0 : (sv : Int) = 0 := by omega
                          have E := Lib.hid (show midOk x = true by unfold midOk; rw [HTN.out, HAL.out, HO.out, HSE.out]; simp only [a8, a0, al, h12, c0, e0, Bool.true_and, Bool.and_true, Bool.true_or, Bool.or_true, Bool.false_or, Bool.not_false, Bool.not_true, Bool.false_and, Bool.and_false, Bool.or_self, Bool.and_self])
                          go_wp2
                          go_meet
                          exact ⟨by rw [E.out]; first | rfl | (rw [show ((sv : Int) != 0) = true by simpa using s0]; rfl), rfl⟩
                        · have e0 : decide (sv = 0) = false := decide_eq_false s0
                          have f0 : ¬ (sv : Int) = 0 := by omega
                          cases h14 : hasX x.kind 14 with
                          | false =>
                            have g14 := g14
                            rw [h14, if_neg (by decide)] at g14
                            have E := Lib.hid (show midOk x = false by unfold midOk; rw [HTN.out, HAL.out, HO.out, HSE.out]; simp only [a8, a0, al, h12, c0, e0, h14, Bool.true_and, Bool.and_true, Bool.true_or, Bool.or_true, Bool.false_or, Bool.not_false, Bool.not_true, Bool.false_and, Bool.and_false, Bool.or_self, Bool.and_self])
                            go_wp2
                            go_meet
                            exact ⟨by rw [E.out]; first | rfl | (rw [show ((sv : Int) != 0) = true by simpa using s0]; rfl), rfl⟩
                          | true =>
                            have g14 := g14
                            rw [h14, if_pos rfl] at g14
                            have E := Lib.hid (show midOk x = true by unfold midOk; rw [HTN.out, HAL.out, HO.out, HSE.out]; simp only [a8, a0, al, h12, c0, e0, h14, Bool.true_and, Bool.and_true, Bool.true_or, Bool.or_true, Bool.false_or, Bool.not_false, Bool.not_true, Bool.false_and, Bool.and_false, Bool.or_self, Bool.and_self])
                            go_wp2
                            go_meet
                            exact ⟨by rw [E.out]; first | rfl | (rw [show ((sv : Int) != 0) = true by simpa using s0]; rfl), rfl⟩
                      · have c0 : decide (od = 0) = false := decide_eq_false o0
                        have d0 : ¬ (od : Int) = 0 := by omega
                        cases h13 : hasX x.kind 13 with
                        | false =>
                          have g13 := g13
                          rw [h13, if_neg (by decide)] at g13
                          have E := Lib.hid (show midOk x = false by unfold midOk; rw [HTN.out, HAL.out, HO.out, HSE.out]; simp only [a8, a0, al, h12, c0, h13, Bool.true_and, Bool.and_true, Bool.true_or, Bool.or_true, Bool.false_or, Bool.not_false, Bool.not_true, Bool.false_and, Bool.and_false, Bool.or_self, Bool.and_self])
                          go_wp2
                          go_meet
                          exact ⟨by rw [E.out]; first | rfl | (rw [show ((sv : Int) != 0) = true by simpa using s0]; rfl), rfl⟩
                        | true =>
                          have g13 := g13
                          rw [h13, if_pos rfl] at g13
                          by_cases s0 : sv = 0
                          · have e0 : decide (sv = 0) = true := decide_eq_true s0
                            have f0 : (sv : Int) = 0 := by omega
                            have E := Lib.hid (show midOk x = true by unfold midOk; rw [HTN.out, HAL.out, HO.out, HSE.out]; simp only [a8, a0, al, h12, c0, h13, e0, Bool.true_and, Bool.and_true, Bool.true_or, Bool.or_true, Bool.false_or, Bool.not_false, Bool.not_true, Bool.false_and, Bool.and_false, Bool.or_self, Bool.and_self])
                            go_wp2
                            go_meet
                            exact ⟨by rw [E.out]; first | rfl | (rw [show ((sv : Int) != 0) = true by simpa using s0]; rfl), rfl⟩
                          · have e0 : decide (sv = 0) = false := decide_eq_false s0
                            have f0 : ¬ (sv : Int) = 0 := by omega
                            cases h14 : hasX x.kind 14 with
                            | false =>
                              have g14 := g14
                              rw [h14, if_neg (by decide)] at g14
                              have E := Lib.hid (show midOk x = false by unfold midOk; rw [HTN.out, HAL.out, HO.out, HSE.out]; simp only [a8, a0, al, h12, c0, h13, e0, h14, Bool.true_and, Bool.and_true, Bool.true_or, Bool.or_true, Bool.false_or, Bool.not_false, Bool.not_true, Bool.false_and, Bool.and_false, Bool.or_self, Bool.and_self])
                              go_wp2
                              go_meet
                              exact ⟨by rw [E.out]; first | rfl | (rw [show ((sv : Int) != 0) = true by simpa using s0]; rfl), rfl⟩
                            | true =>
                              have g14 := g14
                              rw [h14, if_pos rfl] at g14
                              have E := Lib.hid (show midOk x = true by unfold midOk; rw [HTN.out, HAL.out, HO.out, HSE.out]; simp only [a8, a0, al, h12, c0, h13, e0, h14, Bool.true_and, Bool.and_true, Bool.true_or, Bool.or_true, Bool.false_or, Bool.not_false, Bool.not_true, Bool.false_and, Bool.and_false, Bool.or_self, Bool.and_self])
                              go_wp2
                              go_meet
                              exact ⟨by rw [E.out]; first | rfl | (rw [show ((sv : Int) != 0) = true by simpa using s0]; rfl), rfl⟩
                · have a0 : decide (tn = 0) = false := decide_eq_false n0
                  have b0 : (0 : Int) < (tn : Int) := by omega
                  cases h11 : hasX x.kind 11 with
                  | false =>
                    have g11 := g11
                    rw [h11, if_neg (by decide)] at g11
                    have E := Lib.hid (show midOk x = false by unfold midOk; rw [HTN.out, HAL.out, HO.out, HSE.out]; simp only [a8, a0, h11, Bool.true_and, Bool.and_true, Bool.true_or, Bool.or_true, Bool.false_or, Bool.not_false, Bool.not_true, Bool.false_and, Bool.and_false, Bool.or_self, Bool.and_self])
                    go_wp2
                    go_meet
                    exact ⟨by rw [E.out]; first | rfl | (rw [show ((sv : Int) != 0) = true by simpa using s0]; rfl), rfl⟩
                  | true =>
                    have g11 := g11
                    rw [h11, if_pos rfl] at g11
                    cases al : aw with
                    | false =>
                      by_cases o0 : od = 0
                      · have c0 : decide (od = 0) = true := decide_eq_true o0
                        have d0 : (od : Int) = 0 := by omega
                        by_cases s0 : sv = 0
                        · have e0 : decide (sv = 0) = true := decide_eq_true s0
                          have f0 : (sv : Int) = 0 := by omega
                          have E := Lib.hid (show midOk x = true by unfold midOk; rw [HTN.out, HAL.out, HO.out, HSE.out]; simp only [a8, a0, h11, al, c0, e0, Bool.true_and, Bool.and_true, Bool.true_or, Bool.or_true, Bool.false_or, Bool.not_false, Bool.not_true, Bool.false_and, Bool.and_false, Bool.or_self, Bool.and_self])
                          go_wp2
                          go_meet
                          exact ⟨by rw [E.out]; first | rfl | (rw [show ((sv : Int) != 0) = true by simpa using s0]; rfl), rfl⟩
                        · have e0 : decide (sv = 0) = false := decide_eq_false s0
                          have f0 : ¬ (sv : Int) = 0 := by omega
                          cases h14 : hasX x.kind 14 with
                          | false =>
                            have g14 := g14
                            rw [h14, if_neg (by decide)] at g14
                            have E := Lib.hid (show midOk x = false by unfold midOk; rw [HTN.out, HAL.out, HO.out, HSE.out]; simp only [a8, a0, h11, al, c0, e0, h14, Bool.true_and, Bool.and_true, Bool.true_or, Bool.or_true, Bool.false_or, Bool.not_false, Bool.not_true, Bool.false_and, Bool.and_false, Bool.or_self, Bool.and_self])
                            go_wp2
                            go_meet
                            exact ⟨by rw [E.out]; first | rfl | (rw [show ((sv : Int) != 0) = true by simpa using s0]; rfl), rfl⟩
                          | true =>
                            have g14 := g14
                            rw [h14, if_pos rfl] at g14
                            have E := Lib.hid (show midOk x = true by unfold midOk; rw [HTN.out, HAL.out, HO.out, HSE.out]; simp only [a8, a0, h11, al, c0, e0, h14, Bool.true_and, Bool.and_true, Bool.true_or, Bool.or_true, Bool.false_or, Bool.not_false, Bool.not_true, Bool.false_and, Bool.and_false, Bool.or_self, Bool.and_self])
                            go_wp2
                            go_meet
                            exact ⟨by rw [E.out]; first | rfl | (rw [show ((sv : Int) != 0) = true by simpa using s0]; rfl), rfl⟩
                      · have c0 : decide (od = 0) = false := decide_eq_false o0
                        have d0 : ¬ (od : Int) = 0 := by omega
                        cases h13 : hasX x.kind 13 with
                        | false =>
                          have g13 := g13
                          rw [h13, if_neg (by decide)] at g13
                          have E := Lib.hid (show midOk x = false by unfold midOk; rw [HTN.out, HAL.out, HO.out, HSE.out]; simp only [a8, a0, h11, al, c0, h13, Bool.true_and, Bool.and_true, Bool.true_or, Bool.or_true, Bool.false_or, Bool.not_false, Bool.not_true, Bool.false_and, Bool.and_false, Bool.or_self, Bool.and_self])
                          go_wp2
                          go_meet
                          exact ⟨by rw [E.out]; first | rfl | (rw [show ((sv : Int) != 0) = true by simpa using s0]; rfl), rfl⟩
                        | true =>
                          have g13 := g13
                          rw [h13, if_pos rfl] at g13
                          by_cases s0 : sv = 0
                          · have e0 : decide (sv = 0) = true := decide_eq_true s0
                            have f0 : (sv : Int) = 0 := by omega
                            have E := Lib.hid (show midOk x = true by unfold midOk; rw [HTN.out, HAL.out, HO.out, HSE.out]; simp only [a8, a0, h11, al, c0, h13, e0, Bool.true_and, Bool.and_true, Bool.true_or, Bool.or_true, Bool.false_or, Bool.not_false, Bool.not_true, Bool.false_and, Bool.and_false, Bool.or_self, Bool.and_self])
                            go_wp2
                            go_meet
                            exact ⟨by rw [E.out]; first | rfl | (rw [show ((sv : Int) != 0) = true by simpa using s0]; rfl), rfl⟩
                          · have e0 : decide (sv = 0) = false := decide_eq_false s0
                            have f0 : ¬ (sv : Int) = 0 := by omega
                            cases h14 : hasX x.kind 14 with
                            | false =>
                              have g14 := g14
                              rw [h14, if_neg (by decide)] at g14
                              have E := Lib.hid (show midOk x = false by unfold midOk; rw [HTN.out, HAL.out, HO.out, HSE.out]; simp only [a8, a0, h11, al, c0, h13, e0, h14, Bool.true_and, Bool.and_true, Bool.true_or, Bool.or_true, Bool.false_or, Bool.not_false, Bool.not_true, Bool.false_and, Bool.and_false, Bool.or_self, Bool.and_self])
                              go_wp2
                              go_meet
                              exact ⟨by rw [E.out]; first | rfl | (rw [show ((sv : Int) != 0) = true by simpa using s0]; rfl), rfl⟩
                            | true =>
                              have g14 := g14
                              rw [h14, if_pos rfl] at g14
                              have E := Lib.hid (show midOk x = true by unfold midOk; rw [HTN.out, HAL.out, HO.out, HSE.out]; simp only [a8, a0, h11, al, c0, h13, e0, h14, Bool.true_and, Bool.and_true, Bool.true_or, Bool.or_true, Bool.false_or, Bool.not_false, Bool.not_true, Bool.false_and, Bool.and_false, Bool.or_self, Bool.and_self])
                              go_wp2
                              go_meet
                              exact ⟨by rw [E.out]; first | rfl | (rw [show ((sv : Int) != 0) = true by simpa using s0]; rfl), rfl⟩
                    | true =>
                      cases h12 : hasX x.kind 12 with
                      | false =>
                        have g12 := g12
                        rw [h12, if_neg (by decide)] at g12
                        have E := Lib.hid (show midOk x = false by unfold midOk; rw [HTN.out, HAL.out, HO.out, HSE.out]; simp only [a8, a0, h11, al, h12, Bool.true_and, Bool.and_true, Bool.true_or, Bool.or_true, Bool.false_or, Bool.not_false, Bool.not_true, Bool.false_and, Bool.and_false, Bool.or_self, Bool.and_self])
                        go_wp2
                        go_meet
                        exact ⟨by rw [E.out]; first | rfl | (rw [show ((sv : Int) != 0) = true by simpa using s0]; rfl), rfl⟩
                      | true =>
                        have g12 := g12
                        rw [h12, if_pos rfl] at g12
                        by_cases o0 : od = 0
                        · have c0 : decide (od = 0) = true := decide_eq_true o0
                          have d0 : (od : Int) = 0 := by omega
                          by_cases s0 : sv = 0
                          · have e0 : decide (sv = 0) = true := decide_eq_true s0
                            have f0 : (sv : Int) = 0 := by omega
                            have E := Lib.hid (show midOk x = true by unfold midOk; rw [HTN.out, HAL.out, HO.out, HSE.out]; simp only [a8, a0, h11, al, h12, c0, e0, Bool.true_and, Bool.and_true, Bool.true_or, Bool.or_true, Bool.false_or, Bool.not_false, Bool.not_true, Bool.false_and, Bool.and_false, Bool.or_self, Bool.and_self])
                            go_wp2
                            go_meet
                            exact ⟨by rw [E.out]; first | rfl | (rw [show ((sv : Int) != 0) = true by simpa using s0]; rfl), rfl⟩
                          · have e0 : decide (sv = 0) = false := decide_eq_false s0
                            have f0 : ¬ (sv : Int) = 0 := by omega
                            cases h14 : hasX x.kind 14 with
                            | false =>
                              have g14 := g14
                              rw [h14, if_neg (by decide)] at g14
                              have E := Lib.hid (show midOk x = false by unfold midOk; rw [HTN.out, HAL.out, HO.out, HSE.out]; simp only [a8, a0, h11, al, h12, c0, e0, h14, Bool.true_and, Bool.and_true, Bool.true_or, Bool.or_true, Bool.false_or, Bool.not_false, Bool.not_true, Bool.false_and, Bool.and_false, Bool.or_self, Bool.and_self])
                              go_wp2
                              go_meet
                              exact ⟨by rw [E.out]; first | rfl | (rw [show ((sv : Int) != 0) = true by simpa using s0]; rfl), rfl⟩
                            | true =>
                              have g14 := g14
                              rw [h14, if_pos rfl] at g14
                              have E := Lib.hid (show midOk x = true by unfold midOk; rw [HTN.out, HAL.out, HO.out, HSE.out]; simp only [a8, a0, h11, al, h12, c0, e0, h14, Bool.true_and, Bool.and_true, Bool.true_or, Bool.or_true, Bool.false_or, Bool.not_false, Bool.not_true, Bool.false_and, Bool.and_false, Bool.or_self, Bool.and_self])
                              go_wp2
                              go_meet
                              exact ⟨by rw [E.out]; first | rfl | (rw [show ((sv : Int) != 0) = true by simpa using s0]; rfl), rfl⟩
                        · have c0 : decide (od = 0) = false := decide_eq_false o0
                          have d0 : ¬ (od : Int) = 0 := by omega
                          cases h13 : hasX x.kind 13 with
                          | false =>
                            have g13 := g13
                            rw [h13, if_neg (by decide)] at g13
                            have E := Lib.hid (show midOk x = false by unfold midOk; rw [HTN.out, HAL.out, HO.out, HSE.out]; simp only [a8, a0, h11, al, h12, c0, h13, Bool.true_and, Bool.and_true, Bool.true_or, Bool.or_true, Bool.false_or, Bool.not_false, Bool.not_true, Bool.false_and, Bool.and_false, Bool.or_self, Bool.and_self])
                            go_wp2
                            go_meet
                            exact ⟨by rw [E.out]; first | rfl | (rw [show ((sv : Int) != 0) = true by simpa using s0]; rfl), rfl⟩
                          | true =>
                            have g13 := g13
                            rw [h13, if_pos rfl] at g13
                            by_cases s0 : sv = 0
                            · have e0 : decide (sv = 0) = true := decide_eq_true s0
                              have f0 : (sv : Int) = 0 := by omega
                              have E := Lib.hid (show midOk x = true by unfold midOk; rw [HTN.out, HAL.out, HO.out, HSE.out]; simp only [a8, a0, h11, al, h12, c0, h13, e0, Bool.true_and, Bool.and_true, Bool.true_or, Bool.or_true, Bool.false_or, Bool.not_false, Bool.not_true, Bool.false_and, Bool.and_false, Bool.or_self, Bool.and_self])
                              go_wp2
                              go_meet
                              exact ⟨by rw [E.out]; first | rfl | (rw [show ((sv : Int) != 0) = true by simpa using s0]; rfl), rfl⟩
                            · have e0 : decide (sv = 0) = false := decide_eq_false s0
                              have f0 : ¬ (sv : Int) = 0 := by omega
                              cases h14 : hasX x.kind 14 with
                              | false =>
                                have g14 := g14
                                rw [h14, if_neg (by decide)] at g14
                                have E := Lib.hid (show midOk x = false by unfold midOk; rw [HTN.out, HAL.out, HO.out, HSE.out]; simp only [a8, a0, h11, al, h12, c0, h13, e0, h14, Bool.true_and, Bool.and_true, Bool.true_or, Bool.or_true, Bool.false_or, Bool.not_false, Bool.not_true, Bool.false_and, Bool.and_false, Bool.or_self, Bool.and_self])
                                go_wp2
                                go_meet
                                exact ⟨by rw [E.out]; first | rfl | (rw [show ((sv : Int) != 0) = true by simpa using s0]; rfl), rfl⟩
                              | true =>
                                have g14 := g14
                                rw [h14, if_pos rfl] at g14
                                have E := Lib.hid (show midOk x = true by unfold midOk; rw [HTN.out, HAL.out, HO.out, HSE.out]; simp only [a8, a0, h11, al, h12, c0, h13, e0, h14, Bool.true_and, Bool.and_true, Bool.true_or, Bool.or_true, Bool.false_or, Bool.not_false, Bool.not_true, Bool.false_and, Bool.and_false, Bool.or_self, Bool.and_self])
                                go_wp2
                                go_meet
                                exact ⟨by rw [E.out]; first | rfl | (rw [show ((sv : Int) != 0) = true by simpa using s0]; rfl), rfl⟩
            case rest =>
              obtain ⟨rfl, rfl⟩ := hcut
              cases hm : midOk x with
              | false =>
                have E := Lib.hid (show Ending.returned (.bool false) = .returned (.bool (right1 x tags subs)) ∧ Below w.heap.size w wc from ⟨by rw [right1_m hm], HBk.out⟩)
                go_wp2
                go_ret
                exact E.out
              | true =>
                have HM := Lib.hid hm
                clear hm
                have HRT := Lib.hid (H0.out.row.below HBk.out)
                have htl := H0.out.len
                have HTL := Lib.hid htl
                have tn3 : x.tn ≤ 8 := by
                  have h := HM.out
                  unfold midOk at h
                  simp only [Bool.and_eq_true, decide_eq_true_eq] at h
                  exact h.1.1.1.1
                clear q12 q13 q14 q15 q16 htl
                go_wp2
                go_loopw [8] (fun i w5 => ∃ k : Nat, k ≤ x.tn ∧ i = .int .i64 k ∧ UpTo (fun _ s => decide (s.length ≤ 80)) tags k ∧ Below wc.heap.size wc w5) (fun i _ => x.tn - (intOf i).toNat)
                case atStart => exact ⟨0, Nat.zero_le _, rfl, UpTo.zero _ _, Below.refl _ _⟩
                case round =>
                  obtain ⟨k, hk, rfl, hU, hb⟩ := hrel
                  have hbx := HBx5.out.below hb HBx5.out.lt
                  have q12 := hbx.c12
                  have HBq := Lib.hid (HBk.out.trans (hb.mono HBk.out.size))
                  by_cases hlt : k < x.tn
                  · obtain ⟨b, off, e, hbl, hc⟩ := (HRT.out.below hb).at_ hlt
                    have lt2 : k < tags.length := by rw [HTL.out]; exact hlt
                    obtain ⟨z, hz'⟩ : ∃ z, tags[k]'lt2 = z := ⟨_, rfl⟩
                    have hzm : z ∈ tags := by rw [← hz']; exact List.getElem_mem _
                    obtain ⟨st, hst⟩ : ∃ st : ByteArray, (⟨z.toArray⟩ : ByteArray) = st := ⟨_, rfl⟩
                    obtain ⟨tn, htn⟩ : ∃ m, x.tn = m := ⟨_, rfl⟩
                    have hc' : wr.cell? ⟨b, off + k, none⟩ = some (.string st) := by
                      rw [hc, List.getElem_map, ← hst]
                      exact congrArg some (congrArg strV hz')
                    rw [e] at q12
                    have HZ := Lib.hid hz'
                    clear e hc hz'
                    have FAIL := Lib.hid (fun (e : decide (z.length ≤ 80) = false) => (⟨by rw [right1_g (all_no (l := tags) hzm e)], HBq.out⟩ : Ending.returned (.bool false) = .returned (.bool (right1 x tags subs)) ∧ Below w.heap.size w wr))
                    have PASS := Lib.hid (fun (e : decide (z.length ≤ 80) = true) => hU.next (f := fun _ s => decide (s.length ≤ 80)) lt2 (by rw [HZ.out]; exact e))
                    have hss : st.size = z.length := by rw [← hst]; rfl
                    clear hst hU hzm htn HTL
                    have u1 : (k : Int) < (x.tn : Int) := by omega
                    have u2 : (0 : Int) ≤ (k : Int) := by omega
                    by_cases h2 : z.length ≤ 80
                    · have E := Lib.hid (decide_eq_true h2)
                      have h3 : ¬ (80 : Int) < (st.size : Int) := by omega
                      go_wp2
                      go_roundw
                      case rel => exact ⟨k + 1, by omega, by go_num, PASS.out E.out, hb⟩
                      case measure => simp [intOf]; omega
                    · have E := Lib.hid (decide_eq_false h2)
                      have h3 : (80 : Int) < (st.size : Int) := by omega
                      go_wp2
                      go_ret
                      exact FAIL.out E.out
                  · obtain rfl : k = x.tn := by omega
                    have HG := Lib.hid (hU.all_ (f := fun s => decide (s.length ≤ 80)) (Nat.le_of_eq HTL.out))
                    have HBx6 := Lib.hid hbx
                    have q16 := hbx.c16
                    obtain ⟨sn, hsn⟩ : ∃ m, x.sn = m := ⟨_, rfl⟩
                    rw [hsn] at q16
                    have HSN := Lib.hid hsn
                    have g15 := HX.out 15 (by omega)
                    clear hU hsn hbx
                    go_upto_region 23 with (fail)
                    go_cut [149] (fun s149 wx => s149 = .bool (!subsN x) ∧ wx = wr)
                    case first =>
                      by_cases n8 : 8 < sn
                      · have E := Lib.hid (show subsN x = false by unfold subsN; rw [HSN.out, decide_eq_false (show ¬ sn ≤ 8 by omega), Bool.false_and])
                        have b8 : (8 : Int) < (sn : Int) := by omega
                        go_wp2
                        go_meet
                        exact ⟨by rw [E.out]; rfl, rfl⟩
                      · have a8 : decide (sn ≤ 8) = true := decide_eq_true (by omega)
                        have b8 : ¬ (8 : Int) < (sn : Int) := by omega
                        by_cases n0 : sn = 0
                        · have E := Lib.hid (show subsN x = true by unfold subsN; rw [HSN.out, a8, decide_eq_true n0]; rfl)
                          have b0 : ¬ (0 : Int) < (sn : Int) := by omega
                          go_wp2
                          go_meet
                          exact ⟨by rw [E.out]; rfl, rfl⟩
                        · have b0 : (0 : Int) < (sn : Int) := by omega
                          cases hh : hasX x.kind 15 with
                          | false =>
                            have E := Lib.hid (show subsN x = false by unfold subsN; rw [HSN.out, a8, decide_eq_false n0, hh]; rfl)
                            rw [hh, if_neg (by decide)] at g15
                            go_wp2
                            go_meet
                            exact ⟨by rw [E.out]; rfl, rfl⟩
                          | true =>
                            have E := Lib.hid (show subsN x = true by unfold subsN; rw [HSN.out, a8, decide_eq_false n0, hh]; rfl)
                            rw [hh, if_pos rfl] at g15
                            go_wp2
                            go_meet
                            exact ⟨by rw [E.out]; rfl, rfl⟩
                    case rest =>
                      obtain ⟨rfl, rfl⟩ := hcut
                      cases hm : subsN x with
                      | false =>
                        have E := Lib.hid (show Ending.returned (.bool false) = .returned (.bool (right1 x tags subs)) ∧ Below w.heap.size w wc from ⟨by rw [right1_s hm], HBq.out⟩)
                        clear g15
                        go_wp2
                        go_ret
                        exact E.out
                      | true =>
                        obtain ⟨hrow, hki, hcl⟩ := HS.out hm
                        have HHead := Lib.hid (head_yes (tags := tags) HK.out HN.out HT.out HM.out HG.out hm)
                        have sn8 : x.sn ≤ 8 := by
                          unfold subsN at hm
                          simp only [Bool.and_eq_true, decide_eq_true_eq] at hm
                          exact hm.1
                        have HRow := Lib.hid (hrow.below HBq.out)
                        have HKi := Lib.hid hki
                        have HCl := Lib.hid hcl
                        have HSl := Lib.hid (show subs.length = x.sn by simpa using hrow.1)
                        clear hrow hki hcl hm g15 q16 q12
                        go_wp2
                        go_loopw [9] (fun i w5 => ∃ k : Nat, k ≤ x.sn ∧ i = .int .i64 k ∧ UpTo (fun _ (y : CmW × List (List UInt8)) => !decide (y.1.kind = 18) && right0 y.1 y.2) subs k ∧ Below wc.heap.size wc w5) (fun i _ => x.sn - (intOf i).toNat)
                        case atStart => exact ⟨0, Nat.zero_le _, rfl, UpTo.zero _ _, Below.refl _ _⟩
                        case round =>
                          obtain ⟨k, hk, rfl, hU, hb⟩ := hrel
                          have hbx := HBx6.out.below hb HBx6.out.lt
                          have q16 := hbx.c16
                          have HBr := Lib.hid (HBq.out.trans (hb.mono HBq.out.size))
                          by_cases hlt : k < x.sn
                          · have lt2 : k < subs.length := by rw [HSl.out]; exact hlt
                            obtain ⟨b, off, e, hbl, hit⟩ := (HRow.out.below hb).at_ hlt (by simpa using lt2)
                            obtain ⟨y, hy⟩ : ∃ y, subs[k]'lt2 = y := ⟨_, rfl⟩
                            have hym : y ∈ subs := by rw [← hy]; exact List.getElem_mem _
                            have hit2 : ItAt cmC wr b (off + k * 17) y.1 := by
                              rw [List.getElem_map, hy] at hit
                              exact hit
                            have HIt := Lib.hid hit2
                            have c0 : wr.cell? ⟨b, off + k * 17, none⟩ = some (.int .i64 y.1.kind) := hit2 0 _ rfl
                            rw [e] at q16
                            have FAIL := Lib.hid (fun wz (hz : Below w.heap.size w wz) (e : (!decide (y.1.kind = 18) && right0 y.1 y.2) = false) => (⟨by rw [right1_no (all_no (l := subs) hym e)], hz⟩ : Ending.returned (.bool false) = .returned (.bool (right1 x tags subs)) ∧ Below w.heap.size w wz))
                            have PASS := Lib.hid (fun (e : (!decide (y.1.kind = 18) && right0 y.1 y.2) = true) => hU.next (f := fun _ (y : CmW × List (List UInt8)) => !decide (y.1.kind = 18) && right0 y.1 y.2) lt2 (by rw [hy]; exact e))
                            have HC := Lib.hid (HCl.out y hym wr HBr.out)
                            have u1 : (k : Int) < (x.sn : Int) := by omega
                            have u2 : (0 : Int) ≤ (k : Int) := by omega
                            clear e hit hy hit2 hU hym hbx
                            by_cases h18 : y.1.kind = 18
                            · have E := Lib.hid (show (!decide (y.1.kind = 18) && right0 y.1 y.2) = false by rw [decide_eq_true h18]; rfl)
                              rw [h18] at c0
                              clear h18
                              go_wp2
                              go_ret
                              exact FAIL.out _ HBr.out E.out
                            · have HC2 := Lib.hid (HC.out h18)
                              have H18 := Lib.hid h18
                              cases hr : right0 y.1 y.2 with
                              | true =>
                                have E := Lib.hid (show (!decide (y.1.kind = 18) && right0 y.1 y.2) = true by rw [decide_eq_false h18, hr]; rfl)
                                rw [hr] at HC2
                                clear hr
                                go_wp2_with (first | (refine wpList_load_midg (by first | rfl | simp [Region.wanted, yielded, H18.out]) TCm (.tmp 168) rfl b (off + k * 17) (by first | rfl | simp [Act.eval]) (cmC y.1) _ HIt.out Try.underlying26 rfl (by kernel_rfl) ?_; unfold cmC strV) | (go_at_call 9; refine HC2.out.mono ?_; rintro e w6 ⟨rfl, hb6⟩))
                                go_roundw
                                case rel => exact ⟨_, .int .i64 ((k : Int) + 1), _, _, _, _, _, _, _, _, _, _, _, _, _, _, _, _, _, _, _, _, _, _, _, ⟨k + 1, by omega, by go_num, PASS.out E.out, hb.trans (hb6.mono hb.size)⟩, rfl⟩
                                case measure => simp [intOf]; omega
                              | false =>
                                have E := Lib.hid (show (!decide (y.1.kind = 18) && right0 y.1 y.2) = false by rw [hr, Bool.and_false])
                                rw [hr] at HC2
                                clear hr
                                go_wp2_with (first | (refine wpList_load_midg (by first | rfl | simp [Region.wanted, yielded, H18.out]) TCm (.tmp 168) rfl b (off + k * 17) (by first | rfl | simp [Act.eval]) (cmC y.1) _ HIt.out Try.underlying26 rfl (by kernel_rfl) ?_; unfold cmC strV) | (go_at_call 9; refine HC2.out.mono ?_; rintro e w6 ⟨rfl, hb6⟩))
                                go_ret
                                exact FAIL.out _ (HBr.out.trans (hb6.mono HBr.out.size)) E.out
                          · obtain rfl : k = x.sn := by omega
                            have E := Lib.hid (show Ending.returned (.bool true) = .returned (.bool (right1 x tags subs)) ∧ Below w.heap.size w wr from ⟨by rw [right1_yes HHead.out (hU.all_ (f := fun (y : CmW × List (List UInt8)) => !decide (y.1.kind = 18) && right0 y.1 y.2) (Nat.le_of_eq HSl.out))], HBr.out⟩)
                            clear hU hbx
                            go_wp2
                            go_ret
                            exact E.out
end Go.Proofs.Ytbhhalkpghcflaa
