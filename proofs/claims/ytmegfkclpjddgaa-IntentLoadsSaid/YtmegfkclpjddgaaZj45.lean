/-
  The document's May: which intentions may be loaded, walked (layer 17).
-/
import Derived.Test.YtmegfkclpjddgaaZj14
import Derived.Test.YtmegfkclpjddgaaZj44
import Derived.Test.YtmegfkclpjddgaaZj17
import Derived.Lib.QuietBelow
import Derived.BigQuiet
namespace Go.Proofs.Ytmegfkclpjddgaa
open Go.RowKit Go.Sort
set_option linter.unusedSimpArgs false
set_option linter.unusedVariables false

set_option maxHeartbeats 8000000 in
set_option maxRecDepth 100000 in
theorem rmay_any (m : Int) (hm : -9223372036854775808 ≤ m ∧ m ≤ 9223372036854775807) (A : Option Addr) (n c : Nat) (l : List Ir) (last : Nat) (w : World) (hS : SK irC 5 w A n l) (hn : n ≤ maxLen) (hin : ∀ x ∈ l, x.In) :
    Calls Try.prog 27 #[.int .i64 m, .slice A n c, .int .u64 (last : Int)] w fun e w' => ∃ b, e = .returned (.bool b) ∧ (b = true ↔ ImLoad (mostT m) l last) ∧ Below w.heap.size w w' := by
  unfold maxLen at hn
  have hn' : n ≤ 9223372036854775807 := by omega
  obtain ⟨g0, hg0⟩ : ∃ g0, w.heap.size = g0 := ⟨_, rfl⟩
  obtain ⟨mo, hmo⟩ : ∃ mo, mostT m = mo := ⟨_, rfl⟩
  have HN := Lib.hid (rinew_any m w hm)
  rw [hg0, hmo] at HN
  rw [hg0, hmo]
  have HG0 := Lib.hid hg0
  have HS := Lib.hid hS
  have HL := Lib.hid hS.1
  have HIn := Lib.hid hin
  clear hm hS hn hin hg0 hmo
  go_enter Try.func27, Try.ntmps27
  go_wp2_with fail
  refine HN.out.mono ?_
  rintro e w1 ⟨rfl, hp, hb1⟩
  obtain ⟨_, A9, c9, hri, _⟩ := hp
  have c0 := hri.c0
  have HB1 := Lib.hid hb1
  clear HN hri hb1
  by_cases hbig : mo < n
  · have q1 : decide ((n : Int) > (mo : Int)) = true := decide_eq_true (by omega)
    have q2 : decide (mo < n) = true := decide_eq_true hbig
    have HNo : Hid (¬ ImLoad mo l last) := Lib.hid fun h => by have := h.1; rw [HL.out] at this; omega
    go_wp2
    go_ret
    exact ⟨false, rfl, ⟨(fun h => by cases h), fun h => absurd h HNo.out⟩, HB1.out⟩
  · have q1 : decide ((n : Int) > (mo : Int)) = false := decide_eq_false (by omega)
    have q2 : decide (mo < n) = false := decide_eq_false hbig
    have HLe : Hid (l.length ≤ mo) := Lib.hid (by rw [HL.out]; omega)
    go_wp2
    clear c0
    go_loopw [7] (fun iv wr => ∃ k : Nat, k ≤ n ∧ iv = .int .i64 (k : Int) ∧ Hid (∀ j, ∀ h : j < l.length, j < k → gdI l[j] last = true ∧ (1 ≤ j → aheadI (l[j - 1]'(by omega)) l[j] = true)) ∧ Hid (Below g0 w wr)) (fun iv _ => n - (intOf iv).toNat)
    case atStart => exact ⟨0, Nat.zero_le _, rfl, Lib.hid (fun j _ h => absurd h (Nat.not_lt_zero j)), HB1⟩
    case round =>
      obtain ⟨k, hk, rfl, hso, hb⟩ := hrel
      have hz3 : g0 ≤ wr.heap.size := by have := hb.out.size; have := HG0.out; omega
      by_cases hlt : k < n
      · have hkl : k < l.length := by rw [HL.out]; exact hlt
        obtain ⟨b, off, rfl, hbl, hit⟩ := (HS.out.below (w' := wr) (by rw [HG0.out]; exact hb.out)).at_ hlt hkl
        have hxi := HIn.out l[k] (List.getElem_mem _)
        have hbad : gdI l[k] last = false → ¬ ImLoad mo l last := fun h hL => by
          rw [gdI_iff.2 (hL.2.2 _ (List.getElem_mem hkl))] at h
          cases h
        have hnext : gdI l[k] last = true → (1 ≤ k → aheadI (l[k - 1]'(by omega)) l[k] = true) → ∀ j, ∀ h : j < l.length, j < k + 1 → gdI l[j] last = true ∧ (1 ≤ j → aheadI (l[j - 1]'(by omega)) l[j] = true) := fun h1 h2 j hj hjk => by
          by_cases e : j < k
          · exact hso.out j hj e
          · obtain rfl : j = k := by omega
            exact ⟨h1, h2⟩
        have hwrong : ∀ h1 : 1 ≤ k, aheadI (l[k - 1]'(by omega)) l[k] = false → ¬ ImLoad mo l last := fun h1 h hL => by
          rw [hL.2.1 k h1 hkl] at h
          cases h
        obtain ⟨x, hx⟩ : ∃ x, l[k] = x := ⟨_, rfl⟩
        rw [hx] at hit hxi hbad hnext hwrong
        obtain ⟨e0, e1, e2, e3, e4⟩ := ir_cells hit
        obtain ⟨X, hX⟩ : ∃ X, wr.heap.size = X := ⟨_, rfl⟩
        obtain ⟨W1, hW1⟩ : ∃ W1, wr.alloc (.cells #[.string x.src, .string x.dst, .bool x.allow, .int .u64 (x.made : Int), .int .u64 (x.ix : Int)] TIn) = W1 := ⟨_, rfl⟩
        have hk1 : W1.heap[X]? = some (.cells #[.string x.src, .string x.dst, .bool x.allow, .int .u64 (x.made : Int), .int .u64 (x.ix : Int)] TIn (0, 0)) := by rw [← hW1, ← hX]; exact heap_alloc_new wr _
        have hbw : Below g0 w W1 := by rw [← hW1]; exact hb.out.alloc hz3 _
        have hz1 : g0 ≤ W1.heap.size := by have := hbw.size; have := HG0.out; omega
        have HSk := Lib.hid (HS.out.below (w' := W1) (by rw [HG0.out]; exact hbw))
        obtain ⟨x0, x1, x2, x3, x4⟩ := ir_blk hk1
        have qx0 := cell_regrown x0
        have qx1 := cell_regrown x1
        have qx2 := cell_regrown x2
        have qx3 := cell_regrown x3
        have qx4 := cell_regrown x4
        have hs : x.src.size ≤ maxLen := hxi.src
        have hd : x.dst.size ≤ maxLen := hxi.dst
        have HPt : Hid (∀ (s : ByteArray), s.size ≤ maxLen → ∀ d os, Calls Try.prog 52 #[.string s] (grow (redrawn W1 d) os) fun e w2 => e = .returned (.bool (patternB s.data.toList)) ∧ ∃ p : Regrown, w2 = grow (redrawn W1 p.d) p.os) := Lib.hid fun s h d os => (rpattern_any s _ h).mono fun e w2 ⟨h1, h2⟩ => ⟨h1, ⟨d, os⟩, h2.symm⟩
        have HW1 := Lib.hid hW1
        have HX := Lib.hid hX
        have HBw := Lib.hid hbw
        have HBad := Lib.hid hbad
        have HNxt := Lib.hid hnext
        have HWr := Lib.hid hwrong
        have HXl := Lib.hid hx
        have g0' : (0 : Int) ≤ (k : Int) := by omega
        have g1' : (k : Int) < (n : Int) := by omega
        clear hx hit hX hW1 hk1 hbw hbad hnext hwrong hxi x0 x1 x2 x3 x4
        cases h1 : patternB x.src.data.toList with
        | false =>
          have HNo := Lib.hid (HBad.out (by unfold gdI; rw [h1]; rfl))
          clear HBad HNxt HWr
          go_wp2_with fail
          rw [HW1.out, HX.out]
          refine wp_region_quiet_below (by kernel_rfl) (by kernel_rfl) ?_
          repeat (go_big_quiet_step (first | exact HPt.out _ (by assumption) _ _))
          refine wpQuiet_nil ?_
          rintro _ ⟨⟨dq, osq⟩, rfl⟩
          have HB3 : Hid (Below g0 w (grow (redrawn W1 dq) osq)) := Lib.hid (HBw.out.trans ((below_regrown W1 dq osq).mono hz1))
          go_wp2
          go_ret
          exact ⟨false, rfl, ⟨(fun h => by cases h), fun h => absurd h HNo.out⟩, HB3.out⟩
        | true =>
          cases h2 : patternB x.dst.data.toList with
          | false =>
            have HNo := Lib.hid (HBad.out (by unfold gdI; rw [h1, h2]; rfl))
            clear HBad HNxt HWr
            go_wp2_with fail
            rw [HW1.out, HX.out]
            refine wp_region_quiet_below (by kernel_rfl) (by kernel_rfl) ?_
            repeat (go_big_quiet_step (first | exact HPt.out _ (by assumption) _ _))
            refine wpQuiet_nil ?_
            rintro _ ⟨⟨dq, osq⟩, rfl⟩
            have HB3 : Hid (Below g0 w (grow (redrawn W1 dq) osq)) := Lib.hid (HBw.out.trans ((below_regrown W1 dq osq).mono hz1))
            go_wp2
            go_ret
            exact ⟨false, rfl, ⟨(fun h => by cases h), fun h => absurd h HNo.out⟩, HB3.out⟩
          | true =>
            by_cases h3 : x.made ≤ x.ix
            · have r1 : decide ((x.made : Int) > (x.ix : Int)) = false := decide_eq_false (by omega)
              have r2 : decide (x.ix < x.made) = false := decide_eq_false (by omega)
              by_cases h4 : x.ix ≤ last
              · have r3 : decide ((x.ix : Int) > (last : Int)) = false := decide_eq_false (by omega)
                have r4 : decide (last < x.ix) = false := decide_eq_false (by omega)
                have hgd : gdI x last = true := by unfold gdI; rw [h1, h2, decide_eq_true h3, decide_eq_true h4]; rfl
                by_cases h5 : k = 0
                · have r5 : decide ((k : Int) > 0) = false := decide_eq_false (by omega)
                  have r6 : decide (0 < k) = false := decide_eq_false (by omega)
                  have HNext := Lib.hid (HNxt.out hgd (fun h => absurd h (by omega)))
                  clear HBad HNxt HWr hgd h5
                  go_wp2_with fail
                  rw [HW1.out, HX.out]
                  refine wp_region_quiet_below (by kernel_rfl) (by kernel_rfl) ?_
                  repeat (go_big_quiet_step (first | exact HPt.out _ (by assumption) _ _))
                  refine wpQuiet_nil ?_
                  rintro _ ⟨⟨dq, osq⟩, rfl⟩
                  have HB3 : Hid (Below g0 w (grow (redrawn W1 dq) osq)) := Lib.hid (HBw.out.trans ((below_regrown W1 dq osq).mono hz1))
                  go_wp2
                  go_roundw
                  case rel => exact ⟨_, by omega, by go_num, HNext, HB3⟩
                  case measure => simp [intOf]; omega
                · obtain ⟨j, rfl⟩ : ∃ j, k = j + 1 := ⟨k - 1, by omega⟩
                  have hjl : j < l.length := by omega
                  have hjn : j < n := by omega
                  have hw := HWr.out (by omega)
                  have hnx := HNxt.out hgd
                  simp only [Nat.add_sub_cancel] at hw hnx
                  obtain ⟨b', off', hbe, _, hit⟩ := HSk.out.at_ hjn hjl
                  cases hbe
                  obtain ⟨y, hy⟩ : ∃ y, l[j] = y := ⟨_, rfl⟩
                  rw [hy] at hit hw hnx
                  obtain ⟨y0, y1, y2, y3, y4⟩ := ir_cells hit
                  have qy0 := cell_regrown y0
                  have qy1 := cell_regrown y1
                  have qy2 := cell_regrown y2
                  have qy3 := cell_regrown y3
                  have qy4 := cell_regrown y4
                  obtain ⟨u, hu⟩ : ∃ u, aheadI y x = u := ⟨_, rfl⟩
                  have HAh : Hid (∀ d os, Calls Try.prog 53 #[.agg #[.string y.src, .string y.dst, .bool y.allow, .int .u64 (y.made : Int), .int .u64 (y.ix : Int)], .agg #[.string x.src, .string x.dst, .bool x.allow, .int .u64 (x.made : Int), .int .u64 (x.ix : Int)]] (grow (redrawn W1 d) os) fun e w2 => e = .returned (.bool u) ∧ ∃ p : Regrown, w2 = grow (redrawn W1 p.d) p.os) := Lib.hid fun d os => Calls.regrown_of (by rw [← hu]; exact rahead_any y x _)
                  have r5 : decide (((j + 1 : Nat) : Int) > 0) = true := decide_eq_true (by omega)
                  have r6 : ((j + 1 : Nat) : Int) - 1 = (j : Int) := by omega
                  have g2 : (0 : Int) ≤ (j : Int) := by omega
                  have g3 : (j : Int) < (n : Int) := by omega
                  rw [hu] at hw hnx
                  have HW9 := Lib.hid hw
                  have HN9 := Lib.hid hnx
                  clear HBad HNxt HWr hgd hw hnx hit hy hu y0 y1 y2 y3 y4 h5
                  cases u with
                  | false =>
                    have HNo := Lib.hid (HW9.out rfl)
                    clear HW9 HN9
                    go_wp2_with fail
                    rw [HW1.out, HX.out]
                    refine wp_region_quiet_below (by kernel_rfl) (by kernel_rfl) ?_
                    repeat (go_big_quiet_step (first | exact HPt.out _ (by assumption) _ _ | exact HAh.out _ _))
                    refine wpQuiet_nil ?_
                    rintro _ ⟨⟨dq, osq⟩, rfl⟩
                    have HB3 : Hid (Below g0 w (grow (redrawn W1 dq) osq)) := Lib.hid (HBw.out.trans ((below_regrown W1 dq osq).mono hz1))
                    go_wp2
                    go_ret
                    exact ⟨false, rfl, ⟨(fun h => by cases h), fun h => absurd h HNo.out⟩, HB3.out⟩
                  | true =>
                    have HNext := Lib.hid (HN9.out fun _ => rfl)
                    clear HW9 HN9
                    go_wp2_with fail
                    rw [HW1.out, HX.out]
                    refine wp_region_quiet_below (by kernel_rfl) (by kernel_rfl) ?_
                    repeat (go_big_quiet_step (first | exact HPt.out _ (by assumption) _ _ | exact HAh.out _ _))
                    refine wpQuiet_nil ?_
                    rintro _ ⟨⟨dq, osq⟩, rfl⟩
                    have HB3 : Hid (Below g0 w (grow (redrawn W1 dq) osq)) := Lib.hid (HBw.out.trans ((below_regrown W1 dq osq).mono hz1))
                    go_wp2
                    go_roundw
                    case rel => exact ⟨_, by omega, by go_num, HNext, HB3⟩
                    case measure => simp [intOf]; omega
              · have r3 : decide ((x.ix : Int) > (last : Int)) = true := decide_eq_true (by omega)
                have r4 : decide (last < x.ix) = true := decide_eq_true (by omega)
                have HNo := Lib.hid (HBad.out (by unfold gdI; rw [h1, h2, decide_eq_true h3, decide_eq_false h4]; rfl))
                clear HBad HNxt HWr
                go_wp2_with fail
                rw [HW1.out, HX.out]
                refine wp_region_quiet_below (by kernel_rfl) (by kernel_rfl) ?_
                repeat (go_big_quiet_step (first | exact HPt.out _ (by assumption) _ _))
                refine wpQuiet_nil ?_
                rintro _ ⟨⟨dq, osq⟩, rfl⟩
                have HB3 : Hid (Below g0 w (grow (redrawn W1 dq) osq)) := Lib.hid (HBw.out.trans ((below_regrown W1 dq osq).mono hz1))
                go_wp2
                go_ret
                exact ⟨false, rfl, ⟨(fun h => by cases h), fun h => absurd h HNo.out⟩, HB3.out⟩
            · have r1 : decide ((x.made : Int) > (x.ix : Int)) = true := decide_eq_true (by omega)
              have r2 : decide (x.ix < x.made) = true := decide_eq_true (by omega)
              have HNo := Lib.hid (HBad.out (by unfold gdI; rw [h1, h2, decide_eq_false h3]; rfl))
              clear HBad HNxt HWr
              go_wp2_with fail
              rw [HW1.out, HX.out]
              refine wp_region_quiet_below (by kernel_rfl) (by kernel_rfl) ?_
              repeat (go_big_quiet_step (first | exact HPt.out _ (by assumption) _ _))
              refine wpQuiet_nil ?_
              rintro _ ⟨⟨dq, osq⟩, rfl⟩
              have HB3 : Hid (Below g0 w (grow (redrawn W1 dq) osq)) := Lib.hid (HBw.out.trans ((below_regrown W1 dq osq).mono hz1))
              go_wp2
              go_ret
              exact ⟨false, rfl, ⟨(fun h => by cases h), fun h => absurd h HNo.out⟩, HB3.out⟩
      · have q9 : ¬ (k : Int) < (n : Int) := by omega
        have HYes : Hid (ImLoad mo l last) := Lib.hid (by
          have hL := HL.out
          show l.length ≤ mo ∧ _ ∧ _
          refine ⟨HLe.out, fun j h1 h => (hso.out j h (by omega)).2 h1, fun x hx => ?_⟩
          obtain ⟨j, hj, rfl⟩ := List.getElem_of_mem hx
          exact gdI_iff.1 (hso.out j hj (by omega)).1)
        go_wp2
        go_ret
        first
          | exact .inr ⟨rfl, HYes.out, hb.out⟩
          | exact ⟨true, rfl, ⟨fun _ => HYes.out, fun _ => rfl⟩, hb.out⟩
end Go.Proofs.Ytmegfkclpjddgaa
