/-
  The document's May: which sessions may be loaded, walked (layer 18).
-/
import Derived.Test.YtnobpbbedclbkaaZj30
namespace Go.Proofs.Ytnobpbbedclbkaa
open Go.RowKit
set_option linter.unusedSimpArgs false
set_option linter.unusedVariables false

theorem node_iff {n : Int} : nodeB n = true ↔ 0 ≤ n ∧ n ≤ 7 := by
  unfold nodeB
  rw [Bool.and_eq_true, decide_eq_true_eq, decide_eq_true_eq]
set_option maxHeartbeats 8000000 in
set_option maxRecDepth 100000 in
theorem rsmay_any (m : Int) (hm : -9223372036854775808 ≤ m ∧ m ≤ 9223372036854775807) (A : Option Addr) (n c : Nat) (l : List Sn) (last : Nat) (w : World) (hS : SK snC 4 w A n l) (hn : n ≤ maxLen) :
    Calls Try.prog 24 #[.int .i64 m, .slice A n c, .int .u64 (last : Int)] w fun e w' => ∃ b, e = .returned (.bool b) ∧ (b = true ↔ SmLoad (mostT m) l last) ∧ Below w.heap.size w w' := by
  unfold maxLen at hn
  have hn' : n ≤ 9223372036854775807 := by omega
  obtain ⟨g0, hg0⟩ : ∃ g0, w.heap.size = g0 := ⟨_, rfl⟩
  obtain ⟨mo, hmo⟩ : ∃ mo, mostT m = mo := ⟨_, rfl⟩
  have HN := Lib.hid (rsnew_any m w hm)
  rw [hg0, hmo] at HN
  rw [hg0, hmo]
  have HG0 := Lib.hid hg0
  have HS := Lib.hid hS
  have HL := Lib.hid hS.1
  clear hm hS hn hg0 hmo
  go_enter Try.func24, Try.ntmps24
  go_wp2_with fail
  refine HN.out.mono ?_
  rintro e w1 ⟨rfl, hp, hb1⟩
  obtain ⟨_, A9, c9, hri, _⟩ := hp
  have c0 := hri.c0
  have HB1 := Lib.hid hb1
  clear HN hri hb1
  by_cases hbig : mo < n
  · have q1 : decide ((n : Int) > (mo : Int)) = true := decide_eq_true (by omega)
    have q2 : decide (mo < n) = true := decide_eq_true hbig
    have HNo : Hid (¬ SmLoad mo l last) := Lib.hid fun h => by have := h.1; rw [HL.out] at this; omega
    go_wp2
    go_ret
    exact ⟨false, rfl, ⟨(fun h => by cases h), fun h => absurd h HNo.out⟩, HB1.out⟩
  · have q1 : decide ((n : Int) > (mo : Int)) = false := decide_eq_false (by omega)
    have q2 : decide (mo < n) = false := decide_eq_false hbig
    have HLe : Hid (l.length ≤ mo) := Lib.hid (by rw [HL.out]; omega)
    go_wp2
    clear c0
    go_loopw [7] (fun iv wr => ∃ k : Nat, k ≤ n ∧ iv = .int .i64 (k : Int) ∧ Hid (∀ j, ∀ h : j < l.length, j < k → gdS l[j] last = true ∧ (1 ≤ j → (l[j - 1]'(by omega)).id < l[j].id)) ∧ Hid (Below g0 w wr)) (fun iv _ => n - (intOf iv).toNat)
    case atStart => exact ⟨0, Nat.zero_le _, rfl, Lib.hid (fun j _ h => absurd h (Nat.not_lt_zero j)), HB1⟩
    case round =>
      obtain ⟨k, hk, rfl, hso, hb⟩ := hrel
      have hz3 : g0 ≤ wr.heap.size := by have := hb.out.size; have := HG0.out; omega
      by_cases hlt : k < n
      · have hkl : k < l.length := by rw [HL.out]; exact hlt
        obtain ⟨b, off, rfl, hbl, hit⟩ := (HS.out.below (w' := wr) (by rw [HG0.out]; exact hb.out)).at_ hlt hkl
        have hbad : gdS l[k] last ≠ true → ¬ SmLoad mo l last := fun h hL => h (hL.2.2 _ (List.getElem_mem hkl))
        have hnext : gdS l[k] last = true → (1 ≤ k → (l[k - 1]'(by omega)).id < l[k].id) → ∀ j, ∀ h : j < l.length, j < k + 1 → gdS l[j] last = true ∧ (1 ≤ j → (l[j - 1]'(by omega)).id < l[j].id) := fun h1 h2 j hj hjk => by
          by_cases e : j < k
          · exact hso.out j hj e
          · obtain rfl : j = k := by omega
            exact ⟨h1, h2⟩
        have hwrong : ∀ h1 : 1 ≤ k, ¬ (l[k - 1]'(by omega)).id < l[k].id → ¬ SmLoad mo l last := fun h1 h hL => h (hL.2.1 k h1 hkl)
        obtain ⟨x, hx⟩ : ∃ x, l[k] = x := ⟨_, rfl⟩
        rw [hx] at hit hbad hnext hwrong
        obtain ⟨e0, e1, e2, e3⟩ := sn_cells hit
        obtain ⟨X, hX⟩ : ∃ X, wr.heap.size = X := ⟨_, rfl⟩
        obtain ⟨W1, hW1⟩ : ∃ W1, wr.alloc (.cells #[.int .u64 (x.id : Int), .int .i64 x.node, .int .u64 (x.made : Int), .int .u64 (x.ix : Int)] TSn) = W1 := ⟨_, rfl⟩
        have hk1 : W1.heap[X]? = some (.cells #[.int .u64 (x.id : Int), .int .i64 x.node, .int .u64 (x.made : Int), .int .u64 (x.ix : Int)] TSn (0, 0)) := by rw [← hW1, ← hX]; exact heap_alloc_new wr _
        have hbw : Below g0 w W1 := by rw [← hW1]; exact hb.out.alloc hz3 _
        have HSk := Lib.hid (HS.out.below (w' := W1) (by rw [HG0.out]; exact hbw))
        obtain ⟨x0, x1, x2, x3⟩ := sn_blk hk1
        have HW1 := Lib.hid hW1
        have HX := Lib.hid hX
        have HBw := Lib.hid hbw
        have HBad := Lib.hid hbad
        have HNxt := Lib.hid hnext
        have HWr := Lib.hid hwrong
        have g0' : (0 : Int) ≤ (k : Int) := by omega
        have g1' : (k : Int) < (n : Int) := by omega
        clear hx hit hX hW1 hk1 hbw hbad hnext hwrong
        by_cases hid : x.id = 0
        · have HNo : Hid (¬ SmLoad mo l last) := Lib.hid (HBad.out fun e => (gdS_iff.1 e).1 hid)
          have f0 : ((x.id : Int) == 0) = true := by rw [hid]; rfl
          clear HBad HNxt HWr hid
          go_wp2_with fail
          rw [HW1.out, HX.out]
          go_quiet (fail)
          have HB3 : Hid (Below g0 w (W1.drewN nq)) := Lib.hid (below_drewN HBw.out nq)
          go_wp2
          go_ret
          exact ⟨false, rfl, ⟨(fun h => by cases h), fun h => absurd h HNo.out⟩, HB3.out⟩
        · have r0 : ((x.id : Int) == 0) = false := by rw [beq_eq_false_iff_ne]; omega
          by_cases h5 : k = 0
          · have r5 : decide ((k : Int) > 0) = false := decide_eq_false (by omega)
            have r6 : decide (0 < k) = false := decide_eq_false (by omega)
            have HK0 := Lib.hid h5
            clear h5
            by_cases hc : x.node < 0
            · have f0 : decide (x.node < 0) = true := decide_eq_true hc
              have HNo : Hid (¬ SmLoad mo l last) := Lib.hid (HBad.out (fun e => by have := gdS_iff.1 e; have hn := node_iff.1 this.2.1; omega))
              clear HBad HNxt HWr hc
              go_wp2_with fail
              rw [HW1.out, HX.out]
              go_quiet (fail)
              have HB3 : Hid (Below g0 w (W1.drewN nq)) := Lib.hid (below_drewN HBw.out nq)
              go_wp2
              go_ret
              exact ⟨false, rfl, ⟨(fun h => by cases h), fun h => absurd h HNo.out⟩, HB3.out⟩
            · have pnodeB12 : decide (x.node < 0) = false := decide_eq_false hc
              have knodeB12 := hc
              clear hc
              by_cases hc : x.node > 7
              · have f0 : decide (x.node > 7) = true := decide_eq_true hc
                have HNo : Hid (¬ SmLoad mo l last) := Lib.hid (HBad.out (fun e => by have := gdS_iff.1 e; have hn := node_iff.1 this.2.1; omega))
                clear HBad HNxt HWr hc
                go_wp2_with fail
                rw [HW1.out, HX.out]
                go_quiet (fail)
                have HB3 : Hid (Below g0 w (W1.drewN nq)) := Lib.hid (below_drewN HBw.out nq)
                go_wp2
                go_ret
                exact ⟨false, rfl, ⟨(fun h => by cases h), fun h => absurd h HNo.out⟩, HB3.out⟩
              · have pnodeB14 : decide (x.node > 7) = false := decide_eq_false hc
                have knodeB14 := hc
                clear hc
                by_cases hc : x.made ≠ x.id
                · have f0 : ((x.made : Int) != (x.id : Int)) = true := by rw [bne_iff_ne]; omega
                  have HNo : Hid (¬ SmLoad mo l last) := Lib.hid (HBad.out (fun e => by have := gdS_iff.1 e; have hn := node_iff.1 this.2.1; omega))
                  clear HBad HNxt HWr hc
                  go_wp2_with fail
                  rw [HW1.out, HX.out]
                  go_quiet (fail)
                  have HB3 : Hid (Below g0 w (W1.drewN nq)) := Lib.hid (below_drewN HBw.out nq)
                  go_wp2
                  go_ret
                  exact ⟨false, rfl, ⟨(fun h => by cases h), fun h => absurd h HNo.out⟩, HB3.out⟩
                · have pmade16 : ((x.made : Int) != (x.id : Int)) = false := by rw [bne_eq_false_iff_eq]; omega
                  have kmade16 := hc
                  clear hc
                  by_cases hc : x.ix ≠ x.id
                  · have f0 : ((x.ix : Int) != (x.id : Int)) = true := by rw [bne_iff_ne]; omega
                    have HNo : Hid (¬ SmLoad mo l last) := Lib.hid (HBad.out (fun e => by have := gdS_iff.1 e; have hn := node_iff.1 this.2.1; omega))
                    clear HBad HNxt HWr hc
                    go_wp2_with fail
                    rw [HW1.out, HX.out]
                    go_quiet (fail)
                    have HB3 : Hid (Below g0 w (W1.drewN nq)) := Lib.hid (below_drewN HBw.out nq)
                    go_wp2
                    go_ret
                    exact ⟨false, rfl, ⟨(fun h => by cases h), fun h => absurd h HNo.out⟩, HB3.out⟩
                  · have pix18 : ((x.ix : Int) != (x.id : Int)) = false := by rw [bne_eq_false_iff_eq]; omega
                    have kix18 := hc
                    clear hc
                    by_cases hc : last < x.id
                    · have f0 : decide ((x.id : Int) > (last : Int)) = true := decide_eq_true (by omega)
                      have f1 : decide (last < x.id) = true := decide_eq_true hc
                      have HNo : Hid (¬ SmLoad mo l last) := Lib.hid (HBad.out (fun e => by have := gdS_iff.1 e; have hn := node_iff.1 this.2.1; omega))
                      clear HBad HNxt HWr hc
                      go_wp2_with fail
                      rw [HW1.out, HX.out]
                      go_quiet (fail)
                      have HB3 : Hid (Below g0 w (W1.drewN nq)) := Lib.hid (below_drewN HBw.out nq)
                      go_wp2
                      go_ret
                      exact ⟨false, rfl, ⟨(fun h => by cases h), fun h => absurd h HNo.out⟩, HB3.out⟩
                    · have plast20 : decide ((x.id : Int) > (last : Int)) = false := decide_eq_false (by omega)
                      have plast200 : decide (last < x.id) = false := decide_eq_false hc
                      have klast20 := hc
                      clear hc
                      have hgd : gdS x last = true := gdS_iff.2 ⟨hid, node_iff.2 ⟨by omega, by omega⟩, by omega, by omega, by omega⟩
                      have HNext := Lib.hid (HNxt.out hgd (fun h => absurd h (by have := HK0.out; omega)))
                      clear HBad HNxt HWr hgd knodeB12 knodeB14 kmade16 kix18 klast20
                      go_wp2_with fail
                      rw [HW1.out, HX.out]
                      go_quiet (fail)
                      have HB3 : Hid (Below g0 w (W1.drewN nq)) := Lib.hid (below_drewN HBw.out nq)
                      go_wp2
                      go_roundw
                      case rel => exact ⟨_, by omega, by go_num, HNext, HB3⟩
                      case measure => simp [intOf]; omega
          · obtain ⟨j, rfl⟩ : ∃ j, k = j + 1 := ⟨k - 1, by omega⟩
            have hjl : j < l.length := by omega
            have hjn : j < n := by omega
            have hw := HWr.out (by omega)
            have hnx := HNxt.out
            simp only [Nat.add_sub_cancel] at hw hnx
            obtain ⟨b', off', hbe, _, hit⟩ := HSk.out.at_ hjn hjl
            cases hbe
            obtain ⟨y, hy⟩ : ∃ y, l[j] = y := ⟨_, rfl⟩
            rw [hy] at hit hw hnx
            obtain ⟨y0, y1, y2, y3⟩ := sn_cells hit
            have r5 : decide (((j + 1 : Nat) : Int) > 0) = true := decide_eq_true (by omega)
            have r6 : ((j + 1 : Nat) : Int) - 1 = (j : Int) := by omega
            have g2 : (0 : Int) ≤ (j : Int) := by omega
            have g3 : (j : Int) < (n : Int) := by omega
            have HW9 := Lib.hid hw
            have HN9 := Lib.hid hnx
            clear HNxt HWr hw hnx hit hy h5
            have HNxt := HN9
            have HWr := HW9
            by_cases hlo : x.id ≤ y.id
            · have f1 : decide ((x.id : Int) ≤ (y.id : Int)) = true := decide_eq_true (by omega)
              have f2 : decide (x.id ≤ y.id) = true := decide_eq_true hlo
              have HNo : Hid (¬ SmLoad mo l last) := Lib.hid (HWr.out (by omega))
              clear HBad HNxt HWr HW9 HN9 hlo
              go_wp2_with fail
              rw [HW1.out, HX.out]
              go_quiet (fail)
              have HB3 : Hid (Below g0 w (W1.drewN nq)) := Lib.hid (below_drewN HBw.out nq)
              go_wp2
              go_ret
              exact ⟨false, rfl, ⟨(fun h => by cases h), fun h => absurd h HNo.out⟩, HB3.out⟩
            · have f1 : decide ((x.id : Int) ≤ (y.id : Int)) = false := decide_eq_false (by omega)
              have f2 : decide (x.id ≤ y.id) = false := decide_eq_false hlo
              have ho : 1 ≤ j + 1 → y.id < x.id := fun _ => by omega
              have HO := Lib.hid ho
              clear hlo ho HW9 HN9
              by_cases hc : x.node < 0
              · have f0 : decide (x.node < 0) = true := decide_eq_true hc
                have HNo : Hid (¬ SmLoad mo l last) := Lib.hid (HBad.out (fun e => by have := gdS_iff.1 e; have hn := node_iff.1 this.2.1; omega))
                clear HBad HNxt HWr hc
                go_wp2_with fail
                rw [HW1.out, HX.out]
                go_quiet (fail)
                have HB3 : Hid (Below g0 w (W1.drewN nq)) := Lib.hid (below_drewN HBw.out nq)
                go_wp2
                go_ret
                exact ⟨false, rfl, ⟨(fun h => by cases h), fun h => absurd h HNo.out⟩, HB3.out⟩
              · have pnodeB14 : decide (x.node < 0) = false := decide_eq_false hc
                have knodeB14 := hc
                clear hc
                by_cases hc : x.node > 7
                · have f0 : decide (x.node > 7) = true := decide_eq_true hc
                  have HNo : Hid (¬ SmLoad mo l last) := Lib.hid (HBad.out (fun e => by have := gdS_iff.1 e; have hn := node_iff.1 this.2.1; omega))
                  clear HBad HNxt HWr hc
                  go_wp2_with fail
                  rw [HW1.out, HX.out]
                  go_quiet (fail)
                  have HB3 : Hid (Below g0 w (W1.drewN nq)) := Lib.hid (below_drewN HBw.out nq)
                  go_wp2
                  go_ret
                  exact ⟨false, rfl, ⟨(fun h => by cases h), fun h => absurd h HNo.out⟩, HB3.out⟩
                · have pnodeB16 : decide (x.node > 7) = false := decide_eq_false hc
                  have knodeB16 := hc
                  clear hc
                  by_cases hc : x.made ≠ x.id
                  · have f0 : ((x.made : Int) != (x.id : Int)) = true := by rw [bne_iff_ne]; omega
                    have HNo : Hid (¬ SmLoad mo l last) := Lib.hid (HBad.out (fun e => by have := gdS_iff.1 e; have hn := node_iff.1 this.2.1; omega))
                    clear HBad HNxt HWr hc
                    go_wp2_with fail
                    rw [HW1.out, HX.out]
                    go_quiet (fail)
                    have HB3 : Hid (Below g0 w (W1.drewN nq)) := Lib.hid (below_drewN HBw.out nq)
                    go_wp2
                    go_ret
                    exact ⟨false, rfl, ⟨(fun h => by cases h), fun h => absurd h HNo.out⟩, HB3.out⟩
                  · have pmade18 : ((x.made : Int) != (x.id : Int)) = false := by rw [bne_eq_false_iff_eq]; omega
                    have kmade18 := hc
                    clear hc
                    by_cases hc : x.ix ≠ x.id
                    · have f0 : ((x.ix : Int) != (x.id : Int)) = true := by rw [bne_iff_ne]; omega
                      have HNo : Hid (¬ SmLoad mo l last) := Lib.hid (HBad.out (fun e => by have := gdS_iff.1 e; have hn := node_iff.1 this.2.1; omega))
                      clear HBad HNxt HWr hc
                      go_wp2_with fail
                      rw [HW1.out, HX.out]
                      go_quiet (fail)
                      have HB3 : Hid (Below g0 w (W1.drewN nq)) := Lib.hid (below_drewN HBw.out nq)
                      go_wp2
                      go_ret
                      exact ⟨false, rfl, ⟨(fun h => by cases h), fun h => absurd h HNo.out⟩, HB3.out⟩
                    · have pix20 : ((x.ix : Int) != (x.id : Int)) = false := by rw [bne_eq_false_iff_eq]; omega
                      have kix20 := hc
                      clear hc
                      by_cases hc : last < x.id
                      · have f0 : decide ((x.id : Int) > (last : Int)) = true := decide_eq_true (by omega)
                        have f1 : decide (last < x.id) = true := decide_eq_true hc
                        have HNo : Hid (¬ SmLoad mo l last) := Lib.hid (HBad.out (fun e => by have := gdS_iff.1 e; have hn := node_iff.1 this.2.1; omega))
                        clear HBad HNxt HWr hc
                        go_wp2_with fail
                        rw [HW1.out, HX.out]
                        go_quiet (fail)
                        have HB3 : Hid (Below g0 w (W1.drewN nq)) := Lib.hid (below_drewN HBw.out nq)
                        go_wp2
                        go_ret
                        exact ⟨false, rfl, ⟨(fun h => by cases h), fun h => absurd h HNo.out⟩, HB3.out⟩
                      · have plast22 : decide ((x.id : Int) > (last : Int)) = false := decide_eq_false (by omega)
                        have plast220 : decide (last < x.id) = false := decide_eq_false hc
                        have klast22 := hc
                        clear hc
                        have hgd : gdS x last = true := gdS_iff.2 ⟨hid, node_iff.2 ⟨by omega, by omega⟩, by omega, by omega, by omega⟩
                        have HNext := Lib.hid (HNxt.out hgd HO.out)
                        clear HBad HNxt HWr hgd knodeB14 knodeB16 kmade18 kix20 klast22
                        go_wp2_with fail
                        rw [HW1.out, HX.out]
                        go_quiet (fail)
                        have HB3 : Hid (Below g0 w (W1.drewN nq)) := Lib.hid (below_drewN HBw.out nq)
                        go_wp2
                        go_roundw
                        case rel => exact ⟨_, by omega, by go_num, HNext, HB3⟩
                        case measure => simp [intOf]; omega
      · have q9 : ¬ (k : Int) < (n : Int) := by omega
        have HYes : Hid (SmLoad mo l last) := Lib.hid (by
          have hL := HL.out
          show l.length ≤ mo ∧ _ ∧ _
          refine ⟨HLe.out, fun j h1 h => (hso.out j h (by omega)).2 h1, fun x hx => ?_⟩
          obtain ⟨j, hj, rfl⟩ := List.getElem_of_mem hx
          exact (hso.out j hj (by omega)).1)
        go_wp2
        go_ret
        first
          | exact .inr ⟨rfl, HYes.out, hb.out⟩
          | exact ⟨true, rfl, ⟨fun _ => HYes.out, fun _ => rfl⟩, hb.out⟩
end Go.Proofs.Ytnobpbbedclbkaa
