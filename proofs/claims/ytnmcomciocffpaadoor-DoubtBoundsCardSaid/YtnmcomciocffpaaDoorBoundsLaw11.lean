/-
  It lasts at least the least, and at most the most; with nobody the most, with all the least; with one more not longer: the law sodalitylaw11.DoubtBounds, walked.
-/
import Derived.Test.YtnmcomciocffpaaDoorDbStep
namespace Go.Proofs.YtnmcomciocffpaaDoor
open Go.RowKit
set_option linter.unusedSimpArgs false
set_option linter.unusedVariables false

abbrev Drawn (W w : World) : Prop := ∃ m, w = W.drewN m
theorem drawn_next {W w w' : World} (h : Drawn W w) (k : ∃ m, w' = w.drewN m) : Drawn W w' := by
  obtain ⟨a, rfl⟩ := h
  obtain ⟨b, rfl⟩ := k
  exact ⟨a + b, World.drewN_drewN _ _ _⟩
set_option maxHeartbeats 16000000 in
theorem bounds_no (p : Pln) (hv : Int) (w : World) (hs : ScIs w) (hok : waitOk p.least p.most p.want = false) :
    Calls Tryd.prog 5 #[.agg #[.int .i64 p.least, .int .i64 p.most, .int .i64 p.want, .int .i64 p.from_], .int .i64 hv] w fun e w' => e = .returned (.bool true) ∧ Below w.heap.size w w' := by
  obtain ⟨W0, hW0⟩ : ∃ W0, w.alloc (.cells #[.int .i64 p.least, .int .i64 p.most, .int .i64 p.want, .int .i64 p.from_] TP) = W0 := ⟨_, rfl⟩
  obtain ⟨b0, hb0⟩ : ∃ b0, w.heap.size = b0 := ⟨_, rfl⟩
  have hk : W0.heap[b0]? = some (.cells #[.int .i64 p.least, .int .i64 p.most, .int .i64 p.want, .int .i64 p.from_] TP (0, 0)) := by rw [← hW0, ← hb0]; exact heap_alloc_new w _
  have hb : Below w.heap.size w W0 := by rw [← hW0]; exact (Below.refl _ _).alloc (Nat.le_refl _) _
  have hsc := hs.below hb
  have HW := Lib.hid (wait_no p.least p.most p.want hv W0 hok)
  have HR := Lib.hid (rwait_no p.least p.most p.want hv W0 hok)
  have HWk := Lib.hid (works_any W0 hsc)
  obtain ⟨c0, c1, c2, c3⟩ := blk4 hk
  have HB := Lib.hid hb
  have HW0 := Lib.hid hW0
  have HB0 := Lib.hid hb0
  clear hk hb hW0 hb0 hs hsc hok
  go_enter Tryd.func5, Tryd.ntmps5
  go_wp2_with fail
  rw [HW0.out, HB0.out]
  go_wp2_with fail
  refine HW.out.mono ?_
  rintro e w' ⟨rfl, rfl⟩
  go_wp2_with fail
  refine HR.out.mono ?_
  rintro e w' ⟨rfl, rfl⟩
  go_wp2_with fail
  refine HWk.out.mono ?_
  rintro e w' ⟨rfl, m, rfl⟩
  go_wp2
  go_ret
  exact ⟨rfl, below_drewN HB.out _⟩
set_option maxHeartbeats 16000000 in
theorem bounds_yes (p : Pln) (hv : Int) (hh : -9223372036854775808 ≤ hv) (w : World) (hs : ScIs w) (hok : waitOk p.least p.most p.want = true) :
    Calls Tryd.prog 5 #[.agg #[.int .i64 p.least, .int .i64 p.most, .int .i64 p.want, .int .i64 p.from_], .int .i64 hv] w fun e w' => e = .returned (.bool true) ∧ Below w.heap.size w w' := by
  obtain ⟨W0, hW0⟩ : ∃ W0, w.alloc (.cells #[.int .i64 p.least, .int .i64 p.most, .int .i64 p.want, .int .i64 p.from_] TP) = W0 := ⟨_, rfl⟩
  obtain ⟨b0, hb0⟩ : ∃ b0, w.heap.size = b0 := ⟨_, rfl⟩
  have hk : W0.heap[b0]? = some (.cells #[.int .i64 p.least, .int .i64 p.most, .int .i64 p.want, .int .i64 p.from_] TP (0, 0)) := by rw [← hW0, ← hb0]; exact heap_alloc_new w _
  have hb : Below w.heap.size w W0 := by rw [← hW0]; exact (Below.refl _ _).alloc (Nat.le_refl _) _
  have HSc : Hid (∀ w', Drawn W0 w' → ScIs w') := Lib.hid (fun w' h => by
    obtain ⟨m, rfl⟩ := h
    exact (hs.below hb).below (below_drewN (Below.refl _ _) m))
  have HC : Hid (∀ w', Drawn W0 w' → w'.cell? ⟨b0, 0, none⟩ = some (.int .i64 p.least) ∧ w'.cell? ⟨b0, 1, none⟩ = some (.int .i64 p.most) ∧ w'.cell? ⟨b0, 2, none⟩ = some (.int .i64 p.want) ∧ w'.cell? ⟨b0, 3, none⟩ = some (.int .i64 p.from_)) := Lib.hid (fun w' h => by
    obtain ⟨m, rfl⟩ := h
    exact blk4 (W := W0.drewN m) hk)
  obtain ⟨h1, h2, h3, h4, h5⟩ := (waitOk_iff _ _ _).1 hok
  have hbd := waitD_bounds hok hv
  have hnx := waitD_next hok hv
  have hall := waitD_all hok
  have hno := fun q => waitD_none (least := p.least) (most := p.most) (want := p.want) hok q
  obtain ⟨n, hn⟩ : ∃ n, waitD p.least p.most p.want hv = n := ⟨_, rfl⟩
  obtain ⟨n1, hn1⟩ : ∃ n1, waitD p.least p.most p.want (hv + 1) = n1 := ⟨_, rfl⟩
  rw [hn] at hbd hnx
  rw [hn1] at hnx
  have HW0' : Hid (Calls Tryd.prog 7 #[.int .i64 p.least, .int .i64 p.most, .int .i64 p.want, .int .i64 hv] W0 (Quiet W0 (.int .i64 n))) := Lib.hid (by rw [← hn]; exact wait_any _ _ _ _ W0 (HSc.out W0 ⟨0, rfl⟩))
  have HNx : Hid (∀ w', Drawn W0 w' → Calls Tryd.prog 7 #[.int .i64 p.least, .int .i64 p.most, .int .i64 p.want, .int .i64 (hv + 1)] w' (Quiet w' (.int .i64 n1))) := Lib.hid (fun w' h => by rw [← hn1]; exact wait_any _ _ _ _ w' (HSc.out w' h))
  have HWa : Hid (∀ w', Drawn W0 w' → ∀ m, Calls Tryd.prog 7 #[.int .i64 p.least, .int .i64 p.most, .int .i64 p.want, .int .i64 p.want] (w'.drewN m) (Quiet (w'.drewN m) (.int .i64 p.least))) := Lib.hid (fun w' h m => by
    have := wait_any p.least p.most p.want p.want (w'.drewN m) (HSc.out _ (drawn_next h ⟨m, rfl⟩))
    rw [hall] at this
    exact this)
  have HWn : Hid (0 < p.want → ∀ w', Drawn W0 w' → ∀ m, Calls Tryd.prog 7 #[.int .i64 p.least, .int .i64 p.most, .int .i64 p.want, .int .i64 0] (w'.drewN m) (Quiet (w'.drewN m) (.int .i64 p.most))) := Lib.hid (fun q w' h m => by
    have := wait_any p.least p.most p.want 0 (w'.drewN m) (HSc.out _ (drawn_next h ⟨m, rfl⟩))
    rw [hno q] at this
    exact this)
  have HWk : Hid (∀ w', Drawn W0 w' → Calls Tryd.prog 9 #[] w' (Quiet w' (.bool true))) := Lib.hid (fun w' h => works_any w' (HSc.out w' h))
  obtain ⟨c0, c1, c2, c3⟩ := HC.out W0 ⟨0, rfl⟩
  have HB := Lib.hid hb
  have HW0 := Lib.hid hW0
  have HB0 := Lib.hid hb0
  have y0 : (n == 0) = false := by rw [beq_eq_false_iff_ne]; omega
  have y1 : decide (n < p.least) = false := by simp; omega
  have y2 : decide (p.most < n) = false := by simp; omega
  have y3 : n1 ≤ n := hnx
  clear hk hb hW0 hb0 hs hok hn hn1 hall hno hnx hbd h1 h2 h3 h4 h5
  go_enter Tryd.func5, Tryd.ntmps5
  go_wp2_with fail
  rw [HW0.out, HB0.out]
  go_wp2_with fail
  refine HW0'.out.mono ?_
  rintro e wa ⟨rfl, hq⟩
  have HQa : Hid (Drawn W0 wa) := Lib.hid hq
  obtain ⟨a0, a1, a2, a3⟩ := HC.out wa HQa.out
  clear c0 c1 c2 c3 hq
  go_wp2
  go_quiet ((go_at_call 7; exact Calls.quiet_of (HWa.out wa HQa.out _)))
  rename_i nq
  obtain ⟨wb, hwb⟩ : ∃ wb, wa.drewN nq = wb := ⟨_, rfl⟩
  have HQb := Lib.hid (drawn_next HQa.out ⟨nq, hwb.symm⟩)
  obtain ⟨d0, d1, d2, d3⟩ := HC.out wb HQb.out
  rw [hwb]
  clear a0 a1 a2 a3 hwb y1 y2
  by_cases q : 0 < p.want
  · have HWm : Hid (∀ w', Drawn W0 w' → ∀ m, Calls Tryd.prog 7 #[.int .i64 p.least, .int .i64 p.most, .int .i64 p.want, .int .i64 0] (w'.drewN m) (Quiet (w'.drewN m) (.int .i64 p.most))) := Lib.hid (HWn.out q)
    have z1 : decide (0 < p.want) = true := by simpa using q
    clear q
    go_wp2
    go_quiet ((go_at_call 7; exact Calls.quiet_of (HWm.out wb HQb.out _)))
    obtain ⟨wc, hwc⟩ : ∃ wc, wb.drewN nq = wc := ⟨_, rfl⟩
    have HQc := Lib.hid (drawn_next HQb.out ⟨nq, hwc.symm⟩)
    obtain ⟨e0, e1, e2, e3⟩ := HC.out wc HQc.out
    rw [hwc]
    clear d0 d1 d2 d3 hwc
    by_cases r : 100 ≤ hv
    · have HK := Lib.hid (HWk.out wc HQc.out)
      go_wp2_with fail
      refine HK.out.mono ?_
      rintro e wd ⟨rfl, hq⟩
      have HQd := Lib.hid (drawn_next HQc.out hq)
      clear hq
      go_wp2
      go_ret
      obtain ⟨m, e⟩ := HQd.out
      exact ⟨rfl, by rw [e]; exact below_drewN HB.out m⟩
    · have r1 : hv < 100 := by omega
      have HK := Lib.hid (HNx.out wc HQc.out)
      clear r
      go_wp2_with fail
      refine HK.out.mono ?_
      rintro e wd ⟨rfl, hq⟩
      have HQd := Lib.hid (drawn_next HQc.out hq)
      have HK2 := Lib.hid (HWk.out wd HQd.out)
      clear hq HK
      go_wp2_with fail
      refine HK2.out.mono ?_
      rintro e we ⟨rfl, hq⟩
      have HQe := Lib.hid (drawn_next HQd.out hq)
      clear hq
      go_wp2
      go_ret
      obtain ⟨m, e⟩ := HQe.out
      exact ⟨rfl, by rw [e]; exact below_drewN HB.out m⟩
  · have z1 : decide (0 < p.want) = false := by simpa using q
    clear q
    go_wp2
    go_quiet (fail)
    obtain ⟨wc, hwc⟩ : ∃ wc, wb.drewN nq = wc := ⟨_, rfl⟩
    have HQc := Lib.hid (drawn_next HQb.out ⟨nq, hwc.symm⟩)
    obtain ⟨e0, e1, e2, e3⟩ := HC.out wc HQc.out
    rw [hwc]
    clear d0 d1 d2 d3 hwc
    by_cases r : 100 ≤ hv
    · have HK := Lib.hid (HWk.out wc HQc.out)
      go_wp2_with fail
      refine HK.out.mono ?_
      rintro e wd ⟨rfl, hq⟩
      have HQd := Lib.hid (drawn_next HQc.out hq)
      clear hq
      go_wp2
      go_ret
      obtain ⟨m, e⟩ := HQd.out
      exact ⟨rfl, by rw [e]; exact below_drewN HB.out m⟩
    · have r1 : hv < 100 := by omega
      have HK := Lib.hid (HNx.out wc HQc.out)
      clear r
      go_wp2_with fail
      refine HK.out.mono ?_
      rintro e wd ⟨rfl, hq⟩
      have HQd := Lib.hid (drawn_next HQc.out hq)
      have HK2 := Lib.hid (HWk.out wd HQd.out)
      clear hq HK
      go_wp2_with fail
      refine HK2.out.mono ?_
      rintro e we ⟨rfl, hq⟩
      have HQe := Lib.hid (drawn_next HQd.out hq)
      clear hq
      go_wp2
      go_ret
      obtain ⟨m, e⟩ := HQe.out
      exact ⟨rfl, by rw [e]; exact below_drewN HB.out m⟩
theorem bounds_walk (p : Pln) (hv : Int) (hh : -9223372036854775808 ≤ hv) (w : World) (hs : ScIs w) :
    Calls Tryd.prog 5 #[.agg #[.int .i64 p.least, .int .i64 p.most, .int .i64 p.want, .int .i64 p.from_], .int .i64 hv] w fun e w' => e = .returned (.bool true) ∧ Below w.heap.size w w' := by
  cases h : waitOk p.least p.most p.want with
  | false => exact bounds_no p hv w hs h
  | true => exact bounds_yes p hv hh w hs h
end Go.Proofs.YtnmcomciocffpaaDoor
