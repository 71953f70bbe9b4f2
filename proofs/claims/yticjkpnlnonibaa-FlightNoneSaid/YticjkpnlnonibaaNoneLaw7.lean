/-
  A flight that is not there, and one that no call made, lets nothing fly: the law sodalitylaw07.FlightNone over the contracts (layer 7).
-/
import Derived.Test.YticjkpnlnonibaaHStep
import Derived.Test.YticjkpnlnonibaaHFrame
namespace Go.Proofs.Yticjkpnlnonibaa
open Go.RowKit
set_option linter.unusedSimpArgs false
set_option linter.unusedVariables false

/-- No flight, or one that New did not make. -/
def Bad (w : World) (pv : Value) : Prop := pv = .pointer none ∨ ∃ Z, pv = .pointer (some ⟨Z, 0, none⟩) ∧ w.cell? ⟨Z, 1, none⟩ = some (.int .i64 0)
theorem Bad.below {w w' : World} {pv : Value} (h : Bad w pv) (hb : Below w.heap.size w w') : Bad w' pv := by
  rcases h with h | ⟨Z, e, h⟩
  · exact .inl h
  · exact .inr ⟨Z, e, (hb.cell (p := ⟨Z, 1, none⟩) (bcell_lt h)).trans h⟩
theorem made_bad (w : World) (pv : Value) (h : Bad w pv) : Calls Try.prog 25 #[pv] w fun e w' => e = .returned (.bool false) ∧ w' = w := by
  rcases h with rfl | ⟨Z, rfl, hc⟩
  · exact made_nil w
  · exact made_any w Z 0 hc false (by simp)
theorem send_bad (w : World) (pv : Value) (h : Bad w pv) (p : Pk) :
    Calls Try.prog 12 #[pv, .agg #[.int .i64 p.fr, .int .i64 p.to, .slice p.A p.body.length p.c]] w fun e w' => e = .returned (.tuple #[.int .i64 0, .bool false]) ∧ Below w.heap.size w w' := by
  have hal : Below w.heap.size w (w.alloc (.cells #[.int .i64 p.fr, .int .i64 p.to, .slice p.A p.body.length p.c] 30)) := (Below.refl _ w).alloc (Nat.le_refl _) _
  have HM := Lib.hid (made_bad _ pv (h.below hal))
  have HA := Lib.hid hal
  clear h hal
  go_enter Try.func12, Try.ntmps12
  go_wp2_with fail
  refine HM.out.mono ?_
  rintro e w' ⟨rfl, hw'⟩
  rw [hw']
  clear hw' HM
  go_wp2
  go_ret2
  exact ⟨rfl, HA.out⟩
theorem deliver_bad (w : World) (pv : Value) (h : Bad w pv) (n : Int) :
    Calls Try.prog 14 #[pv, .int .i64 n] w fun e w' => e = .returned (.tuple #[.agg #[.int .i64 0, .int .i64 0, .slice none 0 0], .bool false]) ∧ Below w.heap.size w w' := by
  have hal : Below w.heap.size w (w.alloc (.cells #[.int .i64 0, .int .i64 0, .slice none 0 0] 30)) := (Below.refl _ w).alloc (Nat.le_refl _) _
  have hbx := heap_alloc_new w (.cells #[.int .i64 0, .int .i64 0, .slice none 0 0] 30)
  obtain ⟨d0, d1, d2⟩ := blk3 hbx
  have f0 := blk_froz hbx 0
  have f1 := blk_froz hbx 1
  have f2 := blk_froz hbx 2
  have HM := Lib.hid (made_bad _ pv (h.below hal))
  have HA := Lib.hid hal
  clear h hal hbx
  go_enter Try.func14, Try.ntmps14
  go_wp2_with fail
  refine HM.out.mono ?_
  rintro e w' ⟨rfl, hw'⟩
  rw [hw']
  clear hw' HM
  go_wp2
  refine bodyPost_ret (v := .tuple #[.agg #[.int .i64 0, .int .i64 0, .slice none 0 0], .bool false]) (by simp [results, Try.results14, go_sem, d0, d1, d2]) rfl ?_
  exact ⟨rfl, HA.out⟩
theorem drop_bad (w : World) (pv : Value) (h : Bad w pv) (n : Int) :
    Calls Try.prog 16 #[pv, .int .i64 n] w fun e w' => e = .returned (.tuple #[.int .i64 0, .bool false]) ∧ w' = w := by
  have HM := Lib.hid (made_bad _ pv h)
  clear h
  go_enter Try.func16, Try.ntmps16
  go_wp2_with fail
  refine HM.out.mono ?_
  rintro e w' ⟨rfl, hw'⟩
  rw [hw']
  clear hw' HM
  go_wp2
  go_ret2
  exact ⟨rfl, rfl⟩
theorem copy_bad (w : World) (pv : Value) (h : Bad w pv) (n : Int) :
    Calls Try.prog 17 #[pv, .int .i64 n] w fun e w' => e = .returned (.tuple #[.int .i64 0, .bool false]) ∧ w' = w := by
  have HM := Lib.hid (made_bad _ pv h)
  clear h
  go_enter Try.func17, Try.ntmps17
  go_wp2_with fail
  refine HM.out.mono ?_
  rintro e w' ⟨rfl, hw'⟩
  rw [hw']
  clear hw' HM
  go_wp2
  go_ret2
  exact ⟨rfl, rfl⟩
theorem lose_bad (w : World) (pv : Value) (h : Bad w pv) (n : Int) :
    Calls Try.prog 18 #[pv, .int .i64 n] w fun e w' => e = .returned (.int .i64 0) ∧ w' = w := by
  have HM := Lib.hid (made_bad _ pv h)
  clear h
  go_enter Try.func18, Try.ntmps18
  go_wp2_with fail
  refine HM.out.mono ?_
  rintro e w' ⟨rfl, hw'⟩
  rw [hw']
  clear hw' HM
  go_wp2
  go_ret
  exact ⟨rfl, rfl⟩
theorem list_bad (w : World) (pv : Value) (h : Bad w pv) :
    Calls Try.prog 20 #[pv] w fun e w' => e = .returned (.slice none 0 0) ∧ w' = w := by
  have HM := Lib.hid (made_bad _ pv h)
  clear h
  go_enter Try.func20, Try.ntmps20
  go_wp2_with fail
  refine HM.out.mono ?_
  rintro e w' ⟨rfl, hw'⟩
  rw [hw']
  clear hw' HM
  go_wp2
  go_ret
  exact ⟨rfl, rfl⟩
theorem count_bad (w : World) (pv : Value) (h : Bad w pv) :
    Calls Try.prog 19 #[pv] w fun e w' => e = .returned (.int .i64 0) ∧ w' = w := by
  have HM := Lib.hid (made_bad _ pv h)
  clear h
  go_enter Try.func19, Try.ntmps19
  go_wp2_with fail
  refine HM.out.mono ?_
  rintro e w' ⟨rfl, hw'⟩
  rw [hw']
  clear hw' HM
  go_wp2
  go_ret
  exact ⟨rfl, rfl⟩
theorem sent_bad (w : World) (pv : Value) (h : Bad w pv) :
    Calls Try.prog 13 #[pv] w fun e w' => e = .returned (.int .i64 0) ∧ w' = w := by
  have HM := Lib.hid (made_bad _ pv h)
  clear h
  go_enter Try.func13, Try.ntmps13
  go_wp2_with fail
  refine HM.out.mono ?_
  rintro e w' ⟨rfl, hw'⟩
  rw [hw']
  clear hw' HM
  go_wp2
  go_ret
  exact ⟨rfl, rfl⟩
set_option maxHeartbeats 8000000 in
set_option maxRecDepth 100000 in
theorem none_walk (s : Sp) (w : World) (hp : BodyAt w s.p) :
    Calls Try.prog 6 #[.agg #[.int .i64 s.kind, .int .i64 s.n, .int .i64 s.p.fr, .int .i64 s.p.to, .slice s.p.A s.p.body.length s.p.c]] w fun e w' => e = .returned (.bool true) ∧ Below w.heap.size w w' := by
  have HWk := Lib.hid (fun w => works_any w)
  have HP := Lib.hid hp
  obtain ⟨kind, n, p⟩ := s
  simp only at HP ⊢
  obtain ⟨Wa, hWa⟩ : ∃ Wa, w.alloc (.cells #[.int .i64 kind, .int .i64 n, .int .i64 p.fr, .int .i64 p.to, .slice p.A p.body.length p.c] 32) = Wa := ⟨_, rfl⟩
  have ba : Below w.heap.size w Wa := by rw [← hWa]; exact (Below.refl _ w).alloc (Nat.le_refl _) _
  have sa : Wa.heap.size = w.heap.size + 1 := by rw [← hWa]; simp
  have ca : Wa.heap[w.heap.size]? = some (.cells #[.int .i64 kind, .int .i64 n, .int .i64 p.fr, .int .i64 p.to, .slice p.A p.body.length p.c] 32 (0, 0)) := by rw [← hWa]; exact heap_alloc_new w _
  obtain ⟨Wb, hWb⟩ : ∃ Wb, Wa.alloc (.cells #[.slice none 0 0, .int .i64 0, .int .i64 0] 58) = Wb := ⟨_, rfl⟩
  have bb : Below Wa.heap.size Wa Wb := by rw [← hWb]; exact (Below.refl _ Wa).alloc (Nat.le_refl _) _
  have sb : Wb.heap.size = w.heap.size + 2 := by rw [← hWb]; simp; omega
  have cb : Wb.heap[w.heap.size + 1]? = some (.cells #[.slice none 0 0, .int .i64 0, .int .i64 0] 58 (0, 0)) := by rw [← hWb, ← sa]; exact heap_alloc_new Wa _
  obtain ⟨Wc, hWc⟩ : ∃ Wc, Wb.alloc (.cells #[.pointer none, .pointer (some ⟨w.heap.size + 1, 0, none⟩)] 23) = Wc := ⟨_, rfl⟩
  have bc : Below Wb.heap.size Wb Wc := by rw [← hWc]; exact (Below.refl _ Wb).alloc (Nat.le_refl _) _
  have cc : Wc.heap[w.heap.size + 2]? = some (.cells #[.pointer none, .pointer (some ⟨w.heap.size + 1, 0, none⟩)] 23 (0, 0)) := by rw [← hWc, ← sb]; exact heap_alloc_new Wb _
  have bw : Below w.heap.size w Wc := ba.trans ((bb.trans (bc.mono (by omega))).mono (by omega))
  have cac : Wc.heap[w.heap.size]? = some (.cells #[.int .i64 kind, .int .i64 n, .int .i64 p.fr, .int .i64 p.to, .slice p.A p.body.length p.c] 32 (0, 0)) := ((bb.trans (bc.mono (by omega))).block _ (by omega)).trans ca
  have cbc : Wc.heap[w.heap.size + 1]? = some (.cells #[.slice none 0 0, .int .i64 0, .int .i64 0] 58 (0, 0)) := (bc.block _ (by omega)).trans cb
  have hfull : ((w.alloc (.cells #[.int .i64 kind, .int .i64 n, .int .i64 p.fr, .int .i64 p.to, .slice p.A p.body.length p.c] 32)).alloc (.cells #[.slice none 0 0, .int .i64 0, .int .i64 0] 58)).alloc (.cells #[.pointer none, .pointer (some ⟨w.heap.size + 1, 0, none⟩)] 23) = Wc := by rw [hWa, hWb, hWc]
  obtain ⟨X, hX⟩ : ∃ X, w.heap.size = X := ⟨_, rfl⟩
  have HBox : Hid (∀ w', Below Wc.heap.size Wc w' → w'.heap[X]? = some (.cells #[.int .i64 kind, .int .i64 n, .int .i64 p.fr, .int .i64 p.to, .slice p.A p.body.length p.c] 32 (0, 0))) := Lib.hid (fun w' hb => by rw [← hX]; exact (hb.block _ (block_lt cac)).trans cac)
  have HPv : Hid (∀ w' (k : Nat), Below Wc.heap.size Wc w' → k < 2 → ∃ pv, w'.cell? ⟨X + 1 + 1, k, none⟩ = some pv ∧ Bad w' pv) := Lib.hid (fun w' k hb hk => by
    have h1 := (hb.block _ (block_lt cc)).trans cc
    have h2 := (hb.block _ (block_lt cbc)).trans cbc
    rw [hX] at h1 h2
    match k, hk with
    | 0, _ => exact ⟨_, blk_cells h1 0 _ rfl, .inl rfl⟩
    | 1, _ => exact ⟨_, blk_cells h1 1 _ rfl, .inr ⟨_, rfl, blk_cells h2 1 _ rfl⟩⟩)
  have HW := Lib.hid hfull
  have HX := Lib.hid hX
  have HBW := Lib.hid bw
  have HZero := Lib.hid (fun w : World => BodyAt.zero w)
  clear hp hWa hWb hWc ba bb bc bw sa sb ca cb cc cac cbc hfull hX
  go_enter Try.func6, Try.ntmps6
  go_wp2_with (fail)
  rw [HW.out, HX.out]
  go_loopw [5] (fun kv wr => ∃ k : Nat, kv = .int .i64 (k : Int) ∧ k ≤ 2 ∧ Hid (Below Wc.heap.size Wc wr)) (fun kv _ => 2 - (RowKit.intOf kv).toNat)
  case atStart => exact ⟨0, rfl, Nat.zero_le _, Lib.hid (Below.refl _ _)⟩
  case round =>
    obtain ⟨k, rfl, hk, HB⟩ := hrel
    by_cases hlt : k < 2
    · have q1 : (k : Int) < 2 := by omega
      obtain ⟨pv, hpc, hbad⟩ := HPv.out wr k HB.out hlt
      obtain ⟨x0, x1, x2, x3, x4⟩ := blk5 (HBox.out wr HB.out)
      have HS := Lib.hid (send_bad wr pv hbad p)
      have HBad := Lib.hid hbad
      clear hbad
      go_wp2_with fail
      refine HS.out.mono ?_
      clear HS
      rintro e w1 ⟨rfl, hb1⟩
      have HB1 := Lib.hid (HB.out.trans (hb1.mono HB.out.size))
      have hbad1 := HBad.out.below hb1
      clear x0 x1 x2 x3 x4 hpc
      obtain ⟨x0, x1, x2, x3, x4⟩ := blk5 (HBox.out w1 HB1.out)
      have HD := Lib.hid (deliver_bad w1 pv hbad1 n)
      have HBad1 := Lib.hid hbad1
      clear hb1 hbad1
      go_wp2_with fail
      refine HD.out.mono ?_
      clear HD
      rintro e w2 ⟨rfl, hb2⟩
      have HB2 := Lib.hid (HB1.out.trans (hb2.mono HB1.out.size))
      have hbad2 := HBad1.out.below hb2
      obtain ⟨W3, hW3⟩ : ∃ W3, w2.alloc (.cells #[.int .i64 0, .int .i64 0, .slice none 0 0] 30) = W3 := ⟨_, rfl⟩
      have b3 : Below w2.heap.size w2 W3 := by rw [← hW3]; exact (Below.refl _ w2).alloc (Nat.le_refl _) _
      have hz : W3.heap[w2.heap.size]? = some (.cells #[.int .i64 0, .int .i64 0, .slice none 0 0] 30 (0, 0)) := by rw [← hW3]; exact heap_alloc_new w2 _
      obtain ⟨Y, hY⟩ : ∃ Y, w2.heap.size = Y := ⟨_, rfl⟩
      rw [hY] at hz
      have hbad3 := hbad2.below b3
      have HB3 := Lib.hid (HB2.out.trans (b3.mono HB2.out.size))
      have HDr := Lib.hid (drop_bad W3 pv hbad3 n)
      have HCo := Lib.hid (copy_bad W3 pv hbad3 n)
      clear x0 x1 x2 x3 x4
      obtain ⟨x0, x1, x2, x3, x4⟩ := blk5 (HBox.out w2 HB2.out)
      obtain ⟨x5, x6, x7, x8, x9⟩ := blk5 (HBox.out W3 HB3.out)
      obtain ⟨z0, z1, z2⟩ := blk3 hz
      have hXw2 := bcell_lt x0
      simp only at hXw2
      have HSame := Lib.hid (same_any W3 zeroPk zeroPk (HZero.out W3) (HZero.out W3) true (by simp [sameB]))
      have HBad3 := Lib.hid hbad3
      have HW3 := Lib.hid hW3
      have HY := Lib.hid hY
      clear hb2 hbad2 hbad3 b3 hz hW3 hY
      go_wp2_with fail
      rw [HW3.out, HY.out]
      refine HDr.out.mono ?_
      clear HDr
      rintro e w' ⟨rfl, hw'⟩
      rw [hw']
      clear hw'
      go_wp2_with fail
      refine HCo.out.mono ?_
      clear HCo
      rintro e w' ⟨rfl, hw'⟩
      rw [hw']
      clear hw'
      go_wp2_with fail
      refine HSame.out.mono ?_
      clear HSame
      rintro e w4 ⟨rfl, hb4⟩
      have HB4 := Lib.hid (HB3.out.trans (hb4.mono HB3.out.size))
      have hbad4 := HBad3.out.below hb4
      clear x0 x1 x2 x3 x4 x5 x6 x7 x8 x9 z0 z1 z2
      obtain ⟨x0, x1, x2, x3, x4⟩ := blk5 (HBox.out w4 HB4.out)
      have HLo := Lib.hid (lose_bad w4 pv hbad4 n)
      have HLi := Lib.hid (list_bad w4 pv hbad4)
      have HCn := Lib.hid (count_bad w4 pv hbad4)
      have HSn := Lib.hid (sent_bad w4 pv hbad4)
      clear hb4 hbad4
      go_wp2_with fail
      refine HLo.out.mono ?_
      clear HLo
      rintro e w' ⟨rfl, hw'⟩
      rw [hw']
      clear hw'
      go_wp2_with fail
      refine HLi.out.mono ?_
      clear HLi
      rintro e w' ⟨rfl, hw'⟩
      rw [hw']
      clear hw'
      go_wp2_with fail
      refine HCn.out.mono ?_
      clear HCn
      rintro e w' ⟨rfl, hw'⟩
      rw [hw']
      clear hw'
      go_wp2_with fail
      refine HSn.out.mono ?_
      clear HSn
      rintro e w' ⟨rfl, hw'⟩
      rw [hw']
      clear hw'
      go_wp2
      go_roundw
      case rel => exact ⟨k + 1, by go_num, by omega, HB4⟩
      case measure => simp [RowKit.intOf]; omega
    · obtain rfl : k = 2 := by omega
      have HK := Lib.hid (HWk.out wr)
      go_wp2_with fail
      refine HK.out.mono ?_
      rintro e w5 ⟨rfl, hb5⟩
      have HB5 := Lib.hid (HBW.out.trans ((HB.out.trans (hb5.mono HB.out.size)).mono HBW.out.size))
      clear hb5
      go_wp2
      go_ret
      exact ⟨rfl, HB5.out⟩
end Go.Proofs.Yticjkpnlnonibaa
