import Derived.Test.YtilkbfmaofmjoaaGreatDoorZj20
import Derived.Deep.DeepCutAuto
namespace Go.Proofs.YtilkbfmaofmjoaaGreatDoor
open Go.RowKit Go.Rel
set_option linter.unusedSimpArgs false
set_option linter.unusedVariables false
set_option maxHeartbeats 8000000 in
set_option maxRecDepth 100000 in
theorem run_put_any {p_ : Prop} (h_ : p_ := by
  obtain ⟨X0, hX0⟩ : ∃ X0, w.heap.size = X0 := ⟨_, rfl⟩
  obtain ⟨V1, hV1⟩ : ∃ V1, w.alloc (.cells (vA v) tV) = V1 := ⟨_, rfl⟩
  have hbv : Below w.heap.size w V1 := by rw [← hV1]; exact below1 _ _ _
  have hsv : V1.heap.size = X0 + 1 := by rw [← hV1, ← hX0]; simp
  have kv : V1.heap[X0]? = some (.cells (vA v) tV (0, 0)) := by rw [← hV1, ← hX0]; exact heap_alloc_new w _
  obtain ⟨W, hW⟩ : ∃ W, V1.alloc (.cells zA tR) = W := ⟨_, rfl⟩
  have hb0 : Below V1.heap.size V1 W := by rw [← hW]; exact below1 _ _ _
  have hs0 : W.heap.size = X0 + 2 := by rw [← hW]; simp [hsv]
  have k0 : W.heap[X0 + 1]? = some (.cells zA tR (0, 0)) := by rw [← hW, ← hsv]; exact heap_alloc_new V1 _
  obtain ⟨W2, hW2⟩ : ∃ W2, W.alloc (.cells (rA k v i i) tR) = W2 := ⟨_, rfl⟩
  have hb2 : Below W.heap.size W W2 := by rw [← hW2]; exact below1 _ _ _
  have k2 : W2.heap[X0 + 2]? = some (.cells (rA k v i i) tR (0, 0)) := by rw [← hW2, ← hs0]; exact heap_alloc_new W _
  obtain ⟨S2, hS2⟩ : ∃ S2 : Nat → Prop, S2 = fun k => S k ∧ k < X0 := ⟨_, rfl⟩
  have hn : TAt S2 w B t := h.narrow fun j hj hs => by rw [hS2]; exact ⟨hs, hX0 ▸ hj⟩
  have HS2 := Lib.hid hS2
  have HAt := Lib.hid h
  have h0 := (hn.below hbv).below hb0
  have h2 := h0.below hb2
  have kv1 := (hb0.block X0 (by omega)).trans kv
  have cv_v := vblk kv1
  have HMd := Lib.hid (made_yes h0)
  have HF := Lib.hid (find_any k h2)
  have hbw : Below w.heap.size w W2 := hbv.trans ((hb0.trans (hb2.mono hb0.size)).mono hbv.size)
  have HB0 := Lib.hid hbw
  have HK0 := Lib.hid ((hb2.block (X0 + 1) (by omega)).trans k0)
  have HK2 := Lib.hid k2
  have HV1 := Lib.hid hV1
  have HW := Lib.hid hW
  have HW2 := Lib.hid hW2
  have HX0 := Lib.hid hX0
  have HSv := Lib.hid hsv
  have HS0 := Lib.hid hs0
  have HBX : B < X0 := by rw [← hX0]; exact h.lt
  obtain ⟨hok, A, c, h1⟩ := h2
  have h64 : t.l.length ≤ 64 := Nat.le_trans hok.len hok.most.2
  have hmost := hok.most
  have hll := hok.len
  have HT := Lib.hid h1
  have HOk := Lib.hid hok
  have HR := Lib.hid hok.rise
  obtain ⟨L, hL⟩ : ∃ L, t.l.length = L := ⟨_, rfl⟩
  rw [hL] at h64 hll
  have HL := Lib.hid hL
  obtain ⟨pl, hpl⟩ : ∃ pl, plc t.l k = pl := ⟨_, rfl⟩
  have hple : pl ≤ L := by rw [← hpl, ← hL]; exact plc_le _ _
  obtain ⟨hv, hhv⟩ : ∃ hv, hasB t.l k = hv := ⟨_, rfl⟩
  rw [hpl, hhv] at HF
  have HPl := Lib.hid hpl
  have HHv := Lib.hid hhv
  have HKs := Lib.hid hk
  obtain ⟨most, hmo⟩ : ∃ most, t.most = most := ⟨_, rfl⟩
  rw [hmo] at hmost hll
  have HMo := Lib.hid hmo
  obtain ⟨g0, hg0⟩ : ∃ g0, w.heap.size = g0 := ⟨_, rfl⟩
  rw [hg0]
  have HG := Lib.hid (show g0 = X0 from hg0.symm.trans hX0)
  obtain ⟨rv, hrv⟩ : ∃ rv, t.row k v i = rv := ⟨_, rfl⟩
  have HRv := Lib.hid hrv
  clear h hn hS2 hX0 hL hV1 hW hW2 hbv hb0 hb2 hbw hsv hs0 kv k0 k2 kv1 h0 hok h1 hpl hhv hk hmo hg0 hrv
  go_enter f_Put, n_Put
  go_wp2_with fail
  rw [HV1.out, HX0.out, HW.out]
  refine HMd.out.mono ?_
  rintro e w' ⟨rfl, rfl⟩
  clear HMd
  go_wp2_with fail
  rw [HW2.out, HS0.out]
  refine HF.out.mono ?_
  rintro e w3 ⟨rfl, hb3⟩
  have kx3 := (hb3.block (X0 + 1) (block_lt HK0.out)).trans HK0.out
  have ky3 := (hb3.block (X0 + 2) (block_lt HK2.out)).trans HK2.out
  have HKx := Lib.hid kx3
  have HKy := Lib.hid ky3
  have HB3 : Hid (Below X0 w w3) := Lib.hid (by rw [← HX0.out]; exact HB0.out.trans (hb3.mono HB0.out.size))
  have HT3 := Lib.hid (HT.out.below hb3)
  have hYl := block_lt ky3
  obtain ⟨X, hX⟩ : ∃ X, X0 + 1 = X := ⟨_, rfl⟩
  obtain ⟨Y, hY⟩ : ∃ Y, X0 + 1 + 1 = Y := ⟨_, rfl⟩
  have hY2 : X0 + 2 = Y := hY
  rw [hX] at HKx
  rw [hY2] at HKy hYl
  rw [hX] at hY
  rw [hX, hY2]
  clear hb3 HF kx3 ky3 HT HK0 HK2 HW HW2 HV1 HSv HS0
  go_upto_if 30 with (fail)
  go_cut [13] (fun s13 wx => ∃ pb : Nat, s13 = .int .i64 (pb : Int) ∧ Hid (Ahead S2 w wx X0 X B Y A L c pl pb t k v i rv))
  case first =>
    cases hv with
    | true =>
      obtain ⟨hpL, hke, hg⟩ := hasB_lt HR.out HHv.out
      obtain ⟨old, hr⟩ : ∃ old, t.l[plc t.l k] = old := ⟨_, rfl⟩
      rw [hr] at hg hke
      have hpL' : pl < L := by rw [← HL.out, ← HPl.out]; exact hpL
      have c2 : w3.cell? ⟨B, 2, none⟩ = some (.slice A L c) := by have := HT3.out.c2; rw [HL.out] at this; exact this
      obtain ⟨bb, off, hA, hbl, hit⟩ := HT3.out.row.at_ hpL hpL
      rw [hr, HPl.out] at hit
      have e_e := tr_cells hit
      rw [hA] at c2
      have d_d := blk HKy.out
      have z2 := blk_froz HKy.out kMk
      have hrow : t.row k v i = ⟨k, v, old.made, i⟩ := by unfold Tb.row; rw [hg]; rfl
      have er : rv = ⟨k, v, old.made, i⟩ := HRv.out.symm.trans hrow
      have HFin : Hid (Ahead S2 w (w3.setCell ⟨Y, kMk, none⟩ (.int .u64 (old.made : Int))) X0 X B Y A L c pl (pl + 1) t k v i rv) := Lib.hid (by
        have hset : But (· = Y) w3 (w3.setCell ⟨Y, kMk, none⟩ (.int .u64 (old.made : Int))) := But.set (S := (· = Y)) w3 (p := ⟨Y, kMk, none⟩) rfl _
        refine ⟨HT3.out.but hset (fun j e hj => by rw [HS2.out] at hj; have := hj.2; omega), HRv.out, ?_, (hset.block X (block_lt HKx.out) (by omega)).trans HKx.out, HB3.out.setCell (p := ⟨Y, kMk, none⟩) (by show X0 ≤ Y; omega) _, ?_, ?_, by omega, by omega, by omega⟩
        · rw [er]
          exact block_set HKy.out kMk _
        · unfold Tb.fullB; rw [hg]; rfl
        · have e : rv.key = k := by rw [er]
          rw [lay_old rv HR.out (by rw [e]; exact ⟨hpL, by rw [hr]; exact hke⟩), e, HPl.out, List.set_eq_take_append_cons_drop, if_pos (by rw [HL.out]; exact hpL')])
      have hwr : IntKind.i64.wrap ((pl : Int) + 1) = (pl : Int) + 1 := by rw [IntKind.wrap_i64]; omega
      clear hpL hr hit hA hrow er hg hke
      go_wp2
      go_meet
      exact ⟨pl + 1, by go_num, HFin.out⟩
    | false =>
      have hgn : getR t.l k = none := hasB_none HHv.out
      have hnh : ¬ hasR t.l k := fun e => by rw [get_some HR.out e] at hgn; cases hgn
      have c2 : w3.cell? ⟨B, 2, none⟩ = some (.slice A L c) := by have := HT3.out.c2; rw [HL.out] at this; exact this
      have c0 : w3.cell? ⟨B, 0, none⟩ = some (.int .i64 (most : Int)) := by have := HT3.out.c0; rw [HMo.out] at this; exact this
      have HGn := Lib.hid hgn
      have HNh := Lib.hid hnh
      clear hgn hnh
      by_cases hf : most ≤ L
      · have f1 : decide ((most : Int) ≤ (L : Int)) = true := decide_eq_true (by omega)
        have f2 : decide (most ≤ L) = true := decide_eq_true hf
        have d_d := blk HKx.out
        have z_z := frz HKx.out
        have hxl := block_lt HKx.out
        go_wp2
        go_quiet (fail)
        generalize hW4 : w3.drewN _ = W4
        have HB4 : Hid (Below X0 w W4) := Lib.hid (by rw [← hW4]; exact below_drewN HB3.out _)
        have kx : W4.heap[X]? = some (.cells zA tR (0, 0)) := by rw [← hW4]; exact HKx.out
        clear hW4 d_d z_z hxl
        have d_d := blk kx
        have z_z := frz kx
        have hxl := block_lt kx
        have HQ := Lib.hid (setL_all kx zC rfl)
        clear kx
        go_wp2
        have q_q := blk HQ.out
        simp only [setL, trC, zC] at q_q
        refine bodyPost_ret (v := .tuple #[trV noRw, .int .i64 5]) (by simp [results, r_Put, go_sem, q_q, trV, noRw]) rfl ?_
        have hF : t.fullB k = true := by unfold Tb.fullB; rw [HGn.out, HMo.out, HL.out, f2]; rfl
        unfold putV Tb.putT
        rw [if_pos hF, if_pos hF]
        have hb4 : Below w.heap.size w (setL X 0 zC W4) := by
          rw [HX0.out]
          exact HB4.out.trans ((but_setL X zC 0 W4).below (by have := HB4.out.size; have := HX0.out; omega) (fun j hj e => by have : j = X := e; omega))
        exact ⟨rfl, (HAt.out.below hb4).narrow fun j _ hs => .inl hs, But.of_below hb4⟩
      · have f1 : decide ((most : Int) ≤ (L : Int)) = false := decide_eq_false (by omega)
        have f2 : decide (most ≤ L) = false := decide_eq_false hf
        have hrow : t.row k v i = ⟨k, v, i, i⟩ := by unfold Tb.row; rw [HGn.out]; rfl
        have er : rv = ⟨k, v, i, i⟩ := HRv.out.symm.trans hrow
        have HFin : Hid (∀ q, Ahead S2 w (w3.drewN q) X0 X B Y A L c pl pl t k v i rv) := Lib.hid fun q => by
          have hq : Below w3.heap.size w3 (w3.drewN q) := below_drewN (Below.refl _ _) q
          refine ⟨HT3.out.below hq, HRv.out, ?_, HKx.out, HB3.out.trans (hq.mono (by have := HB3.out.size; have := HX0.out; omega)), ?_, ?_, by omega, by omega, by omega⟩
          · rw [er]
            exact HKy.out
          · unfold Tb.fullB; rw [HMo.out, HL.out, f2]; simp
          · have e : rv.key = k := by rw [er]
            rw [lay_new rv HR.out (by rw [e]; exact HNh.out), e, HPl.out]
        clear hrow er
        go_wp2
        go_quiet (fail)
        go_wp2
        go_meet
        exact ⟨pl, rfl, HFin.out _⟩
  case rest =>
    obtain ⟨pb, rfl, HAh⟩ := hcut
    obtain ⟨W0, hW0⟩ : ∃ W0, wc = W0 := ⟨_, rfl⟩
    rw [hW0] at HAh ⊢
    obtain ⟨hpt, hrow, hy, hx, hbw, hfl, hlay, hab⟩ := HAh.out
    clear hW0 HAh HKx HKy HB3 HT3 hYl HHv
    obtain ⟨pa, hae⟩ : ∃ pa, pl = pa := ⟨_, rfl⟩
    obtain ⟨r, hre⟩ : ∃ r, rv = r := ⟨_, rfl⟩
    rw [hae, hre] at hlay
    rw [hae] at hab hple ⊢
    rw [hre] at hrow hy HRv
    obtain ⟨l2, hl2⟩ : ∃ l2, t.l.take pa ++ r :: t.l.drop pb = l2 := ⟨_, rfl⟩
    have HC := Lib.hid (fun W (hw : Below W0.heap.size W0 W) => (show W.cell? ⟨B, 2, none⟩ = some (.slice A L c) by have := (hpt.below hw).c2; rw [HL.out] at this; exact this))
    have HC2 := Lib.hid (fun W (hw : Below W0.heap.size W0 W) => hpt.below hw)
    have HY := Lib.hid (fun W (hw : Below W0.heap.size W0 W) => (hw.block Y (block_lt hy)).trans hy)
    have HCat := Lib.hid (fun W (hw : Below W0.heap.size W0 W) (Z Y2 : Nat) (kz : W.heap[Z]? = some (.cells #[.slice A pa c, .slice (some ⟨Y2, 0, none⟩) 1 1, .slice (tailA kN A pb c) (L - pb) (c - pb)] tSR (0, 0))) (ky : W.heap[Y2]? = some (.cells (trA r) tR (0, 0))) => (by rw [← HL.out] at kz; have := cat3 (hpt.below hw) (a := pa) (b := pb) (by rw [HL.out]; exact hab.1) (by rw [HL.out]; exact hab.2.1) hab.2.2 (by rw [HL.out]; exact h64) r kz ky; rw [hl2] at this; exact this : Calls Tryz.prog gCat #[.slice (some ⟨Z, 0, none⟩) 3 3] W fun e w' => ∃ v, e = .returned v ∧ twRow w' W.heap.size v l2 ∧ Below W.heap.size W w'))
    have HSz := Lib.hid (show (A = none ∨ ∃ g, A = some ⟨g, 0, none⟩) ∧ pa ≤ c ∧ pb ≤ L ∧ L ≤ c from ⟨hpt.or, by have := hpt.le; rw [HL.out] at this; omega, hab.2.1, by have := hpt.le; rw [HL.out] at this; exact this⟩)
    have HBl : Hid (OldB W0 B) := Lib.hid hpt.lt
    have HLay : Hid (layR r false t.l = l2) := Lib.hid (hlay.trans hl2)
    have HYk := Lib.hid hy
    have HXk := Lib.hid hx
    have HRow := Lib.hid hrow
    have HFl := Lib.hid hfl
    have HBw := Lib.hid hbw
    have hXB : X ≠ B := by omega
    have hYB : Y ≠ B := by omega
    clear hpt hl2 hy hx hab hrow hfl hbw hlay hae hre HPl HR HRv
    go_wp2_with fail
    have hre : ∀ w : World, (But (OldB W0)) w w := (fun w => But.refl _ w)
    have hrd : ∀ (f : Nat → Bool) w i, i ≠ 19 → (TI 19 W0 (Laid trC kN tT S2 W0 B t l2)) f w → (TI 19 W0 (Laid trC kN tT S2 W0 B t l2)) (Go.Rel.upd f i) w := (fun _ _ _ hi h => h.read hi)
    refine Go.Rel.wp_tab (by kernel_rfl) (by kernel_rfl) (TI 19 W0 (Laid trC kN tT S2 W0 B t l2)) (But (OldB W0)) hre ((fun _ _ _ h k => h.trans k)) (OldB.drew) TI.start (putE B Y A L c pa pb r) (fun | 8, v, w => ∃ Z, v = .slice (some ⟨Z, 0, none⟩) 1 1 ∧ W0.heap.size ≤ Z ∧ w.heap[Z]? = some (.cells (trA r) tR (0, 0)) | 15, v, w => ∃ Z2 Z, v = .slice (some ⟨Z2, 0, none⟩) 3 3 ∧ W0.heap.size ≤ Z2 ∧ W0.heap.size ≤ Z ∧ w.heap[Z2]? = some (.cells #[.slice A pa c, .slice (some ⟨Z, 0, none⟩) 1 1, .slice (tailA kN A pb c) (L - pb) (c - pb)] tSR (0, 0)) ∧ w.heap[Z]? = some (.cells (trA r) tR (0, 0)) | 16, v, w => twRow w W0.heap.size v l2 | 19, v, w => True | _, _, _ => True) (fun i => ([8, 15, 16, 19] : List Nat).contains i) (fun i => ([4, 6, 7, 8, 12, 14, 15, 16, 19] : List Nat).contains i) (by kernel_rfl) (fun i v w w' h g => by revert h; split <;> intro h <;> first | exact h | trivial | (obtain ⟨Z, e, hz, k⟩ := h; exact ⟨Z, e, hz, (g.block Z (block_lt k) (by unfold OldB; omega)).trans k⟩) | (obtain ⟨Z, Y, e, hz, hy, k, j⟩ := h; exact ⟨Z, Y, e, hz, hy, (g.block Z (block_lt k) (by unfold OldB; omega)).trans k, (g.block Y (block_lt j) (by unfold OldB; omega)).trans j⟩) | exact own_old h g) 19 rfl hrd ?_ (Go.Rel.AllOf.get ?_) ?_
    · repeat (refine .cons (by first | exact Go.Rel.pure_sp rfl | exact Go.Rel.pure_yes (by kernel_rfl) (fun _ => by kernel_rfl) | exact Go.Rel.pure_no (by kernel_rfl) rfl) ?_)
      exact .nil
    · refine ⟨?_, ?_, ?_, ?_, ?_, ?_, ?_, ?_, ?_, trivial⟩
      · exact SpecOk.ld hrd hre (q := .pointer (some ⟨B, 2, none⟩)) (h := fun _ w' hI _ hdesc _ _ => by have cc := HC.out w' (hI.ahead (hdesc 60 19 (by kernel_rfl))); go_simp; rfl)
      · exact SpecOk.slice (q := .slice A L c) hrd hre (fun _ => run_head _ HSz.out.1 HSz.out.2.1)
      · exact SpecOk.ld hrd hre (q := .pointer (some ⟨Y, 0, none⟩)) (h := fun _ w' hI _ hdesc _ _ => by have hy0 := HY.out w' (hI.ahead (hdesc 60 19 (by kernel_rfl))); have y_y := blk hy0; go_simp; rfl)
      · refine SpecOk.gen (fun e => [(60, trV r)]) rfl rfl (fun _ => by kernel_rfl) fun f w' e hI hf hdesc hanc hle hX K hK => ?_
        have zL : f 19 = false := hdesc 60 19 (by kernel_rfl)
        go_simp
        exact hK _ _ (But.of_below (below1 _ _ _)) (hI.below zL (below1 _ _ _) (by decide)) ⟨_, rfl, (hI.ahead zL).size, heap_alloc_new w' _⟩
      · exact SpecOk.ld hrd hre (q := .pointer (some ⟨B, 2, none⟩)) (h := fun _ w' hI _ hdesc _ _ => by have cc := HC.out w' (hI.ahead (hdesc 60 19 (by kernel_rfl))); go_simp; rfl)
      · exact SpecOk.slice (q := .slice A L c) hrd hre (fun _ => run_tail _ HSz.out.2.2.1 HSz.out.2.2.2)
      · refine SpecOk.gen (fun e => [(59, .slice A pa c), (61, e 8), (67, .slice (tailA kN A pb c) (L - pb) (c - pb))]) rfl rfl (fun _ => by kernel_rfl) fun f w' e hI hf hdesc hanc hle hX K hK => ?_
        obtain ⟨Z8, e8, g8, k8⟩ := hX 8 rfl rfl
        simp only [e8]
        have zL : f 19 = false := hdesc 60 19 (by kernel_rfl)
        go_simp
        exact hK _ _ (But.of_below (below1 _ _ _)) (hI.below zL (below1 _ _ _) (by decide)) ⟨_, _, rfl, (hI.ahead zL).size, g8, heap_alloc_new w' _, ((below1 w' _ _).block Z8 (block_lt k8)).trans k8⟩
      · refine SpecOk.gen (fun e => [(68, e 15)]) rfl rfl (fun _ => by kernel_rfl) fun f w' e hI hf hdesc hanc hle hX K hK => ?_
        obtain ⟨Z15, Y15, e15, g15, f15, k15, j15⟩ := hX 15 rfl rfl
        simp only [e15]
        have zL : f 19 = false := hdesc 60 19 (by kernel_rfl)
        go_simp
        refine (HCat.out w' (hI.ahead zL) Z15 Y15 k15 j15).mono ?_
        rintro e w2 ⟨v2, rfl, hr2, hb2⟩
        exact hK _ _ (But.of_below hb2) (hI.below zL hb2 (by decide)) (bown_base hr2 (hI.ahead zL).size)
      · refine SpecOk.gen (fun e => [(71, .pointer (some ⟨B, 2, none⟩)), (69, e 16)]) rfl rfl (fun _ => by kernel_rfl) fun f w' e hI hf hdesc hanc hle hX K hK => ?_
        obtain h16 := hX 16 rfl rfl
        obtain ⟨A9, c9, e9, hsk9, hl9, hm9, hn9⟩ := SK.of_row trC_len h16
        rw [e9] at h16
        simp only [e9]
        have hit9 := HC2.out w' (hI.ahead hf)
        have cB := hit9.c2
        have zB := hit9.froz 2
        go_simp
        exact hK undef _ (But.set w' (p := ⟨B, 2, none⟩) HBl.out (.slice A9 l2.length c9)) (TI.last (hit9.stored HBl.out (hI.ahead hf) h16 hsk9 hl9 hm9 (fun b off e => hn9 b off e))) trivial
    · intro f w1 e hall hJ hle hv
      have HP1 := Lib.hid (hJ.done_ (hall 19 (by decide)))
      clear hJ hall hle hv
      simp only [Go.Rel.finL, List.setIfInBounds_toArray, List.set_cons_succ, List.set_cons_zero]
      obtain ⟨A3, c3, hp1, hbt⟩ := HP1.out
      have HRs := Lib.hid (raise_is i hp1 (by show 1 ≤ t.most; rw [HMo.out]; exact hmost.1))
      have HBt := Lib.hid hbt
      clear hp1 hbt HP1 HCat HC HC2 HY HSz
      go_wp2_with fail
      refine HRs.out.mono ?_
      rintro e w2 ⟨rfl, hp2, hb2⟩
      have hbt2 : But (· = B) W0 w2 := HBt.out.trans hb2
      have ky := (hbt2.block Y (block_lt HYk.out) (fun e => hYB e)).trans HYk.out
      have kx := (hbt2.block X (block_lt HXk.out) (fun e => hXB e)).trans HXk.out
      have HP2 := Lib.hid hp2
      have HBt2 := Lib.hid hbt2
      have d_d := blk kx
      have y_y := blk ky
      have z_z := frz kx
      have HQ := Lib.hid (setL_all kx (trC r) rfl)
      have hxl2 := block_lt kx
      clear hp2 hb2 hbt2 ky kx HRs
      go_wp2
      have q_q := blk HQ.out
      simp only [setL, trC, zC] at q_q
      refine bodyPost_ret (v := .tuple #[trV r, .int .i64 0]) (by simp [results, r_Put, go_sem, q_q, trV]) rfl ?_
      have hF := HFl.out
      unfold putV Tb.putT
      rw [if_neg (by rw [hF]; simp), if_neg (by rw [hF]; simp), HRow.out]
      have hset := but_setL X (trC r) 0 w2
      have hgx : w.heap.size = X0 := HX0.out
      have hbw : But (· = B) w W0 := But.of_below (by rw [HX0.out]; exact HBw.out)
      have hX1 := block_lt HXk.out
      refine ⟨rfl, ⟨HOk.out.put k v hi HKs.out (fun e => by rw [(fullB_iff t k).2 e] at hF; cases hF), A3, c3, ?_⟩, (hbw.trans HBt2.out).then_ hset (fun j e hj => by have : j = X := e; omega)⟩
      have e : t.put k v i = ({ t with l := l2 } : Tb VL).raise i := by
        unfold Tb.put Tb.raise
        rw [HRow.out, HLay.out]
      rw [e]
      have h3 := HP2.out.but hset (fun j e hj => by
        have e : j = X := e
        rcases hj with hj | hj
        · rw [HS2.out] at hj
          have := hj.2
          omega
        · omega)
      refine h3.narrow fun j hj hs => ?_
      rcases hs with hs | hs
      · rw [HS2.out] at hs
        exact .inl hs.1
      · refine .inr ?_
        have h4 := HBw.out.size
        have h5 := HG.out
        omega) : p_ := h_
end Go.Proofs.YtilkbfmaofmjoaaGreatDoor
