import Derived.Test.YtilkbfmaofmjoaaGreatDoorZj13
import Derived.Test.YtilkbfmaofmjoaaGreatDoorZj15
namespace Go.Proofs.YtilkbfmaofmjoaaGreatDoor
open Go.RowKit
set_option linter.unusedSimpArgs false
set_option linter.unusedVariables false
theorem run_run_tail {p_ : Prop} (h_ : p_ := by
  rw [run_sliceAt_slice (P := Tryz.prog) (h := by kernel_rfl), run_slice_l (P := Tryz.prog) (ht := by kernel_rfl) (h0 := by omega) (h1 := by omega), tw_size]
  simp only [Result.andThen_ok, sliced, Int.toNat_natCast]
  rfl) : p_ := h_
theorem run_run_head {p_ : Prop} (h_ : p_ := by
  rw [run_sliceAt_slice (P := Tryz.prog) (h := by kernel_rfl), run_slice_h (P := Tryz.prog) (ht := by kernel_rfl) (h0 := by omega) (h2 := by omega), tw_size]
  simp only [Result.andThen_ok, sliced, Int.toNat_natCast]
  have e : (if c = 0 then A else A.map (·.add (0 * kN))) = A := by
    split
    · rfl
    · rcases h with rfl | ⟨g, rfl⟩
      · rfl
      · simp [plain_add]
  rw [e]
  rfl) : p_ := h_
set_option maxHeartbeats 2000000 in
theorem run_get_any {p_ : Prop} (h_ : p_ := by
  obtain ⟨X, hX⟩ : ∃ X, w.heap.size = X := ⟨_, rfl⟩
  obtain ⟨W, hW⟩ : ∃ W, w.alloc (.cells zA tR) = W := ⟨_, rfl⟩
  have hb0 : Below w.heap.size w W := by rw [← hW]; exact below1 _ _ _
  have k0 : W.heap[X]? = some (.cells zA tR (0, 0)) := by rw [← hW, ← hX]; exact heap_alloc_new w _
  have h0 := h.below hb0
  have HMd := Lib.hid (made_yes h0)
  have HF := Lib.hid (find_any key h0)
  have HB0 := Lib.hid hb0
  have HK0 := Lib.hid k0
  have HW := Lib.hid hW
  have HX := Lib.hid hX
  obtain ⟨hok, A, c, h1⟩ := h0
  have HT := Lib.hid h1
  have HR := Lib.hid hok.rise
  obtain ⟨L, hL⟩ : ∃ L, t.l.length = L := ⟨_, rfl⟩
  have hm : L ≤ 9223372036854775807 := by have := h1.le; have := h1.max; unfold maxLen at this; omega
  have HL := Lib.hid hL
  obtain ⟨o, ho⟩ : ∃ o, getR t.l key = o := ⟨_, rfl⟩
  obtain ⟨pl, hpl⟩ : ∃ pl, plc t.l key = pl := ⟨_, rfl⟩
  obtain ⟨hv, hhv⟩ : ∃ hv, hasB t.l key = hv := ⟨_, rfl⟩
  rw [hpl, hhv] at HF
  rw [ho]
  have HO := Lib.hid ho
  have HPl := Lib.hid hpl
  have HHv := Lib.hid hhv
  clear h hX hL ho hW hb0 k0 hok h1 hpl hhv
  go_enter f_Get, n_Get
  go_wp2_with fail
  rw [HW.out, HX.out]
  refine HMd.out.mono ?_
  rintro e w' ⟨rfl, rfl⟩
  go_wp2_with fail
  refine HF.out.mono ?_
  rintro e w1 ⟨rfl, hb1⟩
  have hj0 := (hb1.block X (block_lt HK0.out)).trans HK0.out
  have d_d := blk hj0
  have z_z := frz hj0
  have HB1 : Hid (Below X w w1) := Lib.hid (by rw [← HX.out]; exact HB0.out.trans (hb1.mono HB0.out.size))
  have hXl := block_lt hj0
  have HXw : Hid (X ≤ w.heap.size) := Lib.hid (by rw [HX.out]; exact Nat.le_refl _)
  cases hv with
  | false =>
    obtain rfl : none = o := (hasB_none HHv.out).symm.trans HO.out
    have HQ := Lib.hid (setL_all hj0 zC rfl)
    clear hj0 hb1
    go_wp2
    have q_q := blk HQ.out
    simp only [setL, trC, zC] at q_q
    refine bodyPost_ret (v := .tuple #[trV noRw, .bool false]) (by simp [results, r_Get, go_sem, q_q, trV, noRw]) rfl ⟨rfl, ?_⟩
    rw [HX.out]
    exact below_setL HB1.out HXw.out zC 0
  | true =>
    have ht := HT.out.below hb1
    obtain ⟨hpL, -, hg⟩ := hasB_lt HR.out HHv.out
    rw [HO.out] at hg
    obtain ⟨r, hr⟩ : ∃ r, t.l[plc t.l key] = r := ⟨_, rfl⟩
    rw [hr] at hg
    subst hg
    have hpL' : pl < L := by rw [← HL.out, ← HPl.out]; exact hpL
    have c2 : w1.cell? ⟨B, 2, none⟩ = some (.slice A L c) := by have := ht.c2; rw [HL.out] at this; exact this
    obtain ⟨b, off, rfl, hbl, hit⟩ := ht.row.at_ hpL hpL
    rw [hr, HPl.out] at hit
    have e_e := tr_cells hit
    have HQ := Lib.hid (setL_all hj0 (trC r) rfl)
    clear hj0 hb1 ht hpL hr hit
    go_wp2
    have q_q := blk HQ.out
    simp only [setL, trC, zC] at q_q
    refine bodyPost_ret (v := .tuple #[trV r, .bool true]) (by simp [results, r_Get, go_sem, q_q, trV]) rfl ⟨rfl, ?_⟩
    rw [HX.out]
    exact below_setL HB1.out HXw.out (trC r) 0) : p_ := h_
end Go.Proofs.YtilkbfmaofmjoaaGreatDoor
