import Derived.Test.YtilkbfmaofmjoaaGreatDoorZj11
import Derived.Lib.AppendZerosOnto
import Derived.Lib.Walk
namespace Go.Proofs.YtilkbfmaofmjoaaGreatDoor
open Go.RowKit
set_option linter.unusedSimpArgs false
set_option linter.unusedVariables false
set_option maxHeartbeats 1000000 in
theorem run_grow_any {p_ : Prop} (h_ : p_ := by
  obtain ⟨i0, hi, hz0, hz1, hz2⟩ := info_parts tw_info
  have h1 : ¬ ((n : Int) < 0) := by omega
  by_cases hn0 : n = 0
  · subst hn0
    go_enter f_grow, n_grow
    go_wp2
    go_ret
    exact ⟨_, rfl, rowK.nil _ _, Below.refl _ _⟩
  · have hrz : ∀ ty, (Builtin.append_ #[tSR, 3] ty #[.slice none 0 0, .int .i64 (n : Int)]).run Tryz.prog w =
      .ok (.slice (some ⟨w.heap.size, 0, none⟩) n (grownCap w n 0 tR)) (w.drew.alloc (.cells (Builtin.zeroCells (Value.agg zA).cells n ++ Builtin.zeroCells (Value.agg zA).cells (grownCap w n 0 tR - n)) tR)) := fun ty => by
      have h := Lib.run_append_grow_zeros (P := Tryz.prog) w tSR 3 ty tR i0 _ .i64 .i64 u_SR Tryz.underlying3 hi hz0 none 0 0 [] (run_firstCells_none w.drew i0.size 0 0 0) n (by omega) (by rw [hz1]; decide) (by omega) (by omega) (by rw [hz2]; (try simp only [kBY, kN]); omega)
        (growslice_fits (by omega) (by rw [hz2]; (try simp only [kBY, kN]); omega))
      simpa using h
    have hge := grownCap_ge w n 0 tR
    have hle := grownCap_le_maxLen w n 0 tR (by unfold maxLen; omega)
    obtain ⟨G, hG⟩ : ∃ G, grownCap w n 0 tR = G := ⟨_, rfl⟩
    obtain ⟨zs, hzs⟩ : ∃ zs, (Builtin.zeroCells (Value.agg zA).cells n ++ Builtin.zeroCells (Value.agg zA).cells (G - n)) = zs := ⟨_, rfl⟩
    rw [hG] at hrz hge hle
    rw [hzs] at hrz
    have hsz : zs.size = G * kN := by
      have e4 : (Value.agg zA).cells.size = kN := rfl
      rw [← hzs, Array.size_append, size_zeroCells, size_zeroCells, e4]
      simp only [kN]
      omega
    have hr : Hid (twRow (w.alloc (.cells zs tR)).drew w.heap.size (.slice (some ⟨w.heap.size, 0, none⟩) 0 G) []) := Lib.hid ⟨rfl, .inr ⟨w.heap.size, G, zs, rfl, Nat.le_refl _, heap_alloc_new w _, Nat.zero_le _, hle, hsz, by simp⟩⟩
    have hb : Hid (Below w.heap.size w (w.alloc (.cells zs tR)).drew) := Lib.hid (below_drewN (below1 w zs _) 1)
    have h2 : (n : Int) > 0 := by omega
    unfold maxLen at hle
    clear hG hzs hsz hi hz0 hz1 hz2
    go_enter f_grow, n_grow
    go_wp2_with (at_builtin; refine Lib.wpList_append_run _ rfl _ _ _ _ rfl _ _ rfl rfl _ _ (hrz _) ?_)
    go_ret
    exact ⟨_, rfl, hr.out, hb.out⟩) : p_ := h_
set_option maxHeartbeats 2000000 in
theorem run_concat_any {p_ : Prop} (h_ : p_ := by
  have H := Lib.hid h
  obtain ⟨m, hm⟩ : ∃ m, ps.length = m := ⟨_, rfl⟩
  obtain ⟨i0, hi, hz0, hz1, hz2⟩ := info_parts tw_info
  have HI := Lib.hid (And.intro hi (And.intro hz0 (And.intro hz1 hz2)))
  have HTk := Lib.hid (joinP_take ps)
  obtain ⟨J, hJ⟩ : ∃ J, joinP ps = J := ⟨_, rfl⟩
  rw [hJ] at hj HTk ⊢
  have hjl : J.length ≤ 1000 := hj
  rw [hm] at hl ⊢
  have HM := Lib.hid hm
  have HJ := Lib.hid hJ
  have HGr := Lib.hid (grow_any J.length hj w)
  obtain ⟨g0, hg0⟩ : ∃ g0, w.heap.size = g0 := ⟨_, rfl⟩
  rw [hg0] at HGr ⊢
  have HG0 := Lib.hid hg0
  obtain ⟨M, hN⟩ : ∃ M, J.length = M := ⟨_, rfl⟩
  rw [hN] at hjl HGr HTk
  have HN := Lib.hid hN
  clear h hm hJ hg0 hj hN hi hz0 hz1 hz2
  go_enter f_cat, n_cat
  go_wp2
  go_loop [3, 11] (fun s3 s11 => ∃ k : Nat, k ≤ m ∧ s11 = .int .i64 (k : Int) ∧ s3 = .int .i64 ((joinP (ps.take k)).length : Int)) (fun _ s11 => m - (intOf s11).toNat)
  case atStart => exact ⟨0, Nat.zero_le _, rfl, rfl⟩
  case round =>
    obtain ⟨k, hk, rfl, rfl⟩ := hrel
    by_cases hlt : k < m
    · have hkl : k < ps.length := by rw [HM.out]; exact hlt
      have cz := H.out.cell k hkl
      have hst := joinP_step hkl
      have hn1 := HTk.out (k + 1)
      rw [hst, List.length_append] at hn1
      obtain ⟨p, hp⟩ : ∃ p, ps[k] = p := ⟨_, rfl⟩
      rw [hp] at cz hst hn1
      obtain ⟨a, ha⟩ : ∃ a, (joinP (ps.take k)).length = a := ⟨_, rfl⟩
      obtain ⟨b, hb⟩ : ∃ b, p.l.length = b := ⟨_, rfl⟩
      rw [hb] at cz
      rw [ha, hb] at hn1
      have HS : Hid ((joinP (ps.take (k + 1))).length = a + b) := Lib.hid (by rw [hst, List.length_append, ha, hb])
      have h0 : ¬ ((a : Int) + (b : Int) < 0) := by omega
      rw [ha]
      clear hst hp ha hb
      go_wp2
      go_round
      case rel => exact ⟨k + 1, by omega, by go_num, by rw [HS.out]; go_num⟩
      case measure => simp [intOf]; omega
    · obtain rfl : k = m := by omega
      have he : (joinP (ps.take k)).length = M := by rw [List.take_of_length_le (by rw [HM.out]; exact Nat.le_refl _), HJ.out, HN.out]
      rw [he]
      clear he
      go_wp2_with fail
      refine HGr.out.mono ?_
      rintro e w1 ⟨v, rfl, hr1, hb1⟩
      have HR1 := Lib.hid hr1
      have HB1 := Lib.hid hb1
      clear hr1 hb1 HGr
      go_wp2
      go_loopw [6, 27] (fun s6 s27 wr => ∃ j : Nat, j ≤ k ∧ s27 = .int .i64 (j : Int) ∧ Hid (twRow wr g0 s6 (joinP (ps.take j))) ∧ Hid (Below g0 w wr)) (fun _ s27 _ => k - (intOf s27).toNat)
      case atStart => exact ⟨0, Nat.zero_le _, rfl, HR1, HB1⟩
      case round =>
        obtain ⟨j, hj, rfl, hrow, hb⟩ := hrel
        by_cases hlt2 : j < k
        · have hkl : j < ps.length := by rw [HM.out]; exact hlt2
          have hps := H.out.below (by rw [HG0.out]; exact hb.out)
          have cz := hps.cell j hkl
          have hok := hps.ok _ (List.getElem_mem hkl)
          have hst := joinP_step hkl
          have hn1 := HTk.out (j + 1)
          rw [hst, List.length_append] at hn1
          obtain ⟨p, hp⟩ : ∃ p, ps[j] = p := ⟨_, rfl⟩
          rw [hp] at cz hst hn1 hok
          have HS := Lib.hid hst
          have HOk := Lib.hid hok
          have HN1 := Lib.hid hn1
          obtain ⟨A, c, l⟩ := p
          have hsz := hb.out.size
          clear hst hp hps hn1 hok
          go_wp2_with (at_builtin; refine wpList_append_sk rfl (.tmp 31) (.tmp 32) tSR rfl i0 _ kBY u_SR HI.out.1 HI.out.2.1 HI.out.2.2.1 HI.out.2.2.2 rfl (by decide) trC_len trC_one g0 _ _ rfl hrow.out A c l rfl HOk.out.row HOk.out.nil ?qa ?qb ?qc ?_)
          case qa => have := HN1.out; unfold maxLen; omega
          case qb => have := HN1.out; (try simp only [kBY, kN]); omega
          case qc => rw [← HG0.out]; exact hsz
          refine Lib.hid ?_
          intro v' w' hown hgr
          rw [← HS.out] at hown
          have HR := Lib.hid hown
          have HB := Lib.hid (show Below g0 w w' from hb.out.grown hgr (by rw [← HG0.out]; exact hsz) fun _ e => (hrow.out.from _ e).1)
          clear hown hgr
          go_wp2
          go_roundw
          case rel => exact ⟨j + 1, by omega, by go_num, HR, HB⟩
          case measure => simp [intOf]; omega
        · obtain rfl : j = k := by omega
          have he : joinP (ps.take j) = J := by rw [List.take_of_length_le (by rw [HM.out]; exact Nat.le_refl _), HJ.out]
          rw [he] at hrow
          clear he
          go_wp2
          go_ret
          exact ⟨_, rfl, hrow.out, hb.out⟩) : p_ := h_
end Go.Proofs.YtilkbfmaofmjoaaGreatDoor
