/-
  An update that is pushed, and taken often enough, is passed on just as often as the limit says: the law sodalitylaw10.RumorEnough over the contracts (layer 10).
-/
import Derived.Test.YtphkaohcfgmmkaaRuWorks
namespace Go.Proofs.Ytphkaohcfgmmkaa
open Go.RowKit Go.Maps
set_option linter.unusedSimpArgs false
set_option linter.unusedVariables false

theorem countU_snoc (u : Up) (l : List Up) (x : Up) : countU u (l ++ [x]) = countU u l + (if x = u then 1 else 0) := by
  unfold countU
  rw [List.countP_append]
  by_cases h : x = u <;> simp [h]
theorem countU_le (u : Up) (l : List Up) : countU u l ≤ l.length := by unfold countU; exact List.countP_le_length
/-- What is kept of the variables: the update, the others. -/
structure EnIn (W : World) (X : Nat) (u : Up) (A : Option Addr) (n c mem : Nat) : Prop where
  b0 : W.heap[X]? = some (.cells #[.int .i64 u.node, .int .u32 (u.inc : Int), .int .i64 u.st] 29)
  b1 : W.heap[X + 1]? = some (.cells #[.slice A n c, .int .u16 (mem : Int)] 42)
set_option maxHeartbeats 32000000 in
set_option maxRecDepth 100000 in
theorem enough_walk (m : Int) (u : Up) (hu : okUp u) (A : Option Addr) (n c : Nat) (ss : List Up) (mem : Nat) (w : World) (hS : SUp w A n ss) (hok : ∀ s ∈ ss, okUp s) (hnc : n ≤ c) (hm : c ≤ maxLen) (hmem : mem < 65536) :
    Calls Try.prog 4 #[.int .i64 m, .agg #[.int .i64 u.node, .int .u32 (u.inc : Int), .int .i64 u.st], .agg #[.slice A n c, .int .u16 (mem : Int)]] w fun e w' => e = .returned (.bool true) ∧ Below w.heap.size w w' := by
  have HWk := Lib.hid (fun w => works_any w)
  have HLen := Lib.hid hS.1
  have HS := Lib.hid hS
  have HOk := Lib.hid hok
  have hn63 : (n : Int) ≤ 9223372036854775807 := by unfold maxLen at hm; omega
  have hme : (mem : Int) ≤ 65535 := by omega
  have HU := Lib.hid hu
  obtain ⟨X, hX⟩ : ∃ X, w.heap.size = X := ⟨_, rfl⟩
  obtain ⟨W, hW⟩ : ∃ W, (w.alloc (.cells #[.int .i64 u.node, .int .u32 (u.inc : Int), .int .i64 u.st] 29)).alloc (.cells #[.slice A n c, .int .u16 (mem : Int)] 42) = W := ⟨_, rfl⟩
  have k0 : W.heap[X]? = some (.cells #[.int .i64 u.node, .int .u32 (u.inc : Int), .int .i64 u.st] 29) := by rw [← hW, ← hX]; exact (Below.heap_alloc _ _ _ (by simp)).trans (heap_alloc_new w _)
  have k1 : W.heap[X + 1]? = some (.cells #[.slice A n c, .int .u16 (mem : Int)] 42) := by
    rw [← hW, ← hX]
    have := heap_alloc_new (w.alloc (.cells #[.int .i64 u.node, .int .u32 (u.inc : Int), .int .i64 u.st] 29)) (.cells #[.slice A n c, .int .u16 (mem : Int)] 42)
    simpa using this
  have hb : Below w.heap.size w W := by rw [← hW]; exact below2 _ _ _
  have HI := Lib.hid (show EnIn W X u A n c mem from ⟨k0, k1⟩)
  have HB := Lib.hid hb
  have HX := Lib.hid hX
  have HW := Lib.hid hW
  have d0 : W.cell? ⟨X + 1, 0, none⟩ = some (.slice A n c) := by rw [cell_of_row _ _ _ _ _ _ k1]; rfl
  have d1 : W.cell? ⟨X + 1, 1, none⟩ = some (.int .u16 (mem : Int)) := by rw [cell_of_row _ _ _ _ _ _ k1]; rfl
  clear hS hok hm hnc hmem hu hX hW k0 k1 hb
  go_enter Try.func4, Try.ntmps4
  go_wp2
  rw [HW.out, HX.out]
  go_quiet (fail)
  obtain ⟨w1, hw1⟩ : ∃ w1, W.drewN nq = w1 := ⟨_, rfl⟩
  have HI1 : Hid (EnIn w1 X u A n c mem) := Lib.hid (by rw [← hw1]; exact ⟨HI.out.b0, HI.out.b1⟩)
  have HB1 : Hid (Below w.heap.size w w1) := Lib.hid (by rw [← hw1]; exact below_drewN HB.out nq)
  have HNew := Lib.hid (new_any m w1)
  rw [hw1]
  clear hw1 d0 d1
  go_wp2_with fail
  refine HNew.out.mono ?_
  rintro e w3 ⟨B, M, rfl, hQ, hB, hM, hb3⟩
  have HI3 : Hid (EnIn w3 X u A n c mem) := Lib.hid ⟨(hb3.block _ (block_lt HI1.out.b0)).trans HI1.out.b0, (hb3.block _ (block_lt HI1.out.b1)).trans HI1.out.b1⟩
  have HXl : Hid (X ≠ B ∧ X ≠ M ∧ X + 1 ≠ B ∧ X + 1 ≠ M) := Lib.hid (by have h1 := block_lt HI1.out.b1; have h2 := block_lt HI1.out.b0; omega)
  have HB3 := Lib.hid (HB1.out.trans (hb3.mono HB1.out.size))
  have HBM : Hid (w.heap.size ≤ B ∧ w.heap.size ≤ M) := Lib.hid (by have := HB1.out.size; omega)
  have HQ3 := Lib.hid (show ∃ q, QuAt w3 B M q ∧ Ahead u.node q ∧ q.clock ≤ 0 from ⟨_, hQ, Ahead.new _ _, Nat.le_refl _⟩)
  have HKeep : Hid (∀ w', ButQ B M w3 w' → Below w.heap.size w w' ∧ EnIn w' X u A n c mem) := Lib.hid (fun w' hb => ⟨((((But.of_below HB3.out).then_ hb (fun i hi hlt => by have := HBM.out; rcases hi with rfl | rfl <;> omega) : But (fun _ => False) w w')).below (Nat.le_refl _) (fun _ _ h => h)),
    ⟨(hb.block X (block_lt HI3.out.b0) (fun h => by have := HXl.out; rcases h with h | h <;> omega)).trans HI3.out.b0, (hb.block (X + 1) (block_lt HI3.out.b1) (fun h => by have := HXl.out; rcases h with h | h <;> omega)).trans HI3.out.b1⟩⟩)
  clear HNew hQ hB hM hb3
  go_wp2
  go_loopw [10] (fun u10 wr => ∃ k : Nat, k ≤ n ∧ k ≤ 8 ∧ u10 = .int .i64 (k : Int) ∧ Hid (ButQ B M w3 wr) ∧ Hid (∃ q, QuAt wr B M q ∧ Ahead u.node q ∧ q.clock ≤ k)) (fun u10 _ => n - (intOf u10).toNat)
  case atStart => exact ⟨0, Nat.zero_le _, Nat.zero_le _, rfl, Lib.hid (But.refl _ _), HQ3⟩
  case round =>
    obtain ⟨k, hkn, hk8, rfl, HBw, HQw⟩ := hrel
    by_cases hlt : k < n ∧ k < 8
    · obtain ⟨hlt1, hlt2⟩ := hlt
      have hkl : k < ss.length := by have := HLen.out; omega
      have q1 : (k : Int) < (n : Int) := by omega
      have q0 : (0 : Int) ≤ (k : Int) := by omega
      have q2 : (k : Int) < 8 := by omega
      obtain ⟨b, off, rfl, hbl, hst⟩ := (HS.out.of_block (HKeep.out wr HBw.out).1).at_ hlt1 hkl
      obtain ⟨x, hx⟩ : ∃ x, ss[k] = x := ⟨_, rfl⟩
      rw [hx] at hst
      obtain ⟨s0, s1, s2⟩ := hst
      obtain ⟨d0, d1, d2⟩ := blk3 (HKeep.out wr HBw.out).2.b0
      have HX := Lib.hid hx
      clear hx
      by_cases hne : x.node = u.node
      · have zn : (x.node != u.node) = false := by rw [hne]; simp
        clear hne
        go_wp2
        go_quiet (fail)
        have HBw2 := Lib.hid (HBw.out.drewN nq)
        have HQw2 : Hid (∃ q, QuAt (wr.drewN nq) B M q ∧ Ahead u.node q ∧ q.clock ≤ k + 1) := Lib.hid (by
          obtain ⟨q, h1, h2, h3⟩ := HQw.out
          exact ⟨q, h1.keep rfl rfl, h2, by omega⟩)
        clear s0 s1 s2 d0 d1 d2 hbl zn
        go_wp2
        go_roundw
        case rel => exact ⟨k + 1, by omega, by omega, by go_num, HBw2, HQw2⟩
        case measure => simp [intOf]; omega
      · have zn : (x.node != u.node) = true := by simpa using hne
        have HNe := Lib.hid hne
        clear hne
        go_wp2
        go_quiet (fail)
        obtain ⟨w4, hw4⟩ : ∃ w4, wr.drewN nq = w4 := ⟨_, rfl⟩
        have HBw2 : Hid (ButQ B M w3 w4) := Lib.hid (by rw [← hw4]; exact HBw.out.drewN nq)
        have HQw2 : Hid (∃ q, QuAt w4 B M q ∧ Ahead u.node q ∧ q.clock ≤ k) := Lib.hid (by
          obtain ⟨q, h1, h2, h3⟩ := HQw.out
          exact ⟨q, by rw [← hw4]; exact h1.keep rfl rfl, h2, h3⟩)
        have t0 : w4.cell? ⟨b, off + k * 3, none⟩ = some (.int .i64 x.node) := by rw [← hw4]; exact s0
        have t1 : w4.cell? ⟨b, off + k * 3 + 1, none⟩ = some (.int .u32 (x.inc : Int)) := by rw [← hw4]; exact s1
        have t2 : w4.cell? ⟨b, off + k * 3 + 2, none⟩ = some (.int .i64 x.st) := by rw [← hw4]; exact s2
        obtain ⟨q, hQ4, hA4, hc4⟩ := HQw2.out
        have HA4 := Lib.hid hA4
        have HC4 := Lib.hid hc4
        have HPush := Lib.hid (push_any x w4 hQ4 (by omega))
        rw [hw4]
        clear s0 s1 s2 d0 d1 d2 zn hw4 hQ4 hA4 hc4 HQw2 HQw
        go_wp2_with fail
        refine HPush.out.mono ?_
        rintro e w5 ⟨rfl, hQ5, hb5⟩
        have HB5 := Lib.hid (HBw2.out.trans hb5)
        have HQ5 : Hid (∃ q, QuAt w5 B M q ∧ Ahead u.node q ∧ q.clock ≤ k + 1) := Lib.hid ⟨_, hQ5, HA4.out.push HNe.out, by
          have := HC4.out
          unfold Qu.push
          split
          · show q.clock + 1 ≤ k + 1; omega
          · omega⟩
        clear hQ5 hb5 HPush t0 t1 t2 hbl
        go_wp2
        go_roundw
        case rel => exact ⟨k + 1, by omega, by omega, by go_num, HB5, HQ5⟩
        case measure => simp [intOf]; omega
    · have hend : ¬ (k : Int) < (n : Int) ∨ ((k : Int) < (n : Int) ∧ ¬ (k : Int) < 8) := by omega
      obtain ⟨d0, d1, d2⟩ := blk3 (HKeep.out wr HBw.out).2.b0
      obtain ⟨w2, rfl⟩ : ∃ w2 : World, w2 = wr := ⟨_, rfl⟩
      obtain ⟨q, hQ4, hA4, hc4⟩ := HQw.out
      have HQ4 := Lib.hid hQ4
      have HA4 := Lib.hid hA4
      have hq8 : q.clock ≤ 8 := by omega
      have HC4 := Lib.hid hq8
      clear hQ4 hA4 hc4 HQw hq8
      cases hr : u.right with
      | false =>
        have HR := Lib.hid (fun w => pright_any u w false hr)
        have HT := Lib.hid (Qu.takes_wrong q hr)
        clear hr
        rcases hend with h1 | ⟨h1, h2⟩
        all_goals
          go_wp2_with fail
          refine (HR.out w2).mono ?_
          rintro e w4 ⟨rfl, hb4⟩
          have HB4 := Lib.hid (HBw.out.trans (But.of_below hb4))
          have HPush := Lib.hid (push_any u w4 (HQ4.out.below hb4) (by have := HC4.out; omega))
          clear hb4 d0 d1 d2
          obtain ⟨d0, d1, d2⟩ := blk3 (HKeep.out w4 HB4.out).2.b0
          go_wp2_with fail
          refine HPush.out.mono ?_
          rintro e w5 ⟨rfl, hQ5, hb5⟩
          rw [HT.out]
          have HB5 := Lib.hid (HKeep.out w5 (HB4.out.trans hb5)).1
          clear hQ5 hb5 HPush d0 d1 d2
          go_wp2_with fail
          refine (HWk.out w5).mono ?_
          rintro e w6 ⟨rfl, hb6⟩
          have HB6 := Lib.hid (HB5.out.trans (hb6.mono HB5.out.size))
          clear hb6
          go_wp2
          go_ret
          exact ⟨rfl, HB6.out⟩
      | true =>
        have HR := Lib.hid (fun w => pright_any u w true hr)
        have HT := Lib.hid (HA4.out.takes hr)
        have hlpos := limitQ_pos HQ4.out.ok.mult1 (mem : Int)
        have hl128 := limitQ_le HQ4.out.ok.mult8 hme
        obtain ⟨lim, hlim⟩ : ∃ lim, limitQ q.mult (mem : Int) = lim := ⟨_, rfl⟩
        rw [hlim] at hlpos hl128
        have HE0 := Lib.hid (HA4.out.start hr hlpos)
        have HLim := Lib.hid hlim
        have hli : (lim : Int) ≤ 128 := by omega
        have hl0 : (0 : Int) ≤ (lim : Int) := by omega
        clear hr hlim
        rcases hend with h1 | ⟨h1, h2⟩
        all_goals
          go_wp2_with fail
          refine (HR.out w2).mono ?_
          rintro e w4 ⟨rfl, hb4⟩
          have HB4 := Lib.hid (HBw.out.trans (But.of_below hb4))
          have HPush := Lib.hid (push_any u w4 (HQ4.out.below hb4) (by have := HC4.out; omega))
          clear hb4 d0 d1 d2
          obtain ⟨d0, d1, d2⟩ := blk3 (HKeep.out w4 HB4.out).2.b0
          go_wp2_with fail
          refine HPush.out.mono ?_
          rintro e w5 ⟨rfl, hQ5, hb5⟩
          rw [HT.out]
          have HB5 := Lib.hid (HB4.out.trans hb5)
          have HL5 := Lib.hid (limit_any (mem : Int) (by unfold wfI; omega) w5 hQ5)
          have HQ5 := Lib.hid hQ5
          clear hQ5 hb5 HPush d0 d1 d2
          go_wp2_with fail
          refine HL5.out.mono ?_
          rintro e w6 ⟨rfl, nq6, rfl⟩
          rw [Qu.push_mult, HLim.out]
          obtain ⟨w6, hw6⟩ : ∃ w6, w5.drewN nq6 = w6 := ⟨_, rfl⟩
          have HB6 : Hid (ButQ B M w3 w6) := Lib.hid (by rw [← hw6]; exact HB5.out.drewN nq6)
          have HQ6 : Hid (∃ q', QuAt w6 B M q' ∧ Enough u lim 0 0 q' ∧ q'.mult = q.mult) := Lib.hid ⟨_, by rw [← hw6]; exact HQ5.out.keep rfl rfl, HE0.out, Qu.push_mult _ _⟩
          rw [hw6]
          clear hw6 HL5 HQ5 HB5 HB4
          go_wp2
          go_loopw [12, 13, 14, 15] (fun u12 u13 u14 u15 wr => ∃ k cnt : Nat, k ≤ 9 * lim ∧ cnt ≤ 2 * k ∧ u13 = .int .i64 (k : Int) ∧ u12 = .int .i64 (cnt : Int) ∧ Hid (ButQ B M w3 wr) ∧ Hid (∃ q', QuAt wr B M q' ∧ Enough u lim k cnt q' ∧ q'.mult = q.mult)) (fun _ u13 _ _ _ => 9 * lim - (intOf u13).toNat)
          case atStart => exact ⟨0, 0, Nat.zero_le _, Nat.zero_le _, rfl, rfl, HB6, HQ6⟩
          case round =>
            obtain ⟨k2, cnt, hk2, hcnt, rfl, rfl, HB7, HQ7⟩ := hrel
            obtain ⟨w7, rfl⟩ : ∃ w7 : World, w7 = wr := ⟨_, rfl⟩
            by_cases hlt2 : k2 < 9 * lim
            · have p1 : (k2 : Int) < 9 * (lim : Int) := by omega
              have p2 : (k2 : Int) < 2000 := by omega
              obtain ⟨q', hQ7, hE7, hm7⟩ := HQ7.out
              have HTk := Lib.hid (take_any 2 (mem : Int) (by unfold wfI; decide) (by unfold wfI; omega) w7 hQ7 (fun r hr => by have := hE7.sent r hr; omega))
              have HE7 := Lib.hid hE7
              have HM7 := Lib.hid hm7
              have HQq := Lib.hid hQ7.ok
              clear hQ7 hE7 hm7 HQ7
              go_wp2_with fail
              refine HTk.out.mono ?_
              rintro e w8 ⟨v8, rfl, hrow8, hQ8, hb8⟩
              rw [HM7.out, HLim.out] at hrow8 hQ8
              have e2 : (2 : Int).toNat = 2 := rfl
              rw [e2] at hrow8 hQ8
              obtain ⟨l8, hl8⟩ : ∃ l, (q'.take 2 lim).1 = l := ⟨_, rfl⟩
              have hlen8 : l8.length ≤ 2 := by rw [← hl8]; show ((q'.L.take 2).map (·.u)).length ≤ 2; rw [List.length_map, List.length_take]; omega
              rw [hl8] at hrow8
              obtain ⟨A8, c8, rfl, hS8, hn8, hm8⟩ := SUp.of_row hrow8
              obtain ⟨n8, hn8'⟩ : ∃ n, l8.length = n := ⟨_, rfl⟩
              rw [hn8'] at hS8 hn8 hlen8
              rw [hn8']
              have HN8 := Lib.hid hn8'
              have HL8 := Lib.hid hl8
              have HS8 := Lib.hid hS8
              have HB8 := Lib.hid (HB7.out.trans hb8)
              have HQ8 : Hid (∃ q2, QuAt w8 B M q2 ∧ Enough u lim (k2 + 1) (cnt + countU u l8) q2 ∧ q2.mult = q.mult) := Lib.hid ⟨_, hQ8, by rw [← hl8]; exact HE7.out.step, HM7.out⟩
              have hc8 : (n8 : Int) ≤ 2 := by omega
              have hcn : (cnt : Int) ≤ 2400 := by omega
              clear hrow8 hQ8 hb8 hS8 hm8 hl8 hn8' HTk e2 HE7 HM7 HQq HB7
              go_wp2
              go_loopw [12, 15] (fun u12 u15 wr => ∃ j : Nat, j ≤ n8 ∧ u15 = .int .i64 (j : Int) ∧ (∃ cj : Nat, cj ≤ cnt + j ∧ u12 = .int .i64 (cj : Int) ∧ Hid (cj = cnt + countU u (l8.take j))) ∧ Hid (Below w8.heap.size w8 wr)) (fun _ u15 _ => n8 - (intOf u15).toNat)
              case atStart => exact ⟨0, Nat.zero_le _, rfl, ⟨cnt, by omega, rfl, Lib.hid (by simp [countU])⟩, Lib.hid (Below.refl _ _)⟩
              case round =>
                obtain ⟨j, hj, rfl, ⟨cj, hcj, rfl, HCj⟩, HB9⟩ := hrel
                by_cases hltj : j < n8
                · have hjl : j < l8.length := by have := HN8.out; omega
                  obtain ⟨bb, off2, rfl, hbb, hst⟩ := (HS8.out.of_block HB9.out).at_ hltj hjl
                  obtain ⟨y, hy⟩ : ∃ x, l8[j] = x := ⟨_, rfl⟩
                  rw [hy] at hst
                  have HSn := Lib.hid (show countU u (l8.take (j + 1)) = countU u (l8.take j) + (if y = u then 1 else 0) by rw [List.take_succ_eq_append_getElem hjl, countU_snoc, hy])
                  obtain ⟨c0, c1, c2⟩ := hst
                  obtain ⟨d0, d1, d2⟩ := blk3 ((HB9.out.block X (block_lt (HKeep.out w8 HB8.out).2.b0)).trans (HKeep.out w8 HB8.out).2.b0)
                  have j1 : (j : Int) < (n8 : Int) := by omega
                  have j0 : (0 : Int) ≤ (j : Int) := by omega
                  have j3 : (cj : Int) ≤ 2500 := by omega
                  have ug := up_guard
                  have ue := fun w => up_eq y u w
                  clear hy
                  by_cases hyu : y = u
                  · rw [decide_eq_true hyu] at ue
                    have HYu := Lib.hid hyu
                    clear hyu
                    go_wp2
                    go_quiet (fail)
                    have HB10 := Lib.hid (below_drewN HB9.out nq)
                    clear c0 c1 c2 d0 d1 d2 ue ug hbb
                    go_wp2
                    go_roundw
                    case rel => exact ⟨j + 1, by omega, by go_num, ⟨cj + 1, by omega, by go_num, Lib.hid (by rw [HSn.out, if_pos HYu.out, HCj.out]; omega)⟩, HB10⟩
                    case measure => simp [intOf]; omega
                  · rw [decide_eq_false hyu] at ue
                    have HYu := Lib.hid hyu
                    clear hyu
                    go_wp2
                    go_quiet (fail)
                    have HB10 := Lib.hid (below_drewN HB9.out nq)
                    clear c0 c1 c2 d0 d1 d2 ue ug hbb
                    go_wp2
                    go_roundw
                    case rel => exact ⟨j + 1, by omega, by go_num, ⟨cj, by omega, rfl, Lib.hid (by rw [HSn.out, if_neg HYu.out, HCj.out]; omega)⟩, HB10⟩
                    case measure => simp [intOf]; omega
                · obtain rfl : j = n8 := by omega
                  have HCe : Hid (cj = cnt + countU u l8) := Lib.hid (by rw [HCj.out, List.take_of_length_le (by have := HN8.out; omega)])
                  have HB10 := Lib.hid (HB8.out.trans (But.of_below HB9.out))
                  have HQ10 : Hid (∃ q2, QuAt wr B M q2 ∧ Enough u lim (k2 + 1) cj q2 ∧ q2.mult = q.mult) := Lib.hid (by
                    obtain ⟨q2, h1, h2, h3⟩ := HQ8.out
                    exact ⟨q2, h1.below HB9.out, by rw [HCe.out]; exact h2, h3⟩)
                  go_wp2
                  go_roundw
                  case rel => exact ⟨k2 + 1, cj, by omega, by omega, by go_num, rfl, HB10, HQ10⟩
                  case measure => simp [intOf]; omega
            · obtain rfl : k2 = 9 * lim := by omega
              obtain ⟨q', hQ7, hE7, hm7⟩ := HQ7.out
              obtain ⟨hd1, hd2⟩ := hE7.done hlpos (Nat.le_refl _)
              obtain rfl : cnt = lim := hd2
              have HLs := Lib.hid ((list_any w7 hQ7).mono (fun e' w' ⟨v, h1, h2, h3⟩ => (show ∃ A c, e' = Ending.returned (Value.slice A 0 c) ∧ Below w7.heap.size w7 w' by
                rw [hd1] at h2
                obtain ⟨A, c, rfl, _⟩ := SK.of_row rmC_len h2
                exact ⟨A, c, h1, h3⟩)))
              have p1 : ¬ ((9 * cnt : Nat) : Int) < 9 * (cnt : Int) := by omega
              have HBe := Lib.hid (HKeep.out w7 HB7.out).1
              clear hQ7 hE7 hm7 hd1 HQ7 HE0 HLim
              go_wp2_with fail
              refine HLs.out.mono ?_
              rintro e w8 ⟨A8, c8, rfl, hb8⟩
              have HB8 := Lib.hid (HBe.out.trans (hb8.mono HBe.out.size))
              clear hb8 HLs
              go_wp2_with fail
              refine (HWk.out w8).mono ?_
              rintro e w9 ⟨rfl, hb9⟩
              have HB9 := Lib.hid (HB8.out.trans (hb9.mono HB8.out.size))
              clear hb9
              go_wp2
              go_ret
              exact ⟨rfl, HB9.out⟩
end Go.Proofs.Ytphkaohcfgmmkaa
