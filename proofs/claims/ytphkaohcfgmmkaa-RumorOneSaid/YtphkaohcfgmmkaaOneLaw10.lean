/-
  There is one update of each node at most, and none below one that was pushed while it was there: the law sodalitylaw10.RumorOne over the contracts (layer 10).
-/
import Derived.Test.YtphkaohcfgmmkaaRuWorks
import Derived.Test.YtphkaohcfgmmkaaStMem
namespace Go.Proofs.Ytphkaohcfgmmkaa
open Go.RowKit Go.Maps
set_option linter.unusedSimpArgs false
set_option linter.unusedVariables false

theorem nodes_inj {L : List Ru} (h : (L.map (·.u.node)).Nodup) {i j : Nat} (hi : i < L.length) (hj : j < L.length) (e : L[i].u.node = L[j].u.node) : i = j := by
  have h1 := List.pairwise_iff_getElem.1 h
  rcases Nat.lt_trichotomy i j with k | k | k
  · exact absurd (by rw [List.getElem_map, List.getElem_map]; exact e) (h1 i j (by simpa using hi) (by simpa using hj) k)
  · exact k
  · exact absurd (by rw [List.getElem_map, List.getElem_map]; exact e.symm) (h1 j i (by simpa using hj) (by simpa using hi) k)
theorem Qu.small.push {q : Qu} {N : Nat} (h : q.small N) (u : Up) : (q.push u).small (N + 1) := by
  refine ⟨?_, fun r hr => ?_⟩
  · have := h.1
    unfold Qu.push
    split
    · show q.clock + 1 ≤ N + 1; omega
    · omega
  · rcases Qu.push_mem hr with e | e
    · have := h.2 r e; omega
    · rw [e]; exact Nat.zero_le _
theorem Qu.small.take {q : Qu} {N : Nat} (h : q.small N) (m lim : Nat) : (q.take m lim).2.small (N + 1) := by
  refine ⟨by have := h.1; show q.clock ≤ N + 1; omega, fun r hr => ?_⟩
  have hr2 : r ∈ left m lim q.L := (sortQ_perm _).subset hr
  unfold left at hr2
  rcases List.mem_append.1 hr2 with e | e
  · obtain ⟨s, hs, rfl⟩ := List.mem_map.1 (List.mem_filter.1 e).1
    have := h.2 s (List.mem_of_mem_take hs)
    show s.sent + 1 ≤ N + 1
    omega
  · have := h.2 r (List.mem_of_mem_drop e); omega
theorem Qu.small.new (m : Int) : (Qu.new m).small 0 := ⟨Nat.le_refl _, fun r h => by cases h⟩
theorem Qu.small.mono {q : Qu} {N N' : Nat} (h : q.small N) (hN : N ≤ N') : q.small N' := ⟨Nat.le_trans h.1 hN, fun r hr => Nat.le_trans (h.2 r hr) hN⟩
set_option maxHeartbeats 32000000 in
set_option maxRecDepth 100000 in
theorem one_walk (m : Int) (A : Option Addr) (n c : Nat) (ss : List St) (w : World) (hS : SSt w A n ss) (hok : ∀ s ∈ ss, okSt s) (hnc : n ≤ c) (hm : c ≤ maxLen) :
    Calls Try.prog 3 #[.int .i64 m, .slice A n c] w fun e w' => e = .returned (.bool true) ∧ Below w.heap.size w w' := by
  have HNew := Lib.hid (new_any m w)
  have HWk := Lib.hid (fun w => works_any w)
  have HLen := Lib.hid hS.1
  have HS := Lib.hid hS
  have HOk := Lib.hid hok
  have hn63 : (n : Int) ≤ 9223372036854775807 := by unfold maxLen at hm; omega
  clear hS hok hm hnc
  go_enter Try.func3, Try.ntmps3
  go_wp2_with fail
  refine HNew.out.mono ?_
  rintro e w1 ⟨B, M, rfl, hQ, hB, hM, hb1⟩
  have HB1 := Lib.hid hb1
  have HQ1 : Hid (∃ q, QuAt w1 B M q ∧ q.small 0) := Lib.hid ⟨_, hQ, Qu.small.new m⟩
  have HBM := Lib.hid (And.intro hB hM)
  clear HNew hQ hB hM hb1
  go_wp2
  go_loopw [6, 7, 8, 9, 10, 11] (fun u6 u7 u8 u9 u10 u11 wr => ∃ k : Nat, k ≤ n ∧ k ≤ 80 ∧ u6 = .int .i64 (k : Int) ∧ Hid (Below w.heap.size w wr) ∧ Hid (∃ q, QuAt wr B M q ∧ q.small k)) (fun u6 _ _ _ _ _ _ => n - (intOf u6).toNat)
  case atStart => exact ⟨0, Nat.zero_le _, Nat.zero_le _, rfl, HB1, HQ1⟩
  case round =>
    obtain ⟨k, hkn, hk80, rfl, HBw, HQw⟩ := hrel
    obtain ⟨w2, rfl⟩ : ∃ w2 : World, w2 = wr := ⟨_, rfl⟩
    by_cases hlt : k < n ∧ k < 80
    · obtain ⟨hlt1, hlt2⟩ := hlt
      have hkl : k < ss.length := by have := HLen.out; omega
      have q1 : (k : Int) < (n : Int) := by omega
      have q0 : (0 : Int) ≤ (k : Int) := by omega
      have q2 : (k : Int) < 80 := by omega
      obtain ⟨q, hQ, hsm⟩ := HQw.out
      have HList := Lib.hid (list_any w2 hQ)
      have HQ2 := Lib.hid hQ
      have HSm := Lib.hid hsm
      clear hQ hsm HQw
      go_wp2_with fail
      refine HList.out.mono ?_
      rintro e w3 ⟨v1, rfl, hrow1, hb3⟩
      obtain ⟨A1, cp1, rfl, hS1, hn1, hm1, hbase1⟩ := SK.of_row rmC_len hrow1
      have HB3 := Lib.hid (HBw.out.trans (hb3.mono HBw.out.size))
      have HQ3 := Lib.hid (HQ2.out.below hb3)
      have h81 := HQ2.out.few
      obtain ⟨L1, hL1⟩ : ∃ L1, q.L = L1 := ⟨_, rfl⟩
      rw [hL1] at hS1 hn1 h81
      rw [hL1]
      obtain ⟨n1, hn1'⟩ : ∃ n1, L1.length = n1 := ⟨_, rfl⟩
      rw [hn1'] at hS1 hn1 h81
      rw [hn1']
      have HN1 := Lib.hid hn1'
      have HL1 := Lib.hid hL1
      have HNe1 : Hid (∀ b off, A1 = some ⟨b, off, none⟩ → 0 < n1 → ¬ (b = B ∨ b = M)) := Lib.hid (fun b off e _ hs => by
        have h1 := hbase1 b off e
        have h2 := HQ2.out.lt
        rcases hs with rfl | rfl <;> omega)
      have HS1 := Lib.hid hS1
      have hn18 : (n1 : Int) ≤ 8 := by omega
      clear hrow1 hb3 hS1 hm1 hbase1 hL1 hn1' HList
      obtain ⟨b, off, rfl, hbl, hst⟩ := (HS.out.of_block HB3.out).at_ hlt1 hkl
      obtain ⟨x, hx⟩ : ∃ x, ss[k] = x := ⟨_, rfl⟩
      rw [hx] at hst
      have HOx := Lib.hid (show okSt x by rw [← hx]; exact HOk.out _ (List.getElem_mem hkl))
      obtain ⟨s0, ⟨s1, s2, s3⟩, s4, s5⟩ := hst
      clear hx
      by_cases hkd : x.kind = 1
      · have zk : (x.kind == 1) = true := by rw [beq_iff_eq]; exact hkd
        clear hkd
        go_wp2
        go_still_tail 11, (by kernel_rfl)
        have HQ3d : Hid (QuAt w3.drew B M q) := Lib.hid (HQ3.out.keep rfl rfl)
        have HB3d : Hid (Below w.heap.size w w3.drew) := Lib.hid HB3.out.drew
        have HS1d : Hid (SK rmC 4 w3.drew A1 n1 L1) := Lib.hid (HS1.out.keep (fun _ _ _ => rfl))
        clear s0 s1 s2 s3 s4 s5 hbl zk HQ3 HB3 HS1
        change wpList _ _ _ _ _ w3.drew
        generalize w3.drew = w3 at *
        have HTake := Lib.hid (take_any x.most x.mem HOx.out.2.1 HOx.out.2.2 w3 HQ3d.out (fun r hr => by have := HSm.out.2 r hr; omega))
        go_wp2_with fail
        refine HTake.out.mono ?_
        rintro e w4 ⟨v4, rfl, _, hQ4, hb4⟩
        obtain ⟨q2, hq2⟩ : ∃ q2, (q.take x.most.toNat (limitQ q.mult x.mem)).2 = q2 := ⟨_, rfl⟩
        rw [hq2] at hQ4
        have HRise : Hid (∀ r ∈ L1, ∀ s ∈ q2.L, r.u.above s.u = false) := Lib.hid (fun r hr s hs => Qu.take_rises HQ2.out.ok x.most.toNat (limitQ q.mult x.mem) (by rw [HL1.out]; exact hr) (by rw [hq2]; exact hs))
        have HSm2 : Hid (q2.small (k + 1)) := Lib.hid (by rw [← hq2]; exact HSm.out.take _ _)
        have HQ4 := Lib.hid hQ4
        have HB14 := Lib.hid hb4
        have HB4 : Hid (Below w.heap.size w w4) := Lib.hid (((But.of_below HB3d.out).then_ hb4 (fun i hi hlt => by have := HBM.out; rcases hi with rfl | rfl <;> omega) : But (fun _ => False) w w4).below (Nat.le_refl _) (fun _ _ h => h))
        have HS1 := HS1d
        clear hQ4 hb4 hq2 HTake HQ3d HB3d HS1d
        have HQ5 := HQ4
        have HListB := Lib.hid (list_any w4 HQ4.out)
        go_wp2_with fail
        refine HListB.out.mono ?_
        rintro e w5 ⟨v2, rfl, hrow2, hb5⟩
        obtain ⟨A2, cp2, rfl, hS2, hn2, hm2, _⟩ := SK.of_row rmC_len hrow2
        obtain ⟨L2, hL2⟩ : ∃ L2, q2.L = L2 := ⟨_, rfl⟩
        have hok2 := HQ4.out.ok
        have h82 := HQ4.out.few
        rw [hL2] at hS2 hn2 h82
        have HNd : Hid (∀ (i j : Nat) (hi : i < L2.length) (hj : j < L2.length), j < i → L2[i].u.node ≠ L2[j].u.node ∧ L2[j].sent ≤ L2[i].sent) := Lib.hid (by
          subst hL2
          intro i j hi hj hji
          refine ⟨fun e => ?_, ?_⟩
          · have := nodes_inj hok2.nodes hi hj e
            omega
          · have := List.pairwise_iff_getElem.1 hok2.sorted j i hj hi hji
            unfold Ru.lt at this
            omega)
        have HAb : Hid (∀ r ∈ L1, ∀ s ∈ L2, r.u.above s.u = false) := Lib.hid (by subst hL2; exact HRise.out)
        obtain ⟨n2, hn2'⟩ : ∃ n2, L2.length = n2 := ⟨_, rfl⟩
        rw [hL2]
        rw [hn2'] at hS2 hn2 h82
        rw [hn2']
        have HN2 := Lib.hid hn2'
        have HS2 := Lib.hid hS2
        have HS15 := Lib.hid (((HS1.out.but HB14.out HNe1.out)).below hb5)
        have HB5 := Lib.hid (HB4.out.trans (hb5.mono HB4.out.size))
        have HQ6 := Lib.hid (HQ4.out.below hb5)
        have hn28 : (n2 : Int) ≤ 8 := by omega
        clear hrow2 hb5 hS2 hm2 hL2 hok2 hn2' HListB HS1 HB14 HNe1 HRise HB4 HQ4
        go_wp2
        go_loopw [9, 10, 11] (fun u9 u10 u11 w6 => ∃ i : Nat, i ≤ n2 ∧ u9 = .int .i64 (i : Int) ∧ Hid (Below w5.heap.size w5 w6)) (fun u9 _ _ _ => n2 - (intOf u9).toNat)
        case atStart => exact ⟨0, Nat.zero_le _, rfl, Lib.hid (Below.refl _ _)⟩
        case round =>
          obtain ⟨i, hi, rfl, HB6⟩ := hrel
          obtain ⟨wo, rfl⟩ : ∃ wo : World, wo = wr := ⟨_, rfl⟩
          by_cases hlti : i < n2
          · have hil : i < L2.length := by have := HN2.out; omega
            have i1 : (i : Int) < (n2 : Int) := by omega
            have i0 : (0 : Int) ≤ (i : Int) := by omega
            go_wp2
            go_loopw [10] (fun u10 w7 => ∃ j : Nat, j ≤ i ∧ u10 = .int .i64 (j : Int) ∧ Hid (Below w5.heap.size w5 w7)) (fun u10 _ => i - (intOf u10).toNat)
            case atStart => exact ⟨0, Nat.zero_le _, rfl, HB6⟩
            case round =>
              obtain ⟨j, hj, rfl, HB7⟩ := hrel
              by_cases hltj : j < i
              · have hjl : j < L2.length := by omega
                obtain ⟨bb, off2, rfl, hbb, hitj⟩ := (HS2.out.below HB7.out).at_ (show j < n2 by omega) hjl
                obtain ⟨_, _, e1, _, hiti⟩ := (HS2.out.below HB7.out).at_ hlti hil
                simp only [Option.some.injEq, Addr.mk.injEq, and_true] at e1
                obtain ⟨rfl, rfl⟩ := e1
                have hnd := HNd.out i j hil hjl hltj
                obtain ⟨x2, hx2⟩ : ∃ x, L2[i] = x := ⟨_, rfl⟩
                obtain ⟨y2, hy2⟩ : ∃ x, L2[j] = x := ⟨_, rfl⟩
                rw [hx2] at hiti hnd
                rw [hy2] at hitj hnd
                obtain ⟨c0, c1, c2, c3⟩ := hiti.rm
                obtain ⟨d0, d1, d2, d3⟩ := hitj.rm
                have j1 : (j : Int) < (i : Int) := by omega
                have j2 : (j : Int) < (n2 : Int) := by omega
                have j0 : (0 : Int) ≤ (j : Int) := by omega
                have z1 : (x2.u.node == y2.u.node) = false := by rw [beq_eq_false_iff_ne]; exact hnd.1
                have z2 : decide (x2.sent < y2.sent) = false := by rw [decide_eq_false_iff_not]; omega
                clear hx2 hy2 hiti hitj hnd
                go_wp2
                go_quiet (fail)
                go_wp2
                go_roundw
                case rel => exact ⟨j + 1, by omega, by go_num, Lib.hid (below_drewN HB7.out nq)⟩
                case measure => simp [intOf]; omega
              · obtain rfl : j = i := by omega
                go_wp2
                go_loopw [11] (fun u11 w8 => ∃ j : Nat, j ≤ n1 ∧ u11 = .int .i64 (j : Int) ∧ Hid (Below w5.heap.size w5 w8)) (fun u11 _ => n1 - (intOf u11).toNat)
                case atStart => exact ⟨0, Nat.zero_le _, rfl, HB7⟩
                case round =>
                  obtain ⟨k1, hk1, rfl, HB8⟩ := hrel
                  by_cases hltk : k1 < n1
                  · have hkl : k1 < L1.length := by have := HN1.out; omega
                    obtain ⟨ba, off1, rfl, hba, hitk⟩ := (HS15.out.below HB8.out).at_ hltk hkl
                    obtain ⟨bb, off2, rfl, hbb, hiti⟩ := (HS2.out.below HB8.out).at_ hlti hil
                    have hab := HAb.out L1[k1] (List.getElem_mem hkl) L2[j] (List.getElem_mem hil)
                    obtain ⟨x2, hx2⟩ : ∃ x, L2[j] = x := ⟨_, rfl⟩
                    obtain ⟨y2, hy2⟩ : ∃ x, L1[k1] = x := ⟨_, rfl⟩
                    rw [hx2] at hiti hab
                    rw [hy2] at hitk hab
                    have HA := Lib.hid (fun w => pabove_any y2.u x2.u w false hab)
                    obtain ⟨c0, c1, c2, c3⟩ := hiti.rm
                    obtain ⟨d0, d1, d2, d3⟩ := hitk.rm
                    have j1 : (k1 : Int) < (n1 : Int) := by omega
                    have j0 : (0 : Int) ≤ (k1 : Int) := by omega
                    clear hx2 hy2 hiti hitk hab
                    go_wp2
                    go_still_tail 10, (by kernel_rfl)
                    have HB9 : Hid (Below w5.heap.size w5 wr.drew) := Lib.hid HB8.out.drew
                    clear c0 c1 c2 c3 d0 d1 d2 d3
                    change wpList _ _ _ _ _ wr.drew
                    generalize wr.drew = w9 at *
                    go_wp2_with fail
                    refine (HA.out w9).mono ?_
                    rintro e w10 ⟨rfl, hb10⟩
                    have HB10 := Lib.hid (HB9.out.trans (hb10.mono HB9.out.size))
                    clear hb10 HA
                    go_wp2
                    go_roundw
                    case rel => exact ⟨k1 + 1, by omega, by go_num, HB10⟩
                    case measure => simp [intOf]; omega
                  · go_wp2
                    go_roundw
                    case rel => exact ⟨j + 1, by omega, by go_num, HB8⟩
                    case measure => simp [intOf]; omega
          · go_wp2
            go_roundw
            case rel => exact ⟨k + 1, by omega, by omega, by go_num, Lib.hid (HB5.out.trans (HB6.out.mono HB5.out.size)), Lib.hid ⟨q2, HQ6.out.below HB6.out, HSm2.out⟩⟩
            case measure => simp [intOf]; omega
      · have zk : (x.kind == 1) = false := by rw [beq_eq_false_iff_ne]; exact hkd
        clear hkd
        have HPush := Lib.hid (push_any x.u w3 HQ3.out (by have := HSm.out.1; omega))
        go_wp2_with fail
        refine HPush.out.mono ?_
        rintro e w4 ⟨rfl, hQ4, hb4⟩
        obtain ⟨q2, hq2⟩ : ∃ q2, q.push x.u = q2 := ⟨_, rfl⟩
        rw [hq2] at hQ4
        have HRise : Hid (∀ r ∈ L1, ∀ s ∈ q2.L, r.u.above s.u = false) := Lib.hid (fun r hr s hs => Qu.push_rises HQ2.out.ok x.u (by rw [HL1.out]; exact hr) (by rw [hq2]; exact hs))
        have HSm2 : Hid (q2.small (k + 1)) := Lib.hid (by rw [← hq2]; exact HSm.out.push _)
        have HQ4 := Lib.hid hQ4
        have HB14 := Lib.hid hb4
        have HB4 : Hid (Below w.heap.size w w4) := Lib.hid (((But.of_below HB3.out).then_ hb4 (fun i hi hlt => by have := HBM.out; rcases hi with rfl | rfl <;> omega) : But (fun _ => False) w w4).below (Nat.le_refl _) (fun _ _ h => h))
        clear hQ4 hb4 hq2 HPush s0 s1 s2 s3 s4 s5 hbl zk HQ3 HB3
        have HQ5 := HQ4
        have HListB := Lib.hid (list_any w4 HQ4.out)
        go_wp2_with fail
        refine HListB.out.mono ?_
        rintro e w5 ⟨v2, rfl, hrow2, hb5⟩
        obtain ⟨A2, cp2, rfl, hS2, hn2, hm2, _⟩ := SK.of_row rmC_len hrow2
        obtain ⟨L2, hL2⟩ : ∃ L2, q2.L = L2 := ⟨_, rfl⟩
        have hok2 := HQ4.out.ok
        have h82 := HQ4.out.few
        rw [hL2] at hS2 hn2 h82
        have HNd : Hid (∀ (i j : Nat) (hi : i < L2.length) (hj : j < L2.length), j < i → L2[i].u.node ≠ L2[j].u.node ∧ L2[j].sent ≤ L2[i].sent) := Lib.hid (by
          subst hL2
          intro i j hi hj hji
          refine ⟨fun e => ?_, ?_⟩
          · have := nodes_inj hok2.nodes hi hj e
            omega
          · have := List.pairwise_iff_getElem.1 hok2.sorted j i hj hi hji
            unfold Ru.lt at this
            omega)
        have HAb : Hid (∀ r ∈ L1, ∀ s ∈ L2, r.u.above s.u = false) := Lib.hid (by subst hL2; exact HRise.out)
        obtain ⟨n2, hn2'⟩ : ∃ n2, L2.length = n2 := ⟨_, rfl⟩
        rw [hL2]
        rw [hn2'] at hS2 hn2 h82
        rw [hn2']
        have HN2 := Lib.hid hn2'
        have HS2 := Lib.hid hS2
        have HS15 := Lib.hid (((HS1.out.but HB14.out HNe1.out)).below hb5)
        have HB5 := Lib.hid (HB4.out.trans (hb5.mono HB4.out.size))
        have HQ6 := Lib.hid (HQ4.out.below hb5)
        have hn28 : (n2 : Int) ≤ 8 := by omega
        clear hrow2 hb5 hS2 hm2 hL2 hok2 hn2' HListB HS1 HB14 HNe1 HRise HB4 HQ4
        go_wp2
        go_loopw [9, 10, 11] (fun u9 u10 u11 w6 => ∃ i : Nat, i ≤ n2 ∧ u9 = .int .i64 (i : Int) ∧ Hid (Below w5.heap.size w5 w6)) (fun u9 _ _ _ => n2 - (intOf u9).toNat)
        case atStart => exact ⟨0, Nat.zero_le _, rfl, Lib.hid (Below.refl _ _)⟩
        case round =>
          obtain ⟨i, hi, rfl, HB6⟩ := hrel
          obtain ⟨wo, rfl⟩ : ∃ wo : World, wo = wr := ⟨_, rfl⟩
          by_cases hlti : i < n2
          · have hil : i < L2.length := by have := HN2.out; omega
            have i1 : (i : Int) < (n2 : Int) := by omega
            have i0 : (0 : Int) ≤ (i : Int) := by omega
            go_wp2
            go_loopw [10] (fun u10 w7 => ∃ j : Nat, j ≤ i ∧ u10 = .int .i64 (j : Int) ∧ Hid (Below w5.heap.size w5 w7)) (fun u10 _ => i - (intOf u10).toNat)
            case atStart => exact ⟨0, Nat.zero_le _, rfl, HB6⟩
            case round =>
              obtain ⟨j, hj, rfl, HB7⟩ := hrel
              by_cases hltj : j < i
              · have hjl : j < L2.length := by omega
                obtain ⟨bb, off2, rfl, hbb, hitj⟩ := (HS2.out.below HB7.out).at_ (show j < n2 by omega) hjl
                obtain ⟨_, _, e1, _, hiti⟩ := (HS2.out.below HB7.out).at_ hlti hil
                simp only [Option.some.injEq, Addr.mk.injEq, and_true] at e1
                obtain ⟨rfl, rfl⟩ := e1
                have hnd := HNd.out i j hil hjl hltj
                obtain ⟨x2, hx2⟩ : ∃ x, L2[i] = x := ⟨_, rfl⟩
                obtain ⟨y2, hy2⟩ : ∃ x, L2[j] = x := ⟨_, rfl⟩
                rw [hx2] at hiti hnd
                rw [hy2] at hitj hnd
                obtain ⟨c0, c1, c2, c3⟩ := hiti.rm
                obtain ⟨d0, d1, d2, d3⟩ := hitj.rm
                have j1 : (j : Int) < (i : Int) := by omega
                have j2 : (j : Int) < (n2 : Int) := by omega
                have j0 : (0 : Int) ≤ (j : Int) := by omega
                have z1 : (x2.u.node == y2.u.node) = false := by rw [beq_eq_false_iff_ne]; exact hnd.1
                have z2 : decide (x2.sent < y2.sent) = false := by rw [decide_eq_false_iff_not]; omega
                clear hx2 hy2 hiti hitj hnd
                go_wp2
                go_quiet (fail)
                go_wp2
                go_roundw
                case rel => exact ⟨j + 1, by omega, by go_num, Lib.hid (below_drewN HB7.out nq)⟩
                case measure => simp [intOf]; omega
              · obtain rfl : j = i := by omega
                go_wp2
                go_loopw [11] (fun u11 w8 => ∃ j : Nat, j ≤ n1 ∧ u11 = .int .i64 (j : Int) ∧ Hid (Below w5.heap.size w5 w8)) (fun u11 _ => n1 - (intOf u11).toNat)
                case atStart => exact ⟨0, Nat.zero_le _, rfl, HB7⟩
                case round =>
                  obtain ⟨k1, hk1, rfl, HB8⟩ := hrel
                  by_cases hltk : k1 < n1
                  · have hkl : k1 < L1.length := by have := HN1.out; omega
                    obtain ⟨ba, off1, rfl, hba, hitk⟩ := (HS15.out.below HB8.out).at_ hltk hkl
                    obtain ⟨bb, off2, rfl, hbb, hiti⟩ := (HS2.out.below HB8.out).at_ hlti hil
                    have hab := HAb.out L1[k1] (List.getElem_mem hkl) L2[j] (List.getElem_mem hil)
                    obtain ⟨x2, hx2⟩ : ∃ x, L2[j] = x := ⟨_, rfl⟩
                    obtain ⟨y2, hy2⟩ : ∃ x, L1[k1] = x := ⟨_, rfl⟩
                    rw [hx2] at hiti hab
                    rw [hy2] at hitk hab
                    have HA := Lib.hid (fun w => pabove_any y2.u x2.u w false hab)
                    obtain ⟨c0, c1, c2, c3⟩ := hiti.rm
                    obtain ⟨d0, d1, d2, d3⟩ := hitk.rm
                    have j1 : (k1 : Int) < (n1 : Int) := by omega
                    have j0 : (0 : Int) ≤ (k1 : Int) := by omega
                    clear hx2 hy2 hiti hitk hab
                    go_wp2
                    go_still_tail 10, (by kernel_rfl)
                    have HB9 : Hid (Below w5.heap.size w5 wr.drew) := Lib.hid HB8.out.drew
                    clear c0 c1 c2 c3 d0 d1 d2 d3
                    change wpList _ _ _ _ _ wr.drew
                    generalize wr.drew = w9 at *
                    go_wp2_with fail
                    refine (HA.out w9).mono ?_
                    rintro e w10 ⟨rfl, hb10⟩
                    have HB10 := Lib.hid (HB9.out.trans (hb10.mono HB9.out.size))
                    clear hb10 HA
                    go_wp2
                    go_roundw
                    case rel => exact ⟨k1 + 1, by omega, by go_num, HB10⟩
                    case measure => simp [intOf]; omega
                  · go_wp2
                    go_roundw
                    case rel => exact ⟨j + 1, by omega, by go_num, HB8⟩
                    case measure => simp [intOf]; omega
          · go_wp2
            go_roundw
            case rel => exact ⟨k + 1, by omega, by omega, by go_num, Lib.hid (HB5.out.trans (HB6.out.mono HB5.out.size)), Lib.hid ⟨q2, HQ6.out.below HB6.out, HSm2.out⟩⟩
            case measure => simp [intOf]; omega
    · have hend : ¬ (k : Int) < (n : Int) ∨ ((k : Int) < (n : Int) ∧ ¬ (k : Int) < 80) := by omega
      have HE : Hid (Below w.heap.size w w2) := HBw
      rcases hend with h1 | ⟨h1, h2⟩
      all_goals
        go_wp2_with fail
        refine (HWk.out w2).mono ?_
        rintro e w9 ⟨rfl, hb⟩
        have HB := Lib.hid (HE.out.trans (hb.mono HE.out.size))
        clear hb
        go_wp2
        go_ret
        exact ⟨rfl, HB.out⟩
theorem one_row (m : Int) (A : Option Addr) (n c : Nat) (ss : List St) (w : World) (hS : SSt w A n ss) (hok : ∀ s ∈ ss, okSt s) (hnc : n ≤ c) (hm : c ≤ maxLen) :
    Calls Try.prog 3 #[.int .i64 m, .slice A n c] w fun e w' => e = .returned (.bool true) ∧ Below w.heap.size w w' := one_walk m A n c ss w hS hok hnc hm
end Go.Proofs.Ytphkaohcfgmmkaa
