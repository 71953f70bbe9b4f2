/-
  What stands of a node is never below what stood there: the law sodalitylaw09.RollRises over the contracts (layer 9).
-/
import Derived.Test.YtmfokogckfoheaaAliveLaw9
import Derived.Test.YtmfokogckfoheaaStMem
namespace Go.Proofs.Ytmfokogckfoheaa
open Go.RowKit Go.Maps
set_option linter.unusedSimpArgs false
set_option linter.unusedVariables false

theorem SUp.but_map {w w' : World} {A : Option Addr} {n M N : Nat} {l : List Up} {m : Int → Option Up} (h : SUp w A n l) (hM : MapIs w M m N) (hb : But (· = M) w w') : SUp w' A n l := by
  refine ⟨h.1, fun hn => ?_⟩
  obtain ⟨b, off, e, hlt, hc⟩ := h.2 hn
  refine ⟨b, off, e, Nat.lt_of_lt_of_le hlt hb.size, fun j hj => (hc j hj).of_block (hb.block b hlt (fun e2 => ?_))⟩
  obtain ⟨o, ho, hcl⟩ := cells_of_cell (hc j hj).1
  obtain ⟨D, ⟨es, clock, hb', _⟩, _⟩ := hM
  have e3 : b = M := e2
  subst e3
  rw [show w.heap[b]? = some o from ho] at hb'
  cases hb'
  cases hcl
/-- What holds ahead of each round. -/
def RiInv (w wr : World) (B M : Nat) (k : Nat) : Prop := ∃ r : Ro, RlAt wr B M r (k + 1) ∧ r.small ∧ Below w.heap.size w wr
def risesR (b4 : Nat) (o4 : Nat) (m : Nat) (c4 : Nat) (q : Nat) (Yb : Nat) (y : Up) (g : Up) : Nat → Value → World → Prop
  | 0, v, _ => v = .bool true
  | 1, v, _ => v = .bool false
  | 2, v, _ => v = .bool false
  | 3, v, _ => v = .slice ((some ⟨b4, o4, none⟩)) m c4
  | 4, v, _ => v = .int .i64 (q : Int)
  | 5, v, _ => v = .pointer (some ⟨b4, o4 + q * 3, none⟩)
  | 6, v, _ => v = .agg #[.int .i64 y.node, .int .u32 (y.inc : Int), .int .i64 y.st]
  | 7, v, _ => v = .agg #[.int .i64 g.node, .int .u32 (g.inc : Int), .int .i64 g.st]
  | 8, v, _ => v = .bool false
  | 9, v, _ => v = .bool false
  | _, _, _ => True
theorem risesR_stable (b4 : Nat) (o4 : Nat) (m : Nat) (c4 : Nat) (q : Nat) (Yb : Nat) (y : Up) (g : Up) : ∀ i v w w', risesR b4 o4 m c4 q Yb y g i v w → Go.Rel.Grew w w' → risesR b4 o4 m c4 q Yb y g i v w'
  | 0, _, _, _, h, _ | 1, _, _, _, h, _ | 2, _, _, _, h, _ | 3, _, _, _, h, _ | 4, _, _, _, h, _ | 5, _, _, _, h, _ | 6, _, _, _, h, _ | 7, _, _, _, h, _ | 8, _, _, _, h, _ | 9, _, _, _, h, _ => h
  | _ + 10, _, _, _, h, _ => h
set_option maxHeartbeats 32000000 in
set_option maxRecDepth 100000 in
theorem rises_walk (z : Int) (inc : Nat) (A : Option Addr) (n c : Nat) (l : List St) (w : World) (hz : 0 ≤ z ∧ z ≤ 255) (hi : inc ≤ 4294967295) (hS : SSt w A n l) (hl : ∀ s ∈ l, s.u.inc ≤ 4294967295) (hnc : n ≤ c) (hm : c ≤ maxLen) :
    Calls Try.prog 4 #[.int .u8 z, .int .u32 (inc : Int), .slice A n c] w fun e w' => e = .returned (.bool true) ∧ Below w.heap.size w w' := by
  have hnb := rem8 z hz.1
  obtain ⟨own, hown⟩ : ∃ o, z % 8 = o := ⟨_, rfl⟩
  rw [hown] at hnb
  have HNew := Lib.hid (pnew_yes own inc w hnb)
  have HInc := Lib.hid hi
  have HL := Lib.hid hS.1
  have HS := Lib.hid hS
  have HLi := Lib.hid hl
  have HWk := Lib.hid (fun w => works_any w)
  have HOwn := Lib.hid hown
  have z1 := hz.1
  have z2 := hz.2
  have hm' : (n : Int) ≤ 9223372036854775807 := by unfold maxLen at hm; omega
  clear hz hi hS hl hm hnb hown hnc
  go_enter Try.func4, Try.ntmps4
  go_wp2_with fail
  rw [HOwn.out]
  refine HNew.out.mono ?_
  rintro e w1 ⟨B, M, rfl, hR, hB, hM, hb1⟩
  have HM := Lib.hid hM
  have HStart : Hid (RiInv w w1 B M 0) := Lib.hid ⟨Ro.new own inc, hR, Ro.small.new HInc.out, hb1⟩
  clear hR hB hM hb1
  go_wp2
  go_loopw [9] (fun i wr => ∃ k : Nat, k ≤ n ∧ k ≤ 80 ∧ i = .int .i64 (k : Int) ∧ Hid (RiInv w wr B M k)) (fun i _ => n - (intOf i).toNat)
  case atStart => exact ⟨0, Nat.zero_le _, Nat.zero_le _, rfl, HStart⟩
  case round =>
    obtain ⟨k, hk, hk80, rfl, HI⟩ := hrel
    obtain ⟨wo, hwo⟩ : ∃ wo, wo = wr := ⟨_, rfl⟩
    subst hwo
    obtain ⟨r, hR, hsm, hbr⟩ := HI.out
    have HBr := Lib.hid hbr
    clear hbr
    by_cases hlt : k < n
    · by_cases h80 : k < 80
      · have hkl : k < l.length := by have := HL.out; omega
        obtain ⟨b, off, rfl, _⟩ := (HS.out.of_block HBr.out).at_ hlt hkl
        obtain ⟨x, hx⟩ : ∃ x, l[k] = x := ⟨_, rfl⟩
        have hxi : x.u.inc ≤ 4294967295 := by rw [← hx]; exact HLi.out _ (List.getElem_mem hkl)
        have HXk := Lib.hid hx
        have q1 : (k : Int) < (n : Int) := by omega
        have q0 : (0 : Int) ≤ (k : Int) := by omega
        have q80 : (k : Int) < 80 := by omega
        have HLs := Lib.hid (list_any wo hR)
        obtain ⟨L, hL⟩ : ∃ L, listTo r.T 8 = L := ⟨_, rfl⟩
        rw [hL] at HLs
        obtain ⟨m, hm⟩ : ∃ m, L.length = m := ⟨_, rfl⟩
        have hm8 : m ≤ 8 := by rw [← hm, ← hL]; exact listTo_len _ _
        have HLm := Lib.hid hm
        have HWf : Hid (∀ y ∈ L, wfI y.node) := Lib.hid (fun y hy => (right_wf (listTo_right hR.ok y (by rw [hL]; exact hy))).1)
        have HMem : Hid (∀ y ∈ L, r.T y.node = some y) := Lib.hid (fun y hy => by
          rw [← hL] at hy
          unfold listTo at hy
          obtain ⟨j, _, hj⟩ := List.mem_filterMap.1 hy
          rw [(hR.ok.at_ _ _ hj).2]
          exact hj)
        have HR_wo := Lib.hid hR
        have HSm := Lib.hid hsm
        have hm9 : (m : Int) ≤ 8 := by omega
        unfold JoinPost at HLs
        rw [hm] at HLs
        clear hx hL hm hR hsm
        go_wp2_with fail
        refine HLs.out.mono ?_
        rintro e w2 ⟨A4, c4, rfl, hS4, hn4, hm4, hb⟩
        have HR_w2 := Lib.hid (HR_wo.out.below hb)
        have HS2 := Lib.hid hS4
        have HB_2 := Lib.hid (HBr.out.trans (hb.mono HBr.out.size))
        have hm4' : (c4 : Int) ≤ 9223372036854775807 := by unfold maxLen at hm4; omega
        obtain ⟨hk0, hk1, hk2, hk3⟩ := ((HS.out.of_block HBr.out).of_block hb).up hkl
        rw [HXk.out] at hk0 hk1 hk2 hk3
        clear hS4 hm4 hb HLs
        by_cases hkd : x.kind = 1
        · have zk : (x.kind == 1) = true := by rw [beq_iff_eq]; exact hkd
          obtain ⟨lu, lis, r2, hlv⟩ : ∃ lu lis r2, r.leave = (lu, lis, r2) := ⟨_, _, _, rfl⟩
          have HSm2 : Hid r2.small := Lib.hid (by have := HSm.out.leave HR_wo.out.ok; rw [hlv] at this; exact this)
          have HRise : Hid (∀ y ∈ L, ∃ v, r2.T y.node = some v ∧ y.above v = false) := Lib.hid (fun y hy => by have := Ro.leave_rises HR_wo.out.ok (HMem.out y hy); rw [hlv] at this; exact this)
          have HLv := Lib.hid (leave_any w2 HR_w2.out (by omega) lu lis r2 hlv)
          clear hkd hlv
          go_wp2_with fail
          refine HLv.out.mono ?_
          rintro e w3 ⟨rfl, hR3, hb⟩
          clear hk0 hk1 hk2 hk3 HLv
          have HR_w3 := Lib.hid hR3
          have HS3 := Lib.hid (SUp.but_map HS2.out HR_w2.out.map hb)
          have HB_3 := Lib.hid (show Below w.heap.size w w3 from HB_2.out.trans (hb.below HB_2.out.size (fun k hk e => by have := HM.out; omega)))
          clear hR3 hb
          go_wp2
          go_loopw [11] (fun j wi => ∃ q : Nat, q ≤ m ∧ j = .int .i64 (q : Int) ∧ Hid (Below w3.heap.size w3 wi)) (fun j _ => m - (intOf j).toNat)
          case atStart => exact ⟨0, Nat.zero_le _, rfl, Lib.hid (Below.refl _ _)⟩
          case round =>
            obtain ⟨q, hq, rfl, HBi⟩ := hrel
            obtain ⟨wi, hwi⟩ : ∃ wi, wi = wr := ⟨_, rfl⟩
            subst hwi
            have HR_i := Lib.hid (HR_w3.out.below HBi.out)
            have HSi := Lib.hid (HS3.out.of_block HBi.out)
            have HB_i := Lib.hid (HB_3.out.trans (HBi.out.mono HB_3.out.size))
            by_cases hqm : q < m
            · have hql : q < L.length := by have := HLm.out; omega
              obtain ⟨b4, o4, rfl, _⟩ := HSi.out.at_ hqm hql
              obtain ⟨y, hy⟩ : ∃ y, L[q] = y := ⟨_, rfl⟩
              obtain ⟨g, hv, hab⟩ := HRise.out y (by rw [← hy]; exact List.getElem_mem hql)
              have hwf := HWf.out y (by rw [← hy]; exact List.getElem_mem hql)
              have HG : Hid (∀ w, RlAt w B M r2 (k + 1 + 1) → Calls Try.prog 15 #[.pointer (some ⟨B, 0, none⟩), .int .i64 y.node] w fun e w' => e = .returned (.tuple #[.agg #[.int .i64 g.node, .int .u32 (g.inc : Int), .int .i64 g.st], .bool true]) ∧ Below w.heap.size w w') := Lib.hid (fun w h => by
                have := get_any y.node hwf w h
                have e1 : atU r2.T y.node = g := by unfold atU; rw [hv]; rfl
                rw [e1, hv] at this
                exact this)
              have HAb := Lib.hid (fun w => pabove_any y g w false hab)
              obtain ⟨hc0, hc1, hc2⟩ := HSi.out.up hql
              rw [hy] at hc0 hc1 hc2
              have HY := Lib.hid hy
              have p1 : (q : Int) < (m : Int) := by omega
              have p0 : (0 : Int) ≤ (q : Int) := by omega
              clear hy hv hab hwf
              go_wp2_with fail
              refine (HG.out wi HR_i.out).mono ?_
              rintro e w5 ⟨rfl, hb⟩
              have HR_5 := Lib.hid (HR_i.out.below hb)
              have HS5 := Lib.hid (HSi.out.of_block hb)
              have HB_5 := Lib.hid (HB_i.out.trans (hb.mono HB_i.out.size))
              have HB53 := Lib.hid (HBi.out.trans (hb.mono HBi.out.size))
              clear hb hc0 hc1 hc2
              have hb := below1 w5 (.cells #[.int .i64 g.node, .int .u32 (g.inc : Int), .int .i64 g.st] 32)
              have hk := heap_alloc_new w5 (.cells #[.int .i64 g.node, .int .u32 (g.inc : Int), .int .i64 g.st] 32)
              obtain ⟨Yb, hY⟩ : ∃ Y, w5.heap.size = Y := ⟨_, rfl⟩
              obtain ⟨w6, hw⟩ : ∃ w2, w5.alloc (.cells #[.int .i64 g.node, .int .u32 (g.inc : Int), .int .i64 g.st] 32) = w2 := ⟨_, rfl⟩
              rw [hw] at hb hk
              rw [hY] at hk
              have HN_w6 := Lib.hid hw
              have HS_w6 := Lib.hid hY
              have HB_6 := Lib.hid (HB_5.out.trans (hb.mono HB_5.out.size))
              have HB63 := Lib.hid (HB53.out.trans (hb.mono HB53.out.size))
              have HC : Hid (∀ w', Go.Rel.Grew w6 w' → UpAt w' b4 (o4 + q * 3) y ∧ UpAt w' Yb 0 g) := Lib.hid (fun w' hle => by
                have hle' : Below w6.heap.size w6 w' := hle
                have hs := ((HS5.out.of_block hb).of_block hle').up hql
                rw [HY.out] at hs
                have hk' := (hle'.block Yb (block_lt hk)).trans hk
                refine ⟨hs, ?_⟩
                obtain ⟨e0, e1, e2⟩ := blk3 hk'
                exact ⟨e0, e1, e2⟩)
              clear hb hk hw hY
              go_wp2
              rw [HN_w6.out, HS_w6.out]
              refine Go.Rel.wp_region_grew (by kernel_rfl) (by kernel_rfl) (by kernel_rfl) (by kernel_rfl) (risesR b4 o4 m c4 q Yb y g) (risesR_stable b4 o4 m c4 q Yb y g) ?hs1 ?he1
              case hs1 =>
                refine (.cons ?_ (.cons ?_ (.cons ?_ (.cons ?_ (.cons ?_ (.cons ?_ (.cons ?_ (.cons ?_ (.cons ?_ (.cons ?_ .nil))))))))))
                · intro a w' hle hs' hd K hK
                  have f13 : a.tmps[13]? = some (.bool true) := hs'.2.2 13 (by kernel_rfl)
                  unfold Go.Rel.stepOf
                  go_simp
                  exact hK _ _ (Go.Rel.Grew.refl _) rfl
                · intro a w' hle hs' hd K hK
                  obtain ⟨_, t0, rfl⟩ := hd 0 67 (by kernel_rfl)
                  unfold Go.Rel.stepOf
                  go_simp
                  exact hK _ _ (Go.Rel.Grew.refl _) rfl
                · intro a w' hle hs' hd K hK
                  obtain ⟨_, t1, rfl⟩ := hd 1 68 (by kernel_rfl)
                  unfold Go.Rel.stepOf
                  go_simp
                  exact hK _ _ (Go.Rel.Grew.refl _) rfl
                · intro a w' hle hs' hd K hK
                  obtain ⟨_, tg, rfl⟩ := hd 2 69 (by kernel_rfl)
                  have f10 : a.tmps[10]? = some (.slice ((some ⟨b4, o4, none⟩)) m c4) := hs'.2.2 10 (by kernel_rfl)
                  unfold Go.Rel.stepOf
                  go_simp
                  exact hK _ _ (Go.Rel.Grew.refl _) rfl
                · intro a w' hle hs' hd K hK
                  obtain ⟨_, tg, rfl⟩ := hd 2 69 (by kernel_rfl)
                  have f11 : a.tmps[11]? = some (.int .i64 (q : Int)) := hs'.2.2 11 (by kernel_rfl)
                  unfold Go.Rel.stepOf
                  go_simp
                  exact hK _ _ (Go.Rel.Grew.refl _) rfl
                · intro a w' hle hs' hd K hK
                  obtain ⟨_, tg, rfl⟩ := hd 2 69 (by kernel_rfl)
                  obtain ⟨_, t3, rfl⟩ := hd 3 70 (by kernel_rfl)
                  obtain ⟨_, t4, rfl⟩ := hd 4 71 (by kernel_rfl)
                  unfold Go.Rel.stepOf
                  go_simp
                  exact hK _ _ (Go.Rel.Grew.refl _) rfl
                · intro a w' hle hs' hd K hK
                  obtain ⟨_, tg, rfl⟩ := hd 2 69 (by kernel_rfl)
                  obtain ⟨_, t5, rfl⟩ := hd 5 72 (by kernel_rfl)
                  obtain ⟨⟨x0, x1, x2⟩, y0, y1, y2⟩ := HC.out w' hle
                  unfold Go.Rel.stepOf
                  go_simp
                  exact hK _ _ (Go.Rel.Grew.refl _) rfl
                · intro a w' hle hs' hd K hK
                  obtain ⟨_, tg, rfl⟩ := hd 2 69 (by kernel_rfl)
                  have f12 : a.tmps[12]? = some (.pointer (some ⟨Yb, 0, none⟩)) := hs'.2.2 12 (by kernel_rfl)
                  obtain ⟨⟨x0, x1, x2⟩, y0, y1, y2⟩ := HC.out w' hle
                  unfold Go.Rel.stepOf
                  go_simp
                  exact hK _ _ (Go.Rel.Grew.refl _) rfl
                · intro a w' hle hs' hd K hK
                  obtain ⟨_, tg, rfl⟩ := hd 2 69 (by kernel_rfl)
                  obtain ⟨_, t6, rfl⟩ := hd 6 73 (by kernel_rfl)
                  obtain ⟨_, t7, rfl⟩ := hd 7 74 (by kernel_rfl)
                  unfold Go.Rel.stepOf
                  go_simp
                  refine (HAb.out w').mono ?_
                  rintro e w5 ⟨rfl, hb5⟩
                  exact hK _ _ hb5 rfl
                · intro a w' hle hs' hd K hK
                  obtain ⟨_, t2, rfl⟩ := hd 2 69 (by kernel_rfl)
                  obtain ⟨_, t8, rfl⟩ := hd 8 75 (by kernel_rfl)
                  unfold Go.Rel.stepOf
                  go_simp
                  exact hK _ _ (Go.Rel.Grew.refl _) rfl
              case he1 =>
                intro a3 w7 hle hs' hR'
                have HB_7 := Lib.hid (HB_6.out.trans (Below.mono hle HB_6.out.size))
                have HB73 := Lib.hid (HB63.out.trans (Below.mono hle HB63.out.size))
                clear hle
                obtain ⟨v67, s67, _⟩ := hR' 0 67 (by kernel_rfl)
                obtain ⟨v68, s68, _⟩ := hR' 1 68 (by kernel_rfl)
                obtain ⟨v69, s69, _⟩ := hR' 2 69 (by kernel_rfl)
                obtain ⟨v70, s70, _⟩ := hR' 3 70 (by kernel_rfl)
                obtain ⟨v71, s71, _⟩ := hR' 4 71 (by kernel_rfl)
                obtain ⟨v72, s72, _⟩ := hR' 5 72 (by kernel_rfl)
                obtain ⟨v73, s73, _⟩ := hR' 6 73 (by kernel_rfl)
                obtain ⟨v74, s74, _⟩ := hR' 7 74 (by kernel_rfl)
                obtain ⟨v75, s75, _⟩ := hR' 8 75 (by kernel_rfl)
                obtain ⟨_, s76, rfl⟩ := hR' 9 76 (by kernel_rfl)
                have e := hs'.shape
                simp only [List.toList_toArray, List.foldl, Go.Rel.reset, Array.getD_eq_getD_getElem?, s67, s68, s69, s70, s71, s72, s73, s74, s75, s76, Option.getD_some] at e
                simp at e
                clear hR' hs' s67 s68 s69 s70 s71 s72 s73 s74 s75 s76
                subst e
                go_wp2
                go_roundw
                case rel => exact ⟨q + 1, by omega, by go_num, HB73⟩
                case measure => simp [intOf]; omega
            · go_wp2
              go_roundw
              case rel => exact ⟨k + 1, by omega, by omega, by go_num, Lib.hid ⟨r2, HR_i.out, HSm2.out, HB_i.out⟩⟩
              case measure => simp [intOf]; omega
        · have zk : (x.kind == 1) = false := by rw [beq_eq_false_iff_ne]; exact hkd
          obtain ⟨kk, ca, cb, r2, hap⟩ : ∃ kk ca cb r2, r.apply x.u = (kk, ca, cb, r2) := ⟨_, _, _, _, rfl⟩
          have HSm2 : Hid r2.small := Lib.hid (by have := HSm.out.apply hxi; rw [hap] at this; exact this)
          have HRise : Hid (∀ y ∈ L, ∃ v, r2.T y.node = some v ∧ y.above v = false) := Lib.hid (fun y hy => by have := Ro.apply_rises x.u (HMem.out y hy); rw [hap] at this; exact this)
          have HAp := Lib.hid (apply_any x.u w2 HR_w2.out (by omega) HSm.out hxi kk ca cb r2 hap)
          clear hkd hap
          go_wp2_with fail
          refine HAp.out.mono ?_
          rintro e w3 ⟨rfl, hR3, hb⟩
          clear hk0 hk1 hk2 hk3 HAp
          have HR_w3 := Lib.hid hR3
          have HS3 := Lib.hid (SUp.but_map HS2.out HR_w2.out.map hb)
          have HB_3 := Lib.hid (show Below w.heap.size w w3 from HB_2.out.trans (hb.below HB_2.out.size (fun k hk e => by have := HM.out; omega)))
          clear hR3 hb
          go_wp2
          go_loopw [11] (fun j wi => ∃ q : Nat, q ≤ m ∧ j = .int .i64 (q : Int) ∧ Hid (Below w3.heap.size w3 wi)) (fun j _ => m - (intOf j).toNat)
          case atStart => exact ⟨0, Nat.zero_le _, rfl, Lib.hid (Below.refl _ _)⟩
          case round =>
            obtain ⟨q, hq, rfl, HBi⟩ := hrel
            obtain ⟨wi, hwi⟩ : ∃ wi, wi = wr := ⟨_, rfl⟩
            subst hwi
            have HR_i := Lib.hid (HR_w3.out.below HBi.out)
            have HSi := Lib.hid (HS3.out.of_block HBi.out)
            have HB_i := Lib.hid (HB_3.out.trans (HBi.out.mono HB_3.out.size))
            by_cases hqm : q < m
            · have hql : q < L.length := by have := HLm.out; omega
              obtain ⟨b4, o4, rfl, _⟩ := HSi.out.at_ hqm hql
              obtain ⟨y, hy⟩ : ∃ y, L[q] = y := ⟨_, rfl⟩
              obtain ⟨g, hv, hab⟩ := HRise.out y (by rw [← hy]; exact List.getElem_mem hql)
              have hwf := HWf.out y (by rw [← hy]; exact List.getElem_mem hql)
              have HG : Hid (∀ w, RlAt w B M r2 (k + 1 + 1) → Calls Try.prog 15 #[.pointer (some ⟨B, 0, none⟩), .int .i64 y.node] w fun e w' => e = .returned (.tuple #[.agg #[.int .i64 g.node, .int .u32 (g.inc : Int), .int .i64 g.st], .bool true]) ∧ Below w.heap.size w w') := Lib.hid (fun w h => by
                have := get_any y.node hwf w h
                have e1 : atU r2.T y.node = g := by unfold atU; rw [hv]; rfl
                rw [e1, hv] at this
                exact this)
              have HAb := Lib.hid (fun w => pabove_any y g w false hab)
              obtain ⟨hc0, hc1, hc2⟩ := HSi.out.up hql
              rw [hy] at hc0 hc1 hc2
              have HY := Lib.hid hy
              have p1 : (q : Int) < (m : Int) := by omega
              have p0 : (0 : Int) ≤ (q : Int) := by omega
              clear hy hv hab hwf
              go_wp2_with fail
              refine (HG.out wi HR_i.out).mono ?_
              rintro e w5 ⟨rfl, hb⟩
              have HR_5 := Lib.hid (HR_i.out.below hb)
              have HS5 := Lib.hid (HSi.out.of_block hb)
              have HB_5 := Lib.hid (HB_i.out.trans (hb.mono HB_i.out.size))
              have HB53 := Lib.hid (HBi.out.trans (hb.mono HBi.out.size))
              clear hb hc0 hc1 hc2
              have hb := below1 w5 (.cells #[.int .i64 g.node, .int .u32 (g.inc : Int), .int .i64 g.st] 32)
              have hk := heap_alloc_new w5 (.cells #[.int .i64 g.node, .int .u32 (g.inc : Int), .int .i64 g.st] 32)
              obtain ⟨Yb, hY⟩ : ∃ Y, w5.heap.size = Y := ⟨_, rfl⟩
              obtain ⟨w6, hw⟩ : ∃ w2, w5.alloc (.cells #[.int .i64 g.node, .int .u32 (g.inc : Int), .int .i64 g.st] 32) = w2 := ⟨_, rfl⟩
              rw [hw] at hb hk
              rw [hY] at hk
              have HN_w6 := Lib.hid hw
              have HS_w6 := Lib.hid hY
              have HB_6 := Lib.hid (HB_5.out.trans (hb.mono HB_5.out.size))
              have HB63 := Lib.hid (HB53.out.trans (hb.mono HB53.out.size))
              have HC : Hid (∀ w', Go.Rel.Grew w6 w' → UpAt w' b4 (o4 + q * 3) y ∧ UpAt w' Yb 0 g) := Lib.hid (fun w' hle => by
                have hle' : Below w6.heap.size w6 w' := hle
                have hs := ((HS5.out.of_block hb).of_block hle').up hql
                rw [HY.out] at hs
                have hk' := (hle'.block Yb (block_lt hk)).trans hk
                refine ⟨hs, ?_⟩
                obtain ⟨e0, e1, e2⟩ := blk3 hk'
                exact ⟨e0, e1, e2⟩)
              clear hb hk hw hY
              go_wp2
              rw [HN_w6.out, HS_w6.out]
              refine Go.Rel.wp_region_grew (by kernel_rfl) (by kernel_rfl) (by kernel_rfl) (by kernel_rfl) (risesR b4 o4 m c4 q Yb y g) (risesR_stable b4 o4 m c4 q Yb y g) ?hs2 ?he2
              case hs2 =>
                refine (.cons ?_ (.cons ?_ (.cons ?_ (.cons ?_ (.cons ?_ (.cons ?_ (.cons ?_ (.cons ?_ (.cons ?_ (.cons ?_ .nil))))))))))
                · intro a w' hle hs' hd K hK
                  have f13 : a.tmps[13]? = some (.bool true) := hs'.2.2 13 (by kernel_rfl)
                  unfold Go.Rel.stepOf
                  go_simp
                  exact hK _ _ (Go.Rel.Grew.refl _) rfl
                · intro a w' hle hs' hd K hK
                  obtain ⟨_, t0, rfl⟩ := hd 0 67 (by kernel_rfl)
                  unfold Go.Rel.stepOf
                  go_simp
                  exact hK _ _ (Go.Rel.Grew.refl _) rfl
                · intro a w' hle hs' hd K hK
                  obtain ⟨_, t1, rfl⟩ := hd 1 68 (by kernel_rfl)
                  unfold Go.Rel.stepOf
                  go_simp
                  exact hK _ _ (Go.Rel.Grew.refl _) rfl
                · intro a w' hle hs' hd K hK
                  obtain ⟨_, tg, rfl⟩ := hd 2 69 (by kernel_rfl)
                  have f10 : a.tmps[10]? = some (.slice ((some ⟨b4, o4, none⟩)) m c4) := hs'.2.2 10 (by kernel_rfl)
                  unfold Go.Rel.stepOf
                  go_simp
                  exact hK _ _ (Go.Rel.Grew.refl _) rfl
                · intro a w' hle hs' hd K hK
                  obtain ⟨_, tg, rfl⟩ := hd 2 69 (by kernel_rfl)
                  have f11 : a.tmps[11]? = some (.int .i64 (q : Int)) := hs'.2.2 11 (by kernel_rfl)
                  unfold Go.Rel.stepOf
                  go_simp
                  exact hK _ _ (Go.Rel.Grew.refl _) rfl
                · intro a w' hle hs' hd K hK
                  obtain ⟨_, tg, rfl⟩ := hd 2 69 (by kernel_rfl)
                  obtain ⟨_, t3, rfl⟩ := hd 3 70 (by kernel_rfl)
                  obtain ⟨_, t4, rfl⟩ := hd 4 71 (by kernel_rfl)
                  unfold Go.Rel.stepOf
                  go_simp
                  exact hK _ _ (Go.Rel.Grew.refl _) rfl
                · intro a w' hle hs' hd K hK
                  obtain ⟨_, tg, rfl⟩ := hd 2 69 (by kernel_rfl)
                  obtain ⟨_, t5, rfl⟩ := hd 5 72 (by kernel_rfl)
                  obtain ⟨⟨x0, x1, x2⟩, y0, y1, y2⟩ := HC.out w' hle
                  unfold Go.Rel.stepOf
                  go_simp
                  exact hK _ _ (Go.Rel.Grew.refl _) rfl
                · intro a w' hle hs' hd K hK
                  obtain ⟨_, tg, rfl⟩ := hd 2 69 (by kernel_rfl)
                  have f12 : a.tmps[12]? = some (.pointer (some ⟨Yb, 0, none⟩)) := hs'.2.2 12 (by kernel_rfl)
                  obtain ⟨⟨x0, x1, x2⟩, y0, y1, y2⟩ := HC.out w' hle
                  unfold Go.Rel.stepOf
                  go_simp
                  exact hK _ _ (Go.Rel.Grew.refl _) rfl
                · intro a w' hle hs' hd K hK
                  obtain ⟨_, tg, rfl⟩ := hd 2 69 (by kernel_rfl)
                  obtain ⟨_, t6, rfl⟩ := hd 6 73 (by kernel_rfl)
                  obtain ⟨_, t7, rfl⟩ := hd 7 74 (by kernel_rfl)
                  unfold Go.Rel.stepOf
                  go_simp
                  refine (HAb.out w').mono ?_
                  rintro e w5 ⟨rfl, hb5⟩
                  exact hK _ _ hb5 rfl
                · intro a w' hle hs' hd K hK
                  obtain ⟨_, t2, rfl⟩ := hd 2 69 (by kernel_rfl)
                  obtain ⟨_, t8, rfl⟩ := hd 8 75 (by kernel_rfl)
                  unfold Go.Rel.stepOf
                  go_simp
                  exact hK _ _ (Go.Rel.Grew.refl _) rfl
              case he2 =>
                intro a3 w7 hle hs' hR'
                have HB_7 := Lib.hid (HB_6.out.trans (Below.mono hle HB_6.out.size))
                have HB73 := Lib.hid (HB63.out.trans (Below.mono hle HB63.out.size))
                clear hle
                obtain ⟨v67, s67, _⟩ := hR' 0 67 (by kernel_rfl)
                obtain ⟨v68, s68, _⟩ := hR' 1 68 (by kernel_rfl)
                obtain ⟨v69, s69, _⟩ := hR' 2 69 (by kernel_rfl)
                obtain ⟨v70, s70, _⟩ := hR' 3 70 (by kernel_rfl)
                obtain ⟨v71, s71, _⟩ := hR' 4 71 (by kernel_rfl)
                obtain ⟨v72, s72, _⟩ := hR' 5 72 (by kernel_rfl)
                obtain ⟨v73, s73, _⟩ := hR' 6 73 (by kernel_rfl)
                obtain ⟨v74, s74, _⟩ := hR' 7 74 (by kernel_rfl)
                obtain ⟨v75, s75, _⟩ := hR' 8 75 (by kernel_rfl)
                obtain ⟨_, s76, rfl⟩ := hR' 9 76 (by kernel_rfl)
                have e := hs'.shape
                simp only [List.toList_toArray, List.foldl, Go.Rel.reset, Array.getD_eq_getD_getElem?, s67, s68, s69, s70, s71, s72, s73, s74, s75, s76, Option.getD_some] at e
                simp at e
                clear hR' hs' s67 s68 s69 s70 s71 s72 s73 s74 s75 s76
                subst e
                go_wp2
                go_roundw
                case rel => exact ⟨q + 1, by omega, by go_num, HB73⟩
                case measure => simp [intOf]; omega
            · go_wp2
              go_roundw
              case rel => exact ⟨k + 1, by omega, by omega, by go_num, Lib.hid ⟨r2, HR_i.out, HSm2.out, HB_i.out⟩⟩
              case measure => simp [intOf]; omega
      · have q1 : (k : Int) < (n : Int) := by omega
        have q80 : ¬ (k : Int) < 80 := by omega
        clear hR hsm
        go_wp2_with fail
        refine (HWk.out _).mono ?_
        rintro e w9 ⟨rfl, hb⟩
        have HB := Lib.hid (HBr.out.trans (hb.mono HBr.out.size))
        clear hb
        go_wp2
        go_ret
        exact ⟨rfl, HB.out⟩
    · have q1 : ¬ (k : Int) < (n : Int) := by omega
      clear hR hsm
      go_wp2_with fail
      refine (HWk.out _).mono ?_
      rintro e w9 ⟨rfl, hb⟩
      have HB := Lib.hid (HBr.out.trans (hb.mono HBr.out.size))
      clear hb
      go_wp2
      go_ret
      exact ⟨rfl, HB.out⟩
theorem rises_row (z i : Int) (A : Option Addr) (n c : Nat) (l : List St) (w : World) (hz : 0 ≤ z ∧ z ≤ 255) (hi : 0 ≤ i ∧ i ≤ 4294967295) (hS : SSt w A n l) (hl : ∀ u ∈ l, okSt u) (hnc : n ≤ c) (hm : c ≤ maxLen) :
    Calls Try.prog 4 #[.int .u8 z, .int .u32 i, .slice A n c] w fun e w' => e = .returned (.bool true) ∧ Below w.heap.size w w' := by
  have h := rises_walk z i.toNat A n c l w hz (by omega) hS (fun u hu => by have := (hl u hu).2.1; omega) hnc hm
  rwa [show ((i.toNat : Nat) : Int) = i by omega] at h
end Go.Proofs.Ytmfokogckfoheaa
