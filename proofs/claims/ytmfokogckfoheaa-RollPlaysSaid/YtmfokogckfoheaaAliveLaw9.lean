/-
  As long as it is neither stuck nor has left, a node believes itself alive, above all that was said of it and differed: the law sodalitylaw09.RollAlive over the contracts (layer 9).
-/
import Derived.Test.YtmfokogckfoheaaRoWorks
namespace Go.Proofs.Ytmfokogckfoheaa
open Go.RowKit Go.Maps
set_option linter.unusedSimpArgs false
set_option linter.unusedVariables false

theorem put_selfU {r : Ro} {u : Up} (h : u.node = r.own) : (⟨r.own, put r.T u⟩ : Ro).selfU = u := Ro.selfU_eq (by show put r.T u r.own = some u; rw [← h]; exact put_same _ _)
/-- What an update about itself does to a node that is alive. -/
theorem alive_step {r : Ro} (hok : r.ok) (hs : r.small) (hal : r.selfU.st = 0) (u : Up) (hu : u.node = r.own) (hi : u.inc ≤ 4294967295) (k : Nat) (a b : Up) (r2 : Ro) (he : r.apply u = (k, a, b, r2)) :
    r2.own = r.own ∧ r2.selfU.st = 0 ∧ r2.selfU.node = r.own ∧ ((k = 4 ∧ (u.inc = 4294967295 ∨ r.selfU.inc = 4294967295) ∧ r2.selfU = r.selfU) ∨ (k ≠ 4 ∧ (u.right = false ∨ (u.right = true ∧ u.above r2.selfU = false ∧ (u = r.selfU ∨ (u ≠ r.selfU ∧ r2.selfU.above u = true)))))) := by
  obtain ⟨h1, h2, h3⟩ := hok.selfAt
  have hsi := hs _ _ h1
  unfold Ro.apply at he
  cases hr : u.right with
  | false =>
    rw [if_pos hr] at he
    simp only [Prod.mk.injEq] at he
    obtain ⟨rfl, rfl, rfl, rfl⟩ := he
    exact ⟨rfl, hal, h3, .inr ⟨by omega, .inl rfl⟩⟩
  | true =>
    rw [if_neg (by rw [hr]; decide), if_pos hu] at he
    by_cases hc : r.selfU.st = 3 ∨ u.above r.selfU = false
    · rw [if_pos hc] at he
      simp only [Prod.mk.injEq] at he
      obtain ⟨rfl, rfl, rfl, rfl⟩ := he
      have hab : u.above r.selfU = false := hc.resolve_left (by omega)
      refine ⟨rfl, hal, h3, .inr ⟨by omega, .inr ⟨rfl, hab, ?_⟩⟩⟩
      by_cases e : u = r.selfU
      · exact .inl e
      · refine .inr ⟨e, ?_⟩
        cases hb : r.selfU.above u with
        | true => rfl
        | false => exact absurd (Up.total (hu.trans h3.symm) hab hb) e
    · rw [if_neg hc] at he
      by_cases hk : (refuteN r.selfU.inc u.inc).2 ≠ 0
      · rw [if_pos hk] at he
        simp only [Prod.mk.injEq] at he
        obtain ⟨rfl, rfl, rfl, rfl⟩ := he
        refine ⟨rfl, hal, h3, .inl ⟨rfl, ?_, rfl⟩⟩
        unfold refuteN at hk
        split at hk
        · omega
        · simp at hk
      · rw [if_neg hk] at he
        simp only [Prod.mk.injEq] at he
        obtain ⟨rfl, rfl, rfl, rfl⟩ := he
        have hge : r.selfU.inc < (refuteN r.selfU.inc u.inc).1 ∧ u.inc < (refuteN r.selfU.inc u.inc).1 := by
          unfold refuteN at hk ⊢
          split
          · rename_i hm; rw [if_pos hm] at hk; simp at hk
          · simp only; omega
        have hS : (⟨r.own, put r.T ⟨r.own, (refuteN r.selfU.inc u.inc).1, 0⟩⟩ : Ro).selfU = ⟨r.own, (refuteN r.selfU.inc u.inc).1, 0⟩ := put_selfU rfl
        rw [hS]
        refine ⟨rfl, rfl, rfl, .inr ⟨by omega, .inr ⟨rfl, ?_, .inr ⟨?_, ?_⟩⟩⟩⟩
        · rw [Up.above_false]; simp only; omega
        · intro e
          have : u.above r.selfU = false := by rw [e]; exact Up.irrefl _
          exact hc (.inr this)
        · rw [Up.above_iff]; exact ⟨hu.symm, .inl hge.2⟩
theorem rem8 (z : Int) (h : 0 ≤ z) : nodeB (z % 8) = true := by unfold nodeB; simp; omega
/-- What holds ahead of each round. -/
def AlInv (w wr : World) (B M : Nat) (own : Int) (k : Nat) : Prop := ∃ r : Ro, RlAt wr B M r (k + 1) ∧ r.small ∧ r.own = own ∧ r.selfU.st = 0 ∧ Below w.heap.size w wr
set_option maxHeartbeats 16000000 in
set_option maxRecDepth 100000 in
theorem alive_walk (z : Int) (inc : Nat) (A : Option Addr) (n c : Nat) (l : List Up) (w : World) (hz : 0 ≤ z ∧ z ≤ 255) (hi : inc ≤ 4294967295) (hS : SUp w A n l) (hl : ∀ u ∈ l, u.inc ≤ 4294967295) (hnc : n ≤ c) (hm : c ≤ maxLen) :
    Calls Try.prog 6 #[.int .u8 z, .int .u32 (inc : Int), .slice A n c] w fun e w' => e = .returned (.bool true) ∧ Below w.heap.size w w' := by
  have hnb := rem8 z hz.1
  obtain ⟨own, hown⟩ : ∃ o, z % 8 = o := ⟨_, rfl⟩
  rw [hown] at hnb
  have hob : 0 ≤ own ∧ own < 8 := by unfold nodeB at hnb; simpa using hnb
  have HNew := Lib.hid (pnew_yes own inc w hnb)
  have HInc := Lib.hid hi
  have HL := Lib.hid hS.1
  have HS := Lib.hid hS
  have HLi := Lib.hid hl
  have HWk := Lib.hid (fun w => works_any w)
  have HOwn := Lib.hid hown
  have z1 := hz.1
  have z2 := hz.2
  have hm' : (n : Int) ≤ 9223372036854775807 := by unfold maxLen at hm; omega
  have ho0 := hob.1
  have ho8 := hob.2
  clear hz hi hS hl hm hnb hown hob hnc
  go_enter Try.func6, Try.ntmps6
  go_wp2_with fail
  rw [HOwn.out]
  refine HNew.out.mono ?_
  rintro e w1 ⟨B, M, rfl, hR, hB, hM, hb1⟩
  have HM := Lib.hid hM
  have HStart : Hid (AlInv w w1 B M own 0) := Lib.hid ⟨Ro.new own inc, hR, Ro.small.new HInc.out, rfl, by rw [Ro.selfU_eq (r := Ro.new own inc) (u := ⟨own, inc, 0⟩) (by unfold Ro.new; simp)], hb1⟩
  clear hR hB hM hb1
  go_wp2
  go_loopw [10] (fun i wr => ∃ k : Nat, k ≤ n ∧ k ≤ 60 ∧ i = .int .i64 (k : Int) ∧ Hid (AlInv w wr B M own k)) (fun i _ => n - (intOf i).toNat)
  case atStart => exact ⟨0, Nat.zero_le _, Nat.zero_le _, rfl, HStart⟩
  case round =>
    obtain ⟨k, hk, hk60, rfl, HI⟩ := hrel
    obtain ⟨r, hR, hsm, hro, hal, hbr⟩ := HI.out
    have HBr := Lib.hid hbr
    clear hbr
    by_cases hlt : k < n
    · by_cases h60 : k < 60
      · have hkl : k < l.length := by have := HL.out; omega
        obtain ⟨b, off, rfl, hbl, hc0, hc1, hc2⟩ := (HS.out.of_block HBr.out).at_ hlt hkl
        obtain ⟨x, hx⟩ : ∃ x, l[k] = x := ⟨_, rfl⟩
        rw [hx] at hc0 hc1 hc2
        have hxi : x.inc ≤ 4294967295 := by rw [← hx]; exact HLi.out _ (List.getElem_mem hkl)
        have q1 : (k : Int) < (n : Int) := by omega
        have q0 : (0 : Int) ≤ (k : Int) := by omega
        have q60 : (k : Int) < 60 := by omega
        obtain ⟨i1, hs⟩ : ∃ i1, r.selfU = ⟨own, i1, 0⟩ := ⟨r.selfU.inc, by
          have h3 := hR.ok.selfAt.2.2
          rw [hro] at h3
          rw [Up.eq_iff]
          exact ⟨h3, rfl, hal⟩⟩
        obtain ⟨kk, ca, cb, r2, hap⟩ : ∃ kk ca cb r2, r.apply ⟨own, x.inc, x.st⟩ = (kk, ca, cb, r2) := ⟨_, _, _, _, rfl⟩
        obtain ⟨t1, t2, t3, t4⟩ := alive_step hR.ok hsm hal ⟨own, x.inc, x.st⟩ hro.symm hxi kk ca cb r2 hap
        have hsm2 := hsm.apply (u := ⟨own, x.inc, x.st⟩) hxi
        rw [hap] at hsm2
        obtain ⟨i2, hs2⟩ : ∃ i2, r2.selfU = ⟨own, i2, 0⟩ := ⟨r2.selfU.inc, by
          rw [hro] at t3
          rw [Up.eq_iff]
          exact ⟨t3, rfl, t2⟩⟩
        rw [hs, hs2] at t4
        rw [hro] at t1
        have HSf : Hid (∀ w n, RlAt w B M r n → Calls Try.prog 17 #[.pointer (some ⟨B, 0, none⟩)] w fun e w' => e = .returned (.agg #[.int .i64 own, .int .u32 (i1 : Int), .int .i64 0]) ∧ Below w.heap.size w w') := Lib.hid (fun w n h => by have := self_any w h; rw [hs] at this; exact this)
        have HSf2 : Hid (∀ w n, RlAt w B M r2 n → Calls Try.prog 17 #[.pointer (some ⟨B, 0, none⟩)] w fun e w' => e = .returned (.agg #[.int .i64 own, .int .u32 (i2 : Int), .int .i64 0]) ∧ Below w.heap.size w w') := Lib.hid (fun w n h => by have := self_any w h; rw [hs2] at this; exact this)
        have HAp : Hid (∀ w, RlAt w B M r (k + 1) → Calls Try.prog 13 #[.pointer (some ⟨B, 0, none⟩), .agg #[.int .i64 own, .int .u32 (x.inc : Int), .int .i64 x.st]] w (ApPost w B M (k + 1) kk ca cb r2)) := Lib.hid (fun w h => apply_any ⟨own, x.inc, x.st⟩ w h (by omega) hsm hxi kk ca cb r2 hap)
        have hR_wr := hR
        have HInv2 : Hid (∀ w', RlAt w' B M r2 (k + 1 + 1) → Below w.heap.size w w' → AlInv w w' B M own (k + 1)) := Lib.hid (fun w' h hb => ⟨r2, h, hsm2, t1, t2, hb⟩)
        have HT4 := Lib.hid t4
        have HR_wr := Lib.hid hR
        clear hx hs hap t1 t2 t3 t4 hs2 hR hsm hro hal hsm2 hR_wr hbl
        have hb := below1 wr (.cells #[.int .i64 own, .int .u32 (x.inc : Int), .int .i64 x.st] 32)
        have hk := heap_alloc_new wr (.cells #[.int .i64 own, .int .u32 (x.inc : Int), .int .i64 x.st] 32)
        obtain ⟨Y1, hY⟩ : ∃ Y, wr.heap.size = Y := ⟨_, rfl⟩
        obtain ⟨w2, hw⟩ : ∃ w2, wr.alloc (.cells #[.int .i64 own, .int .u32 (x.inc : Int), .int .i64 x.st] 32) = w2 := ⟨_, rfl⟩
        rw [hw] at hb hk
        rw [hY] at hk
        have HN_w2 := Lib.hid hw
        have HS_w2 := Lib.hid hY
        have HR_w2 := Lib.hid (HR_wr.out.below hb)
        have HK1_2 := Lib.hid hk
        have HB_2 := Lib.hid (HBr.out.trans (hb.mono HBr.out.size))
        clear hb hk hw hY
        go_wp2_with fail
        rw [HN_w2.out, HS_w2.out]
        refine (HSf.out w2 _ HR_w2.out).mono ?_
        rintro e w3 ⟨rfl, hb⟩
        clear hc0 hc1 hc2
        have HR_w3 := Lib.hid (HR_w2.out.below hb)
        have hk1 := (hb.block Y1 (block_lt HK1_2.out)).trans HK1_2.out
        have HB_3 := Lib.hid (HB_2.out.trans (hb.mono HB_2.out.size))
        obtain ⟨c0, c1, c2⟩ := blk3 hk1
        have hY1l := block_lt hk1
        have HK1_3 := Lib.hid hk1
        clear hb hk1
        have hb := below1 w3 (.cells #[.int .i64 own, .int .u32 (i1 : Int), .int .i64 0] 32)
        have hk := heap_alloc_new w3 (.cells #[.int .i64 own, .int .u32 (i1 : Int), .int .i64 0] 32)
        obtain ⟨Y2, hY⟩ : ∃ Y, w3.heap.size = Y := ⟨_, rfl⟩
        obtain ⟨w4, hw⟩ : ∃ w2, w3.alloc (.cells #[.int .i64 own, .int .u32 (i1 : Int), .int .i64 0] 32) = w2 := ⟨_, rfl⟩
        rw [hw] at hb hk
        rw [hY] at hk
        have HN_w4 := Lib.hid hw
        have HS_w4 := Lib.hid hY
        have HR_w4 := Lib.hid (HR_w3.out.below hb)
        have HK1_4 := Lib.hid ((hb.block Y1 hY1l).trans HK1_3.out)
        have HK2_4 := Lib.hid hk
        have HB_4 := Lib.hid (HB_3.out.trans (hb.mono HB_3.out.size))
        clear hb hk hw hY
        go_wp2_with fail
        rw [HN_w4.out, HS_w4.out]
        refine (HAp.out w4 HR_w4.out).mono ?_
        rintro e w5 ⟨rfl, hR5, hb⟩
        clear c0 c1 c2 hY1l
        have hnc1 : Y1 ≠ M := fun e => HR_w4.out.map.not_cells (e ▸ HK1_4.out)
        have hnc2 : Y2 ≠ M := fun e => HR_w4.out.map.not_cells (e ▸ HK2_4.out)
        have HR_w5 := Lib.hid hR5
        have HK1_5 := Lib.hid ((hb.block Y1 (block_lt HK1_4.out) hnc1).trans HK1_4.out)
        have HK2_5 := Lib.hid ((hb.block Y2 (block_lt HK2_4.out) hnc2).trans HK2_4.out)
        have HB_5 := Lib.hid (show Below w.heap.size w w5 from HB_4.out.trans (hb.below HB_4.out.size (fun k hk e => by have := HM.out; omega)))
        clear hb hR5 hnc1 hnc2
        have hb := below1 w5 (.cells #[.int .i64 (kk : Int), .int .i64 ca.node, .int .u32 (ca.inc : Int), .int .i64 ca.st, .int .i64 cb.node, .int .u32 (cb.inc : Int), .int .i64 cb.st] 38)
        have hk := heap_alloc_new w5 (.cells #[.int .i64 (kk : Int), .int .i64 ca.node, .int .u32 (ca.inc : Int), .int .i64 ca.st, .int .i64 cb.node, .int .u32 (cb.inc : Int), .int .i64 cb.st] 38)
        obtain ⟨Y3, hY⟩ : ∃ Y, w5.heap.size = Y := ⟨_, rfl⟩
        obtain ⟨w6, hw⟩ : ∃ w2, w5.alloc (.cells #[.int .i64 (kk : Int), .int .i64 ca.node, .int .u32 (ca.inc : Int), .int .i64 ca.st, .int .i64 cb.node, .int .u32 (cb.inc : Int), .int .i64 cb.st] 38) = w2 := ⟨_, rfl⟩
        rw [hw] at hb hk
        rw [hY] at hk
        have HN_w6 := Lib.hid hw
        have HS_w6 := Lib.hid hY
        have HR_w6 := Lib.hid (HR_w5.out.below hb)
        have HK1_6 := Lib.hid ((hb.block Y1 (block_lt HK1_5.out)).trans HK1_5.out)
        have HK2_6 := Lib.hid ((hb.block Y2 (block_lt HK2_5.out)).trans HK2_5.out)
        have HK3_6 := Lib.hid hk
        have HB_6 := Lib.hid (HB_5.out.trans (hb.mono HB_5.out.size))
        clear hb hk hw hY
        go_wp2_with fail
        rw [HN_w6.out, HS_w6.out]
        refine (HSf2.out w6 _ HR_w6.out).mono ?_
        rintro e w7 ⟨rfl, hb⟩
        have HR_w7 := Lib.hid (HR_w6.out.below hb)
        have HK1_7 := Lib.hid ((hb.block Y1 (block_lt HK1_6.out)).trans HK1_6.out)
        have HK2_7 := Lib.hid ((hb.block Y2 (block_lt HK2_6.out)).trans HK2_6.out)
        have hk3 := (hb.block Y3 (block_lt HK3_6.out)).trans HK3_6.out
        have HB_7 := Lib.hid (HB_6.out.trans (hb.mono HB_6.out.size))
        obtain ⟨c0, c1, c2⟩ := blk3 HK1_7.out
        obtain ⟨d0, d1, d2⟩ := blk3 HK2_7.out
        obtain ⟨e0, e1, e2, e3, e4, e5, e6⟩ := blk7 hk3
        have hl1 := block_lt HK1_7.out
        have hl2 := block_lt HK2_7.out
        have hl3 := block_lt hk3
        clear hb hk3
        have ug := up_guard
        rcases HT4.out with ⟨h4, hmax, hss⟩ | ⟨h4, hrest⟩
        · have z4 : ((kk : Int) == 4) = true := by rw [beq_iff_eq]; omega
          obtain rfl : i2 = i1 := congrArg Up.inc hss
          have ue : ∀ w, (Op.equalIn 10000 32 (.agg #[.int .i64 own, .int .u32 (i2 : Int), .int .i64 0]) (.agg #[.int .i64 own, .int .u32 (i2 : Int), .int .i64 0])).run Try.prog w = .ok true w := fun w => by have := up_eq ⟨own, i2, 0⟩ ⟨own, i2, 0⟩ w; rw [decide_eq_true rfl] at this; exact this
          have H4 := Lib.hid h4
          clear h4 hss
          rcases hmax with hm1 | hm2
          · have zm : ((x.inc : Int) == 4294967295) = true := by rw [beq_iff_eq]; omega
            have zm2 : ((x.inc : Int) != 4294967295) = false := by rw [bne_eq_false_iff_eq]; omega
            clear hm1
            go_wp2
            go_roundw
            case rel => exact ⟨k + 1, by omega, by omega, by go_num, Lib.hid (HInv2.out _ (HR_w7.out.below (below1 _ _)) (HB_7.out.alloc HB_7.out.size _))⟩
            case measure => simp [intOf]; omega
          · by_cases hx1 : x.inc = 4294967295
            · have zm : ((x.inc : Int) == 4294967295) = true := by rw [beq_iff_eq]; omega
              have zm2 : ((x.inc : Int) != 4294967295) = false := by rw [bne_eq_false_iff_eq]; omega
              clear hm2 hx1
              go_wp2
              go_roundw
              case rel => exact ⟨k + 1, by omega, by omega, by go_num, Lib.hid (HInv2.out _ (HR_w7.out.below (below1 _ _)) (HB_7.out.alloc HB_7.out.size _))⟩
              case measure => simp [intOf]; omega
            · have zm : ((x.inc : Int) == 4294967295) = false := by rw [beq_eq_false_iff_ne]; omega
              have zm2 : ((x.inc : Int) != 4294967295) = true := by rw [bne_iff_ne]; omega
              have zn : ((i2 : Int) == 4294967295) = true := by rw [beq_iff_eq]; omega
              have zn2 : ((i2 : Int) != 4294967295) = false := by rw [bne_eq_false_iff_eq]; omega
              clear hm2 hx1
              go_wp2
              go_roundw
              case rel => exact ⟨k + 1, by omega, by omega, by go_num, Lib.hid (HInv2.out _ (HR_w7.out.below (below1 _ _)) (HB_7.out.alloc HB_7.out.size _))⟩
              case measure => simp [intOf]; omega
        · have z4 : ((kk : Int) == 4) = false := by rw [beq_eq_false_iff_ne]; omega
          have H4 := Lib.hid h4
          clear h4
          have hb := below1 w7 (.cells #[.int .i64 own, .int .u32 (i2 : Int), .int .i64 0] 32)
          have hk := heap_alloc_new w7 (.cells #[.int .i64 own, .int .u32 (i2 : Int), .int .i64 0] 32)
          obtain ⟨Y4, hY⟩ : ∃ Y, w7.heap.size = Y := ⟨_, rfl⟩
          obtain ⟨w8, hw⟩ : ∃ w2, w7.alloc (.cells #[.int .i64 own, .int .u32 (i2 : Int), .int .i64 0] 32) = w2 := ⟨_, rfl⟩
          rw [hw] at hb hk
          rw [hY] at hk
          have HN_w8 := Lib.hid hw
          have HS_w8 := Lib.hid hY
          have HR_w8 := Lib.hid (HR_w7.out.below hb)
          have HB_8 := Lib.hid (HB_7.out.trans (hb.mono HB_7.out.size))
          have HK1_8 := Lib.hid ((hb.block Y1 (block_lt HK1_7.out)).trans HK1_7.out)
          have HK2_8 := Lib.hid ((hb.block Y2 (block_lt HK2_7.out)).trans HK2_7.out)
          have HK4_8 := Lib.hid hk
          clear hb hk hw hY
          have CL : True := trivial
          rcases hrest with hrf | ⟨hrt, hab, hor⟩
          · have HPr : Hid (∀ w, Calls Try.prog 28 #[.agg #[.int .i64 own, .int .u32 (x.inc : Int), .int .i64 x.st]] w fun e w' => e = .returned (.bool false) ∧ Below w.heap.size w w') := Lib.hid (fun w => pright_any ⟨own, x.inc, x.st⟩ w false hrf)
            clear hrf
            go_wp2_with fail
            rw [HN_w8.out, HS_w8.out]
            refine (HPr.out _).mono ?_
            rintro e w9 ⟨rfl, hb⟩
            have HR_w9 := Lib.hid (HR_w8.out.below hb)
            have HB_9 := Lib.hid (HB_8.out.trans (hb.mono HB_8.out.size))
            clear hb c0 c1 c2 d0 d1 d2 e0 e1 e2 e3 e4 e5 e6
            go_wp2
            go_roundw
            case rel => exact ⟨k + 1, by omega, by omega, by go_num, Lib.hid (HInv2.out _ HR_w9.out HB_9.out)⟩
            case measure => simp [intOf]; omega
          · have HPr : Hid (∀ w, Calls Try.prog 28 #[.agg #[.int .i64 own, .int .u32 (x.inc : Int), .int .i64 x.st]] w fun e w' => e = .returned (.bool true) ∧ Below w.heap.size w w') := Lib.hid (fun w => pright_any ⟨own, x.inc, x.st⟩ w true hrt)
            have HPa : Hid (∀ w, Calls Try.prog 25 #[.agg #[.int .i64 own, .int .u32 (x.inc : Int), .int .i64 x.st], .agg #[.int .i64 own, .int .u32 (i2 : Int), .int .i64 0]] w fun e w' => e = .returned (.bool false) ∧ Below w.heap.size w w') := Lib.hid (fun w => pabove_any ⟨own, x.inc, x.st⟩ ⟨own, i2, 0⟩ w false hab)
            have HOr := Lib.hid hor
            clear hrt hab hor
            go_wp2_with fail
            rw [HN_w8.out, HS_w8.out]
            refine (HPr.out _).mono ?_
            clear HPr
            rintro e wa ⟨rfl, hb⟩
            have HR_wa := Lib.hid (HR_w8.out.below hb)
            have HB_a := Lib.hid (HB_8.out.trans (hb.mono HB_8.out.size))
            have HK1_a := Lib.hid ((hb.block Y1 (block_lt HK1_8.out)).trans HK1_8.out)
            have HK2_a := Lib.hid ((hb.block Y2 (block_lt HK2_8.out)).trans HK2_8.out)
            have HK4_a := Lib.hid ((hb.block Y4 (block_lt HK4_8.out)).trans HK4_8.out)
            clear hb c0 c1 c2 d0 d1 d2 e0 e1 e2 e3 e4 e5 e6
            obtain ⟨c0, c1, c2⟩ := blk3 HK1_a.out
            obtain ⟨d0, d1, d2⟩ := blk3 HK4_a.out
            go_wp2_with fail
            refine (HPa.out _).mono ?_
            clear HPa
            rintro e wb ⟨rfl, hb⟩
            have HR_wb := Lib.hid (HR_wa.out.below hb)
            have HB_b := Lib.hid (HB_a.out.trans (hb.mono HB_a.out.size))
            have HK1_b := Lib.hid ((hb.block Y1 (block_lt HK1_a.out)).trans HK1_a.out)
            have HK2_b := Lib.hid ((hb.block Y2 (block_lt HK2_a.out)).trans HK2_a.out)
            have HK4_b := Lib.hid ((hb.block Y4 (block_lt HK4_a.out)).trans HK4_a.out)
            clear hb c0 c1 c2 d0 d1 d2
            obtain ⟨c0, c1, c2⟩ := blk3 HK1_b.out
            obtain ⟨d0, d1, d2⟩ := blk3 HK4_b.out
            obtain ⟨f0, f1, f2⟩ := blk3 HK2_b.out
            rcases HOr.out with heq | ⟨hne, hab2⟩
            · have ue : ∀ w, (Op.equalIn 10000 32 (.agg #[.int .i64 own, .int .u32 (x.inc : Int), .int .i64 x.st]) (.agg #[.int .i64 own, .int .u32 (i1 : Int), .int .i64 0])).run Try.prog w = .ok true w := fun w => by have := up_eq ⟨own, x.inc, x.st⟩ ⟨own, i1, 0⟩ w; rw [decide_eq_true heq] at this; exact this
              clear heq
              go_wp2
              go_roundw
              case rel => exact ⟨k + 1, by omega, by omega, by go_num, Lib.hid (HInv2.out _ HR_wb.out HB_b.out)⟩
              case measure => simp [intOf]; omega
            · have ue : ∀ w, (Op.equalIn 10000 32 (.agg #[.int .i64 own, .int .u32 (x.inc : Int), .int .i64 x.st]) (.agg #[.int .i64 own, .int .u32 (i1 : Int), .int .i64 0])).run Try.prog w = .ok false w := fun w => by have := up_eq ⟨own, x.inc, x.st⟩ ⟨own, i1, 0⟩ w; rw [decide_eq_false hne] at this; exact this
              have HPb : Hid (∀ w, Calls Try.prog 25 #[.agg #[.int .i64 own, .int .u32 (i2 : Int), .int .i64 0], .agg #[.int .i64 own, .int .u32 (x.inc : Int), .int .i64 x.st]] w fun e w' => e = .returned (.bool true) ∧ Below w.heap.size w w') := Lib.hid (fun w => pabove_any ⟨own, i2, 0⟩ ⟨own, x.inc, x.st⟩ w true hab2)
              clear hne hab2
              go_wp2_with fail
              refine (HPb.out _).mono ?_
              rintro e wc ⟨rfl, hb⟩
              have HR_w9 := Lib.hid (HR_wb.out.below hb)
              have HB_9 := Lib.hid (HB_b.out.trans (hb.mono HB_b.out.size))
              clear hb c0 c1 c2 d0 d1 d2 f0 f1 f2
              go_wp2
              go_roundw
              case rel => exact ⟨k + 1, by omega, by omega, by go_num, Lib.hid (HInv2.out _ HR_w9.out HB_9.out)⟩
              case measure => simp [intOf]; omega
      · have q1 : (k : Int) < (n : Int) := by omega
        have q60 : ¬ (k : Int) < 60 := by omega
        clear hR hsm hro hal
        go_wp2_with fail
        refine (HWk.out _).mono ?_
        rintro e w9 ⟨rfl, hb⟩
        have HB := Lib.hid (HBr.out.trans (hb.mono HBr.out.size))
        clear hb
        go_wp2
        go_ret
        exact ⟨rfl, HB.out⟩
    · have q1 : ¬ (k : Int) < (n : Int) := by omega
      clear hR hsm hro hal
      go_wp2_with fail
      refine (HWk.out _).mono ?_
      rintro e w9 ⟨rfl, hb⟩
      have HB := Lib.hid (HBr.out.trans (hb.mono HBr.out.size))
      clear hb
      go_wp2
      go_ret
      exact ⟨rfl, HB.out⟩
theorem alive_row (z i : Int) (A : Option Addr) (n c : Nat) (l : List Up) (w : World) (hz : 0 ≤ z ∧ z ≤ 255) (hi : 0 ≤ i ∧ i ≤ 4294967295) (hS : SUp w A n l) (hl : ∀ u ∈ l, okUp u) (hnc : n ≤ c) (hm : c ≤ maxLen) :
    Calls Try.prog 6 #[.int .u8 z, .int .u32 i, .slice A n c] w fun e w' => e = .returned (.bool true) ∧ Below w.heap.size w w' := by
  have h := alive_walk z i.toNat A n c l w hz (by omega) hS (fun u hu => by have := (hl u hu).2.1; omega) hnc hm
  rwa [show ((i.toNat : Nat) : Int) = i by omega] at h
end Go.Proofs.Ytmfokogckfoheaa
