/-
  Leave and Live of the document's roll; ints of the law (layer 9).
-/
import Derived.Test.YtmfokogckfoheaaRoRApply
import Derived.Test.YtmfokogckfoheaaRoPeers
namespace Go.Proofs.Ytmfokogckfoheaa
open Go.RowKit Go.Maps
set_option linter.unusedSimpArgs false
set_option linter.unusedVariables false

theorem set3_alloc_blk {W : World} {X : Nat} {u0 u1 u2 : Value} {t : TypeId} (h : W.heap[X]? = some (.cells #[u0, u1, u2] t (0, 0))) (a b c : Value) (o : Obj) : ((((W.setCell ⟨X, 0, none⟩ a).setCell ⟨X, 1, none⟩ b).setCell ⟨X, 2, none⟩ c).alloc o).heap[X]? = some (.cells #[a, b, c] t (0, 0)) := by
  have q := set3_blk h a b c
  exact (heap_alloc_old _ o (block_lt q)).trans q
set_option maxHeartbeats 8000000 in
theorem rleave_gone {base B : Nat} {v0 : Value} {r : Ro} (w : World) (hR : RrAt w base B v0 r) (hbase : base ≤ w.heap.size) (hg : r.selfU.st = 3) :
    Calls Try.prog 12 #[.pointer (some ⟨B, 0, none⟩)] w (RLvPost w base B r.selfU false r) := by
  have hlB := hR.lt
  have HR := Lib.hid hR
  have HBs := Lib.hid hbase
  have hb0 := below1 w (.cells #[.int .i64 0, .int .u32 0, .int .i64 0] 32)
  have k0 := heap_alloc_new w (.cells #[.int .i64 0, .int .u32 0, .int .i64 0] 32)
  obtain ⟨X, hX⟩ : ∃ X, w.heap.size = X := ⟨_, rfl⟩
  obtain ⟨W, hW⟩ : ∃ W, w.alloc (.cells #[.int .i64 0, .int .u32 0, .int .i64 0] 32) = W := ⟨_, rfl⟩
  rw [hW] at hb0 k0
  rw [hX] at k0 hlB
  have hR1 := hR.below hb0
  have HSf := Lib.hid (rself_any W hR1)
  have HR1 := Lib.hid hR1
  have HK0 := Lib.hid k0
  have HB0 := Lib.hid hb0
  have HX := Lib.hid hX
  have HW := Lib.hid hW
  have HlB := Lib.hid hlB
  obtain ⟨own, hown⟩ : ∃ u, r.selfU = u := ⟨_, rfl⟩
  have HRn := Lib.hid hR.ok.selfAt.2
  rw [hown] at HSf HRn
  rw [hown] at hg
  have HOwn := Lib.hid hown
  clear hR hbase hb0 k0 hX hW hR1 hown hlB
  have z3 : (own.st == 3) = true := by rw [beq_iff_eq]; exact hg
  clear hg
  go_enter Try.func12, Try.ntmps12
  go_wp2_with fail
  rw [HW.out, HX.out]
  refine HSf.out.mono ?_
  rintro e w1 ⟨rfl, hb1⟩
  have hk1 := (hb1.block X (block_lt HK0.out)).trans HK0.out
  have hR1 := HR1.out.below hb1
  have HB1 := Lib.hid (HB0.out.trans (hb1.mono HB0.out.size))
  have hX1 := block_lt hk1
  obtain ⟨e0, e1, e2⟩ := blk3 hk1
  have f0 := blk_froz hk1 0
  have f1 := blk_froz hk1 1
  have f2 := blk_froz hk1 2
  have HK1 := Lib.hid hk1
  have HR2 := Lib.hid hR1
  clear hb1 hk1 hR1
  have HQ := Lib.hid (set3_alloc_blk HK1.out (.int .i64 own.node) (.int .u32 (own.inc : Int)) (.int .i64 own.st) (.cells #[.int .i64 own.node, .int .u32 (own.inc : Int), .int .i64 own.st] 32))
  go_wp2
  obtain ⟨g0, g1, g2⟩ := blk3 HQ.out
  have hsz := HX.out
  have hlB := HlB.out
  rw [HOwn.out]
  refine bodyPost_ret (v := .tuple #[.agg #[.int .i64 own.node, .int .u32 (own.inc : Int), .int .i64 own.st], .bool false]) (by simp [results, Try.results12, go_sem, g0, g1, g2]) rfl ⟨rfl, ⟨v0, ?_⟩, ?_⟩
  · refine RrAt.below ?_ (below1 _ _)
    refine HR2.out.but (set3_but w1 X _ _ _) (by omega) (fun b hb e => ?_)
    obtain ⟨cur, hc⟩ := row_cells HR.out.row hb
    have := block_lt hc
    omega
  · exact ((But.of_below HB1.out).then_ (set3_but w1 X _ _ _) (fun i e hi => by omega)).alloc _
set_option maxHeartbeats 8000000 in
theorem rleave_yes {base B : Nat} {v0 : Value} {r : Ro} (w : World) (hR : RrAt w base B v0 r) (hbase : base ≤ w.heap.size) (hg : r.selfU.st ≠ 3) :
    Calls Try.prog 12 #[.pointer (some ⟨B, 0, none⟩)] w (RLvPost w base B ⟨r.selfU.node, r.selfU.inc, 3⟩ true ⟨r.own, put r.T ⟨r.selfU.node, r.selfU.inc, 3⟩⟩) := by
  have hlB := hR.lt
  have HR := Lib.hid hR
  have HBs := Lib.hid hbase
  have hb0 := below1 w (.cells #[.int .i64 0, .int .u32 0, .int .i64 0] 32)
  have k0 := heap_alloc_new w (.cells #[.int .i64 0, .int .u32 0, .int .i64 0] 32)
  obtain ⟨X, hX⟩ : ∃ X, w.heap.size = X := ⟨_, rfl⟩
  obtain ⟨W, hW⟩ : ∃ W, w.alloc (.cells #[.int .i64 0, .int .u32 0, .int .i64 0] 32) = W := ⟨_, rfl⟩
  rw [hW] at hb0 k0
  rw [hX] at k0 hlB
  have hR1 := hR.below hb0
  have HSf := Lib.hid (rself_any W hR1)
  have HR1 := Lib.hid hR1
  have HK0 := Lib.hid k0
  have HB0 := Lib.hid hb0
  have HX := Lib.hid hX
  have HW := Lib.hid hW
  have HlB := Lib.hid hlB
  obtain ⟨own, hown⟩ : ∃ u, r.selfU = u := ⟨_, rfl⟩
  have HRn := Lib.hid hR.ok.selfAt.2
  rw [hown] at HSf HRn
  rw [hown] at hg
  have HOwn := Lib.hid hown
  clear hR hbase hb0 k0 hX hW hR1 hown hlB
  have z3 : (own.st == 3) = false := by rw [beq_eq_false_iff_ne]; exact hg
  clear hg
  go_enter Try.func12, Try.ntmps12
  go_wp2_with fail
  rw [HW.out, HX.out]
  refine HSf.out.mono ?_
  rintro e w1 ⟨rfl, hb1⟩
  have hk1 := (hb1.block X (block_lt HK0.out)).trans HK0.out
  have hR1 := HR1.out.below hb1
  have HB1 := Lib.hid (HB0.out.trans (hb1.mono HB0.out.size))
  have hX1 := block_lt hk1
  obtain ⟨e0, e1, e2⟩ := blk3 hk1
  have f0 := blk_froz hk1 0
  have f1 := blk_froz hk1 1
  have f2 := blk_froz hk1 2
  have HK1 := Lib.hid hk1
  have HR2 := Lib.hid hR1
  clear hb1 hk1 hR1
  have hb2 := below1 w1 (.cells #[.int .i64 own.node, .int .u32 (own.inc : Int), .int .i64 3] 32)
  have k2 := heap_alloc_new w1 (.cells #[.int .i64 own.node, .int .u32 (own.inc : Int), .int .i64 3] 32)
  obtain ⟨N, hN⟩ : ∃ N, w1.heap.size = N := ⟨_, rfl⟩
  obtain ⟨w2, hw2⟩ : ∃ w2, w1.alloc (.cells #[.int .i64 own.node, .int .u32 (own.inc : Int), .int .i64 3] 32) = w2 := ⟨_, rfl⟩
  rw [hw2] at hb2 k2
  rw [hN] at k2 hX1
  have hR3 := HR2.out.below hb2
  have HK2 := Lib.hid k2
  have HX2 := Lib.hid ((hb2.block X (block_lt HK1.out)).trans HK1.out)
  have HB2 := Lib.hid (HB1.out.trans (hb2.mono HB1.out.size))
  have HPut := Lib.hid (rput_any ⟨own.node, own.inc, 3⟩ w2 hR3 (Nat.le_trans HBs.out HB2.out.size) (by
    have h2 := HRn.out.1
    unfold Up.right at h2 ⊢
    have h3 := of_decide_eq_true h2
    exact decide_eq_true ⟨h3.1, h3.2.1, .inr (.inr (.inr rfl))⟩))
  simp only at HPut
  have HN := Lib.hid hN
  have HW2 := Lib.hid hw2
  have HXN := Lib.hid hX1
  clear hb2 k2 hN hw2 hR3 e0 e1 e2 f0 f1 f2 hX1
  go_wp2_with fail
  rw [HW2.out, HN.out]
  refine HPut.out.mono ?_
  rintro e w3 ⟨rfl, ⟨vp, hRp, hvp⟩, hbp⟩
  have hXN := HXN.out
  have hlB := HlB.out
  have hx3 := (hbp.block X (block_lt HX2.out) (by omega)).trans HX2.out
  have hn3 := (hbp.block N (block_lt HK2.out) (by omega)).trans HK2.out
  have HRp := Lib.hid hRp
  have HVp := Lib.hid (show ∀ b, vp.ownBlock = some b → b ≠ X from fun b hb => by have := hvp b hb; have := block_lt HX2.out; omega)
  have HBp := Lib.hid ((But.of_below HB2.out).trans hbp)
  obtain ⟨e0, e1, e2⟩ := blk3 hx3
  obtain ⟨n0, n1, n2⟩ := blk3 hn3
  have f0 := blk_froz hx3 0
  have f1 := blk_froz hx3 1
  have f2 := blk_froz hx3 2
  have HQ := Lib.hid (set3_blk hx3 (.int .i64 own.node) (.int .u32 (own.inc : Int)) (.int .i64 3))
  clear hRp hvp hbp hx3 hn3 HPut
  go_wp2
  obtain ⟨g0, g1, g2⟩ := blk3 HQ.out
  have hsz := HX.out
  rw [HOwn.out]
  refine bodyPost_ret (v := .tuple #[.agg #[.int .i64 own.node, .int .u32 (own.inc : Int), .int .i64 3], .bool true]) (by simp [results, Try.results12, go_sem, g0, g1, g2]) rfl ⟨rfl, ⟨vp, ?_⟩, ?_⟩
  · exact HRp.out.but (set3_but w3 X _ _ _) (by omega) (fun b hb e => HVp.out b hb e)
  · exact HBp.out.then_ (set3_but w3 X _ _ _) (fun i e hi => by omega)
/-- Leave of the document's roll. -/
theorem rleave_any {base B : Nat} {v0 : Value} {r : Ro} (w : World) (hR : RrAt w base B v0 r) (hbase : base ≤ w.heap.size) (u : Up) (is : Bool) (r2 : Ro) (he : r.leave = (u, is, r2)) :
    Calls Try.prog 12 #[.pointer (some ⟨B, 0, none⟩)] w (RLvPost w base B u is r2) := by
  unfold Ro.leave at he
  by_cases hg : r.selfU.st = 3
  · rw [if_pos hg] at he
    simp only [Prod.mk.injEq] at he
    obtain ⟨rfl, rfl, rfl⟩ := he
    exact rleave_gone w hR hbase hg
  · rw [if_neg hg] at he
    simp only [Prod.mk.injEq] at he
    obtain ⟨rfl, rfl, rfl⟩ := he
    exact rleave_yes w hR hbase hg
end Go.Proofs.Ytmfokogckfoheaa
