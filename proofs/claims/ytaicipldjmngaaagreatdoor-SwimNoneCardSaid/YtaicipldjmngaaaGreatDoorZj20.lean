import Derived.Test.YtaicipldjmngaaaGreatDoorZj5
namespace Go.Proofs.YtaicipldjmngaaaGreatDoor.ro
open Go.RowKit Go.Maps
set_option linter.unusedSimpArgs false
set_option linter.unusedVariables false
theorem set7_blk {W : World} {X : Nat} {u0 u1 u2 u3 u4 u5 u6 : Value} {t : TypeId} (h : W.heap[X]? = some (.cells #[u0, u1, u2, u3, u4, u5, u6] t (0, 0))) (a b c d e f g : Value) :
    (((((((W.setCell ⟨X, 0, none⟩ a).setCell ⟨X, 1, none⟩ b).setCell ⟨X, 2, none⟩ c).setCell ⟨X, 3, none⟩ d).setCell ⟨X, 4, none⟩ e).setCell ⟨X, 5, none⟩ f).setCell ⟨X, 6, none⟩ g).heap[X]? = some (.cells #[a, b, c, d, e, f, g] t (0, 0)) :=
  by
  have q0 := block_set h 0 a
  have q1 := block_set q0 1 b
  have q2 := block_set q1 2 c
  have q3 := block_set q2 3 d
  have q4 := block_set q3 4 e
  have q5 := block_set q4 5 f
  have q6 := block_set q5 6 g
  rw [q6]
  simp
theorem blk7 {W : World} {X : Nat} {a b c d e f g : Value} {t : TypeId} (h : W.heap[X]? = some (.cells #[a, b, c, d, e, f, g] t (0, 0))) : W.cell? ⟨X, 0, none⟩ = some a ∧ W.cell? ⟨X, 1, none⟩ = some b ∧ W.cell? ⟨X, 2, none⟩ = some c ∧ W.cell? ⟨X, 3, none⟩ = some d ∧ W.cell? ⟨X, 4, none⟩ = some e ∧ W.cell? ⟨X, 5, none⟩ = some f ∧ W.cell? ⟨X, 6, none⟩ = some g := by
  refine ⟨?_, ?_, ?_, ?_, ?_, ?_, ?_⟩ <;> (rw [cell_of_row _ _ _ _ _ _ h]; rfl)
theorem frz7 {W : World} {X : Nat} {cur : Array Value} {t : TypeId} (h : W.heap[X]? = some (.cells cur t (0, 0))) : W.frozen? ⟨X, 0, none⟩ = false ∧ W.frozen? ⟨X, 1, none⟩ = false ∧ W.frozen? ⟨X, 2, none⟩ = false ∧ W.frozen? ⟨X, 3, none⟩ = false ∧ W.frozen? ⟨X, 4, none⟩ = false ∧ W.frozen? ⟨X, 5, none⟩ = false ∧ W.frozen? ⟨X, 6, none⟩ = false :=
  ⟨blk_froz h 0, blk_froz h 1, blk_froz h 2, blk_froz h 3, blk_froz h 4, blk_froz h 5, blk_froz h 6⟩
theorem set7_but (W : World) (X : Nat) (a b c d e f g : Value) : But (· = X) W (((((((W.setCell ⟨X, 0, none⟩ a).setCell ⟨X, 1, none⟩ b).setCell ⟨X, 2, none⟩ c).setCell ⟨X, 3, none⟩ d).setCell ⟨X, 4, none⟩ e).setCell ⟨X, 5, none⟩ f).setCell ⟨X, 6, none⟩ g) :=
  have h : ∀ (W : World) (i : Nat) (v : Value), But (· = X) W (W.setCell ⟨X, i, none⟩ v) := fun W i v => But.set (S := (· = X)) W (p := ⟨X, i, none⟩) rfl v
  ((((((h _ _ _).trans (h _ _ _)).trans (h _ _ _)).trans (h _ _ _)).trans (h _ _ _)).trans (h _ _ _)).trans (h _ _ _)
theorem MapIs.more {w : World} {M n m : Nat} {T : Int → Option Up} (h : MapIs w M T n) (hm : n ≤ m) : MapIs w M T m := by
  obtain ⟨D, ⟨es, clock, hb, F, hs, hD⟩, h2⟩ := h
  exact ⟨D, ⟨es, clock, hb, F, Nat.le_trans hs hm, hD⟩, h2⟩
theorem RlAt.more {w : World} {B M n m : Nat} {r : Ro} (h : RlAt w B M r n) (hm : n ≤ m) : RlAt w B M r m := ⟨h.blk, h.map.more hm, h.ok⟩
def ApPost (w : World) (B M n : Nat) (k : Nat) (a b : Up) (r : Ro) (e : Ending) (w' : World) : Prop := e = .returned (.agg #[.int .i64 (k : Int), .int .i64 a.node, .int .u32 (a.inc : Int), .int .i64 a.st, .int .i64 b.node, .int .u32 (b.inc : Int), .int .i64 b.st]) ∧ RlAt w' B M r (n + 1) ∧ But (· = M) w w'
set_option maxHeartbeats 4000000 in
theorem con_gone {B M n : Nat} {r : Ro} (own u : Up) (w : World) (hR : RlAt w B M r n) (hg : own.st = 3) :
    Calls Tryz.prog 170 #[.pointer (some ⟨B, 0, none⟩), .agg #[.int .i64 own.node, .int .u32 (own.inc : Int), .int .i64 own.st], .agg #[.int .i64 u.node, .int .u32 (u.inc : Int), .int .i64 u.st]] w (ApPost w B M n 0 zU zU r) := by
  have z0 : (own.st == 3) = true := by rw [beq_iff_eq]; exact hg
  have HR := Lib.hid hR
  clear hg hR
  go_enter Tryz.func170, Tryz.ntmps170
  go_wp2
  refine bodyPost_ret (v := .agg #[.int .i64 0, .int .i64 0, .int .u32 0, .int .i64 0, .int .i64 0, .int .u32 0, .int .i64 0]) (by simp [results, Tryz.results170, go_sem]) rfl ⟨rfl, ?_, ?_⟩
  · exact (((HR.out.below (below1 _ _)).below (below1 _ _)).below (below1 _ _)).more (Nat.le_succ n)
  · exact ((But.refl _ _).alloc _).alloc _ |>.alloc _
structure ConIn (w W : World) (X : Nat) (own u : Up) : Prop where
  base : w.heap.size = X
  below : Below w.heap.size w W
  b0 : W.heap[X]? = some (.cells #[.int .i64 own.node, .int .u32 (own.inc : Int), .int .i64 own.st] 63)
  b1 : W.heap[X + 1]? = some (.cells #[.int .i64 u.node, .int .u32 (u.inc : Int), .int .i64 u.st] 63)
  b2 : W.heap[X + 1 + 1]? = some (.cells #[.int .i64 0, .int .i64 0, .int .u32 0, .int .i64 0, .int .i64 0, .int .u32 0, .int .i64 0] 200)
theorem ConIn.mk_ (w : World) (own u : Up) : ConIn w (((w.alloc (.cells #[.int .i64 own.node, .int .u32 (own.inc : Int), .int .i64 own.st] 63)).alloc (.cells #[.int .i64 u.node, .int .u32 (u.inc : Int), .int .i64 u.st] 63)).alloc (.cells #[.int .i64 0, .int .i64 0, .int .u32 0, .int .i64 0, .int .i64 0, .int .u32 0, .int .i64 0] 200)) w.heap.size own u := by
  refine ⟨rfl, (below2 w _ _).alloc (by simp; omega) _, ?_, ?_, ?_⟩
  · rw [Below.heap_alloc _ _ _ (by simp; omega), Below.heap_alloc _ _ _ (by simp)]
    exact heap_alloc_new w _
  · rw [Below.heap_alloc _ _ _ (by simp)]
    have := heap_alloc_new (w.alloc (.cells #[.int .i64 own.node, .int .u32 (own.inc : Int), .int .i64 own.st] 63)) (.cells #[.int .i64 u.node, .int .u32 (u.inc : Int), .int .i64 u.st] 63)
    simpa using this
  · have := heap_alloc_new ((w.alloc (.cells #[.int .i64 own.node, .int .u32 (own.inc : Int), .int .i64 own.st] 63)).alloc (.cells #[.int .i64 u.node, .int .u32 (u.inc : Int), .int .i64 u.st] 63)) (.cells #[.int .i64 0, .int .i64 0, .int .u32 0, .int .i64 0, .int .i64 0, .int .u32 0, .int .i64 0] 200)
    simpa using this
theorem ConIn.then_ {w W W' : World} {X : Nat} {own u : Up} (h : ConIn w W X own u) (hb : Below W.heap.size W W') : ConIn w W' X own u :=
  ⟨h.base, h.below.trans (hb.mono h.below.size), (hb.block _ (block_lt h.b0)).trans h.b0, (hb.block _ (block_lt h.b1)).trans h.b1, (hb.block _ (block_lt h.b2)).trans h.b2⟩
set_option maxHeartbeats 8000000 in
theorem con_stuck {B M n : Nat} {r : Ro} (own u : Up) (w : World) (hR : RlAt w B M r n) (hg : own.st ≠ 3) (ho : own.inc ≤ 4294967295) (hu : u.inc ≤ 4294967295) (inc k : Nat) (hf : refuteN own.inc u.inc = (inc, k)) (hk : k ≠ 0) :
    Calls Tryz.prog 170 #[.pointer (some ⟨B, 0, none⟩), .agg #[.int .i64 own.node, .int .u32 (own.inc : Int), .int .i64 own.st], .agg #[.int .i64 u.node, .int .u32 (u.inc : Int), .int .i64 u.st]] w (ApPost w B M n 4 own own r) := by
  have z0 : (own.st == 3) = false := by rw [beq_eq_false_iff_ne]; exact hg
  have z1 : ((k : Int) == 0) = false := by rw [beq_eq_false_iff_ne]; omega
  have z2 : ((k : Int) != 0) = true := by rw [bne_iff_ne]; omega
  have HF := Lib.hid (fun w => prefute_any own.inc u w inc k hf ho hu)
  have HR := Lib.hid hR
  have hC := ConIn.mk_ w own u
  obtain ⟨X, hX⟩ : ∃ X, w.heap.size = X := ⟨_, rfl⟩
  obtain ⟨W, hW⟩ : ∃ W, ((w.alloc (.cells #[.int .i64 own.node, .int .u32 (own.inc : Int), .int .i64 own.st] 63)).alloc (.cells #[.int .i64 u.node, .int .u32 (u.inc : Int), .int .i64 u.st] 63)).alloc (.cells #[.int .i64 0, .int .i64 0, .int .u32 0, .int .i64 0, .int .i64 0, .int .u32 0, .int .i64 0] 200) = W := ⟨_, rfl⟩
  rw [hX, hW] at hC
  obtain ⟨c0, c1, c2⟩ := blk3 hC.b0
  obtain ⟨d0, d1, d2⟩ := blk3 hC.b1
  have HC := Lib.hid hC
  have HX := Lib.hid hX
  have HW := Lib.hid hW
  clear hg hR hf hk ho hu hC hX hW
  go_enter Tryz.func170, Tryz.ntmps170
  go_wp2_with fail
  rw [HW.out, HX.out]
  refine (HF.out _).mono ?_
  rintro e w1 ⟨rfl, hb1⟩
  have hC1 := HC.out.then_ hb1
  clear c0 c1 c2 d0 d1 d2 hb1
  obtain ⟨c0, c1, c2⟩ := blk3 hC1.b0
  obtain ⟨e0, e1, e2, e3, e4, e5, e6⟩ := blk7 hC1.b2
  obtain ⟨f0, f1, f2, f3, f4, f5, f6⟩ := frz7 hC1.b2
  have HC1 := Lib.hid hC1
  have HQ := Lib.hid (set7_blk hC1.b2 (.int .i64 4) (.int .i64 own.node) (.int .u32 (own.inc : Int)) (.int .i64 own.st) (.int .i64 own.node) (.int .u32 (own.inc : Int)) (.int .i64 own.st))
  clear hC1
  go_wp2
  obtain ⟨g0, g1, g2, g3, g4, g5, g6⟩ := blk7 HQ.out
  refine bodyPost_ret (v := .agg #[.int .i64 4, .int .i64 own.node, .int .u32 (own.inc : Int), .int .i64 own.st, .int .i64 own.node, .int .u32 (own.inc : Int), .int .i64 own.st]) (by simp [results, Tryz.results170, go_sem, g0, g1, g2, g3, g4, g5, g6]) rfl ⟨rfl, ?_, ?_⟩
  · have hlt := HR.out.lt
    have hR1 := HR.out.below HC1.out.below
    refine (hR1.but (set7_but w1 (X + 1 + 1) _ _ _ _ _ _ _) ?_ ?_).more (Nat.le_succ n)
    · have := HC1.out.base; omega
    · have := HC1.out.base; omega
  · refine (But.of_below HC1.out.below).then_ (set7_but w1 (X + 1 + 1) _ _ _ _ _ _ _) (fun i e hi => ?_)
    have := HC1.out.base
    omega
theorem Ro.ok.own_node {r : Ro} (h : r.ok) (inc : Nat) : (⟨r.own, inc, 0⟩ : Up).right = true := (right_of _ _ _).2 ⟨h.ownR.1, h.ownR.2, .inl rfl⟩
set_option maxHeartbeats 8000000 in
theorem con_mine {B M n : Nat} {r : Ro} (own u : Up) (w : World) (hR : RlAt w B M r n) (hn : n ≤ 1000000) (hg : own.st ≠ 3) (ho : own.inc ≤ 4294967295) (hu : u.inc ≤ 4294967295) (inc : Nat) (hf : refuteN own.inc u.inc = (inc, 0)) :
    Calls Tryz.prog 170 #[.pointer (some ⟨B, 0, none⟩), .agg #[.int .i64 own.node, .int .u32 (own.inc : Int), .int .i64 own.st], .agg #[.int .i64 u.node, .int .u32 (u.inc : Int), .int .i64 u.st]] w (ApPost w B M n 3 own ⟨r.own, inc, 0⟩ ⟨r.own, put r.T ⟨r.own, inc, 0⟩⟩) := by
  have z0 : (own.st == 3) = false := by rw [beq_eq_false_iff_ne]; exact hg
  have HF := Lib.hid (fun w => prefute_any own.inc u w inc 0 hf ho hu)
  have HR := Lib.hid hR
  have HN := Lib.hid hn
  have hC := ConIn.mk_ w own u
  obtain ⟨X, hX⟩ : ∃ X, w.heap.size = X := ⟨_, rfl⟩
  obtain ⟨W, hW⟩ : ∃ W, ((w.alloc (.cells #[.int .i64 own.node, .int .u32 (own.inc : Int), .int .i64 own.st] 63)).alloc (.cells #[.int .i64 u.node, .int .u32 (u.inc : Int), .int .i64 u.st] 63)).alloc (.cells #[.int .i64 0, .int .i64 0, .int .u32 0, .int .i64 0, .int .i64 0, .int .u32 0, .int .i64 0] 200) = W := ⟨_, rfl⟩
  rw [hX, hW] at hC
  obtain ⟨c0, c1, c2⟩ := blk3 hC.b0
  obtain ⟨d0, d1, d2⟩ := blk3 hC.b1
  have HC := Lib.hid hC
  have HX := Lib.hid hX
  have HW := Lib.hid hW
  obtain ⟨me, hme⟩ : ∃ m, r.own = m := ⟨_, rfl⟩
  have HMe := Lib.hid hme
  clear hg hR hf ho hu hC hX hW hn hme
  go_enter Tryz.func170, Tryz.ntmps170
  go_wp2_with fail
  rw [HW.out, HX.out]
  refine (HF.out _).mono ?_
  rintro e w1 ⟨rfl, hb1⟩
  have hC1 := HC.out.then_ hb1
  have hR1 := HR.out.below hC1.below
  clear c0 c1 c2 d0 d1 d2 hb1
  have r0 := hR1.c0
  have r1 := hR1.c1
  rw [HMe.out] at r0
  have hlt := hR1.lt
  have hlB := hlt.1
  have hb2 := below1 w1 (.cells #[.int .i64 me, .int .u32 (inc : Int), .int .i64 0] 63)
  have k2 := heap_alloc_new w1 (.cells #[.int .i64 me, .int .u32 (inc : Int), .int .i64 0] 63)
  obtain ⟨N, hN⟩ : ∃ N, w1.heap.size = N := ⟨_, rfl⟩
  obtain ⟨W2, hW2⟩ : ∃ W2, w1.alloc (.cells #[.int .i64 me, .int .u32 (inc : Int), .int .i64 0] 63) = W2 := ⟨_, rfl⟩
  rw [hW2] at hb2 k2
  rw [hN] at k2
  have HXN := Lib.hid (show X ≤ N by have := hC1.below.size; have := HX.out; omega)
  have hC2 := hC1.then_ hb2
  have hR2 := hR1.below hb2
  have s0 := hR2.c0
  have s1 := hR2.c1
  rw [HMe.out] at s0
  have HW2 := Lib.hid hW2
  have HNn := Lib.hid hN
  have HC2 := Lib.hid hC2
  have HR2 := Lib.hid hR2
  have HK2 := Lib.hid k2
  obtain ⟨n0, n1, n2⟩ := blk3 k2
  clear hC1 hR1 hlt hW2 hN hC2 hR2 k2 hb2
  go_wp2
  rw [HW2.out, HNn.out]
  clear r0 r1 hlB
  have hm2 : MapIs W2.drew M r.T n := HR2.out.map.block rfl
  have hmw : wfI me := by rw [← HMe.out]; exact HR2.out.ownW
  obtain ⟨w3, hrun, hm3, hg3, hs3⟩ := hm2.put ⟨me, inc, 0⟩ hmw (by have := HN.out; unfold maxLen; omega)
  unfold upV at hrun
  simp only at hrun
  have HM3 := Lib.hid hm3
  have HG3 := Lib.hid hg3
  have HS3 := Lib.hid hs3
  clear hm2 hmw hm3 hg3 hs3
  go_region
  have hMX : M < X := by have := HR.out.lt.2; have := HX.out; omega
  have hC3 : w3.heap[X]? = some (.cells #[.int .i64 own.node, .int .u32 (own.inc : Int), .int .i64 own.st] 63) := (HG3.out.block X (block_lt (w := W2) HC2.out.b0) (fun e => by cases e; omega)).trans HC2.out.b0
  have hZ3 : w3.heap[X + 1 + 1]? = some (.cells #[.int .i64 0, .int .i64 0, .int .u32 0, .int .i64 0, .int .i64 0, .int .u32 0, .int .i64 0] 200) := (HG3.out.block _ (block_lt (w := W2) HC2.out.b2) (fun e => by cases e; omega)).trans HC2.out.b2
  have hXN : X ≤ N := HXN.out
  have hN3 : w3.heap[N]? = some (.cells #[.int .i64 me, .int .u32 (inc : Int), .int .i64 0] 63 (0, 0)) := (HG3.out.block N (block_lt (w := W2) HK2.out) (fun e => by cases e; omega)).trans HK2.out
  clear n0 n1 n2 hrun s0 s1
  obtain ⟨c0, c1, c2⟩ := blk3 hC3
  obtain ⟨n0, n1, n2⟩ := blk3 hN3
  obtain ⟨e0, e1, e2, e3, e4, e5, e6⟩ := blk7 hZ3
  obtain ⟨f0, f1, f2, f3, f4, f5, f6⟩ := frz7 hZ3
  have HQ := Lib.hid (set7_blk hZ3 (.int .i64 3) (.int .i64 own.node) (.int .u32 (own.inc : Int)) (.int .i64 own.st) (.int .i64 me) (.int .u32 (inc : Int)) (.int .i64 0))
  have HB3 := Lib.hid (show But (· = M) w w3 from (But.of_below HC2.out.below).trans ((But.drew (But.refl _ W2)).trans (But.of_grown HG3.out (fun r h _ => by cases h; rfl))))
  have hBm := HR2.out.ne
  have HR3 := Lib.hid (show RlAt w3 B M ⟨r.own, put r.T ⟨me, inc, 0⟩⟩ (n + 1) from ⟨(HG3.out.block B HR2.out.lt.1 (fun e => by cases e; exact hBm rfl)).trans HR2.out.blk, HM3.out, by rw [← HMe.out]; exact HR2.out.ok.put (HR2.out.ok.own_node inc)⟩)
  clear hC3 hZ3 hN3
  go_wp2
  obtain ⟨g0, g1, g2, g3, g4, g5, g6⟩ := blk7 HQ.out
  have hsz := HX.out
  refine bodyPost_ret (v := .agg #[.int .i64 3, .int .i64 own.node, .int .u32 (own.inc : Int), .int .i64 own.st, .int .i64 me, .int .u32 (inc : Int), .int .i64 0]) (by simp [results, Tryz.results170, go_sem, g0, g1, g2, g3, g4, g5, g6]) rfl ⟨?_, ?_, ?_⟩
  · rw [HMe.out]; rfl
  · rw [HMe.out]
    have hlt := HR.out.lt
    have h3 := HR3.out
    rw [HMe.out] at h3
    refine h3.but (set7_but w3 (X + 1 + 1) _ _ _ _ _ _ _) ?_ ?_
    · omega
    · omega
  · refine HB3.out.then_ (set7_but w3 (X + 1 + 1) _ _ _ _ _ _ _) (fun i e hi => ?_)
    omega
end Go.Proofs.YtaicipldjmngaaaGreatDoor.ro

namespace Go.Proofs.YtaicipldjmngaaaGreatDoor.ro
open Go.RowKit Go.Maps
set_option linter.unusedSimpArgs false
set_option linter.unusedVariables false
structure ApIn (w W : World) (X : Nat) (u : Up) : Prop where
  base : w.heap.size = X
  below : Below w.heap.size w W
  b0 : W.heap[X]? = some (.cells #[.int .i64 u.node, .int .u32 (u.inc : Int), .int .i64 u.st] 63)
  b1 : W.heap[X + 1]? = some (.cells #[.int .i64 0, .int .i64 0, .int .u32 0, .int .i64 0, .int .i64 0, .int .u32 0, .int .i64 0] 200)
theorem ApIn.mk_ (w : World) (u : Up) : ApIn w ((w.alloc (.cells #[.int .i64 u.node, .int .u32 (u.inc : Int), .int .i64 u.st] 63)).alloc (.cells #[.int .i64 0, .int .i64 0, .int .u32 0, .int .i64 0, .int .i64 0, .int .u32 0, .int .i64 0] 200)) w.heap.size u := by
  refine ⟨rfl, below2 w _ _, ?_, ?_⟩
  · rw [Below.heap_alloc _ _ _ (by simp)]
    exact heap_alloc_new w _
  · have := heap_alloc_new (w.alloc (.cells #[.int .i64 u.node, .int .u32 (u.inc : Int), .int .i64 u.st] 63)) (.cells #[.int .i64 0, .int .i64 0, .int .u32 0, .int .i64 0, .int .i64 0, .int .u32 0, .int .i64 0] 200)
    simpa using this
theorem ApIn.then_ {w W W' : World} {X : Nat} {u : Up} (h : ApIn w W X u) (hb : Below W.heap.size W W') : ApIn w W' X u :=
  ⟨h.base, h.below.trans (hb.mono h.below.size), (hb.block _ (block_lt h.b0)).trans h.b0, (hb.block _ (block_lt h.b1)).trans h.b1⟩
def Ro.small (r : Ro) : Prop := ∀ n u, r.T n = some u → u.inc ≤ 4294967295
theorem Ro.small.new {self : Int} {inc : Nat} (h : inc ≤ 4294967295) : (Ro.new self inc).small := fun n u hu => by
  unfold Ro.new at hu
  simp only at hu
  split at hu
  · cases hu; exact h
  · cases hu
theorem Ro.small.put {r : Ro} (h : r.small) {u : Up} (hu : u.inc ≤ 4294967295) : (⟨r.own, put r.T u⟩ : Ro).small := fun n v hv0 => by
  have hv : Go.Proofs.YtaicipldjmngaaaGreatDoor.ro.put r.T u n = some v := hv0
  by_cases e : n = u.node
  · subst e
    rw [put_same] at hv
    cases hv
    exact hu
  · rw [put_other _ _ e] at hv
    exact h n v hv
theorem refuteN_le {own inc : Nat} : (refuteN own inc).1 ≤ 4294967295 := by
  unfold refuteN
  split
  · exact Nat.zero_le _
  · simp only; omega
theorem Ro.small.apply {r : Ro} (h : r.small) {u : Up} (hu : u.inc ≤ 4294967295) : (r.apply u).2.2.2.small := by
  unfold Ro.apply
  split
  · exact h
  · split
    · split
      · exact h
      · split
        · exact h
        · exact h.put refuteN_le
    · split
      · exact h.put hu
      · split
        · exact h.put hu
        · exact h
theorem right_wf {u : Up} (h : u.right = true) : wfI u.node ∧ 0 ≤ u.node ∧ u.node < 8 := by
  unfold Up.right at h
  have := of_decide_eq_true h
  unfold wfI
  omega
theorem con_any {B M n : Nat} {r : Ro} (u : Up) (w : World) (hR : RlAt w B M r n) (hn : n ≤ 1000000) (hs : r.small) (hu : u.inc ≤ 4294967295) (hr : u.right = true) (ho : u.node = r.own) (ha : u.above r.selfU = true) (k : Nat) (a b : Up) (r' : Ro) (he : r.apply u = (k, a, b, r')) :
    Calls Tryz.prog 170 #[.pointer (some ⟨B, 0, none⟩), .agg #[.int .i64 r.selfU.node, .int .u32 (r.selfU.inc : Int), .int .i64 r.selfU.st], .agg #[.int .i64 u.node, .int .u32 (u.inc : Int), .int .i64 u.st]] w (ApPost w B M n k a b r') := by
  have hsu := hs _ _ hR.ok.selfAt.1
  unfold Ro.apply at he
  rw [if_neg (by rw [hr]; decide), if_pos ho] at he
  by_cases hg : r.selfU.st = 3
  · rw [if_pos (.inl hg)] at he
    simp only [Prod.mk.injEq] at he
    obtain ⟨rfl, rfl, rfl, rfl⟩ := he
    exact con_gone r.selfU u w hR hg
  · rw [if_neg (fun h => h.elim hg (fun h => by rw [ha] at h; cases h))] at he
    by_cases hk : (refuteN r.selfU.inc u.inc).2 ≠ 0
    · rw [if_pos hk] at he
      simp only [Prod.mk.injEq] at he
      obtain ⟨rfl, rfl, rfl, rfl⟩ := he
      exact con_stuck r.selfU u w hR hg hsu hu _ _ rfl hk
    · rw [if_neg hk] at he
      simp only [Prod.mk.injEq] at he
      obtain ⟨rfl, rfl, rfl, rfl⟩ := he
      have hk0 : (refuteN r.selfU.inc u.inc).2 = 0 := by omega
      exact con_mine r.selfU u w hR hn hg hsu hu _ (by rw [← hk0])
set_option maxHeartbeats 8000000 in
theorem apply_own {B M n : Nat} {r : Ro} (u old : Up) (w : World) (hR : RlAt w B M r n) (hr : u.right = true) (hn : n ≤ 1000000) (hs : r.small) (hu : u.inc ≤ 4294967295) (ho : u.node = r.own) (hold : old = r.selfU) (ha : u.above old = true) (k : Nat) (a b : Up) (r2 : Ro) (he : r.apply u = (k, a, b, r2)) :
    Calls Tryz.prog 117 #[.pointer (some ⟨B, 0, none⟩), .agg #[.int .i64 u.node, .int .u32 (u.inc : Int), .int .i64 u.st]] w (ApPost w B M n k a b r2) := by
  have HZ := Lib.hid (right_wf hr).1
  have HRt := Lib.hid hr
  obtain ⟨me, hme⟩ : ∃ m, r.own = m := ⟨_, rfl⟩
  have HMe := Lib.hid hme
  have HPr := Lib.hid (fun w => pright_any u w true hr)
  have HPa := Lib.hid (fun w => pabove_any u old w true ha)
  have hT := hR.ok.selfAt.1
  have HOld : Hid (atU r.T u.node = old) := Lib.hid (by unfold atU; rw [ho, hT, hold]; rfl)
  have HIs : Hid ((r.T u.node).isSome = true) := Lib.hid (by rw [ho, hT]; rfl)
  have zo : (u.node == me) = true := by rw [beq_iff_eq, ← hme]; exact ho
  have HCn := Lib.hid (fun w (hR : RlAt w B M r n) => con_any u w hR hn hs hu hr ho (hold ▸ ha) k a b r2 he)
  rw [← hold] at HCn
  clear hr hT ha hme ho hn hs hu hold he
  have HR := Lib.hid hR
  have hA := ApIn.mk_ w u
  obtain ⟨X, hX⟩ : ∃ X, w.heap.size = X := ⟨_, rfl⟩
  obtain ⟨W, hW⟩ : ∃ W, (w.alloc (.cells #[.int .i64 u.node, .int .u32 (u.inc : Int), .int .i64 u.st] 63)).alloc (.cells #[.int .i64 0, .int .i64 0, .int .u32 0, .int .i64 0, .int .i64 0, .int .u32 0, .int .i64 0] 200) = W := ⟨_, rfl⟩
  rw [hX, hW] at hA
  have HMd := Lib.hid (made_yes W (hR.below hA.below))
  obtain ⟨c0, c1, c2⟩ := blk3 hA.b0
  have HA := Lib.hid hA
  have HX := Lib.hid hX
  have HW := Lib.hid hW
  clear hR hA hX hW
  go_enter Tryz.func117, Tryz.ntmps117
  go_wp2_with fail
  rw [HW.out, HX.out]
  refine HMd.out.mono ?_
  rintro e w' ⟨rfl, rfl⟩
  go_wp2_with fail
  refine (HPr.out _).mono ?_
  rintro e w1 ⟨rfl, hb1⟩
  have hA1 := HA.out.then_ hb1
  clear c0 c1 c2 hb1
  have hR1 := HR.out.below hA1.below
  obtain ⟨c0, c1, c2⟩ := blk3 hA1.b0
  have r1 := hR1.c1
  have r0 := hR1.c0
  rw [HMe.out] at r0
  have hlk := (show RlAt w1.drew B M r n from hR1.keep rfl rfl).map.look HZ.out
  have hlk2 := (show RlAt (w1.alloc (.cells #[.int .i64 0, .int .u32 0, .int .i64 0] 63)).drew B M r n from (hR1.below (below1 w1 (.cells #[.int .i64 0, .int .u32 0, .int .i64 0] 63))).keep rfl rfl).map.look HZ.out
  rw [HOld.out, HIs.out] at hlk hlk2
  unfold upV at hlk hlk2
  have hlX := block_lt hA1.b0
  have hlB := hR1.lt.1
  have hb5 : Below w1.heap.size w1 (w1.alloc (.cells #[.int .i64 old.node, .int .u32 (old.inc : Int), .int .i64 old.st] 63)).drew := (below1 w1 (.cells #[.int .i64 old.node, .int .u32 (old.inc : Int), .int .i64 old.st] 63)).drew
  have k5 : (w1.alloc (.cells #[.int .i64 old.node, .int .u32 (old.inc : Int), .int .i64 old.st] 63)).drew.heap[w1.heap.size]? = some (.cells #[.int .i64 old.node, .int .u32 (old.inc : Int), .int .i64 old.st] 63) := heap_alloc_new w1 (.cells #[.int .i64 old.node, .int .u32 (old.inc : Int), .int .i64 old.st] 63)
  obtain ⟨N, hN⟩ : ∃ N, w1.heap.size = N := ⟨_, rfl⟩
  have hA5 := hA1.then_ hb5
  have hR5 := hR1.below hb5
  obtain ⟨W5, hW5⟩ : ∃ W5, (w1.alloc (.cells #[.int .i64 old.node, .int .u32 (old.inc : Int), .int .i64 old.st] 63)).drew = W5 := ⟨_, rfl⟩
  rw [hN] at k5
  rw [hW5] at k5 hA5 hR5
  have HXN := Lib.hid (show X + 1 < N by rw [← hN]; exact block_lt hA1.b1)
  have HA5 := Lib.hid hA5
  have HR5 := Lib.hid hR5
  have HK5 := Lib.hid k5
  have HNn := Lib.hid hN
  have HW5 := Lib.hid hW5
  clear hA1 hR1 hb5 k5 hN hA5 hR5 hW5
  go_wp2
  go_region
  all_goals
    rw [HW5.out, HNn.out]
    clear hlk hlk2 c0 c1 c2 r0 r1 hlX hlB
    obtain ⟨c0, c1, c2⟩ := blk3 HA5.out.b0
    obtain ⟨n0, n1, n2⟩ := blk3 HK5.out
    go_wp2_with fail
    refine (HPa.out _).mono ?_
    rintro e w6 ⟨rfl, hb6⟩
    have hA6 := HA5.out.then_ hb6
    have hR6 := HR5.out.below hb6
    have hK6 := (hb6.block _ (block_lt HK5.out)).trans HK5.out
    clear c0 c1 c2 n0 n1 n2 hb6
    have HA6 := Lib.hid hA6
    have HR6 := Lib.hid hR6
    have HK6 := Lib.hid hK6
    clear hA6 hR6 hK6
    obtain ⟨c0, c1, c2⟩ := blk3 HA6.out.b0
    have r0 := HR6.out.c0
    rw [HMe.out] at r0
    go_wp2
    go_quiet (fail)
    have hA7 : ApIn w (w6.drewN nq) X u := ⟨HA6.out.base, below_drewN HA6.out.below nq, HA6.out.b0, HA6.out.b1⟩
    have hR7 : RlAt (w6.drewN nq) B M r n := HR6.out.keep rfl rfl
    have hK7 : (w6.drewN nq).heap[N]? = some (.cells #[.int .i64 old.node, .int .u32 (old.inc : Int), .int .i64 old.st] 63) := HK6.out
    obtain ⟨w7, hw7⟩ : ∃ w7, w6.drewN nq = w7 := ⟨_, rfl⟩
    rw [hw7] at hA7 hR7 hK7 ⊢
    have HA7 := Lib.hid hA7
    have HR7 := Lib.hid hR7
    have HK7 := Lib.hid hK7
    clear hA7 hR7 hK7 hw7 c0 c1 c2 r0
    obtain ⟨c0, c1, c2⟩ := blk3 HA7.out.b0
    obtain ⟨n0, n1, n2⟩ := blk3 HK7.out
    have HC7 := Lib.hid (HCn.out w7 HR7.out)
    go_wp2_with fail
    refine HC7.out.mono ?_
    rintro e w8 ⟨rfl, hR8, hB8⟩
    have hMX : M < X := by have := HR.out.lt.2; have := HX.out; omega
    have hZ8 : w8.heap[X + 1]? = some (.cells #[.int .i64 0, .int .i64 0, .int .u32 0, .int .i64 0, .int .i64 0, .int .u32 0, .int .i64 0] 200) := (hB8.block _ (block_lt HA7.out.b1) (by omega)).trans HA7.out.b1
    have HR8 := Lib.hid hR8
    have HB8 := Lib.hid ((But.of_below (S := (· = M)) HA7.out.below).trans hB8)
    have HZ8 := Lib.hid hZ8
    clear hR8 hB8 hZ8 hMX c0 c1 c2 n0 n1 n2
    obtain ⟨e0, e1, e2, e3, e4, e5, e6⟩ := blk7 HZ8.out
    obtain ⟨f0, f1, f2, f3, f4, f5, f6⟩ := frz7 HZ8.out
    have HQ := Lib.hid (set7_blk HZ8.out (.int .i64 (k : Int)) (.int .i64 a.node) (.int .u32 (a.inc : Int)) (.int .i64 a.st) (.int .i64 b.node) (.int .u32 (b.inc : Int)) (.int .i64 b.st))
    go_wp2
    obtain ⟨g0, g1, g2, g3, g4, g5, g6⟩ := blk7 HQ.out
    have hsz := HX.out
    have hlt := HR.out.lt
    refine bodyPost_ret (v := .agg #[.int .i64 (k : Int), .int .i64 a.node, .int .u32 (a.inc : Int), .int .i64 a.st, .int .i64 b.node, .int .u32 (b.inc : Int), .int .i64 b.st]) (by simp [results, Tryz.results117, go_sem, g0, g1, g2, g3, g4, g5, g6]) rfl ⟨rfl, ?_, ?_⟩
    · exact (RlAt.but HR8.out (set7_but w8 (X + 1) _ _ _ _ _ _ _) (by omega) (by omega))
    · exact But.then_ HB8.out (set7_but w8 (X + 1) _ _ _ _ _ _ _) (fun i e hi => by omega)
end Go.Proofs.YtaicipldjmngaaaGreatDoor.ro

namespace Go.Proofs.YtaicipldjmngaaaGreatDoor.ro
open Go.RowKit Go.Maps
set_option linter.unusedSimpArgs false
set_option linter.unusedVariables false
end Go.Proofs.YtaicipldjmngaaaGreatDoor.ro
