/-
  contradict of the program's roll, walked (layer 9).
-/
import Derived.Test.YtmfokogckfoheaaRoWalkA
namespace Go.Proofs.Ytmfokogckfoheaa
open Go.RowKit Go.Maps
set_option linter.unusedSimpArgs false
set_option linter.unusedVariables false

theorem set7_blk {W : World} {X : Nat} {u0 u1 u2 u3 u4 u5 u6 : Value} {t : TypeId} (h : W.heap[X]? = some (.cells #[u0, u1, u2, u3, u4, u5, u6] t (0, 0))) (a b c d e f g : Value) :
    (((((((W.setCell ⟨X, 0, none⟩ a).setCell ⟨X, 1, none⟩ b).setCell ⟨X, 2, none⟩ c).setCell ⟨X, 3, none⟩ d).setCell ⟨X, 4, none⟩ e).setCell ⟨X, 5, none⟩ f).setCell ⟨X, 6, none⟩ g).heap[X]? = some (.cells #[a, b, c, d, e, f, g] t (0, 0)) :=
  by
  have q0 := block_set h 0 a
  have q1 := block_set q0 1 b
  have q2 := block_set q1 2 c
  have q3 := block_set q2 3 d
  have q4 := block_set q3 4 e
  have q5 := block_set q4 5 f
  have q6 := block_set q5 6 g
  rw [q6]
  simp
theorem blk7 {W : World} {X : Nat} {a b c d e f g : Value} {t : TypeId} (h : W.heap[X]? = some (.cells #[a, b, c, d, e, f, g] t (0, 0))) : W.cell? ⟨X, 0, none⟩ = some a ∧ W.cell? ⟨X, 1, none⟩ = some b ∧ W.cell? ⟨X, 2, none⟩ = some c ∧ W.cell? ⟨X, 3, none⟩ = some d ∧ W.cell? ⟨X, 4, none⟩ = some e ∧ W.cell? ⟨X, 5, none⟩ = some f ∧ W.cell? ⟨X, 6, none⟩ = some g := by
  refine ⟨?_, ?_, ?_, ?_, ?_, ?_, ?_⟩ <;> (rw [cell_of_row _ _ _ _ _ _ h]; rfl)
theorem frz7 {W : World} {X : Nat} {cur : Array Value} {t : TypeId} (h : W.heap[X]? = some (.cells cur t (0, 0))) : W.frozen? ⟨X, 0, none⟩ = false ∧ W.frozen? ⟨X, 1, none⟩ = false ∧ W.frozen? ⟨X, 2, none⟩ = false ∧ W.frozen? ⟨X, 3, none⟩ = false ∧ W.frozen? ⟨X, 4, none⟩ = false ∧ W.frozen? ⟨X, 5, none⟩ = false ∧ W.frozen? ⟨X, 6, none⟩ = false :=
  ⟨blk_froz h 0, blk_froz h 1, blk_froz h 2, blk_froz h 3, blk_froz h 4, blk_froz h 5, blk_froz h 6⟩
theorem set7_but (W : World) (X : Nat) (a b c d e f g : Value) : But (· = X) W (((((((W.setCell ⟨X, 0, none⟩ a).setCell ⟨X, 1, none⟩ b).setCell ⟨X, 2, none⟩ c).setCell ⟨X, 3, none⟩ d).setCell ⟨X, 4, none⟩ e).setCell ⟨X, 5, none⟩ f).setCell ⟨X, 6, none⟩ g) :=
  have h : ∀ (W : World) (i : Nat) (v : Value), But (· = X) W (W.setCell ⟨X, i, none⟩ v) := fun W i v => But.set (S := (· = X)) W (p := ⟨X, i, none⟩) rfl v
  ((((((h _ _ _).trans (h _ _ _)).trans (h _ _ _)).trans (h _ _ _)).trans (h _ _ _)).trans (h _ _ _)).trans (h _ _ _)
theorem MapIs.more {w : World} {M n m : Nat} {T : Int → Option Up} (h : MapIs w M T n) (hm : n ≤ m) : MapIs w M T m := by
  obtain ⟨D, ⟨es, clock, hb, F, hs, hD⟩, h2⟩ := h
  exact ⟨D, ⟨es, clock, hb, F, Nat.le_trans hs hm, hD⟩, h2⟩
theorem RlAt.more {w : World} {B M n m : Nat} {r : Ro} (h : RlAt w B M r n) (hm : n ≤ m) : RlAt w B M r m := ⟨h.blk, h.map.more hm, h.ok⟩
/-- What a call leaves that may put one entry. -/
def ApPost (w : World) (B M n : Nat) (k : Nat) (a b : Up) (r : Ro) (e : Ending) (w' : World) : Prop := e = .returned (.agg #[.int .i64 (k : Int), .int .i64 a.node, .int .u32 (a.inc : Int), .int .i64 a.st, .int .i64 b.node, .int .u32 (b.inc : Int), .int .i64 b.st]) ∧ RlAt w' B M r (n + 1) ∧ But (· = M) w w'
set_option maxHeartbeats 4000000 in
theorem con_gone {B M n : Nat} {r : Ro} (own u : Up) (w : World) (hR : RlAt w B M r n) (hg : own.st = 3) :
    Calls Try.prog 32 #[.pointer (some ⟨B, 0, none⟩), .agg #[.int .i64 own.node, .int .u32 (own.inc : Int), .int .i64 own.st], .agg #[.int .i64 u.node, .int .u32 (u.inc : Int), .int .i64 u.st]] w (ApPost w B M n 0 zU zU r) := by
  have z0 : (own.st == 3) = true := by rw [beq_iff_eq]; exact hg
  have HR := Lib.hid hR
  clear hg hR
  go_enter Try.func32, Try.ntmps32
  go_wp2
  refine bodyPost_ret (v := .agg #[.int .i64 0, .int .i64 0, .int .u32 0, .int .i64 0, .int .i64 0, .int .u32 0, .int .i64 0]) (by simp [results, Try.results32, go_sem]) rfl ⟨rfl, ?_, ?_⟩
  · exact (((HR.out.below (below1 _ _)).below (below1 _ _)).below (below1 _ _)).more (Nat.le_succ n)
  · exact ((But.refl _ _).alloc _).alloc _ |>.alloc _
/-- The world in which contradict has laid its variables. -/
structure ConIn (w W : World) (X : Nat) (own u : Up) : Prop where
  base : w.heap.size = X
  below : Below w.heap.size w W
  b0 : W.heap[X]? = some (.cells #[.int .i64 own.node, .int .u32 (own.inc : Int), .int .i64 own.st] 32)
  b1 : W.heap[X + 1]? = some (.cells #[.int .i64 u.node, .int .u32 (u.inc : Int), .int .i64 u.st] 32)
  b2 : W.heap[X + 1 + 1]? = some (.cells #[.int .i64 0, .int .i64 0, .int .u32 0, .int .i64 0, .int .i64 0, .int .u32 0, .int .i64 0] 38)
theorem ConIn.mk_ (w : World) (own u : Up) : ConIn w (((w.alloc (.cells #[.int .i64 own.node, .int .u32 (own.inc : Int), .int .i64 own.st] 32)).alloc (.cells #[.int .i64 u.node, .int .u32 (u.inc : Int), .int .i64 u.st] 32)).alloc (.cells #[.int .i64 0, .int .i64 0, .int .u32 0, .int .i64 0, .int .i64 0, .int .u32 0, .int .i64 0] 38)) w.heap.size own u := by
  refine ⟨rfl, (below2 w _ _).alloc (by simp; omega) _, ?_, ?_, ?_⟩
  · rw [Below.heap_alloc _ _ _ (by simp; omega), Below.heap_alloc _ _ _ (by simp)]
    exact heap_alloc_new w _
  · rw [Below.heap_alloc _ _ _ (by simp)]
    have := heap_alloc_new (w.alloc (.cells #[.int .i64 own.node, .int .u32 (own.inc : Int), .int .i64 own.st] 32)) (.cells #[.int .i64 u.node, .int .u32 (u.inc : Int), .int .i64 u.st] 32)
    simpa using this
  · have := heap_alloc_new ((w.alloc (.cells #[.int .i64 own.node, .int .u32 (own.inc : Int), .int .i64 own.st] 32)).alloc (.cells #[.int .i64 u.node, .int .u32 (u.inc : Int), .int .i64 u.st] 32)) (.cells #[.int .i64 0, .int .i64 0, .int .u32 0, .int .i64 0, .int .i64 0, .int .u32 0, .int .i64 0] 38)
    simpa using this
theorem ConIn.then_ {w W W' : World} {X : Nat} {own u : Up} (h : ConIn w W X own u) (hb : Below W.heap.size W W') : ConIn w W' X own u :=
  ⟨h.base, h.below.trans (hb.mono h.below.size), (hb.block _ (block_lt h.b0)).trans h.b0, (hb.block _ (block_lt h.b1)).trans h.b1, (hb.block _ (block_lt h.b2)).trans h.b2⟩
set_option maxHeartbeats 8000000 in
theorem con_stuck {B M n : Nat} {r : Ro} (own u : Up) (w : World) (hR : RlAt w B M r n) (hg : own.st ≠ 3) (ho : own.inc ≤ 4294967295) (hu : u.inc ≤ 4294967295) (inc k : Nat) (hf : refuteN own.inc u.inc = (inc, k)) (hk : k ≠ 0) :
    Calls Try.prog 32 #[.pointer (some ⟨B, 0, none⟩), .agg #[.int .i64 own.node, .int .u32 (own.inc : Int), .int .i64 own.st], .agg #[.int .i64 u.node, .int .u32 (u.inc : Int), .int .i64 u.st]] w (ApPost w B M n 4 own own r) := by
  have z0 : (own.st == 3) = false := by rw [beq_eq_false_iff_ne]; exact hg
  have z1 : ((k : Int) == 0) = false := by rw [beq_eq_false_iff_ne]; omega
  have z2 : ((k : Int) != 0) = true := by rw [bne_iff_ne]; omega
  have HF := Lib.hid (fun w => prefute_any own.inc u w inc k hf ho hu)
  have HR := Lib.hid hR
  have hC := ConIn.mk_ w own u
  obtain ⟨X, hX⟩ : ∃ X, w.heap.size = X := ⟨_, rfl⟩
  obtain ⟨W, hW⟩ : ∃ W, ((w.alloc (.cells #[.int .i64 own.node, .int .u32 (own.inc : Int), .int .i64 own.st] 32)).alloc (.cells #[.int .i64 u.node, .int .u32 (u.inc : Int), .int .i64 u.st] 32)).alloc (.cells #[.int .i64 0, .int .i64 0, .int .u32 0, .int .i64 0, .int .i64 0, .int .u32 0, .int .i64 0] 38) = W := ⟨_, rfl⟩
  rw [hX, hW] at hC
  obtain ⟨c0, c1, c2⟩ := blk3 hC.b0
  obtain ⟨d0, d1, d2⟩ := blk3 hC.b1
  have HC := Lib.hid hC
  have HX := Lib.hid hX
  have HW := Lib.hid hW
  clear hg hR hf hk ho hu hC hX hW
  go_enter Try.func32, Try.ntmps32
  go_wp2_with fail
  rw [HW.out, HX.out]
  refine (HF.out _).mono ?_
  rintro e w1 ⟨rfl, hb1⟩
  have hC1 := HC.out.then_ hb1
  clear c0 c1 c2 d0 d1 d2 hb1
  obtain ⟨c0, c1, c2⟩ := blk3 hC1.b0
  obtain ⟨e0, e1, e2, e3, e4, e5, e6⟩ := blk7 hC1.b2
  obtain ⟨f0, f1, f2, f3, f4, f5, f6⟩ := frz7 hC1.b2
  have HC1 := Lib.hid hC1
  have HQ := Lib.hid (set7_blk hC1.b2 (.int .i64 4) (.int .i64 own.node) (.int .u32 (own.inc : Int)) (.int .i64 own.st) (.int .i64 own.node) (.int .u32 (own.inc : Int)) (.int .i64 own.st))
  clear hC1
  go_wp2
  obtain ⟨g0, g1, g2, g3, g4, g5, g6⟩ := blk7 HQ.out
  refine bodyPost_ret (v := .agg #[.int .i64 4, .int .i64 own.node, .int .u32 (own.inc : Int), .int .i64 own.st, .int .i64 own.node, .int .u32 (own.inc : Int), .int .i64 own.st]) (by simp [results, Try.results32, go_sem, g0, g1, g2, g3, g4, g5, g6]) rfl ⟨rfl, ?_, ?_⟩
  · have hlt := HR.out.lt
    have hR1 := HR.out.below HC1.out.below
    refine (hR1.but (set7_but w1 (X + 1 + 1) _ _ _ _ _ _ _) ?_ ?_).more (Nat.le_succ n)
    · have := HC1.out.base; omega
    · have := HC1.out.base; omega
  · refine (But.of_below HC1.out.below).then_ (set7_but w1 (X + 1 + 1) _ _ _ _ _ _ _) (fun i e hi => ?_)
    have := HC1.out.base
    omega
theorem Ro.ok.own_node {r : Ro} (h : r.ok) (inc : Nat) : (⟨r.own, inc, 0⟩ : Up).right = true := (right_of _ _ _).2 ⟨h.ownR.1, h.ownR.2, .inl rfl⟩
set_option maxHeartbeats 8000000 in
theorem con_mine {B M n : Nat} {r : Ro} (own u : Up) (w : World) (hR : RlAt w B M r n) (hn : n ≤ 1000000) (hg : own.st ≠ 3) (ho : own.inc ≤ 4294967295) (hu : u.inc ≤ 4294967295) (inc : Nat) (hf : refuteN own.inc u.inc = (inc, 0)) :
    Calls Try.prog 32 #[.pointer (some ⟨B, 0, none⟩), .agg #[.int .i64 own.node, .int .u32 (own.inc : Int), .int .i64 own.st], .agg #[.int .i64 u.node, .int .u32 (u.inc : Int), .int .i64 u.st]] w (ApPost w B M n 3 own ⟨r.own, inc, 0⟩ ⟨r.own, put r.T ⟨r.own, inc, 0⟩⟩) := by
  have z0 : (own.st == 3) = false := by rw [beq_eq_false_iff_ne]; exact hg
  have HF := Lib.hid (fun w => prefute_any own.inc u w inc 0 hf ho hu)
  have HR := Lib.hid hR
  have HN := Lib.hid hn
  have hC := ConIn.mk_ w own u
  obtain ⟨X, hX⟩ : ∃ X, w.heap.size = X := ⟨_, rfl⟩
  obtain ⟨W, hW⟩ : ∃ W, ((w.alloc (.cells #[.int .i64 own.node, .int .u32 (own.inc : Int), .int .i64 own.st] 32)).alloc (.cells #[.int .i64 u.node, .int .u32 (u.inc : Int), .int .i64 u.st] 32)).alloc (.cells #[.int .i64 0, .int .i64 0, .int .u32 0, .int .i64 0, .int .i64 0, .int .u32 0, .int .i64 0] 38) = W := ⟨_, rfl⟩
  rw [hX, hW] at hC
  obtain ⟨c0, c1, c2⟩ := blk3 hC.b0
  obtain ⟨d0, d1, d2⟩ := blk3 hC.b1
  have HC := Lib.hid hC
  have HX := Lib.hid hX
  have HW := Lib.hid hW
  obtain ⟨me, hme⟩ : ∃ m, r.own = m := ⟨_, rfl⟩
  have HMe := Lib.hid hme
  clear hg hR hf ho hu hC hX hW hn hme
  go_enter Try.func32, Try.ntmps32
  go_wp2_with fail
  rw [HW.out, HX.out]
  refine (HF.out _).mono ?_
  rintro e w1 ⟨rfl, hb1⟩
  have hC1 := HC.out.then_ hb1
  have hR1 := HR.out.below hC1.below
  clear c0 c1 c2 d0 d1 d2 hb1
  have r0 := hR1.c0
  have r1 := hR1.c1
  rw [HMe.out] at r0
  have hlt := hR1.lt
  have hlB := hlt.1
  have hb2 := below1 w1 (.cells #[.int .i64 me, .int .u32 (inc : Int), .int .i64 0] 32)
  have k2 := heap_alloc_new w1 (.cells #[.int .i64 me, .int .u32 (inc : Int), .int .i64 0] 32)
  obtain ⟨N, hN⟩ : ∃ N, w1.heap.size = N := ⟨_, rfl⟩
  obtain ⟨W2, hW2⟩ : ∃ W2, w1.alloc (.cells #[.int .i64 me, .int .u32 (inc : Int), .int .i64 0] 32) = W2 := ⟨_, rfl⟩
  rw [hW2] at hb2 k2
  rw [hN] at k2
  have HXN := Lib.hid (show X ≤ N by have := hC1.below.size; have := HX.out; omega)
  have hC2 := hC1.then_ hb2
  have hR2 := hR1.below hb2
  have s0 := hR2.c0
  have s1 := hR2.c1
  rw [HMe.out] at s0
  have HW2 := Lib.hid hW2
  have HNn := Lib.hid hN
  have HC2 := Lib.hid hC2
  have HR2 := Lib.hid hR2
  have HK2 := Lib.hid k2
  obtain ⟨n0, n1, n2⟩ := blk3 k2
  clear hC1 hR1 hlt hW2 hN hC2 hR2 k2 hb2
  go_wp2
  rw [HW2.out, HNn.out]
  clear r0 r1 hlB
  have hm2 : MapIs W2.drew M r.T n := HR2.out.map.block rfl
  have hmw : wfI me := by rw [← HMe.out]; exact HR2.out.ownW
  obtain ⟨w3, hrun, hm3, hg3, hs3⟩ := hm2.put ⟨me, inc, 0⟩ hmw (by have := HN.out; unfold maxLen; omega)
  unfold upV at hrun
  simp only at hrun
  have HM3 := Lib.hid hm3
  have HG3 := Lib.hid hg3
  have HS3 := Lib.hid hs3
  clear hm2 hmw hm3 hg3 hs3
  go_region
  have hMX : M < X := by have := HR.out.lt.2; have := HX.out; omega
  have hC3 : w3.heap[X]? = some (.cells #[.int .i64 own.node, .int .u32 (own.inc : Int), .int .i64 own.st] 32) := (HG3.out.block X (block_lt (w := W2) HC2.out.b0) (fun e => by cases e; omega)).trans HC2.out.b0
  have hZ3 : w3.heap[X + 1 + 1]? = some (.cells #[.int .i64 0, .int .i64 0, .int .u32 0, .int .i64 0, .int .i64 0, .int .u32 0, .int .i64 0] 38) := (HG3.out.block _ (block_lt (w := W2) HC2.out.b2) (fun e => by cases e; omega)).trans HC2.out.b2
  have hXN : X ≤ N := HXN.out
  have hN3 : w3.heap[N]? = some (.cells #[.int .i64 me, .int .u32 (inc : Int), .int .i64 0] 32 (0, 0)) := (HG3.out.block N (block_lt (w := W2) HK2.out) (fun e => by cases e; omega)).trans HK2.out
  clear n0 n1 n2 hrun s0 s1
  obtain ⟨c0, c1, c2⟩ := blk3 hC3
  obtain ⟨n0, n1, n2⟩ := blk3 hN3
  obtain ⟨e0, e1, e2, e3, e4, e5, e6⟩ := blk7 hZ3
  obtain ⟨f0, f1, f2, f3, f4, f5, f6⟩ := frz7 hZ3
  have HQ := Lib.hid (set7_blk hZ3 (.int .i64 3) (.int .i64 own.node) (.int .u32 (own.inc : Int)) (.int .i64 own.st) (.int .i64 me) (.int .u32 (inc : Int)) (.int .i64 0))
  have HB3 := Lib.hid (show But (· = M) w w3 from (But.of_below HC2.out.below).trans ((But.drew (But.refl _ W2)).trans (But.of_grown HG3.out (fun r h _ => by cases h; rfl))))
  have hBm := HR2.out.ne
  have HR3 := Lib.hid (show RlAt w3 B M ⟨r.own, put r.T ⟨me, inc, 0⟩⟩ (n + 1) from ⟨(HG3.out.block B HR2.out.lt.1 (fun e => by cases e; exact hBm rfl)).trans HR2.out.blk, HM3.out, by rw [← HMe.out]; exact HR2.out.ok.put (HR2.out.ok.own_node inc)⟩)
  clear hC3 hZ3 hN3
  go_wp2
  obtain ⟨g0, g1, g2, g3, g4, g5, g6⟩ := blk7 HQ.out
  have hsz := HX.out
  refine bodyPost_ret (v := .agg #[.int .i64 3, .int .i64 own.node, .int .u32 (own.inc : Int), .int .i64 own.st, .int .i64 me, .int .u32 (inc : Int), .int .i64 0]) (by simp [results, Try.results32, go_sem, g0, g1, g2, g3, g4, g5, g6]) rfl ⟨?_, ?_, ?_⟩
  · rw [HMe.out]; rfl
  · rw [HMe.out]
    have hlt := HR.out.lt
    have h3 := HR3.out
    rw [HMe.out] at h3
    refine h3.but (set7_but w3 (X + 1 + 1) _ _ _ _ _ _ _) ?_ ?_
    · omega
    · omega
  · refine HB3.out.then_ (set7_but w3 (X + 1 + 1) _ _ _ _ _ _ _) (fun i e hi => ?_)
    omega
end Go.Proofs.Ytmfokogckfoheaa
