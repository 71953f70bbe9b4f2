/-
  Apply of the program's roll, walked (layer 9).
-/
import Derived.Test.YtmfokogckfoheaaRoCon
namespace Go.Proofs.Ytmfokogckfoheaa
open Go.RowKit Go.Maps
set_option linter.unusedSimpArgs false
set_option linter.unusedVariables false

/-- The world in which Apply has laid its variables. -/
structure ApIn (w W : World) (X : Nat) (u : Up) : Prop where
  base : w.heap.size = X
  below : Below w.heap.size w W
  b0 : W.heap[X]? = some (.cells #[.int .i64 u.node, .int .u32 (u.inc : Int), .int .i64 u.st] 32)
  b1 : W.heap[X + 1]? = some (.cells #[.int .i64 0, .int .i64 0, .int .u32 0, .int .i64 0, .int .i64 0, .int .u32 0, .int .i64 0] 38)
theorem ApIn.mk_ (w : World) (u : Up) : ApIn w ((w.alloc (.cells #[.int .i64 u.node, .int .u32 (u.inc : Int), .int .i64 u.st] 32)).alloc (.cells #[.int .i64 0, .int .i64 0, .int .u32 0, .int .i64 0, .int .i64 0, .int .u32 0, .int .i64 0] 38)) w.heap.size u := by
  refine ⟨rfl, below2 w _ _, ?_, ?_⟩
  · rw [Below.heap_alloc _ _ _ (by simp)]
    exact heap_alloc_new w _
  · have := heap_alloc_new (w.alloc (.cells #[.int .i64 u.node, .int .u32 (u.inc : Int), .int .i64 u.st] 32)) (.cells #[.int .i64 0, .int .i64 0, .int .u32 0, .int .i64 0, .int .i64 0, .int .u32 0, .int .i64 0] 38)
    simpa using this
theorem ApIn.then_ {w W W' : World} {X : Nat} {u : Up} (h : ApIn w W X u) (hb : Below W.heap.size W W') : ApIn w W' X u :=
  ⟨h.base, h.below.trans (hb.mono h.below.size), (hb.block _ (block_lt h.b0)).trans h.b0, (hb.block _ (block_lt h.b1)).trans h.b1⟩
/-- Each incarnation is one. -/
def Ro.small (r : Ro) : Prop := ∀ n u, r.T n = some u → u.inc ≤ 4294967295
theorem Ro.small.new {self : Int} {inc : Nat} (h : inc ≤ 4294967295) : (Ro.new self inc).small := fun n u hu => by
  unfold Ro.new at hu
  simp only at hu
  split at hu
  · cases hu; exact h
  · cases hu
theorem Ro.small.put {r : Ro} (h : r.small) {u : Up} (hu : u.inc ≤ 4294967295) : (⟨r.own, put r.T u⟩ : Ro).small := fun n v hv0 => by
  have hv : Go.Proofs.Ytmfokogckfoheaa.put r.T u n = some v := hv0
  by_cases e : n = u.node
  · subst e
    rw [put_same] at hv
    cases hv
    exact hu
  · rw [put_other _ _ e] at hv
    exact h n v hv
theorem refuteN_le {own inc : Nat} : (refuteN own inc).1 ≤ 4294967295 := by
  unfold refuteN
  split
  · exact Nat.zero_le _
  · simp only; omega
theorem Ro.small.apply {r : Ro} (h : r.small) {u : Up} (hu : u.inc ≤ 4294967295) : (r.apply u).2.2.2.small := by
  unfold Ro.apply
  split
  · exact h
  · split
    · split
      · exact h
      · split
        · exact h
        · exact h.put refuteN_le
    · split
      · exact h.put hu
      · split
        · exact h.put hu
        · exact h
theorem Ro.small.leave {r : Ro} (h : r.small) (hk : r.ok) : r.leave.2.2.small := by
  unfold Ro.leave
  split
  · exact h
  · exact h.put (show r.selfU.inc ≤ 4294967295 from h _ _ hk.selfAt.1)
theorem right_wf {u : Up} (h : u.right = true) : wfI u.node ∧ 0 ≤ u.node ∧ u.node < 8 := by
  unfold Up.right at h
  have := of_decide_eq_true h
  unfold wfI
  omega
/-- contradict, in the words of the plain roll. -/
theorem con_any {B M n : Nat} {r : Ro} (u : Up) (w : World) (hR : RlAt w B M r n) (hn : n ≤ 1000000) (hs : r.small) (hu : u.inc ≤ 4294967295) (hr : u.right = true) (ho : u.node = r.own) (ha : u.above r.selfU = true) (k : Nat) (a b : Up) (r' : Ro) (he : r.apply u = (k, a, b, r')) :
    Calls Try.prog 32 #[.pointer (some ⟨B, 0, none⟩), .agg #[.int .i64 r.selfU.node, .int .u32 (r.selfU.inc : Int), .int .i64 r.selfU.st], .agg #[.int .i64 u.node, .int .u32 (u.inc : Int), .int .i64 u.st]] w (ApPost w B M n k a b r') := by
  have hsu := hs _ _ hR.ok.selfAt.1
  unfold Ro.apply at he
  rw [if_neg (by rw [hr]; decide), if_pos ho] at he
  by_cases hg : r.selfU.st = 3
  · rw [if_pos (.inl hg)] at he
    simp only [Prod.mk.injEq] at he
    obtain ⟨rfl, rfl, rfl, rfl⟩ := he
    exact con_gone r.selfU u w hR hg
  · rw [if_neg (fun h => h.elim hg (fun h => by rw [ha] at h; cases h))] at he
    by_cases hk : (refuteN r.selfU.inc u.inc).2 ≠ 0
    · rw [if_pos hk] at he
      simp only [Prod.mk.injEq] at he
      obtain ⟨rfl, rfl, rfl, rfl⟩ := he
      exact con_stuck r.selfU u w hR hg hsu hu _ _ rfl hk
    · rw [if_neg hk] at he
      simp only [Prod.mk.injEq] at he
      obtain ⟨rfl, rfl, rfl, rfl⟩ := he
      have hk0 : (refuteN r.selfU.inc u.inc).2 = 0 := by omega
      exact con_mine r.selfU u w hR hn hg hsu hu _ (by rw [← hk0])
set_option maxHeartbeats 8000000 in
theorem apply_wrong {B M n : Nat} {r : Ro} (u : Up) (w : World) (hR : RlAt w B M r n) (hr : u.right = false) :
    Calls Try.prog 13 #[.pointer (some ⟨B, 0, none⟩), .agg #[.int .i64 u.node, .int .u32 (u.inc : Int), .int .i64 u.st]] w (ApPost w B M n 0 zU zU r) := by
  have HPr := Lib.hid (fun w => pright_any u w false hr)
  clear hr
  have HR := Lib.hid hR
  have hA := ApIn.mk_ w u
  obtain ⟨X, hX⟩ : ∃ X, w.heap.size = X := ⟨_, rfl⟩
  obtain ⟨W, hW⟩ : ∃ W, (w.alloc (.cells #[.int .i64 u.node, .int .u32 (u.inc : Int), .int .i64 u.st] 32)).alloc (.cells #[.int .i64 0, .int .i64 0, .int .u32 0, .int .i64 0, .int .i64 0, .int .u32 0, .int .i64 0] 38) = W := ⟨_, rfl⟩
  rw [hX, hW] at hA
  have HMd := Lib.hid (made_yes W (hR.below hA.below))
  obtain ⟨c0, c1, c2⟩ := blk3 hA.b0
  have HA := Lib.hid hA
  have HX := Lib.hid hX
  have HW := Lib.hid hW
  clear hR hA hX hW
  go_enter Try.func13, Try.ntmps13
  go_wp2_with fail
  rw [HW.out, HX.out]
  refine HMd.out.mono ?_
  rintro e w' ⟨rfl, rfl⟩
  go_wp2_with fail
  refine (HPr.out _).mono ?_
  rintro e w1 ⟨rfl, hb1⟩
  have hA1 := HA.out.then_ hb1
  clear c0 c1 c2 hb1
  have HA1 := Lib.hid hA1
  have HR1 := Lib.hid (HR.out.below hA1.below)
  clear hA1
  obtain ⟨e0, e1, e2, e3, e4, e5, e6⟩ := blk7 HA1.out.b1
  obtain ⟨f0, f1, f2, f3, f4, f5, f6⟩ := frz7 HA1.out.b1
  have HQ := Lib.hid (set7_blk HA1.out.b1 (.int .i64 0) (.int .i64 0) (.int .u32 0) (.int .i64 0) (.int .i64 0) (.int .u32 0) (.int .i64 0))
  go_wp2
  obtain ⟨g0, g1, g2, g3, g4, g5, g6⟩ := blk7 HQ.out
  have hsz := HX.out
  have hlt := HR.out.lt
  refine bodyPost_ret (v := .agg #[.int .i64 0, .int .i64 0, .int .u32 0, .int .i64 0, .int .i64 0, .int .u32 0, .int .i64 0]) (by simp [results, Try.results13, go_sem, g0, g1, g2, g3, g4, g5, g6]) rfl ⟨rfl, ?_, ?_⟩
  · exact (RlAt.but HR1.out (set7_but w1 (X + 1) _ _ _ _ _ _ _) (by omega) (by omega)).more (Nat.le_succ n)
  · exact But.then_ (But.of_below HA1.out.below) (set7_but w1 (X + 1) _ _ _ _ _ _ _) (fun i e hi => by omega)
set_option maxHeartbeats 8000000 in
theorem apply_below {B M n : Nat} {r : Ro} (u old : Up) (w : World) (hR : RlAt w B M r n) (hr : u.right = true) (hT : r.T u.node = some old) (ha : u.above old = false) :
    Calls Try.prog 13 #[.pointer (some ⟨B, 0, none⟩), .agg #[.int .i64 u.node, .int .u32 (u.inc : Int), .int .i64 u.st]] w (ApPost w B M n 0 zU zU r) := by
  have HZ := Lib.hid (right_wf hr).1
  have HRt := Lib.hid hr
  obtain ⟨me, hme⟩ : ∃ m, r.own = m := ⟨_, rfl⟩
  have HMe := Lib.hid hme
  have HPr := Lib.hid (fun w => pright_any u w true hr)
  have HPa := Lib.hid (fun w => pabove_any u old w false ha)
  have HOld : Hid (atU r.T u.node = old) := Lib.hid (by unfold atU; rw [hT]; rfl)
  have HIs : Hid ((r.T u.node).isSome = true) := Lib.hid (by rw [hT]; rfl)
  clear hr hT ha hme
  have HR := Lib.hid hR
  have hA := ApIn.mk_ w u
  obtain ⟨X, hX⟩ : ∃ X, w.heap.size = X := ⟨_, rfl⟩
  obtain ⟨W, hW⟩ : ∃ W, (w.alloc (.cells #[.int .i64 u.node, .int .u32 (u.inc : Int), .int .i64 u.st] 32)).alloc (.cells #[.int .i64 0, .int .i64 0, .int .u32 0, .int .i64 0, .int .i64 0, .int .u32 0, .int .i64 0] 38) = W := ⟨_, rfl⟩
  rw [hX, hW] at hA
  have HMd := Lib.hid (made_yes W (hR.below hA.below))
  obtain ⟨c0, c1, c2⟩ := blk3 hA.b0
  have HA := Lib.hid hA
  have HX := Lib.hid hX
  have HW := Lib.hid hW
  clear hR hA hX hW
  go_enter Try.func13, Try.ntmps13
  go_wp2_with fail
  rw [HW.out, HX.out]
  refine HMd.out.mono ?_
  rintro e w' ⟨rfl, rfl⟩
  go_wp2_with fail
  refine (HPr.out _).mono ?_
  rintro e w1 ⟨rfl, hb1⟩
  have hA1 := HA.out.then_ hb1
  clear c0 c1 c2 hb1
  have hR1 := HR.out.below hA1.below
  obtain ⟨c0, c1, c2⟩ := blk3 hA1.b0
  have r1 := hR1.c1
  have r0 := hR1.c0
  rw [HMe.out] at r0
  have hlk := (show RlAt w1.drew B M r n from hR1.keep rfl rfl).map.look HZ.out
  have hlk2 := (show RlAt (w1.alloc (.cells #[.int .i64 0, .int .u32 0, .int .i64 0] 32)).drew B M r n from (hR1.below (below1 w1 (.cells #[.int .i64 0, .int .u32 0, .int .i64 0] 32))).keep rfl rfl).map.look HZ.out
  rw [HOld.out, HIs.out] at hlk hlk2
  unfold upV at hlk hlk2
  have hlX := block_lt hA1.b0
  have hlB := hR1.lt.1
  have hb5 : Below w1.heap.size w1 (w1.alloc (.cells #[.int .i64 old.node, .int .u32 (old.inc : Int), .int .i64 old.st] 32)).drew := (below1 w1 (.cells #[.int .i64 old.node, .int .u32 (old.inc : Int), .int .i64 old.st] 32)).drew
  have k5 : (w1.alloc (.cells #[.int .i64 old.node, .int .u32 (old.inc : Int), .int .i64 old.st] 32)).drew.heap[w1.heap.size]? = some (.cells #[.int .i64 old.node, .int .u32 (old.inc : Int), .int .i64 old.st] 32) := heap_alloc_new w1 (.cells #[.int .i64 old.node, .int .u32 (old.inc : Int), .int .i64 old.st] 32)
  obtain ⟨N, hN⟩ : ∃ N, w1.heap.size = N := ⟨_, rfl⟩
  have hA5 := hA1.then_ hb5
  have hR5 := hR1.below hb5
  obtain ⟨W5, hW5⟩ : ∃ W5, (w1.alloc (.cells #[.int .i64 old.node, .int .u32 (old.inc : Int), .int .i64 old.st] 32)).drew = W5 := ⟨_, rfl⟩
  rw [hN] at k5
  rw [hW5] at k5 hA5 hR5
  have HXN := Lib.hid (show X + 1 < N by rw [← hN]; exact block_lt hA1.b1)
  have HA5 := Lib.hid hA5
  have HR5 := Lib.hid hR5
  have HK5 := Lib.hid k5
  have HNn := Lib.hid hN
  have HW5 := Lib.hid hW5
  clear hA1 hR1 hb5 k5 hN hA5 hR5 hW5
  go_wp2
  go_region
  all_goals
    rw [HW5.out, HNn.out]
    clear hlk hlk2 c0 c1 c2 r0 r1 hlX hlB
    obtain ⟨c0, c1, c2⟩ := blk3 HA5.out.b0
    obtain ⟨n0, n1, n2⟩ := blk3 HK5.out
    go_wp2_with fail
    refine (HPa.out _).mono ?_
    rintro e w6 ⟨rfl, hb6⟩
    have hA6 := HA5.out.then_ hb6
    have hR6 := HR5.out.below hb6
    have hK6 := (hb6.block _ (block_lt HK5.out)).trans HK5.out
    clear c0 c1 c2 n0 n1 n2 hb6
    have HA6 := Lib.hid hA6
    have HR6 := Lib.hid hR6
    have HK6 := Lib.hid hK6
    clear hA6 hR6 hK6
    obtain ⟨e0, e1, e2, e3, e4, e5, e6⟩ := blk7 HA6.out.b1
    obtain ⟨f0, f1, f2, f3, f4, f5, f6⟩ := frz7 HA6.out.b1
    have HQ := Lib.hid (set7_blk HA6.out.b1 (.int .i64 0) (.int .i64 0) (.int .u32 0) (.int .i64 0) (.int .i64 0) (.int .u32 0) (.int .i64 0))
    go_wp2
    obtain ⟨g0, g1, g2, g3, g4, g5, g6⟩ := blk7 HQ.out
    have hsz := HX.out
    have hlt := HR.out.lt
    refine bodyPost_ret (v := .agg #[.int .i64 0, .int .i64 0, .int .u32 0, .int .i64 0, .int .i64 0, .int .u32 0, .int .i64 0]) (by simp [results, Try.results13, go_sem, g0, g1, g2, g3, g4, g5, g6]) rfl ⟨rfl, ?_, ?_⟩
    · exact (RlAt.but HR6.out (set7_but w6 (X + 1) _ _ _ _ _ _ _) (by omega) (by omega)).more (Nat.le_succ n)
    · exact But.then_ (But.of_below HA6.out.below) (set7_but w6 (X + 1) _ _ _ _ _ _ _) (fun i e hi => by omega)
set_option maxHeartbeats 8000000 in
theorem apply_raised {B M n : Nat} {r : Ro} (u old : Up) (w : World) (hR : RlAt w B M r n) (hr : u.right = true) (hn : n ≤ 1000000) (hT : r.T u.node = some old) (ha : u.above old = true) (ho : u.node ≠ r.own) :
    Calls Try.prog 13 #[.pointer (some ⟨B, 0, none⟩), .agg #[.int .i64 u.node, .int .u32 (u.inc : Int), .int .i64 u.st]] w (ApPost w B M n 2 old u ⟨r.own, put r.T u⟩) := by
  have HZ := Lib.hid (right_wf hr).1
  have HRt := Lib.hid hr
  obtain ⟨me, hme⟩ : ∃ m, r.own = m := ⟨_, rfl⟩
  have HMe := Lib.hid hme
  have HPr := Lib.hid (fun w => pright_any u w true hr)
  have HPa := Lib.hid (fun w => pabove_any u old w true ha)
  have HOld : Hid (atU r.T u.node = old) := Lib.hid (by unfold atU; rw [hT]; rfl)
  have HIs : Hid ((r.T u.node).isSome = true) := Lib.hid (by rw [hT]; rfl)
  have zo : (u.node == me) = false := by rw [beq_eq_false_iff_ne, ← hme]; exact ho
  have HN1 := Lib.hid hn
  clear hr hT ha hme ho hn
  have HR := Lib.hid hR
  have hA := ApIn.mk_ w u
  obtain ⟨X, hX⟩ : ∃ X, w.heap.size = X := ⟨_, rfl⟩
  obtain ⟨W, hW⟩ : ∃ W, (w.alloc (.cells #[.int .i64 u.node, .int .u32 (u.inc : Int), .int .i64 u.st] 32)).alloc (.cells #[.int .i64 0, .int .i64 0, .int .u32 0, .int .i64 0, .int .i64 0, .int .u32 0, .int .i64 0] 38) = W := ⟨_, rfl⟩
  rw [hX, hW] at hA
  have HMd := Lib.hid (made_yes W (hR.below hA.below))
  obtain ⟨c0, c1, c2⟩ := blk3 hA.b0
  have HA := Lib.hid hA
  have HX := Lib.hid hX
  have HW := Lib.hid hW
  clear hR hA hX hW
  go_enter Try.func13, Try.ntmps13
  go_wp2_with fail
  rw [HW.out, HX.out]
  refine HMd.out.mono ?_
  rintro e w' ⟨rfl, rfl⟩
  go_wp2_with fail
  refine (HPr.out _).mono ?_
  rintro e w1 ⟨rfl, hb1⟩
  have hA1 := HA.out.then_ hb1
  clear c0 c1 c2 hb1
  have hR1 := HR.out.below hA1.below
  obtain ⟨c0, c1, c2⟩ := blk3 hA1.b0
  have r1 := hR1.c1
  have r0 := hR1.c0
  rw [HMe.out] at r0
  have hlk := (show RlAt w1.drew B M r n from hR1.keep rfl rfl).map.look HZ.out
  have hlk2 := (show RlAt (w1.alloc (.cells #[.int .i64 0, .int .u32 0, .int .i64 0] 32)).drew B M r n from (hR1.below (below1 w1 (.cells #[.int .i64 0, .int .u32 0, .int .i64 0] 32))).keep rfl rfl).map.look HZ.out
  rw [HOld.out, HIs.out] at hlk hlk2
  unfold upV at hlk hlk2
  have hlX := block_lt hA1.b0
  have hlB := hR1.lt.1
  have hb5 : Below w1.heap.size w1 (w1.alloc (.cells #[.int .i64 old.node, .int .u32 (old.inc : Int), .int .i64 old.st] 32)).drew := (below1 w1 (.cells #[.int .i64 old.node, .int .u32 (old.inc : Int), .int .i64 old.st] 32)).drew
  have k5 : (w1.alloc (.cells #[.int .i64 old.node, .int .u32 (old.inc : Int), .int .i64 old.st] 32)).drew.heap[w1.heap.size]? = some (.cells #[.int .i64 old.node, .int .u32 (old.inc : Int), .int .i64 old.st] 32) := heap_alloc_new w1 (.cells #[.int .i64 old.node, .int .u32 (old.inc : Int), .int .i64 old.st] 32)
  obtain ⟨N, hN⟩ : ∃ N, w1.heap.size = N := ⟨_, rfl⟩
  have hA5 := hA1.then_ hb5
  have hR5 := hR1.below hb5
  obtain ⟨W5, hW5⟩ : ∃ W5, (w1.alloc (.cells #[.int .i64 old.node, .int .u32 (old.inc : Int), .int .i64 old.st] 32)).drew = W5 := ⟨_, rfl⟩
  rw [hN] at k5
  rw [hW5] at k5 hA5 hR5
  have HXN := Lib.hid (show X + 1 < N by rw [← hN]; exact block_lt hA1.b1)
  have HA5 := Lib.hid hA5
  have HR5 := Lib.hid hR5
  have HK5 := Lib.hid k5
  have HNn := Lib.hid hN
  have HW5 := Lib.hid hW5
  clear hA1 hR1 hb5 k5 hN hA5 hR5 hW5
  go_wp2
  go_region
  all_goals
    rw [HW5.out, HNn.out]
    clear hlk hlk2 c0 c1 c2 r0 r1 hlX hlB
    obtain ⟨c0, c1, c2⟩ := blk3 HA5.out.b0
    obtain ⟨n0, n1, n2⟩ := blk3 HK5.out
    go_wp2_with fail
    refine (HPa.out _).mono ?_
    rintro e w6 ⟨rfl, hb6⟩
    have hA6 := HA5.out.then_ hb6
    have hR6 := HR5.out.below hb6
    have hK6 := (hb6.block _ (block_lt HK5.out)).trans HK5.out
    clear c0 c1 c2 n0 n1 n2 hb6
    have HA6 := Lib.hid hA6
    have HR6 := Lib.hid hR6
    have HK6 := Lib.hid hK6
    clear hA6 hR6 hK6
    obtain ⟨c0, c1, c2⟩ := blk3 HA6.out.b0
    have r0 := HR6.out.c0
    rw [HMe.out] at r0
    go_wp2
    go_quiet (fail)
    have hA7 : ApIn w (w6.drewN nq) X u := ⟨HA6.out.base, below_drewN HA6.out.below nq, HA6.out.b0, HA6.out.b1⟩
    have hR7 : RlAt (w6.drewN nq) B M r n := HR6.out.keep rfl rfl
    have hK7 : (w6.drewN nq).heap[N]? = some (.cells #[.int .i64 old.node, .int .u32 (old.inc : Int), .int .i64 old.st] 32) := HK6.out
    obtain ⟨w7, hw7⟩ : ∃ w7, w6.drewN nq = w7 := ⟨_, rfl⟩
    rw [hw7] at hA7 hR7 hK7 ⊢
    have HA7 := Lib.hid hA7
    have HR7 := Lib.hid hR7
    have HK7 := Lib.hid hK7
    clear hA7 hR7 hK7 hw7 c0 c1 c2 r0
    obtain ⟨c0, c1, c2⟩ := blk3 HA7.out.b0
    have r1 := HR7.out.c1
    have hm2 : MapIs w7.drew M r.T n := HR7.out.map.block rfl
    obtain ⟨w8, hrun, hm3, hg3, hs3⟩ := hm2.put u HZ.out (by have := HN1.out; unfold maxLen; omega)
    unfold upV at hrun
    have HM3 := Lib.hid hm3
    have HG3 := Lib.hid hg3
    clear hm2 hm3 hg3 hs3
    go_wp2
    go_region
    have hMX : M < X := by have := HR.out.lt.2; have := HX.out; omega
    have hXN := HXN.out
    have hX8 : w8.heap[X]? = some (.cells #[.int .i64 u.node, .int .u32 (u.inc : Int), .int .i64 u.st] 32) := (HG3.out.block X (block_lt (w := w7) HA7.out.b0) (fun e => by cases e; omega)).trans HA7.out.b0
    have hZ8 : w8.heap[X + 1]? = some (.cells #[.int .i64 0, .int .i64 0, .int .u32 0, .int .i64 0, .int .i64 0, .int .u32 0, .int .i64 0] 38) := (HG3.out.block _ (block_lt (w := w7) HA7.out.b1) (fun e => by cases e; omega)).trans HA7.out.b1
    have hN8 : w8.heap[N]? = some (.cells #[.int .i64 old.node, .int .u32 (old.inc : Int), .int .i64 old.st] 32) := (HG3.out.block N (block_lt (w := w7) HK7.out) (fun e => by cases e; omega)).trans HK7.out
    clear c0 c1 c2 r1 hrun
    have hBm := HR7.out.ne
    have HR8 := Lib.hid (show RlAt w8 B M ⟨r.own, put r.T u⟩ (n + 1) from ⟨(HG3.out.block B HR7.out.lt.1 (fun e => by cases e; exact hBm rfl)).trans HR7.out.blk, HM3.out, HR7.out.ok.put HRt.out⟩)
    have HB8 := Lib.hid (show But (· = M) w w8 from (But.of_below HA7.out.below).trans ((But.drew (But.refl _ w7)).trans (But.of_grown HG3.out (fun r h _ => by cases h; rfl))))
    obtain ⟨c0, c1, c2⟩ := blk3 hX8
    obtain ⟨n0, n1, n2⟩ := blk3 hN8
    have HZ8 := Lib.hid hZ8
    clear hX8 hZ8 hN8 hMX hXN
    obtain ⟨e0, e1, e2, e3, e4, e5, e6⟩ := blk7 HZ8.out
    obtain ⟨f0, f1, f2, f3, f4, f5, f6⟩ := frz7 HZ8.out
    have HQ := Lib.hid (set7_blk HZ8.out (.int .i64 2) (.int .i64 old.node) (.int .u32 (old.inc : Int)) (.int .i64 old.st) (.int .i64 u.node) (.int .u32 (u.inc : Int)) (.int .i64 u.st))
    go_wp2
    obtain ⟨g0, g1, g2, g3, g4, g5, g6⟩ := blk7 HQ.out
    have hsz := HX.out
    have hlt := HR.out.lt
    refine bodyPost_ret (v := .agg #[.int .i64 2, .int .i64 old.node, .int .u32 (old.inc : Int), .int .i64 old.st, .int .i64 u.node, .int .u32 (u.inc : Int), .int .i64 u.st]) (by simp [results, Try.results13, go_sem, g0, g1, g2, g3, g4, g5, g6]) rfl ⟨rfl, ?_, ?_⟩
    · exact (RlAt.but HR8.out (set7_but w8 (X + 1) _ _ _ _ _ _ _) (by omega) (by omega))
    · exact But.then_ HB8.out (set7_but w8 (X + 1) _ _ _ _ _ _ _) (fun i e hi => by omega)
set_option maxHeartbeats 8000000 in
theorem apply_fresh {B M n : Nat} {r : Ro} (u old : Up) (w : World) (hR : RlAt w B M r n) (hr : u.right = true) (hn : n ≤ 1000000) (hT : r.T u.node = none) (ho : u.node ≠ r.own) (hold : old = zU) :
    Calls Try.prog 13 #[.pointer (some ⟨B, 0, none⟩), .agg #[.int .i64 u.node, .int .u32 (u.inc : Int), .int .i64 u.st]] w (ApPost w B M n 1 zU u ⟨r.own, put r.T u⟩) := by
  have HZ := Lib.hid (right_wf hr).1
  have HRt := Lib.hid hr
  obtain ⟨me, hme⟩ : ∃ m, r.own = m := ⟨_, rfl⟩
  have HMe := Lib.hid hme
  have HPr := Lib.hid (fun w => pright_any u w true hr)
  have HOld : Hid (atU r.T u.node = old) := Lib.hid (by unfold atU; rw [hT, hold]; rfl)
  have HIs : Hid ((r.T u.node).isSome = false) := Lib.hid (by rw [hT]; rfl)
  have zo : (u.node == me) = false := by rw [beq_eq_false_iff_ne, ← hme]; exact ho
  have HN1 := Lib.hid hn
  clear hr hT hme ho hn hold
  have HR := Lib.hid hR
  have hA := ApIn.mk_ w u
  obtain ⟨X, hX⟩ : ∃ X, w.heap.size = X := ⟨_, rfl⟩
  obtain ⟨W, hW⟩ : ∃ W, (w.alloc (.cells #[.int .i64 u.node, .int .u32 (u.inc : Int), .int .i64 u.st] 32)).alloc (.cells #[.int .i64 0, .int .i64 0, .int .u32 0, .int .i64 0, .int .i64 0, .int .u32 0, .int .i64 0] 38) = W := ⟨_, rfl⟩
  rw [hX, hW] at hA
  have HMd := Lib.hid (made_yes W (hR.below hA.below))
  obtain ⟨c0, c1, c2⟩ := blk3 hA.b0
  have HA := Lib.hid hA
  have HX := Lib.hid hX
  have HW := Lib.hid hW
  clear hR hA hX hW
  go_enter Try.func13, Try.ntmps13
  go_wp2_with fail
  rw [HW.out, HX.out]
  refine HMd.out.mono ?_
  rintro e w' ⟨rfl, rfl⟩
  go_wp2_with fail
  refine (HPr.out _).mono ?_
  rintro e w1 ⟨rfl, hb1⟩
  have hA1 := HA.out.then_ hb1
  clear c0 c1 c2 hb1
  have hR1 := HR.out.below hA1.below
  obtain ⟨c0, c1, c2⟩ := blk3 hA1.b0
  have r1 := hR1.c1
  have r0 := hR1.c0
  rw [HMe.out] at r0
  have hlk := (show RlAt w1.drew B M r n from hR1.keep rfl rfl).map.look HZ.out
  have hlk2 := (show RlAt (w1.alloc (.cells #[.int .i64 0, .int .u32 0, .int .i64 0] 32)).drew B M r n from (hR1.below (below1 w1 (.cells #[.int .i64 0, .int .u32 0, .int .i64 0] 32))).keep rfl rfl).map.look HZ.out
  rw [HOld.out, HIs.out] at hlk hlk2
  unfold upV at hlk hlk2
  have hlX := block_lt hA1.b0
  have hlB := hR1.lt.1
  have hb5 : Below w1.heap.size w1 (w1.alloc (.cells #[.int .i64 old.node, .int .u32 (old.inc : Int), .int .i64 old.st] 32)).drew := (below1 w1 (.cells #[.int .i64 old.node, .int .u32 (old.inc : Int), .int .i64 old.st] 32)).drew
  have k5 : (w1.alloc (.cells #[.int .i64 old.node, .int .u32 (old.inc : Int), .int .i64 old.st] 32)).drew.heap[w1.heap.size]? = some (.cells #[.int .i64 old.node, .int .u32 (old.inc : Int), .int .i64 old.st] 32) := heap_alloc_new w1 (.cells #[.int .i64 old.node, .int .u32 (old.inc : Int), .int .i64 old.st] 32)
  obtain ⟨N, hN⟩ : ∃ N, w1.heap.size = N := ⟨_, rfl⟩
  have hA5 := hA1.then_ hb5
  have hR5 := hR1.below hb5
  obtain ⟨W5, hW5⟩ : ∃ W5, (w1.alloc (.cells #[.int .i64 old.node, .int .u32 (old.inc : Int), .int .i64 old.st] 32)).drew = W5 := ⟨_, rfl⟩
  rw [hN] at k5
  rw [hW5] at k5 hA5 hR5
  have HXN := Lib.hid (show X + 1 < N by rw [← hN]; exact block_lt hA1.b1)
  have HA5 := Lib.hid hA5
  have HR5 := Lib.hid hR5
  have HK5 := Lib.hid k5
  have HNn := Lib.hid hN
  have HW5 := Lib.hid hW5
  clear hA1 hR1 hb5 k5 hN hA5 hR5 hW5
  go_wp2
  go_region
  all_goals
    rw [HW5.out, HNn.out]
    clear hlk hlk2 c0 c1 c2 r0 r1 hlX hlB
    obtain ⟨w6, hw6⟩ : ∃ w6, w6 = W5 := ⟨_, rfl⟩
    have HA6 : Hid (ApIn w w6 X u) := Lib.hid (hw6 ▸ HA5.out)
    have HR6 : Hid (RlAt w6 B M r n) := Lib.hid (hw6 ▸ HR5.out)
    have HK6 : Hid (w6.heap[N]? = some (.cells #[.int .i64 old.node, .int .u32 (old.inc : Int), .int .i64 old.st] 32)) := Lib.hid (hw6 ▸ HK5.out)
    rw [← hw6]
    clear hw6
    obtain ⟨c0, c1, c2⟩ := blk3 HA6.out.b0
    have r0 := HR6.out.c0
    rw [HMe.out] at r0
    go_wp2
    go_quiet (fail)
    have hA7 : ApIn w (w6.drewN nq) X u := ⟨HA6.out.base, below_drewN HA6.out.below nq, HA6.out.b0, HA6.out.b1⟩
    have hR7 : RlAt (w6.drewN nq) B M r n := HR6.out.keep rfl rfl
    have hK7 : (w6.drewN nq).heap[N]? = some (.cells #[.int .i64 old.node, .int .u32 (old.inc : Int), .int .i64 old.st] 32) := HK6.out
    obtain ⟨w7, hw7⟩ : ∃ w7, w6.drewN nq = w7 := ⟨_, rfl⟩
    rw [hw7] at hA7 hR7 hK7 ⊢
    have HA7 := Lib.hid hA7
    have HR7 := Lib.hid hR7
    have HK7 := Lib.hid hK7
    clear hA7 hR7 hK7 hw7 c0 c1 c2 r0
    obtain ⟨c0, c1, c2⟩ := blk3 HA7.out.b0
    have r1 := HR7.out.c1
    have hm2 : MapIs w7.drew M r.T n := HR7.out.map.block rfl
    obtain ⟨w8, hrun, hm3, hg3, hs3⟩ := hm2.put u HZ.out (by have := HN1.out; unfold maxLen; omega)
    unfold upV at hrun
    have HM3 := Lib.hid hm3
    have HG3 := Lib.hid hg3
    clear hm2 hm3 hg3 hs3
    go_wp2
    go_region
    have hMX : M < X := by have := HR.out.lt.2; have := HX.out; omega
    have hXN := HXN.out
    have hX8 : w8.heap[X]? = some (.cells #[.int .i64 u.node, .int .u32 (u.inc : Int), .int .i64 u.st] 32) := (HG3.out.block X (block_lt (w := w7) HA7.out.b0) (fun e => by cases e; omega)).trans HA7.out.b0
    have hZ8 : w8.heap[X + 1]? = some (.cells #[.int .i64 0, .int .i64 0, .int .u32 0, .int .i64 0, .int .i64 0, .int .u32 0, .int .i64 0] 38) := (HG3.out.block _ (block_lt (w := w7) HA7.out.b1) (fun e => by cases e; omega)).trans HA7.out.b1
    have hN8 : w8.heap[N]? = some (.cells #[.int .i64 old.node, .int .u32 (old.inc : Int), .int .i64 old.st] 32) := (HG3.out.block N (block_lt (w := w7) HK7.out) (fun e => by cases e; omega)).trans HK7.out
    clear c0 c1 c2 r1 hrun
    have hBm := HR7.out.ne
    have HR8 := Lib.hid (show RlAt w8 B M ⟨r.own, put r.T u⟩ (n + 1) from ⟨(HG3.out.block B HR7.out.lt.1 (fun e => by cases e; exact hBm rfl)).trans HR7.out.blk, HM3.out, HR7.out.ok.put HRt.out⟩)
    have HB8 := Lib.hid (show But (· = M) w w8 from (But.of_below HA7.out.below).trans ((But.drew (But.refl _ w7)).trans (But.of_grown HG3.out (fun r h _ => by cases h; rfl))))
    obtain ⟨c0, c1, c2⟩ := blk3 hX8
    obtain ⟨n0, n1, n2⟩ := blk3 hN8
    have HZ8 := Lib.hid hZ8
    clear hX8 hZ8 hN8 hMX hXN
    obtain ⟨e0, e1, e2, e3, e4, e5, e6⟩ := blk7 HZ8.out
    obtain ⟨f0, f1, f2, f3, f4, f5, f6⟩ := frz7 HZ8.out
    have HQ := Lib.hid (set7_blk HZ8.out (.int .i64 1) (.int .i64 0) (.int .u32 0) (.int .i64 0) (.int .i64 u.node) (.int .u32 (u.inc : Int)) (.int .i64 u.st))
    go_wp2
    obtain ⟨g0, g1, g2, g3, g4, g5, g6⟩ := blk7 HQ.out
    have hsz := HX.out
    have hlt := HR.out.lt
    refine bodyPost_ret (v := .agg #[.int .i64 1, .int .i64 0, .int .u32 0, .int .i64 0, .int .i64 u.node, .int .u32 (u.inc : Int), .int .i64 u.st]) (by simp [results, Try.results13, go_sem, g0, g1, g2, g3, g4, g5, g6]) rfl ⟨rfl, ?_, ?_⟩
    · exact (RlAt.but HR8.out (set7_but w8 (X + 1) _ _ _ _ _ _ _) (by omega) (by omega))
    · exact But.then_ HB8.out (set7_but w8 (X + 1) _ _ _ _ _ _ _) (fun i e hi => by omega)
set_option maxHeartbeats 8000000 in
theorem apply_own {B M n : Nat} {r : Ro} (u old : Up) (w : World) (hR : RlAt w B M r n) (hr : u.right = true) (hn : n ≤ 1000000) (hs : r.small) (hu : u.inc ≤ 4294967295) (ho : u.node = r.own) (hold : old = r.selfU) (ha : u.above old = true) (k : Nat) (a b : Up) (r2 : Ro) (he : r.apply u = (k, a, b, r2)) :
    Calls Try.prog 13 #[.pointer (some ⟨B, 0, none⟩), .agg #[.int .i64 u.node, .int .u32 (u.inc : Int), .int .i64 u.st]] w (ApPost w B M n k a b r2) := by
  have HZ := Lib.hid (right_wf hr).1
  have HRt := Lib.hid hr
  obtain ⟨me, hme⟩ : ∃ m, r.own = m := ⟨_, rfl⟩
  have HMe := Lib.hid hme
  have HPr := Lib.hid (fun w => pright_any u w true hr)
  have HPa := Lib.hid (fun w => pabove_any u old w true ha)
  have hT := hR.ok.selfAt.1
  have HOld : Hid (atU r.T u.node = old) := Lib.hid (by unfold atU; rw [ho, hT, hold]; rfl)
  have HIs : Hid ((r.T u.node).isSome = true) := Lib.hid (by rw [ho, hT]; rfl)
  have zo : (u.node == me) = true := by rw [beq_iff_eq, ← hme]; exact ho
  have HCn := Lib.hid (fun w (hR : RlAt w B M r n) => con_any u w hR hn hs hu hr ho (hold ▸ ha) k a b r2 he)
  rw [← hold] at HCn
  clear hr hT ha hme ho hn hs hu hold he
  have HR := Lib.hid hR
  have hA := ApIn.mk_ w u
  obtain ⟨X, hX⟩ : ∃ X, w.heap.size = X := ⟨_, rfl⟩
  obtain ⟨W, hW⟩ : ∃ W, (w.alloc (.cells #[.int .i64 u.node, .int .u32 (u.inc : Int), .int .i64 u.st] 32)).alloc (.cells #[.int .i64 0, .int .i64 0, .int .u32 0, .int .i64 0, .int .i64 0, .int .u32 0, .int .i64 0] 38) = W := ⟨_, rfl⟩
  rw [hX, hW] at hA
  have HMd := Lib.hid (made_yes W (hR.below hA.below))
  obtain ⟨c0, c1, c2⟩ := blk3 hA.b0
  have HA := Lib.hid hA
  have HX := Lib.hid hX
  have HW := Lib.hid hW
  clear hR hA hX hW
  go_enter Try.func13, Try.ntmps13
  go_wp2_with fail
  rw [HW.out, HX.out]
  refine HMd.out.mono ?_
  rintro e w' ⟨rfl, rfl⟩
  go_wp2_with fail
  refine (HPr.out _).mono ?_
  rintro e w1 ⟨rfl, hb1⟩
  have hA1 := HA.out.then_ hb1
  clear c0 c1 c2 hb1
  have hR1 := HR.out.below hA1.below
  obtain ⟨c0, c1, c2⟩ := blk3 hA1.b0
  have r1 := hR1.c1
  have r0 := hR1.c0
  rw [HMe.out] at r0
  have hlk := (show RlAt w1.drew B M r n from hR1.keep rfl rfl).map.look HZ.out
  have hlk2 := (show RlAt (w1.alloc (.cells #[.int .i64 0, .int .u32 0, .int .i64 0] 32)).drew B M r n from (hR1.below (below1 w1 (.cells #[.int .i64 0, .int .u32 0, .int .i64 0] 32))).keep rfl rfl).map.look HZ.out
  rw [HOld.out, HIs.out] at hlk hlk2
  unfold upV at hlk hlk2
  have hlX := block_lt hA1.b0
  have hlB := hR1.lt.1
  have hb5 : Below w1.heap.size w1 (w1.alloc (.cells #[.int .i64 old.node, .int .u32 (old.inc : Int), .int .i64 old.st] 32)).drew := (below1 w1 (.cells #[.int .i64 old.node, .int .u32 (old.inc : Int), .int .i64 old.st] 32)).drew
  have k5 : (w1.alloc (.cells #[.int .i64 old.node, .int .u32 (old.inc : Int), .int .i64 old.st] 32)).drew.heap[w1.heap.size]? = some (.cells #[.int .i64 old.node, .int .u32 (old.inc : Int), .int .i64 old.st] 32) := heap_alloc_new w1 (.cells #[.int .i64 old.node, .int .u32 (old.inc : Int), .int .i64 old.st] 32)
  obtain ⟨N, hN⟩ : ∃ N, w1.heap.size = N := ⟨_, rfl⟩
  have hA5 := hA1.then_ hb5
  have hR5 := hR1.below hb5
  obtain ⟨W5, hW5⟩ : ∃ W5, (w1.alloc (.cells #[.int .i64 old.node, .int .u32 (old.inc : Int), .int .i64 old.st] 32)).drew = W5 := ⟨_, rfl⟩
  rw [hN] at k5
  rw [hW5] at k5 hA5 hR5
  have HXN := Lib.hid (show X + 1 < N by rw [← hN]; exact block_lt hA1.b1)
  have HA5 := Lib.hid hA5
  have HR5 := Lib.hid hR5
  have HK5 := Lib.hid k5
  have HNn := Lib.hid hN
  have HW5 := Lib.hid hW5
  clear hA1 hR1 hb5 k5 hN hA5 hR5 hW5
  go_wp2
  go_region
  all_goals
    rw [HW5.out, HNn.out]
    clear hlk hlk2 c0 c1 c2 r0 r1 hlX hlB
    obtain ⟨c0, c1, c2⟩ := blk3 HA5.out.b0
    obtain ⟨n0, n1, n2⟩ := blk3 HK5.out
    go_wp2_with fail
    refine (HPa.out _).mono ?_
    rintro e w6 ⟨rfl, hb6⟩
    have hA6 := HA5.out.then_ hb6
    have hR6 := HR5.out.below hb6
    have hK6 := (hb6.block _ (block_lt HK5.out)).trans HK5.out
    clear c0 c1 c2 n0 n1 n2 hb6
    have HA6 := Lib.hid hA6
    have HR6 := Lib.hid hR6
    have HK6 := Lib.hid hK6
    clear hA6 hR6 hK6
    obtain ⟨c0, c1, c2⟩ := blk3 HA6.out.b0
    have r0 := HR6.out.c0
    rw [HMe.out] at r0
    go_wp2
    go_quiet (fail)
    have hA7 : ApIn w (w6.drewN nq) X u := ⟨HA6.out.base, below_drewN HA6.out.below nq, HA6.out.b0, HA6.out.b1⟩
    have hR7 : RlAt (w6.drewN nq) B M r n := HR6.out.keep rfl rfl
    have hK7 : (w6.drewN nq).heap[N]? = some (.cells #[.int .i64 old.node, .int .u32 (old.inc : Int), .int .i64 old.st] 32) := HK6.out
    obtain ⟨w7, hw7⟩ : ∃ w7, w6.drewN nq = w7 := ⟨_, rfl⟩
    rw [hw7] at hA7 hR7 hK7 ⊢
    have HA7 := Lib.hid hA7
    have HR7 := Lib.hid hR7
    have HK7 := Lib.hid hK7
    clear hA7 hR7 hK7 hw7 c0 c1 c2 r0
    obtain ⟨c0, c1, c2⟩ := blk3 HA7.out.b0
    obtain ⟨n0, n1, n2⟩ := blk3 HK7.out
    have HC7 := Lib.hid (HCn.out w7 HR7.out)
    go_wp2_with fail
    refine HC7.out.mono ?_
    rintro e w8 ⟨rfl, hR8, hB8⟩
    have hMX : M < X := by have := HR.out.lt.2; have := HX.out; omega
    have hZ8 : w8.heap[X + 1]? = some (.cells #[.int .i64 0, .int .i64 0, .int .u32 0, .int .i64 0, .int .i64 0, .int .u32 0, .int .i64 0] 38) := (hB8.block _ (block_lt HA7.out.b1) (by omega)).trans HA7.out.b1
    have HR8 := Lib.hid hR8
    have HB8 := Lib.hid ((But.of_below (S := (· = M)) HA7.out.below).trans hB8)
    have HZ8 := Lib.hid hZ8
    clear hR8 hB8 hZ8 hMX c0 c1 c2 n0 n1 n2
    obtain ⟨e0, e1, e2, e3, e4, e5, e6⟩ := blk7 HZ8.out
    obtain ⟨f0, f1, f2, f3, f4, f5, f6⟩ := frz7 HZ8.out
    have HQ := Lib.hid (set7_blk HZ8.out (.int .i64 (k : Int)) (.int .i64 a.node) (.int .u32 (a.inc : Int)) (.int .i64 a.st) (.int .i64 b.node) (.int .u32 (b.inc : Int)) (.int .i64 b.st))
    go_wp2
    obtain ⟨g0, g1, g2, g3, g4, g5, g6⟩ := blk7 HQ.out
    have hsz := HX.out
    have hlt := HR.out.lt
    refine bodyPost_ret (v := .agg #[.int .i64 (k : Int), .int .i64 a.node, .int .u32 (a.inc : Int), .int .i64 a.st, .int .i64 b.node, .int .u32 (b.inc : Int), .int .i64 b.st]) (by simp [results, Try.results13, go_sem, g0, g1, g2, g3, g4, g5, g6]) rfl ⟨rfl, ?_, ?_⟩
    · exact (RlAt.but HR8.out (set7_but w8 (X + 1) _ _ _ _ _ _ _) (by omega) (by omega))
    · exact But.then_ HB8.out (set7_but w8 (X + 1) _ _ _ _ _ _ _) (fun i e hi => by omega)
/-- Apply. -/
theorem apply_any {B M n : Nat} {r : Ro} (u : Up) (w : World) (hR : RlAt w B M r n) (hn : n ≤ 1000000) (hs : r.small) (hu : u.inc ≤ 4294967295) (k : Nat) (a b : Up) (r2 : Ro) (he : r.apply u = (k, a, b, r2)) :
    Calls Try.prog 13 #[.pointer (some ⟨B, 0, none⟩), .agg #[.int .i64 u.node, .int .u32 (u.inc : Int), .int .i64 u.st]] w (ApPost w B M n k a b r2) := by
  have he' := he
  unfold Ro.apply at he'
  cases hr : u.right with
  | false =>
    rw [if_pos hr] at he'
    simp only [Prod.mk.injEq] at he'
    obtain ⟨rfl, rfl, rfl, rfl⟩ := he'
    exact apply_wrong u w hR hr
  | true =>
    rw [if_neg (by rw [hr]; decide)] at he'
    by_cases ho : u.node = r.own
    · cases ha : u.above r.selfU with
      | true => exact apply_own u r.selfU w hR hr hn hs hu ho rfl ha k a b r2 he
      | false =>
        rw [if_pos ho, if_pos (.inr ha)] at he'
        simp only [Prod.mk.injEq] at he'
        obtain ⟨rfl, rfl, rfl, rfl⟩ := he'
        exact apply_below u r.selfU w hR hr (by rw [ho]; exact hR.ok.selfAt.1) ha
    · rw [if_neg ho] at he'
      cases hT : r.T u.node with
      | none =>
        rw [hT] at he'
        simp only [Prod.mk.injEq] at he'
        obtain ⟨rfl, rfl, rfl, rfl⟩ := he'
        exact apply_fresh u zU w hR hr hn hT ho rfl
      | some old =>
        rw [hT] at he'
        simp only at he'
        cases ha : u.above old with
        | true =>
          rw [if_pos ha] at he'
          simp only [Prod.mk.injEq] at he'
          obtain ⟨rfl, rfl, rfl, rfl⟩ := he'
          exact apply_raised u old w hR hr hn hT ha ho
        | false =>
          rw [if_neg (by rw [ha]; decide)] at he'
          simp only [Prod.mk.injEq] at he'
          obtain ⟨rfl, rfl, rfl, rfl⟩ := he'
          exact apply_below u old w hR hr hT ha
end Go.Proofs.Ytmfokogckfoheaa
