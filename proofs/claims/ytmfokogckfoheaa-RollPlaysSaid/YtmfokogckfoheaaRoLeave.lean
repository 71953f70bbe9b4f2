/-
  Leave of the program's roll, walked; the methods of a roll that New did not make (layer 9).
-/
import Derived.Test.YtmfokogckfoheaaRoApply
namespace Go.Proofs.Ytmfokogckfoheaa
open Go.RowKit Go.Maps
set_option linter.unusedSimpArgs false
set_option linter.unusedVariables false

theorem set3_but (W : World) (X : Nat) (a b c : Value) : But (· = X) W (((W.setCell ⟨X, 0, none⟩ a).setCell ⟨X, 1, none⟩ b).setCell ⟨X, 2, none⟩ c) :=
  have h : ∀ (W : World) (i : Nat) (v : Value), But (· = X) W (W.setCell ⟨X, i, none⟩ v) := fun W i v => But.set (S := (· = X)) W (p := ⟨X, i, none⟩) rfl v
  ((h _ _ _).trans (h _ _ _)).trans (h _ _ _)
/-- What Leave leaves. -/
def LvPost (w : World) (B M n : Nat) (u : Up) (is : Bool) (r : Ro) (e : Ending) (w' : World) : Prop := e = .returned (.tuple #[.agg #[.int .i64 u.node, .int .u32 (u.inc : Int), .int .i64 u.st], .bool is]) ∧ RlAt w' B M r (n + 1) ∧ But (· = M) w w'
set_option maxHeartbeats 8000000 in
theorem leave_gone {B M n : Nat} {r : Ro} (w : World) (hR : RlAt w B M r n) (hg : r.selfU.st = 3) :
    Calls Try.prog 11 #[.pointer (some ⟨B, 0, none⟩)] w (LvPost w B M n r.selfU false r) := by
  have HR := Lib.hid hR
  have hb0 := below1 w (.cells #[.int .i64 0, .int .u32 0, .int .i64 0] 32)
  have k0 := heap_alloc_new w (.cells #[.int .i64 0, .int .u32 0, .int .i64 0] 32)
  obtain ⟨X, hX⟩ : ∃ X, w.heap.size = X := ⟨_, rfl⟩
  obtain ⟨W, hW⟩ : ∃ W, w.alloc (.cells #[.int .i64 0, .int .u32 0, .int .i64 0] 32) = W := ⟨_, rfl⟩
  rw [hW] at hb0 k0
  rw [hX] at k0
  have hR1 := hR.below hb0
  have HMd := Lib.hid (made_yes W hR1)
  have r1 := hR1.c1
  have r0 := hR1.c0
  obtain ⟨me, hme⟩ : ∃ m, r.own = m := ⟨_, rfl⟩
  have HMe := Lib.hid hme
  rw [hme] at r0
  have hlk := (show RlAt W.drew B M r n from hR1.keep rfl rfl).map.look1 hR1.ownW
  have hlk2 := (show RlAt (W.alloc (.cells #[.int .i64 0, .int .u32 0, .int .i64 0] 32)).drew B M r n from (hR1.below (below1 W (.cells #[.int .i64 0, .int .u32 0, .int .i64 0] 32))).keep rfl rfl).map.look1 hR1.ownW
  obtain ⟨own, hown⟩ : ∃ u, r.selfU = u := ⟨_, rfl⟩
  have hown' : atU r.T r.own = own := hown
  rw [hown', hme] at hlk hlk2
  unfold upV at hlk hlk2
  have hlB := hR1.lt.1
  have hlX := block_lt k0
  have hb5 : Below W.heap.size W (W.alloc (.cells #[.int .i64 own.node, .int .u32 (own.inc : Int), .int .i64 own.st] 32)).drew := (below1 W (.cells #[.int .i64 own.node, .int .u32 (own.inc : Int), .int .i64 own.st] 32)).drew
  have k5 : (W.alloc (.cells #[.int .i64 own.node, .int .u32 (own.inc : Int), .int .i64 own.st] 32)).drew.heap[W.heap.size]? = some (.cells #[.int .i64 own.node, .int .u32 (own.inc : Int), .int .i64 own.st] 32) := heap_alloc_new W (.cells #[.int .i64 own.node, .int .u32 (own.inc : Int), .int .i64 own.st] 32)
  obtain ⟨N, hN⟩ : ∃ N, W.heap.size = N := ⟨_, rfl⟩
  have hx5 := (hb5.block X hlX).trans k0
  have hR5 := hR1.below hb5
  obtain ⟨W5, hW5⟩ : ∃ W5, (W.alloc (.cells #[.int .i64 own.node, .int .u32 (own.inc : Int), .int .i64 own.st] 32)).drew = W5 := ⟨_, rfl⟩
  rw [hN] at k5
  rw [hW5] at k5 hx5 hR5
  have HXN := Lib.hid (show X < N by omega)
  have HB5 := Lib.hid (show Below w.heap.size w W5 by rw [← hW5]; exact hb0.trans (hb5.mono hb0.size))
  have HX5 := Lib.hid hx5
  have HR5 := Lib.hid hR5
  have HK5 := Lib.hid k5
  have HNn := Lib.hid hN
  have HW5 := Lib.hid hW5
  have HX := Lib.hid hX
  have HW := Lib.hid hW
  have HOwn := Lib.hid hown
  have HRn := Lib.hid (hR.ok.selfAt.2)
  rw [hown] at HRn
  have HOk := Lib.hid hR.ok
  have HZw := Lib.hid (show wfI own.node by have := hR.ok.selfAt.2.2; have h2 := hR.ownW; rw [hown] at this; rw [this]; exact h2)
  clear hR hb0 k0 hX hW hR1 hme hown hown' hb5 k5 hN hx5 hR5 hW5
  rw [HOwn.out] at hg ⊢
  have z3 : (own.st == 3) = true := by rw [beq_iff_eq]; exact hg
  clear hg
  go_enter Try.func11, Try.ntmps11
  go_wp2_with fail
  rw [HW.out, HX.out]
  refine HMd.out.mono ?_
  rintro e w' ⟨rfl, rfl⟩
  go_wp2
  go_region
  all_goals
    rw [HW5.out, HNn.out]
    clear hlk hlk2 r0 r1 hlB hlX
    obtain ⟨c0, c1, c2⟩ := blk3 HX5.out
    obtain ⟨n0, n1, n2⟩ := blk3 HK5.out
    have f0 := blk_froz HX5.out 0
    have f1 := blk_froz HX5.out 1
    have f2 := blk_froz HX5.out 2
    have m2 := blk_froz HK5.out 2
    have HQ := Lib.hid (set3_blk HX5.out (.int .i64 own.node) (.int .u32 (own.inc : Int)) (.int .i64 own.st))
    go_wp2
    obtain ⟨g0, g1, g2⟩ := blk3 HQ.out
    have hsz := HX.out
    have hlt := HR.out.lt
    refine bodyPost_ret (v := .tuple #[.agg #[.int .i64 own.node, .int .u32 (own.inc : Int), .int .i64 own.st], .bool false]) (by simp [results, Try.results11, go_sem, g0, g1, g2]) rfl ⟨rfl, ?_, ?_⟩
    · exact (RlAt.but HR5.out (set3_but W5 X _ _ _) (by omega) (by omega)).more (Nat.le_succ n)
    · exact But.then_ (But.of_below HB5.out) (set3_but W5 X _ _ _) (fun i e hi => by omega)
set_option maxHeartbeats 8000000 in
theorem leave_yes {B M n : Nat} {r : Ro} (w : World) (hR : RlAt w B M r n) (hn : n ≤ 1000000) (hg : r.selfU.st ≠ 3) :
    Calls Try.prog 11 #[.pointer (some ⟨B, 0, none⟩)] w (LvPost w B M n ⟨r.selfU.node, r.selfU.inc, 3⟩ true ⟨r.own, put r.T ⟨r.selfU.node, r.selfU.inc, 3⟩⟩) := by
  have HR := Lib.hid hR
  have hb0 := below1 w (.cells #[.int .i64 0, .int .u32 0, .int .i64 0] 32)
  have k0 := heap_alloc_new w (.cells #[.int .i64 0, .int .u32 0, .int .i64 0] 32)
  obtain ⟨X, hX⟩ : ∃ X, w.heap.size = X := ⟨_, rfl⟩
  obtain ⟨W, hW⟩ : ∃ W, w.alloc (.cells #[.int .i64 0, .int .u32 0, .int .i64 0] 32) = W := ⟨_, rfl⟩
  rw [hW] at hb0 k0
  rw [hX] at k0
  have hR1 := hR.below hb0
  have HMd := Lib.hid (made_yes W hR1)
  have r1 := hR1.c1
  have r0 := hR1.c0
  obtain ⟨me, hme⟩ : ∃ m, r.own = m := ⟨_, rfl⟩
  have HMe := Lib.hid hme
  rw [hme] at r0
  have hlk := (show RlAt W.drew B M r n from hR1.keep rfl rfl).map.look1 hR1.ownW
  have hlk2 := (show RlAt (W.alloc (.cells #[.int .i64 0, .int .u32 0, .int .i64 0] 32)).drew B M r n from (hR1.below (below1 W (.cells #[.int .i64 0, .int .u32 0, .int .i64 0] 32))).keep rfl rfl).map.look1 hR1.ownW
  obtain ⟨own, hown⟩ : ∃ u, r.selfU = u := ⟨_, rfl⟩
  have hown' : atU r.T r.own = own := hown
  rw [hown', hme] at hlk hlk2
  unfold upV at hlk hlk2
  have hlB := hR1.lt.1
  have hlX := block_lt k0
  have hb5 : Below W.heap.size W (W.alloc (.cells #[.int .i64 own.node, .int .u32 (own.inc : Int), .int .i64 own.st] 32)).drew := (below1 W (.cells #[.int .i64 own.node, .int .u32 (own.inc : Int), .int .i64 own.st] 32)).drew
  have k5 : (W.alloc (.cells #[.int .i64 own.node, .int .u32 (own.inc : Int), .int .i64 own.st] 32)).drew.heap[W.heap.size]? = some (.cells #[.int .i64 own.node, .int .u32 (own.inc : Int), .int .i64 own.st] 32) := heap_alloc_new W (.cells #[.int .i64 own.node, .int .u32 (own.inc : Int), .int .i64 own.st] 32)
  obtain ⟨N, hN⟩ : ∃ N, W.heap.size = N := ⟨_, rfl⟩
  have hx5 := (hb5.block X hlX).trans k0
  have hR5 := hR1.below hb5
  obtain ⟨W5, hW5⟩ : ∃ W5, (W.alloc (.cells #[.int .i64 own.node, .int .u32 (own.inc : Int), .int .i64 own.st] 32)).drew = W5 := ⟨_, rfl⟩
  rw [hN] at k5
  rw [hW5] at k5 hx5 hR5
  have HXN := Lib.hid (show X < N by omega)
  have HB5 := Lib.hid (show Below w.heap.size w W5 by rw [← hW5]; exact hb0.trans (hb5.mono hb0.size))
  have HX5 := Lib.hid hx5
  have HR5 := Lib.hid hR5
  have HK5 := Lib.hid k5
  have HNn := Lib.hid hN
  have HW5 := Lib.hid hW5
  have HX := Lib.hid hX
  have HW := Lib.hid hW
  have HOwn := Lib.hid hown
  have HRn := Lib.hid (hR.ok.selfAt.2)
  rw [hown] at HRn
  have HOk := Lib.hid hR.ok
  have HZw := Lib.hid (show wfI own.node by have := hR.ok.selfAt.2.2; have h2 := hR.ownW; rw [hown] at this; rw [this]; exact h2)
  clear hR hb0 k0 hX hW hR1 hme hown hown' hb5 k5 hN hx5 hR5 hW5
  rw [HOwn.out] at hg ⊢
  have z3 : (own.st == 3) = false := by rw [beq_eq_false_iff_ne]; exact hg
  have HN1 := Lib.hid hn
  clear hg hn
  go_enter Try.func11, Try.ntmps11
  go_wp2_with fail
  rw [HW.out, HX.out]
  refine HMd.out.mono ?_
  rintro e w' ⟨rfl, rfl⟩
  go_wp2
  go_region
  all_goals
    rw [HW5.out, HNn.out]
    clear hlk hlk2 r0 r1 hlB hlX
    obtain ⟨c0, c1, c2⟩ := blk3 HX5.out
    obtain ⟨n0, n1, n2⟩ := blk3 HK5.out
    have f0 := blk_froz HX5.out 0
    have f1 := blk_froz HX5.out 1
    have f2 := blk_froz HX5.out 2
    have m2 := blk_froz HK5.out 2
    have h6 := block_set HK5.out 2 (.int .i64 3)
    have hb6 : But (· = N) W5 (W5.setCell ⟨N, 2, none⟩ (.int .i64 3)) := But.set (S := (· = N)) W5 (p := ⟨N, 2, none⟩) rfl _
    obtain ⟨W6, hW6⟩ : ∃ W6, W5.setCell ⟨N, 2, none⟩ (.int .i64 3) = W6 := ⟨_, rfl⟩
    rw [hW6] at h6 hb6
    have hXN := HXN.out
    have hsz0 := HX.out
    have hlt0 := HR.out.lt
    have hx6 := (hb6.block X (block_lt HX5.out) (by omega)).trans HX5.out
    have hR6 := HR5.out.but hb6 (by omega) (by omega)
    have HX6 := Lib.hid hx6
    have HK6 : Hid (W6.heap[N]? = some (.cells #[.int .i64 own.node, .int .u32 (own.inc : Int), .int .i64 3] 32 (0, 0))) := Lib.hid (by rw [h6]; simp)
    have HR6 := Lib.hid hR6
    have HB6 := Lib.hid (show Below w.heap.size w W6 from HB5.out.trans (hb6.below HB5.out.size (fun k hk e => by omega)))
    have HW6 := Lib.hid hW6
    clear h6 hb6 hW6 hx6 hR6
    go_wp2
    rw [HW6.out]
    clear c0 c1 c2 n0 n1 n2 f0 f1 f2 m2
    obtain ⟨n0, n1, n2⟩ := blk3 HK6.out
    have r1 := HR6.out.c1
    have r0 := HR6.out.c0
    rw [HMe.out] at r0
    have hno : own.node = me := by rw [← HMe.out]; exact HRn.out.2
    have hm2 : MapIs W6.drew M r.T n := HR6.out.map.block rfl
    obtain ⟨w8, hrun, hm3, hg3, hs3⟩ := hm2.put ⟨own.node, own.inc, 3⟩ HZw.out (by have := HN1.out; unfold maxLen; omega)
    unfold upV at hrun
    simp only at hrun
    rw [hno] at hrun n0
    have HM3 := Lib.hid hm3
    have HG3 := Lib.hid hg3
    have HNo := Lib.hid hno
    clear hm2 hm3 hg3 hs3 hno
    go_region
    have hMX : M < X := by have := HR.out.lt.2; have := HX.out; omega
    have hX8 : w8.heap[X]? = some (.cells #[.int .i64 0, .int .u32 0, .int .i64 0] 32) := (HG3.out.block X (block_lt (w := W6) HX6.out) (fun e => by cases e; omega)).trans HX6.out
    have hN8 : w8.heap[N]? = some (.cells #[.int .i64 own.node, .int .u32 (own.inc : Int), .int .i64 3] 32 (0, 0)) := (HG3.out.block N (block_lt (w := W6) HK6.out) (fun e => by cases e; omega)).trans HK6.out
    clear r0 r1 hrun n0 n1 n2
    have hBm := HR6.out.ne
    have HR8 := Lib.hid (show RlAt w8 B M ⟨r.own, put r.T ⟨own.node, own.inc, 3⟩⟩ (n + 1) from ⟨(HG3.out.block B HR6.out.lt.1 (fun e => by cases e; exact hBm rfl)).trans HR6.out.blk, HM3.out, HR6.out.ok.put (by
      have h2 := HRn.out.1
      unfold Up.right at h2 ⊢
      have h3 := of_decide_eq_true h2
      exact decide_eq_true ⟨h3.1, h3.2.1, .inr (.inr (.inr rfl))⟩)⟩)
    have HB8 := Lib.hid (show But (· = M) w w8 from (But.of_below HB6.out).trans ((But.drew (But.refl _ W6)).trans (But.of_grown HG3.out (fun r h _ => by cases h; rfl))))
    obtain ⟨c0, c1, c2⟩ := blk3 hX8
    obtain ⟨n0, n1, n2⟩ := blk3 hN8
    have f0 := blk_froz hX8 0
    have f1 := blk_froz hX8 1
    have f2 := blk_froz hX8 2
    have HX8 := Lib.hid hX8
    clear hX8 hN8 hMX
    have HQ := Lib.hid (set3_blk HX8.out (.int .i64 own.node) (.int .u32 (own.inc : Int)) (.int .i64 3))
    go_wp2
    obtain ⟨g0, g1, g2⟩ := blk3 HQ.out
    have hsz := HX.out
    have hlt := HR.out.lt
    refine bodyPost_ret (v := .tuple #[.agg #[.int .i64 own.node, .int .u32 (own.inc : Int), .int .i64 3], .bool true]) (by simp [results, Try.results11, go_sem, g0, g1, g2]) rfl ⟨rfl, ?_, ?_⟩
    · exact (RlAt.but HR8.out (set3_but w8 X _ _ _) (by omega) (by omega))
    · exact But.then_ HB8.out (set3_but w8 X _ _ _) (fun i e hi => by omega)
/-- Leave. -/
theorem leave_any {B M n : Nat} {r : Ro} (w : World) (hR : RlAt w B M r n) (hn : n ≤ 1000000) (u : Up) (is : Bool) (r2 : Ro) (he : r.leave = (u, is, r2)) :
    Calls Try.prog 11 #[.pointer (some ⟨B, 0, none⟩)] w (LvPost w B M n u is r2) := by
  unfold Ro.leave at he
  by_cases hg : r.selfU.st = 3
  · rw [if_pos hg] at he
    simp only [Prod.mk.injEq] at he
    obtain ⟨rfl, rfl, rfl⟩ := he
    exact leave_gone w hR hg
  · rw [if_neg hg] at he
    simp only [Prod.mk.injEq] at he
    obtain ⟨rfl, rfl, rfl⟩ := he
    exact leave_yes w hR hn hg

/-! ### No roll -/
set_option maxHeartbeats 4000000 in
theorem leave_no (v : Value) (w : World) (h : NoRl w v) : Calls Try.prog 11 #[v] w fun e w' => e = .returned (.tuple #[.agg #[.int .i64 0, .int .u32 0, .int .i64 0], .bool false]) ∧ Below w.heap.size w w' := by
  have HM := Lib.hid (made_no v _ (h.below (below1 w (.cells #[.int .i64 0, .int .u32 0, .int .i64 0] 32))))
  clear h
  go_enter Try.func11, Try.ntmps11
  go_wp2_with fail
  refine HM.out.mono ?_
  rintro e w' ⟨rfl, rfl⟩
  go_wp2
  refine bodyPost_ret (v := .tuple #[.agg #[.int .i64 0, .int .u32 0, .int .i64 0], .bool false]) (by simp [results, Try.results11, go_sem]) rfl ⟨rfl, below1 _ _⟩
set_option maxHeartbeats 4000000 in
theorem apply_no (v : Value) (u : Up) (w : World) (h : NoRl w v) : Calls Try.prog 13 #[v, .agg #[.int .i64 u.node, .int .u32 (u.inc : Int), .int .i64 u.st]] w fun e w' => e = .returned (.agg #[.int .i64 0, .int .i64 0, .int .u32 0, .int .i64 0, .int .i64 0, .int .u32 0, .int .i64 0]) ∧ Below w.heap.size w w' := by
  have HM := Lib.hid (made_no v _ (h.below (below2 w (.cells #[.int .i64 u.node, .int .u32 (u.inc : Int), .int .i64 u.st] 32) (.cells #[.int .i64 0, .int .i64 0, .int .u32 0, .int .i64 0, .int .i64 0, .int .u32 0, .int .i64 0] 38))))
  clear h
  go_enter Try.func13, Try.ntmps13
  go_wp2_with fail
  refine HM.out.mono ?_
  rintro e w' ⟨rfl, rfl⟩
  go_wp2
  refine bodyPost_ret (v := .agg #[.int .i64 0, .int .i64 0, .int .u32 0, .int .i64 0, .int .i64 0, .int .u32 0, .int .i64 0]) (by simp [results, Try.results13, go_sem]) rfl ⟨rfl, below2 _ _ _⟩
set_option maxHeartbeats 4000000 in
theorem list_no (v : Value) (w : World) (h : NoRl w v) : Calls Try.prog 20 #[v] w fun e w' => e = .returned (.slice none 0 0) ∧ Below w.heap.size w w' := by
  have HM := Lib.hid (made_no v _ h)
  clear h
  go_enter Try.func20, Try.ntmps20
  go_wp2_with fail
  refine HM.out.mono ?_
  rintro e w' ⟨rfl, rfl⟩
  go_wp2
  go_ret
  exact ⟨rfl, Below.refl _ _⟩
set_option maxHeartbeats 4000000 in
theorem live_no (v : Value) (w : World) (h : NoRl w v) : Calls Try.prog 22 #[v] w fun e w' => e = .returned (.slice none 0 0) ∧ Below w.heap.size w w' := by
  have HM := Lib.hid (made_no v _ h)
  clear h
  go_enter Try.func22, Try.ntmps22
  go_wp2_with fail
  refine HM.out.mono ?_
  rintro e w' ⟨rfl, rfl⟩
  go_wp2
  go_ret
  exact ⟨rfl, Below.refl _ _⟩
set_option maxHeartbeats 4000000 in
theorem peers_no (p : Option Addr) (w : World) (h : NoRl w (.pointer p)) : Calls Try.prog 24 #[.pointer p] w fun e w' => e = .returned (.slice none 0 0) ∧ Below w.heap.size w w' := by
  have HM := Lib.hid (made_no (.pointer p) _ (h.below (below1 w (.cells #[.pointer p] 24))))
  clear h
  go_enter Try.func24, Try.ntmps24
  go_wp2_with fail
  refine HM.out.mono ?_
  rintro e w' ⟨rfl, rfl⟩
  go_wp2
  go_ret
  exact ⟨rfl, below1 _ _⟩
end Go.Proofs.Ytmfokogckfoheaa
