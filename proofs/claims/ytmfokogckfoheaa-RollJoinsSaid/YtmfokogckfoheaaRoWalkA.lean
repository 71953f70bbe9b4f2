/-
  made, lives, Self, Get of the program's roll, walked (layer 9).
-/
import Derived.Test.YtmfokogckfoheaaRoMem
import Derived.WalkSpells
namespace Go.Proofs.Ytmfokogckfoheaa
open Go.RowKit Go.Maps
set_option linter.unusedSimpArgs false
set_option linter.unusedVariables false

theorem made_no (v : Value) (w : World) (h : NoRl w v) : Calls Try.prog 30 #[v] w fun e w' => e = .returned (.bool false) ∧ w = w' := by
  rcases h with rfl | ⟨B, rfl, hh⟩
  · go_enter Try.func30, Try.ntmps30
    go_wp2
    go_ret
    exact ⟨rfl, rfl⟩
  · have c1 : w.cell? ⟨B, 1, none⟩ = some (.map none) := by rw [cell_of_row _ _ _ _ _ _ hh]; rfl
    have HH := Lib.hid hh
    clear hh
    have qM := fun (w : World) (r : Option Nat) => run_neq_map_nil (P := Try.prog) w 61 3 32 r Try.underlying61
    go_enter Try.func30, Try.ntmps30
    go_wp2
    go_ret
    exact ⟨rfl, rfl⟩
theorem made_yes {B M n : Nat} {r : Ro} (w : World) (h : RlAt w B M r n) : Calls Try.prog 30 #[.pointer (some ⟨B, 0, none⟩)] w fun e w' => e = .returned (.bool true) ∧ w = w' := by
  have c1 := h.c1
  clear h
  have qM := fun (w : World) (r : Option Nat) => run_neq_map_nil (P := Try.prog) w 61 3 32 r Try.underlying61
  go_enter Try.func30, Try.ntmps30
  go_wp2
  go_ret
  exact ⟨rfl, rfl⟩
def Up.lives (u : Up) : Bool := decide (u.st = 0 ∨ u.st = 1)
set_option maxHeartbeats 2000000 in
theorem lives_any (u : Up) (w : World) (r : Bool) (hr : u.lives = r) :
    Calls Try.prog 42 #[.agg #[.int .i64 u.node, .int .u32 (u.inc : Int), .int .i64 u.st]] w fun e w' => e = .returned (.bool r) ∧ Below w.heap.size w w' := by
  have h0 : (u.lives = true) ↔ (u.st = 0 ∨ u.st = 1) := by unfold Up.lives; simp
  rw [hr] at h0
  have HI := Lib.hid h0
  clear h0 hr
  obtain ⟨na, ia, sa⟩ := u
  simp only at HI ⊢
  go_enter Try.func42, Try.ntmps42
  go_wp2
  all_goals go_ret
  all_goals refine ⟨ret_bool ?_, below1 _ _⟩
  all_goals (first | (rw [Bool.eq_iff_iff, HI.out]; simp_all <;> omega) | skip)
set_option maxHeartbeats 4000000 in
theorem self_no (v : Value) (w : World) (h : NoRl w v) : Calls Try.prog 17 #[v] w fun e w' => e = .returned (.agg #[.int .i64 0, .int .u32 0, .int .i64 0]) ∧ Below w.heap.size w w' := by
  have HM := Lib.hid (made_no v _ (h.below (below1 w (.cells #[.int .i64 0, .int .u32 0, .int .i64 0] 32))))
  clear h
  go_enter Try.func17, Try.ntmps17
  go_wp2_with fail
  refine HM.out.mono ?_
  rintro e w' ⟨rfl, rfl⟩
  go_wp2
  refine bodyPost_ret (v := .agg #[.int .i64 0, .int .u32 0, .int .i64 0]) (by simp [results, Try.results17, go_sem]) rfl ⟨rfl, below1 _ _⟩
set_option maxHeartbeats 4000000 in
theorem self_any {B M n : Nat} {r : Ro} (w : World) (h : RlAt w B M r n) : Calls Try.prog 17 #[.pointer (some ⟨B, 0, none⟩)] w fun e w' => e = .returned (.agg #[.int .i64 r.selfU.node, .int .u32 (r.selfU.inc : Int), .int .i64 r.selfU.st]) ∧ Below w.heap.size w w' := by
  have h1 := h.below (below1 w (.cells #[.int .i64 0, .int .u32 0, .int .i64 0] 32))
  obtain ⟨W, hW⟩ : ∃ W, w.alloc (.cells #[.int .i64 0, .int .u32 0, .int .i64 0] 32) = W := ⟨_, rfl⟩
  have k0 := heap_alloc_new w (.cells #[.int .i64 0, .int .u32 0, .int .i64 0] 32)
  have hb := below1 w (.cells #[.int .i64 0, .int .u32 0, .int .i64 0] 32)
  obtain ⟨X, hX⟩ : ∃ X, w.heap.size = X := ⟨_, rfl⟩
  rw [hW] at h1 k0 hb
  rw [hX] at k0
  have HM := Lib.hid (made_yes W h1)
  have hlk := (show RlAt W.drew B M r n from h1.keep rfl rfl).map.look1 (h1.ownW)
  obtain ⟨u, hu⟩ : ∃ u, atU r.T r.own = u := ⟨_, rfl⟩
  rw [hu] at hlk
  have hu' : r.selfU = u := hu
  rw [hu']
  unfold upV at hlk
  have c0 := h1.c0
  have c1 := h1.c1
  obtain ⟨own, hown⟩ : ∃ o, r.own = o := ⟨_, rfl⟩
  rw [hown] at c0 hlk
  have q := set3_blk (W := W) (X := X) k0 (.int .i64 u.node) (.int .u32 (u.inc : Int)) (.int .i64 u.st)
  obtain ⟨g0, g1, g2⟩ := blk3 (W := World.drew (((W.setCell ⟨X, 0, none⟩ (.int .i64 u.node)).setCell ⟨X, 1, none⟩ (.int .u32 (u.inc : Int))).setCell ⟨X, 2, none⟩ (.int .i64 u.st))) q
  have f0 := blk_froz k0 0
  have HG := Lib.hid (And.intro g0 (And.intro g1 g2))
  have HB := Lib.hid hb
  have HW := Lib.hid hW
  have HX := Lib.hid hX
  have hlt := block_lt k0
  obtain ⟨d0, d1, d2⟩ := blk3 k0
  have f1 := blk_froz k0 1
  have f2 := blk_froz k0 2
  clear h h1 hu hu' hW hX hb k0 q g0 g1 g2 hown
  go_enter Try.func17, Try.ntmps17
  go_wp2_with fail
  rw [HW.out, HX.out]
  refine HM.out.mono ?_
  rintro e w' ⟨rfl, rfl⟩
  go_wp2
  go_region
  go_wp2
  obtain ⟨e0, e1, e2⟩ := HG.out
  refine bodyPost_ret (v := .agg #[.int .i64 u.node, .int .u32 (u.inc : Int), .int .i64 u.st]) (by simp [results, Try.results17, go_sem, e0, e1, e2]) rfl ⟨rfl, ?_⟩
  have hle : w.heap.size ≤ X := Nat.le_of_eq HX.out
  exact (((HB.out.setCell (by exact hle) _).setCell (by exact hle) _).setCell (by exact hle) _).drew
set_option maxHeartbeats 4000000 in
theorem get_no (v : Value) (z : Int) (w : World) (h : NoRl w v) : Calls Try.prog 15 #[v, .int .i64 z] w fun e w' => e = .returned (.tuple #[.agg #[.int .i64 0, .int .u32 0, .int .i64 0], .bool false]) ∧ Below w.heap.size w w' := by
  have HM := Lib.hid (made_no v _ (h.below (below1 w (.cells #[.int .i64 0, .int .u32 0, .int .i64 0] 32))))
  clear h
  go_enter Try.func15, Try.ntmps15
  go_wp2_with fail
  refine HM.out.mono ?_
  rintro e w' ⟨rfl, rfl⟩
  go_wp2
  refine bodyPost_ret (v := .tuple #[.agg #[.int .i64 0, .int .u32 0, .int .i64 0], .bool false]) (by simp [results, Try.results15, go_sem]) rfl ⟨rfl, below1 _ _⟩
set_option maxHeartbeats 4000000 in
theorem get_any {B M n : Nat} {r : Ro} (z : Int) (hz : wfI z) (w : World) (h : RlAt w B M r n) : Calls Try.prog 15 #[.pointer (some ⟨B, 0, none⟩), .int .i64 z] w fun e w' => e = .returned (.tuple #[.agg #[.int .i64 (atU r.T z).node, .int .u32 ((atU r.T z).inc : Int), .int .i64 (atU r.T z).st], .bool (r.T z).isSome]) ∧ Below w.heap.size w w' := by
  have h1 := h.below (below1 w (.cells #[.int .i64 0, .int .u32 0, .int .i64 0] 32))
  obtain ⟨W, hW⟩ : ∃ W, w.alloc (.cells #[.int .i64 0, .int .u32 0, .int .i64 0] 32) = W := ⟨_, rfl⟩
  have k0 := heap_alloc_new w (.cells #[.int .i64 0, .int .u32 0, .int .i64 0] 32)
  have hb := below1 w (.cells #[.int .i64 0, .int .u32 0, .int .i64 0] 32)
  obtain ⟨X, hX⟩ : ∃ X, w.heap.size = X := ⟨_, rfl⟩
  rw [hW] at h1 k0 hb
  rw [hX] at k0
  have HM := Lib.hid (made_yes W h1)
  have hlk := h1.map.look hz
  obtain ⟨u, hu⟩ : ∃ u, atU r.T z = u := ⟨_, rfl⟩
  obtain ⟨is, his⟩ : ∃ u, (r.T z).isSome = u := ⟨_, rfl⟩
  rw [hu, his] at hlk
  rw [hu, his]
  unfold upV at hlk
  have c1 := h1.c1
  have hlt := block_lt k0
  have q := set3_blk (W := W) (X := X) k0 (.int .i64 u.node) (.int .u32 (u.inc : Int)) (.int .i64 u.st)
  obtain ⟨g0, g1, g2⟩ := blk3 ((heap_alloc_old _ (.cells #[.int .i64 u.node, .int .u32 (u.inc : Int), .int .i64 u.st] 32) (block_lt q)).trans q)
  have HG := Lib.hid (And.intro g0 (And.intro g1 g2))
  have HB := Lib.hid hb
  have HW := Lib.hid hW
  have HX := Lib.hid hX
  obtain ⟨d0, d1, d2⟩ := blk3 k0
  have f0 := blk_froz k0 0
  have f1 := blk_froz k0 1
  have f2 := blk_froz k0 2
  clear h h1 hu his hW hX hb k0 q g0 g1 g2
  go_enter Try.func15, Try.ntmps15
  go_wp2_with fail
  rw [HW.out, HX.out]
  refine HM.out.mono ?_
  rintro e w' ⟨rfl, rfl⟩
  go_wp2
  obtain ⟨e0, e1, e2⟩ := HG.out
  refine bodyPost_ret (v := .tuple #[.agg #[.int .i64 u.node, .int .u32 (u.inc : Int), .int .i64 u.st], .bool is]) (by simp [results, Try.results15, go_sem, e0, e1, e2]) rfl ⟨rfl, ?_⟩
  have hle : w.heap.size ≤ X := Nat.le_of_eq HX.out
  exact (((HB.out.setCell (by exact hle) _).setCell (by exact hle) _).setCell (by exact hle) _).alloc (by simp [World.setCell]; exact HB.out.size) _
end Go.Proofs.Ytmfokogckfoheaa
