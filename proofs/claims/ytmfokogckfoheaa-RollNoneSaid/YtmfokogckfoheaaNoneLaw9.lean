/-
  A roll that is not there, and one that no call made, believes nothing: the law sodalitylaw09.RollNone over the contracts (layer 9).
-/
import Derived.Test.YtmfokogckfoheaaRoWorks
namespace Go.Proofs.Ytmfokogckfoheaa
open Go.RowKit Go.Maps
set_option linter.unusedSimpArgs false
set_option linter.unusedVariables false

/-- The world of RollNone: its update's variable, the rolls' row. -/
structure NnIn (w W : World) (X : Nat) (u : Up) : Prop where
  below : Below w.heap.size w W
  b0 : W.heap[X]? = some (.cells #[.int .i64 u.node, .int .u32 (u.inc : Int), .int .i64 u.st] 32)
  b1 : W.heap[X + 1]? = some (.cells #[.int .i64 0, .map none] 63 (0, 0))
  b2 : W.heap[X + 1 + 1]? = some (.cells #[.pointer none, .pointer (some ⟨X + 1, 0, none⟩)] 24 (0, 0))
theorem NnIn.then_ {w W W' : World} {X : Nat} {u : Up} (h : NnIn w W X u) (hb : Below W.heap.size W W') : NnIn w W' X u :=
  ⟨h.below.trans (hb.mono h.below.size), (hb.block _ (block_lt h.b0)).trans h.b0, (hb.block _ (block_lt h.b1)).trans h.b1, (hb.block _ (block_lt h.b2)).trans h.b2⟩
theorem NnIn.at_ {w W : World} {X : Nat} {u : Up} (h : NnIn w W X u) {k : Nat} (hk : k < 2) : ∃ p : Option Addr, W.cell? ⟨X + 1 + 1, k, none⟩ = some (.pointer p) ∧ (p = none ∨ p = some ⟨X + 1, 0, none⟩) := by
  have hk' : k = 0 ∨ k = 1 := by omega
  rcases hk' with rfl | rfl
  · exact ⟨none, by rw [cell_of_row _ _ _ _ _ _ h.b2]; rfl, .inl rfl⟩
  · exact ⟨some ⟨X + 1, 0, none⟩, by rw [cell_of_row _ _ _ _ _ _ h.b2]; rfl, .inr rfl⟩
theorem NnIn.no {w W : World} {X : Nat} {u : Up} (h : NnIn w W X u) {p : Option Addr} (hp : p = none ∨ p = some ⟨X + 1, 0, none⟩) : NoRl W (.pointer p) := by
  rcases hp with rfl | rfl
  · exact .inl rfl
  · exact .inr ⟨X + 1, rfl, h.b1⟩
set_option maxHeartbeats 16000000 in
set_option maxRecDepth 100000 in
theorem none_walk (u : Up) (w : World) (hu : wfI u.node) :
    Calls Try.prog 7 #[.agg #[.int .i64 u.node, .int .u32 (u.inc : Int), .int .i64 u.st]] w fun e w' => e = .returned (.bool true) ∧ Below w.heap.size w w' := by
  obtain ⟨X, hX⟩ : ∃ X, w.heap.size = X := ⟨_, rfl⟩
  obtain ⟨W, hW⟩ : ∃ W, ((w.alloc (.cells #[.int .i64 u.node, .int .u32 (u.inc : Int), .int .i64 u.st] 32)).alloc (.cells #[.int .i64 0, .map none] 63)).alloc (.cells #[.pointer none, .pointer (some ⟨X + 1, 0, none⟩)] 24) = W := ⟨_, rfl⟩
  have hI : NnIn w W X u := by
    rw [← hW]
    subst hX
    refine ⟨(below2 w _ _).alloc (by simp; omega) _, ?_, ?_, ?_⟩
    · rw [Below.heap_alloc _ _ _ (by simp; omega), Below.heap_alloc _ _ _ (by simp)]
      exact heap_alloc_new w _
    · rw [Below.heap_alloc _ _ _ (by simp)]
      have := heap_alloc_new (w.alloc (.cells #[.int .i64 u.node, .int .u32 (u.inc : Int), .int .i64 u.st] 32)) (.cells #[.int .i64 0, .map none] 63)
      simpa using this
    · have := heap_alloc_new ((w.alloc (.cells #[.int .i64 u.node, .int .u32 (u.inc : Int), .int .i64 u.st] 32)).alloc (.cells #[.int .i64 0, .map none] 63)) (.cells #[.pointer none, .pointer (some ⟨w.heap.size + 1, 0, none⟩)] 24)
      simpa using this
  have HI := Lib.hid hI
  have HX := Lib.hid hX
  have HW := Lib.hid hW
  have HU := Lib.hid hu
  have HWk := Lib.hid (fun w => works_any w)
  clear hI hX hW hu
  go_enter Try.func7, Try.ntmps7
  go_wp2
  rw [HX.out, HW.out]
  go_loopw [5] (fun i wr => ∃ k : Nat, k ≤ 2 ∧ i = .int .i64 (k : Int) ∧ Hid (NnIn w wr X u)) (fun i _ => 2 - (intOf i).toNat)
  case atStart => exact ⟨0, Nat.zero_le _, rfl, HI⟩
  case round =>
    obtain ⟨k, hk, rfl, H_wr⟩ := hrel
    by_cases hlt : k < 2
    · have q1 : (k : Int) < 2 := by omega
      have q0 : (0 : Int) ≤ (k : Int) := by omega
      obtain ⟨p, hp, hno⟩ := H_wr.out.at_ hlt
      have HNo := Lib.hid hno
      clear hno
      go_wp2_with fail
      refine (leave_no (.pointer p) wr (H_wr.out.no HNo.out)).mono ?_
      rintro e w1 ⟨rfl, hb⟩
      have H_w1 := Lib.hid (H_wr.out.then_ hb)
      clear hb hp
      have hb := below1 w1 (.cells #[.int .i64 0, .int .u32 0, .int .i64 0] 32)
      have hk := heap_alloc_new w1 (.cells #[.int .i64 0, .int .u32 0, .int .i64 0] 32)
      obtain ⟨Ya, hY⟩ : ∃ Y, w1.heap.size = Y := ⟨_, rfl⟩
      obtain ⟨w2, hw⟩ : ∃ w2, w1.alloc (.cells #[.int .i64 0, .int .u32 0, .int .i64 0] 32) = w2 := ⟨_, rfl⟩
      rw [hw] at hb hk
      rw [hY] at hk
      have HN_w2 := Lib.hid hw
      have HS_w2 := Lib.hid hY
      have H_w2 := Lib.hid (H_w1.out.then_ hb)
      clear hb hw hY
      obtain ⟨c0, c1, c2⟩ := blk3 H_w1.out.b0
      have hXl := block_lt H_w1.out.b0
      have HKa2 := Lib.hid hk
      clear hk
      go_wp2_with fail
      rw [HN_w2.out, HS_w2.out]
      refine (get_no (.pointer p) u.node w2 (H_w2.out.no HNo.out)).mono ?_
      rintro e w3 ⟨rfl, hb⟩
      have H_w3 := Lib.hid (H_w2.out.then_ hb)
      have HKa3 := Lib.hid ((hb.block Ya (block_lt HKa2.out)).trans HKa2.out)
      clear hb c0 c1 c2 hXl
      have hb := below1 w3 (.cells #[.int .i64 0, .int .u32 0, .int .i64 0] 32)
      have hk := heap_alloc_new w3 (.cells #[.int .i64 0, .int .u32 0, .int .i64 0] 32)
      obtain ⟨Yb, hY⟩ : ∃ Y, w3.heap.size = Y := ⟨_, rfl⟩
      obtain ⟨w4, hw⟩ : ∃ w2, w3.alloc (.cells #[.int .i64 0, .int .u32 0, .int .i64 0] 32) = w2 := ⟨_, rfl⟩
      rw [hw] at hb hk
      rw [hY] at hk
      have HN_w4 := Lib.hid hw
      have HS_w4 := Lib.hid hY
      have H_w4 := Lib.hid (H_w3.out.then_ hb)
      have HKa4 := Lib.hid ((hb.block Ya (block_lt HKa3.out)).trans HKa3.out)
      have HKb4 := Lib.hid hk
      clear hb hw hY hk
      obtain ⟨c0, c1, c2⟩ := blk3 H_w3.out.b0
      have hXl := block_lt H_w3.out.b0
      go_wp2_with fail
      rw [HN_w4.out, HS_w4.out]
      refine (apply_no (.pointer p) u w4 (H_w4.out.no HNo.out)).mono ?_
      rintro e w5 ⟨rfl, hb⟩
      have H_w5 := Lib.hid (H_w4.out.then_ hb)
      obtain ⟨a0, a1, a2⟩ := blk3 ((hb.block Ya (block_lt HKa4.out)).trans HKa4.out)
      obtain ⟨b0, b1, b2⟩ := blk3 ((hb.block Yb (block_lt HKb4.out)).trans HKb4.out)
      clear hb c0 c1 c2 hXl
      have cg := ch_guard
      have ce : ∀ w, (Op.equalIn 10000 38 (.agg #[.int .i64 0, .int .i64 0, .int .u32 0, .int .i64 0, .int .i64 0, .int .u32 0, .int .i64 0]) (.agg #[.int .i64 0, .int .i64 0, .int .u32 0, .int .i64 0, .int .i64 0, .int .u32 0, .int .i64 0])).run Try.prog w = .ok true w := fun w => by have := ch_eq 0 0 zU zU zU zU w; rw [decide_eq_true ⟨rfl, rfl, rfl⟩] at this; exact this
      have ug := up_guard
      have ue : ∀ w, (Op.equalIn 10000 32 (.agg #[.int .i64 0, .int .u32 0, .int .i64 0]) (.agg #[.int .i64 0, .int .u32 0, .int .i64 0])).run Try.prog w = .ok true w := fun w => by have := up_eq zU zU w; rw [decide_eq_true rfl] at this; exact this
      go_wp2_with fail
      refine (self_no (.pointer p) w5 (H_w5.out.no HNo.out)).mono ?_
      rintro e w6 ⟨rfl, hb⟩
      have H_w6 := Lib.hid (H_w5.out.then_ hb)
      clear hb a0 a1 a2 b0 b1 b2
      go_wp2_with fail
      refine (list_no (.pointer p) w6 (H_w6.out.no HNo.out)).mono ?_
      rintro e w7 ⟨rfl, hb⟩
      have H_w7 := Lib.hid (H_w6.out.then_ hb)
      clear hb
      go_wp2_with fail
      refine (live_no (.pointer p) w7 (H_w7.out.no HNo.out)).mono ?_
      rintro e w8 ⟨rfl, hb⟩
      have H_w8 := Lib.hid (H_w7.out.then_ hb)
      clear hb
      go_wp2_with fail
      refine (peers_no p w8 (H_w8.out.no HNo.out)).mono ?_
      rintro e w9 ⟨rfl, hb⟩
      have H_w9 := Lib.hid (H_w8.out.then_ hb)
      clear hb ce cg ue ug
      go_wp2
      go_roundw
      case rel => exact ⟨k + 1, by omega, by go_num, H_w9⟩
      case measure => simp [intOf]; omega
    · obtain rfl : k = 2 := by omega
      go_wp2_with fail
      refine (HWk.out _).mono ?_
      rintro e w9 ⟨rfl, hb⟩
      have HB := Lib.hid (H_wr.out.then_ hb).below
      clear hb
      go_wp2
      go_ret
      exact ⟨rfl, HB.out⟩
end Go.Proofs.Ytmfokogckfoheaa
