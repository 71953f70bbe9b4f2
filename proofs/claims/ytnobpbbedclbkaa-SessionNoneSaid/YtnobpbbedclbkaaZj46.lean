/-
  What is not there, and what no call made, has no sessions: the law SessionNone, walked (layer 18).
-/
import Derived.Test.YtnobpbbedclbkaaZj9
import Derived.Test.YtnobpbbedclbkaaZj45
namespace Go.Proofs.Ytnobpbbedclbkaa
open Go.RowKit
set_option linter.unusedSimpArgs false
set_option linter.unusedVariables false

set_option maxHeartbeats 8000000 in
set_option maxRecDepth 100000 in
theorem none_walk (s : NSt) (w : World) (hs : s.Ok) : Calls Try.prog 6 #[.agg #[.int .i64 s.kind, .int .i64 s.node, .int .u64 (s.id : Int), .int .u64 (s.ix : Int)]] w fun e w' => e = .returned (.bool true) ∧ Below w.heap.size w w' := by
  have HWk := Lib.hid works_any
  have HId := Lib.hid hs.id
  obtain ⟨kind, node, nid, ix⟩ := s
  simp only at HId ⊢
  have HOp := Lib.hid (fun (p : Option Addr) (W : World) (h : NoS W p) => sopen_no node ix h)
  have HGe : Hid (∀ (p : Option Addr) (W : World), NoS W p → Calls Try.prog 20 #[.pointer p, .int .u64 (nid : Int)] W fun e w' => e = .returned (.tuple #[.agg #[.int .u64 0, .int .i64 0, .int .u64 0, .int .u64 0], .bool false]) ∧ Below W.heap.size W w') := Lib.hid fun p W h => sget_no nid h HId.out
  have HCl : Hid (∀ (p : Option Addr) (W : World), NoS W p → Calls Try.prog 11 #[.pointer p, .int .u64 (nid : Int), .int .u64 1] W fun e w' => e = .returned (.int .i64 1) ∧ Below W.heap.size W w') := Lib.hid fun p W h => sclose_no nid 1 h HId.out
  have HNo : Hid (∀ (p : Option Addr) (W : World), NoS W p → Calls Try.prog 14 #[.pointer p, .int .i64 node, .int .u64 1] W fun e w' => ∃ A c, e = .returned (.slice A 0 c) ∧ Below W.heap.size W w') := Lib.hid fun p W h => snode_no node 1 h
  clear hs
  obtain ⟨X, hX⟩ : ∃ X, w.heap.size = X := ⟨_, rfl⟩
  obtain ⟨W1, hW1⟩ : ∃ W1, w.alloc (.cells #[.int .i64 kind, .int .i64 node, .int .u64 (nid : Int), .int .u64 (ix : Int)] 29) = W1 := ⟨_, rfl⟩
  obtain ⟨W3, hW3⟩ : ∃ W3, (W1.alloc (.cells #[.pointer none] 59)).alloc (.cells #[.pointer none, .pointer (some ⟨X + 1, 0, none⟩)] 23) = W3 := ⟨_, rfl⟩
  have s1 : W1.heap.size = X + 1 := by rw [← hW1]; simp [hX]
  have k0 : W1.heap[X]? = some (.cells #[.int .i64 kind, .int .i64 node, .int .u64 (nid : Int), .int .u64 (ix : Int)] 29 (0, 0)) := by rw [← hW1, ← hX]; exact heap_alloc_new w _
  have s2 : (W1.alloc (.cells #[.pointer none] 59)).heap.size = X + 2 := by simp [s1]
  have j1 : (W1.alloc (.cells #[.pointer none] 59)).heap[X + 1]? = some (.cells #[.pointer none] 59 (0, 0)) := by rw [← s1]; exact heap_alloc_new W1 _
  have k1 : W3.heap[X + 1]? = some (.cells #[.pointer none] 59 (0, 0)) := by
    rw [← hW3]
    exact ((below1 _ _ _).block (X + 1) (by omega)).trans j1
  have k2 : W3.heap[X + 2]? = some (.cells #[.pointer none, .pointer (some ⟨X + 1, 0, none⟩)] 23 (0, 0)) := by rw [← hW3, ← s2]; exact heap_alloc_new _ _
  have b3 : Below W1.heap.size W1 W3 := by rw [← hW3]; exact (below1 W1 _ _).alloc (by simp) _
  have HB3 : Hid (Below w.heap.size w W3) := Lib.hid ((by rw [← hW1]; exact below1 _ _ _ : Below w.heap.size w W1).trans (b3.mono (by omega)))
  have HK0 := Lib.hid ((b3.block X (by omega)).trans k0)
  have HK1 := Lib.hid k1
  have HK2 := Lib.hid k2
  have HW1 := Lib.hid hW1
  have HW3 := Lib.hid hW3
  have HX := Lib.hid hX
  clear hX hW1 hW3 s1 k0 s2 j1 k1 k2 b3
  go_enter Try.func6, Try.ntmps6
  go_wp2_with fail
  rw [HW1.out, HX.out, HW3.out]
  go_loopw [5] (fun iv wr => ∃ k : Nat, k ≤ 2 ∧ iv = .int .i64 (k : Int) ∧ Hid (Below W3.heap.size W3 wr)) (fun iv _ => 2 - (intOf iv).toNat)
  case atStart => exact ⟨0, by omega, rfl, Lib.hid (Below.refl _ _)⟩
  case round =>
    obtain ⟨k, hk, rfl, hb⟩ := hrel
    by_cases hlt : k < 2
    · have kr0 := (hb.out.block X (block_lt HK0.out)).trans HK0.out
      have kr1 := (hb.out.block (X + 1) (block_lt HK1.out)).trans HK1.out
      have kr2 := (hb.out.block (X + 2) (block_lt HK2.out)).trans HK2.out
      obtain ⟨p, hp, hno⟩ : ∃ p : Option Addr, wr.cell? ⟨X + 2, k, none⟩ = some (.pointer p) ∧ NoS wr p := by
        rcases (show k = 0 ∨ k = 1 by omega) with rfl | rfl
        · exact ⟨none, cellsN kr2 0 _ rfl, ⟨.inl rfl⟩⟩
        · exact ⟨some ⟨X + 1, 0, none⟩, cellsN kr2 1 _ rfl, ⟨.inr ⟨X + 1, rfl, kr1⟩⟩⟩
      obtain ⟨c0, c1, c2, c3⟩ := st_blk kr0
      have g0 : (0 : Int) ≤ (k : Int) := by omega
      have g1 : (k : Int) < 2 := by omega
      have HNo0 := Lib.hid hno
      have HKr := Lib.hid kr0
      have hz0 := HB3.out.size
      have HBr : Hid (Below W3.heap.size W3 wr) := hb
      clear kr0 kr1 kr2 hno
      go_wp2_with fail
      refine (HOp.out p wr HNo0.out).mono ?_
      rintro e w4 ⟨rfl, hb4⟩
      have HB4 : Hid (Below wr.heap.size wr w4) := Lib.hid hb4
      have kr4 := (hb4.block X (block_lt HKr.out)).trans HKr.out
      clear c0 c1 c2 c3 hb4 hp
      obtain ⟨c0, c1, c2, c3⟩ := st_blk kr4
      clear kr4
      go_wp2_with fail
      refine (HGe.out p w4 (HNo0.out.below HB4.out)).mono ?_
      rintro e w5 ⟨rfl, hb5⟩
      have HB5 : Hid (Below wr.heap.size wr w5) := Lib.hid (HB4.out.trans (hb5.mono HB4.out.size))
      obtain ⟨V, hV⟩ : ∃ V, w5.alloc (.cells #[.int .u64 0, .int .i64 0, .int .u64 0, .int .u64 0] TSn) = V := ⟨_, rfl⟩
      have hbv : Below wr.heap.size wr V := by rw [← hV]; exact HB5.out.alloc HB5.out.size _
      have hkv : V.heap[w5.heap.size]? = some (.cells #[.int .u64 0, .int .i64 0, .int .u64 0, .int .u64 0] TSn (0, 0)) := by rw [← hV]; exact heap_alloc_new w5 _
      have hxv := (hbv.block X (block_lt HKr.out)).trans HKr.out
      clear c0 c1 c2 c3 hb5
      obtain ⟨c0, c1, c2, c3⟩ := st_blk hxv
      rw [← hV] at c0 c1 c2 c3
      have HV := Lib.hid hV
      have HBv := Lib.hid hbv
      have HKv := Lib.hid hkv
      have ug := sn_guard
      have ue0 := sn_eq ⟨0, 0, 0, 0⟩ ⟨0, 0, 0, 0⟩
      rw [(eqSn_iff _ _).2 rfl] at ue0
      have ue : ∀ W : World, (Op.equalIn 10000 TSn (.agg #[.int .u64 0, .int .i64 0, .int .u64 0, .int .u64 0]) (.agg #[.int .u64 0, .int .i64 0, .int .u64 0, .int .u64 0])).run Try.prog W = .ok true W := ue0
      clear ue0 hV hbv hkv hxv
      go_wp2_with fail
      refine (HCl.out p (w5.alloc (.cells #[.int .u64 0, .int .i64 0, .int .u64 0, .int .u64 0] TSn)) (HNo0.out.below (by rw [HV.out]; exact HBv.out))).mono ?_
      rintro e w6 ⟨rfl, hb6⟩
      rw [HV.out] at hb6
      have HB6 : Hid (Below wr.heap.size wr w6) := Lib.hid (HBv.out.trans (hb6.mono HBv.out.size))
      have HKv6 := Lib.hid ((hb6.block w5.heap.size (block_lt HKv.out)).trans HKv.out)
      have kr6 := (HB6.out.block X (block_lt HKr.out)).trans HKr.out
      clear c0 c1 c2 c3 hb6
      obtain ⟨c0, c1, c2, c3⟩ := st_blk kr6
      clear kr6
      go_wp2_with fail
      refine (HNo.out p w6 (HNo0.out.below HB6.out)).mono ?_
      rintro e w7 ⟨A7, c7, rfl, hb7⟩
      have HB7 : Hid (Below wr.heap.size wr w7) := Lib.hid (HB6.out.trans (hb7.mono HB6.out.size))
      obtain ⟨a0, a1, a2, a3⟩ := sn_blk ((hb7.block w5.heap.size (block_lt HKv6.out)).trans HKv6.out)
      clear c0 c1 c2 c3 hb7
      go_wp2_with fail
      refine (slist_no (HNo0.out.below HB7.out)).mono ?_
      rintro e w8 ⟨A8, c8, rfl, hb8⟩
      have HB8 : Hid (Below wr.heap.size wr w8) := Lib.hid (HB7.out.trans (hb8.mono HB7.out.size))
      clear a0 a1 a2 a3 hb8 ug ue
      go_wp2_with fail
      refine (slast_no (HNo0.out.below HB8.out)).mono ?_
      rintro e w9 ⟨rfl, rfl⟩
      go_wp2_with fail
      refine (scopy_no (HNo0.out.below HB8.out)).mono ?_
      rintro e w9 ⟨rfl, hb9⟩
      have HB9 : Hid (Below W3.heap.size W3 w9) := Lib.hid (HBr.out.trans ((HB8.out.trans (hb9.mono HB8.out.size)).mono HBr.out.size))
      clear hb9
      go_wp2
      go_roundw
      case rel => exact ⟨k + 1, by omega, by go_num, HB9⟩
      case measure => simp [intOf]; omega
    · have g1 : ¬ (k : Int) < 2 := by omega
      have HBw := Lib.hid (HB3.out.trans (hb.out.mono HB3.out.size))
      go_wp2_with fail
      refine (HWk.out wr).mono ?_
      rintro e w9 ⟨rfl, hb9⟩
      have HB9 := Lib.hid (HBw.out.trans (hb9.mono HBw.out.size))
      clear hb9
      go_wp2
      go_ret
      exact ⟨rfl, HB9.out⟩
end Go.Proofs.Ytnobpbbedclbkaa
