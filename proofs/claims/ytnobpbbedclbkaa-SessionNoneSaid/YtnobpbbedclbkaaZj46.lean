/-
  The program's sessions: all that the laws want of them (layer 18).
-/
import Derived.Test.YtnobpbbedclbkaaZj35
import Derived.Test.YtnobpbbedclbkaaZj37
import Derived.Test.YtnobpbbedclbkaaZj38
import Derived.Test.YtnobpbbedclbkaaZj39
import Derived.Test.YtnobpbbedclbkaaZj43
import Derived.Test.YtnobpbbedclbkaaZj45
import Derived.Test.YtnobpbbedclbkaaZj8
namespace Go.Proofs.Ytnobpbbedclbkaa
end Go.Proofs.Ytnobpbbedclbkaa
/-
  The law's own nums, works (layer 18).
-/
namespace Go.Proofs.Ytnobpbbedclbkaa
open Go.RowKit
set_option linter.unusedSimpArgs false
set_option linter.unusedVariables false

set_option maxHeartbeats 2000000 in
theorem nums_any (A : Option Addr) (n c : Nat) (l : List Nat) (A2 : Option Addr) (c2 : Nat) (w : World) (hS : SK nuC 1 w A n l) (hS2 : SK nuC 1 w A2 n l) (hn : n ≤ maxLen) :
    Calls Try.prog 13 #[.slice A n c, .slice A2 n c2] w fun e w' => e = .returned (.bool true) ∧ Below w.heap.size w w' := by
  unfold maxLen at hn
  have hm : n ≤ 9223372036854775807 := by omega
  have HL := Lib.hid hS.1
  have HS := Lib.hid hS
  have HS2 := Lib.hid hS2
  have zz2 : (n != n) = false := by simp
  clear hS hS2 hn
  go_enter Try.func13, Try.ntmps13
  go_wp2
  go_loopw [5] (fun i wr => ∃ k : Nat, k ≤ n ∧ i = .int .i64 (k : Int) ∧ Hid (Below w.heap.size w wr)) (fun i _ => n - (intOf i).toNat)
  case atStart => exact ⟨0, Nat.zero_le _, rfl, Lib.hid (Below.refl _ _)⟩
  case round =>
    obtain ⟨k, hk, rfl, hb⟩ := hrel
    by_cases hlt : k < n
    · have hkl : k < l.length := by have := HL.out; omega
      obtain ⟨b, off, rfl, hbl, hit⟩ := (HS.out.below hb.out).at_ hlt hkl
      obtain ⟨b2, off2, rfl, hbl2, hit2⟩ := (HS2.out.below hb.out).at_ hlt hkl
      obtain ⟨x, hx⟩ : ∃ x, l[k] = x := ⟨_, rfl⟩
      rw [hx] at hit hit2
      have c0 := nu_cell hit
      have d0 := nu_cell hit2
      have q1 : (k : Int) < (n : Int) := by omega
      have q0 : (0 : Int) ≤ (k : Int) := by omega
      have q2 : ((x : Int) != (x : Int)) = false := by simp
      clear hx hit hit2
      go_wp2
      go_quiet (fail)
      go_wp2
      go_roundw
      case rel => exact ⟨k + 1, by omega, by go_num, Lib.hid (below_drewN hb.out nq)⟩
      case measure => simp [intOf]; omega
    · go_wp2
      go_ret
      exact ⟨rfl, hb.out⟩
set_option maxHeartbeats 2000000 in
theorem works_any (w : World) : Calls Try.prog 22 #[] w fun e w' => e = .returned (.bool true) ∧ Below w.heap.size w w' := by
  obtain ⟨g0, hg0⟩ : ∃ g0, w.heap.size = g0 := ⟨_, rfl⟩
  have HG0 := Lib.hid hg0
  have HN := Lib.hid (snew_any 9 w (by decide))
  rw [hg0] at HN ⊢
  have h9 : mostT 9 = 9 := by decide
  rw [h9] at HN
  clear hg0 h9
  go_enter Try.func22, Try.ntmps22
  go_wp2_with fail
  refine HN.out.mono ?_
  rintro e w1 ⟨B, Bt, rfl, hp, hb1⟩
  have HB1 := Lib.hid hb1
  have hop : (Ls.openS ⟨9, [], 0⟩ 2 7) = ((7, 0), ⟨9, [newS 2 7], 7⟩) := by rfl
  have ho := sopen_any 2 7 hp (by decide)
  rw [hop] at ho
  have HO : Hid (Calls Try.prog 9 #[.pointer (some ⟨B, 0, none⟩), .int .i64 2, .int .u64 7] w1 fun e w' => e = .returned (.tuple #[.int .u64 7, .int .i64 0]) ∧ SAt (fun k => g0 ≤ k ∨ w1.heap.size ≤ k) w' B Bt ⟨9, [newS 2 7], 7⟩ ∧ But (· = Bt) w1 w') := Lib.hid ho
  have hz1 : g0 ≤ w1.heap.size := by have := hb1.size; have := HG0.out; omega
  have hBt : g0 ≤ Bt := hp.tmine.1
  clear hp hb1 HN hop ho
  go_wp2_with fail
  refine HO.out.mono ?_
  rintro e w2 ⟨rfl, hp2, hb2⟩
  have HB2 : Hid (Below g0 w w2) := Lib.hid (HB1.out.trans (hb2.below hz1 fun j hj e => by omega))
  have hgt : getS [newS 2 7] 7 = some (newS 2 7) := by rfl
  have hg := sget_any 7 hp2 (by decide)
  simp only [hgt] at hg
  have HGt : Hid (Calls Try.prog 20 #[.pointer (some ⟨B, 0, none⟩), .int .u64 7] w2 fun e w' => e = .returned (.tuple #[.agg #[.int .u64 7, .int .i64 2, .int .u64 7, .int .u64 7], .bool true]) ∧ Below w2.heap.size w2 w') := Lib.hid hg
  have hz2 : g0 ≤ w2.heap.size := by have := HB2.out.size; have := HG0.out; omega
  clear hp2 hb2 HO hgt hg
  go_wp2_with fail
  refine HGt.out.mono ?_
  rintro e w3 ⟨rfl, hb3⟩
  have HB3 : Hid (Below g0 w w3) := Lib.hid (HB2.out.trans (hb3.mono hz2))
  have hz3 : g0 ≤ w3.heap.size := by have := HB3.out.size; have := HG0.out; omega
  have ug := sn_guard
  have ue0 := sn_eq (newS 2 7) (newS 2 7)
  rw [(eqSn_iff _ _).2 rfl] at ue0
  have ue : ∀ W : World, (Op.equalIn 10000 TSn (.agg #[.int .u64 7, .int .i64 2, .int .u64 7, .int .u64 7]) (.agg #[.int .u64 7, .int .i64 2, .int .u64 7, .int .u64 7])).run Try.prog W = .ok true W := ue0
  clear ue0
  have HB4 := fun o => Lib.hid (HB3.out.alloc hz3 o)
  clear hb3 HGt
  go_wp2
  go_ret
  exact ⟨rfl, (HB4 _).out⟩
end Go.Proofs.Ytnobpbbedclbkaa
/-
  What is not there, and what no call made, has no sessions: the law SessionNone, walked (layer 18).
-/
namespace Go.Proofs.Ytnobpbbedclbkaa
open Go.RowKit
set_option linter.unusedSimpArgs false
set_option linter.unusedVariables false

set_option maxHeartbeats 8000000 in
set_option maxRecDepth 100000 in
theorem none_walk (s : NSt) (w : World) (hs : s.Ok) : Calls Try.prog 6 #[.agg #[.int .i64 s.kind, .int .i64 s.node, .int .u64 (s.id : Int), .int .u64 (s.ix : Int)]] w fun e w' => e = .returned (.bool true) ∧ Below w.heap.size w w' := by
  have HWk := Lib.hid works_any
  have HId := Lib.hid hs.id
  obtain ⟨kind, node, nid, ix⟩ := s
  simp only at HId ⊢
  have HOp := Lib.hid (fun (p : Option Addr) (W : World) (h : NoS W p) => sopen_no node ix h)
  have HGe : Hid (∀ (p : Option Addr) (W : World), NoS W p → Calls Try.prog 20 #[.pointer p, .int .u64 (nid : Int)] W fun e w' => e = .returned (.tuple #[.agg #[.int .u64 0, .int .i64 0, .int .u64 0, .int .u64 0], .bool false]) ∧ Below W.heap.size W w') := Lib.hid fun p W h => sget_no nid h HId.out
  have HCl : Hid (∀ (p : Option Addr) (W : World), NoS W p → Calls Try.prog 11 #[.pointer p, .int .u64 (nid : Int), .int .u64 1] W fun e w' => e = .returned (.int .i64 1) ∧ Below W.heap.size W w') := Lib.hid fun p W h => sclose_no nid 1 h HId.out
  have HNo : Hid (∀ (p : Option Addr) (W : World), NoS W p → Calls Try.prog 14 #[.pointer p, .int .i64 node, .int .u64 1] W fun e w' => ∃ A c, e = .returned (.slice A 0 c) ∧ Below W.heap.size W w') := Lib.hid fun p W h => snode_no node 1 h
  clear hs
  obtain ⟨X, hX⟩ : ∃ X, w.heap.size = X := ⟨_, rfl⟩
  obtain ⟨W1, hW1⟩ : ∃ W1, w.alloc (.cells #[.int .i64 kind, .int .i64 node, .int .u64 (nid : Int), .int .u64 (ix : Int)] 29) = W1 := ⟨_, rfl⟩
  obtain ⟨W3, hW3⟩ : ∃ W3, (W1.alloc (.cells #[.pointer none] 59)).alloc (.cells #[.pointer none, .pointer (some ⟨X + 1, 0, none⟩)] 23) = W3 := ⟨_, rfl⟩
  have s1 : W1.heap.size = X + 1 := by rw [← hW1]; simp [hX]
  have k0 : W1.heap[X]? = some (.cells #[.int .i64 kind, .int .i64 node, .int .u64 (nid : Int), .int .u64 (ix : Int)] 29 (0, 0)) := by rw [← hW1, ← hX]; exact heap_alloc_new w _
  have s2 : (W1.alloc (.cells #[.pointer none] 59)).heap.size = X + 2 := by simp [s1]
  have j1 : (W1.alloc (.cells #[.pointer none] 59)).heap[X + 1]? = some (.cells #[.pointer none] 59 (0, 0)) := by rw [← s1]; exact heap_alloc_new W1 _
  have k1 : W3.heap[X + 1]? = some (.cells #[.pointer none] 59 (0, 0)) := by
    rw [← hW3]
    exact ((below1 _ _ _).block (X + 1) (by omega)).trans j1
  have k2 : W3.heap[X + 2]? = some (.cells #[.pointer none, .pointer (some ⟨X + 1, 0, none⟩)] 23 (0, 0)) := by rw [← hW3, ← s2]; exact heap_alloc_new _ _
  have b3 : Below W1.heap.size W1 W3 := by rw [← hW3]; exact (below1 W1 _ _).alloc (by simp) _
  have HB3 : Hid (Below w.heap.size w W3) := Lib.hid ((by rw [← hW1]; exact below1 _ _ _ : Below w.heap.size w W1).trans (b3.mono (by omega)))
  have HK0 := Lib.hid ((b3.block X (by omega)).trans k0)
  have HK1 := Lib.hid k1
  have HK2 := Lib.hid k2
  have HW1 := Lib.hid hW1
  have HW3 := Lib.hid hW3
  have HX := Lib.hid hX
  clear hX hW1 hW3 s1 k0 s2 j1 k1 k2 b3
  go_enter Try.func6, Try.ntmps6
  go_wp2_with fail
  rw [HW1.out, HX.out, HW3.out]
  go_loopw [5] (fun iv wr => ∃ k : Nat, k ≤ 2 ∧ iv = .int .i64 (k : Int) ∧ Hid (Below W3.heap.size W3 wr)) (fun iv _ => 2 - (intOf iv).toNat)
  case atStart => exact ⟨0, by omega, rfl, Lib.hid (Below.refl _ _)⟩
  case round =>
    obtain ⟨k, hk, rfl, hb⟩ := hrel
    by_cases hlt : k < 2
    · have kr0 := (hb.out.block X (block_lt HK0.out)).trans HK0.out
      have kr1 := (hb.out.block (X + 1) (block_lt HK1.out)).trans HK1.out
      have kr2 := (hb.out.block (X + 2) (block_lt HK2.out)).trans HK2.out
      obtain ⟨p, hp, hno⟩ : ∃ p : Option Addr, wr.cell? ⟨X + 2, k, none⟩ = some (.pointer p) ∧ NoS wr p := by
        rcases (show k = 0 ∨ k = 1 by omega) with rfl | rfl
        · exact ⟨none, cellsN kr2 0 _ rfl, ⟨.inl rfl⟩⟩
        · exact ⟨some ⟨X + 1, 0, none⟩, cellsN kr2 1 _ rfl, ⟨.inr ⟨X + 1, rfl, kr1⟩⟩⟩
      obtain ⟨c0, c1, c2, c3⟩ := st_blk kr0
      have g0 : (0 : Int) ≤ (k : Int) := by omega
      have g1 : (k : Int) < 2 := by omega
      have HNo0 := Lib.hid hno
      have HKr := Lib.hid kr0
      have hz0 := HB3.out.size
      have HBr : Hid (Below W3.heap.size W3 wr) := hb
      clear kr0 kr1 kr2 hno
      go_wp2_with fail
      refine (HOp.out p wr HNo0.out).mono ?_
      rintro e w4 ⟨rfl, hb4⟩
      have HB4 : Hid (Below wr.heap.size wr w4) := Lib.hid hb4
      have kr4 := (hb4.block X (block_lt HKr.out)).trans HKr.out
      clear c0 c1 c2 c3 hb4 hp
      obtain ⟨c0, c1, c2, c3⟩ := st_blk kr4
      clear kr4
      go_wp2_with fail
      refine (HGe.out p w4 (HNo0.out.below HB4.out)).mono ?_
      rintro e w5 ⟨rfl, hb5⟩
      have HB5 : Hid (Below wr.heap.size wr w5) := Lib.hid (HB4.out.trans (hb5.mono HB4.out.size))
      obtain ⟨V, hV⟩ : ∃ V, w5.alloc (.cells #[.int .u64 0, .int .i64 0, .int .u64 0, .int .u64 0] TSn) = V := ⟨_, rfl⟩
      have hbv : Below wr.heap.size wr V := by rw [← hV]; exact HB5.out.alloc HB5.out.size _
      have hkv : V.heap[w5.heap.size]? = some (.cells #[.int .u64 0, .int .i64 0, .int .u64 0, .int .u64 0] TSn (0, 0)) := by rw [← hV]; exact heap_alloc_new w5 _
      have hxv := (hbv.block X (block_lt HKr.out)).trans HKr.out
      clear c0 c1 c2 c3 hb5
      obtain ⟨c0, c1, c2, c3⟩ := st_blk hxv
      rw [← hV] at c0 c1 c2 c3
      have HV := Lib.hid hV
      have HBv := Lib.hid hbv
      have HKv := Lib.hid hkv
      have ug := sn_guard
      have ue0 := sn_eq ⟨0, 0, 0, 0⟩ ⟨0, 0, 0, 0⟩
      rw [(eqSn_iff _ _).2 rfl] at ue0
      have ue : ∀ W : World, (Op.equalIn 10000 TSn (.agg #[.int .u64 0, .int .i64 0, .int .u64 0, .int .u64 0]) (.agg #[.int .u64 0, .int .i64 0, .int .u64 0, .int .u64 0])).run Try.prog W = .ok true W := ue0
      clear ue0 hV hbv hkv hxv
      go_wp2_with fail
      refine (HCl.out p (w5.alloc (.cells #[.int .u64 0, .int .i64 0, .int .u64 0, .int .u64 0] TSn)) (HNo0.out.below (by rw [HV.out]; exact HBv.out))).mono ?_
      rintro e w6 ⟨rfl, hb6⟩
      rw [HV.out] at hb6
      have HB6 : Hid (Below wr.heap.size wr w6) := Lib.hid (HBv.out.trans (hb6.mono HBv.out.size))
      have HKv6 := Lib.hid ((hb6.block w5.heap.size (block_lt HKv.out)).trans HKv.out)
      have kr6 := (HB6.out.block X (block_lt HKr.out)).trans HKr.out
      clear c0 c1 c2 c3 hb6
      obtain ⟨c0, c1, c2, c3⟩ := st_blk kr6
      clear kr6
      go_wp2_with fail
      refine (HNo.out p w6 (HNo0.out.below HB6.out)).mono ?_
      rintro e w7 ⟨A7, c7, rfl, hb7⟩
      have HB7 : Hid (Below wr.heap.size wr w7) := Lib.hid (HB6.out.trans (hb7.mono HB6.out.size))
      obtain ⟨a0, a1, a2, a3⟩ := sn_blk ((hb7.block w5.heap.size (block_lt HKv6.out)).trans HKv6.out)
      clear c0 c1 c2 c3 hb7
      go_wp2_with fail
      refine (slist_no (HNo0.out.below HB7.out)).mono ?_
      rintro e w8 ⟨A8, c8, rfl, hb8⟩
      have HB8 : Hid (Below wr.heap.size wr w8) := Lib.hid (HB7.out.trans (hb8.mono HB7.out.size))
      clear a0 a1 a2 a3 hb8 ug ue
      go_wp2_with fail
      refine (slast_no (HNo0.out.below HB8.out)).mono ?_
      rintro e w9 ⟨rfl, rfl⟩
      go_wp2_with fail
      refine (scopy_no (HNo0.out.below HB8.out)).mono ?_
      rintro e w9 ⟨rfl, hb9⟩
      have HB9 : Hid (Below W3.heap.size W3 w9) := Lib.hid (HBr.out.trans ((HB8.out.trans (hb9.mono HB8.out.size)).mono HBr.out.size))
      clear hb9
      go_wp2
      go_roundw
      case rel => exact ⟨k + 1, by omega, by go_num, HB9⟩
      case measure => simp [intOf]; omega
    · have g1 : ¬ (k : Int) < 2 := by omega
      have HBw := Lib.hid (HB3.out.trans (hb.out.mono HB3.out.size))
      go_wp2_with fail
      refine (HWk.out wr).mono ?_
      rintro e w9 ⟨rfl, hb9⟩
      have HB9 := Lib.hid (HBw.out.trans (hb9.mono HBw.out.size))
      clear hb9
      go_wp2
      go_ret
      exact ⟨rfl, HB9.out⟩
end Go.Proofs.Ytnobpbbedclbkaa
