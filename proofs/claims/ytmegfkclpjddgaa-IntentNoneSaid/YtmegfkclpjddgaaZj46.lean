/-
  What is not there, and what no call made, has no intentions: the law IntentNone, walked (layer 17).
-/
import Derived.Test.YtmegfkclpjddgaaZj45
import Derived.Lib.QuietBelow
import Derived.BigQuiet
namespace Go.Proofs.Ytmegfkclpjddgaa
open Go.RowKit Go.Sort
set_option linter.unusedSimpArgs false
set_option linter.unusedVariables false

theorem list_nil {w : World} {p : Option Addr} (h : NoIn w p) : Calls Try.prog 17 #[.pointer p] w fun e w' => e = .returned (.slice none 0 0) ∧ Below w.heap.size w w' := by
  have HT := Lib.hid (table_no h)
  have HL := Lib.hid (It.list_no (w := w) (p := none) ⟨.inl rfl⟩)
  clear h
  go_enter Try.func17, Try.ntmps17
  go_wp2_with fail
  refine HT.out.mono ?_
  rintro e w' ⟨rfl, rfl⟩
  go_wp2_with fail
  refine HL.out.mono ?_
  rintro e w1 ⟨A, c, rfl, _, _, _, _, hb⟩
  have HB := Lib.hid hb
  have HS := Lib.hid (AnyF.slices_SortFunc_none Try.laysSort none 0 (.func (.func 42) #[] #[]) w1)
  have hl0 : ([] : List (Rw Rl)).length = 0 := rfl
  rw [hl0]
  clear hb HL HT hl0
  go_wp2
  refine wp_loop_rounds 1 ?_
  rw [rounds_succ]
  go_wp2_with fail
  refine HS.out.mono ?_
  rintro e w2 ⟨rfl, rfl⟩
  go_wp2
  go_ret
  exact ⟨rfl, HB.out⟩
theorem for_nil {w : World} {p : Option Addr} (d : ByteArray) (h : NoIn w p) : Calls Try.prog 14 #[.pointer p, .string d] w fun e w' => e = .returned (.slice none 0 0) ∧ Below w.heap.size w w' := by
  have HL := Lib.hid (list_nil h)
  clear h
  go_enter Try.func14, Try.ntmps14
  go_wp2_with fail
  refine HL.out.mono ?_
  rintro e w1 ⟨rfl, hb⟩
  have HB := Lib.hid hb
  clear hb HL
  go_wp2
  refine wp_loop_rounds 1 ?_
  rw [rounds_succ]
  go_wp2
  go_ret
  exact ⟨rfl, HB.out⟩
theorem decide_nil {w : World} {p : Option Addr} (s d : ByteArray) (b : Bool) (h : NoIn w p) (hs : s.size ≤ maxLen) (hd : d.size ≤ maxLen) : Calls Try.prog 28 #[.pointer p, .string s, .string d, .bool b] w fun e w' => e = .returned (.tuple #[.bool b, .bool false]) ∧ Below w.heap.size w w' :=
  (decide_no s d b h hs hd).mono fun e w' ⟨o, ho, he, hb⟩ => by
    obtain rfl : o = none := ho.uniq (show Chosen [] s d none from fun j hj => absurd hj (Nat.not_lt_zero j))
    exact ⟨he, hb⟩
set_option maxHeartbeats 8000000 in
set_option maxRecDepth 100000 in
theorem none_walk (s : ISt) (w : World) (hs : s.Ok) : Calls Try.prog 9 #[stV s] w fun e w' => e = .returned (.bool true) ∧ Below w.heap.size w w' := by
  obtain ⟨kind, src, dst, allow, old, ix⟩ := s
  have h1 : src.size ≤ maxLen := hs.src
  have h2 : dst.size ≤ maxLen := hs.dst
  have HWk := Lib.hid works_any
  have HDe := Lib.hid (fun (p : Option Addr) (W : World) (h : NoIn W p) => decide_nil src dst allow h h1 h2)
  have HAd := Lib.hid (fun (p : Option Addr) (W : World) (h : NoIn W p) => (add_no src dst true 1 h : Calls Try.prog 29 #[.pointer p, .string src, .string dst, .bool true, .int .u64 1] W fun e w' => e = .returned (.int .i64 1) ∧ W = w'))
  have HTu := Lib.hid (fun (p : Option Addr) (W : World) (h : NoIn W p) => (turn_no src dst true 0 1 h : Calls Try.prog 30 #[.pointer p, .string src, .string dst, .bool true, .int .u64 0, .int .u64 1] W fun e w' => e = .returned (.int .i64 1) ∧ W = w'))
  have HDr := Lib.hid (fun (p : Option Addr) (W : World) (h : NoIn W p) => (drop_no src dst 0 1 h : Calls Try.prog 31 #[.pointer p, .string src, .string dst, .int .u64 0, .int .u64 1] W fun e w' => e = .returned (.int .i64 1) ∧ W = w'))
  clear hs h1 h2
  unfold stV
  simp only
  obtain ⟨X, hX⟩ : ∃ X, w.heap.size = X := ⟨_, rfl⟩
  obtain ⟨W1, hW1⟩ : ∃ W1, w.alloc (.cells #[.int .i64 kind, .string src, .string dst, .bool allow, .int .u64 (old : Int), .int .u64 (ix : Int)] 30) = W1 := ⟨_, rfl⟩
  obtain ⟨W3, hW3⟩ : ∃ W3, (W1.alloc (.cells #[.pointer none] 59)).alloc (.cells #[.pointer none, .pointer (some ⟨X + 1, 0, none⟩)] 23) = W3 := ⟨_, rfl⟩
  have s1 : W1.heap.size = X + 1 := by rw [← hW1]; simp [hX]
  have k0 : W1.heap[X]? = some (.cells #[.int .i64 kind, .string src, .string dst, .bool allow, .int .u64 (old : Int), .int .u64 (ix : Int)] 30 (0, 0)) := by rw [← hW1, ← hX]; exact heap_alloc_new w _
  have s2 : (W1.alloc (.cells #[.pointer none] 59)).heap.size = X + 2 := by simp [s1]
  have j1 : (W1.alloc (.cells #[.pointer none] 59)).heap[X + 1]? = some (.cells #[.pointer none] 59 (0, 0)) := by rw [← s1]; exact heap_alloc_new W1 _
  have k1 : W3.heap[X + 1]? = some (.cells #[.pointer none] 59 (0, 0)) := by
    rw [← hW3]
    exact ((below1 _ _ _).block (X + 1) (by omega)).trans j1
  have k2 : W3.heap[X + 2]? = some (.cells #[.pointer none, .pointer (some ⟨X + 1, 0, none⟩)] 23 (0, 0)) := by rw [← hW3, ← s2]; exact heap_alloc_new _ _
  have b3 : Below W1.heap.size W1 W3 := by rw [← hW3]; exact (below1 W1 _ _).alloc (by simp) _
  have HB3 : Hid (Below w.heap.size w W3) := Lib.hid ((by rw [← hW1]; exact below1 _ _ _ : Below w.heap.size w W1).trans (b3.mono (by omega)))
  have HK0 := Lib.hid ((b3.block X (by omega)).trans k0)
  have HK1 := Lib.hid k1
  have HK2 := Lib.hid k2
  have HW1 := Lib.hid hW1
  have HW3 := Lib.hid hW3
  have HX := Lib.hid hX
  have HS1 := Lib.hid s1
  clear hX hW1 hW3 s1 k0 s2 j1 k1 k2 b3
  go_enter Try.func9, Try.ntmps9
  go_wp2_with fail
  rw [HW1.out, HX.out, HW3.out]
  go_loopw [5] (fun iv wr => ∃ k : Nat, k ≤ 2 ∧ iv = .int .i64 (k : Int) ∧ Hid (Below W3.heap.size W3 wr)) (fun iv _ => 2 - (intOf iv).toNat)
  case atStart => exact ⟨0, by omega, rfl, Lib.hid (Below.refl _ _)⟩
  case round =>
    obtain ⟨k, hk, rfl, hb⟩ := hrel
    by_cases hlt : k < 2
    · have hz := hb.out.size
      have kr0 := (hb.out.block X (block_lt HK0.out)).trans HK0.out
      have kr1 := (hb.out.block (X + 1) (block_lt HK1.out)).trans HK1.out
      have kr2 := (hb.out.block (X + 2) (block_lt HK2.out)).trans HK2.out
      obtain ⟨p, hp, hno⟩ : ∃ p : Option Addr, wr.cell? ⟨X + 2, k, none⟩ = some (.pointer p) ∧ NoIn wr p := by
        rcases (show k = 0 ∨ k = 1 by omega) with rfl | rfl
        · exact ⟨none, cellsN kr2 0 _ rfl, ⟨.inl rfl⟩⟩
        · exact ⟨some ⟨X + 1, 0, none⟩, cellsN kr2 1 _ rfl, ⟨.inr ⟨X + 1, rfl, kr1⟩⟩⟩
      obtain ⟨c0, c1, c2, c3, c4, c5⟩ := st_blk kr0
      have g0 : (0 : Int) ≤ (k : Int) := by omega
      have g1 : (k : Int) < 2 := by omega
      have HNo := Lib.hid hno
      have HKr := Lib.hid kr0
      clear kr0 kr1 kr2 hno
      go_wp2_with fail
      refine (HDe.out p wr HNo.out).mono ?_
      rintro e w4 ⟨rfl, hb4⟩
      have HB4 := Lib.hid (hb.out.trans (hb4.mono hz))
      have HN4 := Lib.hid (HNo.out.below hb4)
      have kr4 := (hb4.block X (block_lt HKr.out)).trans HKr.out
      obtain ⟨c0, c1, c2, c3, c4, c5⟩ := st_blk kr4
      have q1 := cell_regrown c1
      have q2 := cell_regrown c2
      have q3 := cell_regrown c3
      have HA := Lib.hid (HAd.out p w4 HN4.out)
      have HT := Lib.hid (HTu.out p w4 HN4.out)
      have HD := Lib.hid (HDr.out p w4 HN4.out)
      have HLi : Hid (∀ d os, Calls Try.prog 17 #[.pointer p] (grow (redrawn w4 d) os) fun e w2 => e = .returned (.slice none 0 0) ∧ ∃ q : Regrown, w2 = grow (redrawn w4 q.d) q.os) := Lib.hid fun d os => Calls.regrown_of (list_nil (HN4.out.below (below_regrown w4 d os)))
      have HFo : Hid (∀ d os, Calls Try.prog 14 #[.pointer p, .string dst] (grow (redrawn w4 d) os) fun e w2 => e = .returned (.slice none 0 0) ∧ ∃ q : Regrown, w2 = grow (redrawn w4 q.d) q.os) := Lib.hid fun d os => Calls.regrown_of (for_nil dst (HN4.out.below (below_regrown w4 d os)))
      have HLa : Hid (∀ d os, Calls Try.prog 16 #[.pointer p] (grow (redrawn w4 d) os) fun e w2 => e = .returned (.int .u64 0) ∧ ∃ q : Regrown, w2 = grow (redrawn w4 q.d) q.os) := Lib.hid fun d os => (ilast_no (HN4.out.below (below_regrown w4 d os))).mono fun e w2 ⟨h1, h2⟩ => ⟨h1, ⟨d, os⟩, h2.symm⟩
      have HCo : Hid (∀ d os, Calls Try.prog 32 #[.pointer p] (grow (redrawn w4 d) os) fun e w2 => e = .returned (.pointer none) ∧ ∃ q : Regrown, w2 = grow (redrawn w4 q.d) q.os) := Lib.hid fun d os => (icopy_no (HN4.out.below (below_regrown w4 d os))).mono fun e w2 ⟨h1, h2⟩ => ⟨h1, ⟨d, os⟩, h2.symm⟩
      clear hb4 hp kr4
      go_wp2_with fail
      refine HA.out.mono ?_
      rintro e w5 ⟨rfl, rfl⟩
      go_wp2_with fail
      refine HT.out.mono ?_
      rintro e w5 ⟨rfl, rfl⟩
      go_wp2_with fail
      refine HD.out.mono ?_
      rintro e w5 ⟨rfl, rfl⟩
      clear c0 c1 c2 c3 c4 c5 HA HT HD
      have za : (allow != allow) = false := by simp
      go_wp2_with fail
      refine wp_region_quiet_below (by kernel_rfl) (by kernel_rfl) ?_
      repeat (go_big_quiet_step (first | exact HLi.out _ _ | exact HFo.out _ _ | exact HLa.out _ _ | exact HCo.out _ _))
      refine wpQuiet_nil ?_
      rintro _ ⟨⟨dq, osq⟩, rfl⟩
      have HBq := Lib.hid (HB4.out.trans ((below_regrown w4 dq osq).mono HB4.out.size))
      clear q1 q2 q3 HLi HFo HLa HCo
      go_wp2
      go_roundw
      case rel => exact ⟨k + 1, by omega, by go_num, HBq⟩
      case measure => simp [intOf]; omega
    · have g1 : ¬ (k : Int) < 2 := by omega
      have HBw := Lib.hid (HB3.out.trans (hb.out.mono HB3.out.size))
      go_wp2_with fail
      refine (HWk.out wr).mono ?_
      rintro e w9 ⟨rfl, hb9⟩
      have HB9 := Lib.hid (HBw.out.trans (hb9.mono HBw.out.size))
      clear hb9
      go_wp2
      go_ret
      exact ⟨rfl, HB9.out⟩
end Go.Proofs.Ytmegfkclpjddgaa
