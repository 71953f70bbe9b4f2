/-
  Best, works, cut, both Refutes (layer 8).
-/
import Derived.Test.YtfkaljegkkdmmaaRkWalkA
namespace Go.Proofs.Ytfkaljegkkdmmaa
open Go.RowKit
set_option linter.unusedSimpArgs false
set_option linter.unusedVariables false

theorem wrap_u64 (n : Nat) (h : n < 18446744073709551616) : IntKind.u64.wrap (n : Int) = (n : Int) := by
  simp [IntKind.wrap, IntKind.signed, IntKind.bits]
  omega
theorem wrap_u32 (n : Nat) (h : n < 4294967296) : IntKind.u32.wrap (n : Int) = (n : Int) := by
  simp [IntKind.wrap, IntKind.signed, IntKind.bits]
  omega
theorem set3_blk {W : World} {X : Nat} {u0 u1 u2 : Value} {t : TypeId} (h : W.heap[X]? = some (.cells #[u0, u1, u2] t (0, 0))) (a b c : Value) :
    (((W.setCell ⟨X, 0, none⟩ a).setCell ⟨X, 1, none⟩ b).setCell ⟨X, 2, none⟩ c).heap[X]? = some (.cells #[a, b, c] t (0, 0)) := block_set (block_set (block_set h 0 a) 1 b) 2 c
theorem blk3 {W : World} {X : Nat} {a b c : Value} {t : TypeId} (h : W.heap[X]? = some (.cells #[a, b, c] t (0, 0))) : W.cell? ⟨X, 0, none⟩ = some a ∧ W.cell? ⟨X, 1, none⟩ = some b ∧ W.cell? ⟨X, 2, none⟩ = some c := by
  refine ⟨?_, ?_, ?_⟩ <;> (rw [cell_of_row _ _ _ _ _ _ h]; rfl)
theorem blk_froz {W : World} {X : Nat} {cur : Array Value} {t : TypeId} (h : W.heap[X]? = some (.cells cur t (0, 0))) (i : Nat) : W.frozen? ⟨X, i, none⟩ = false := by simp [World.frozen?, h]
set_option maxHeartbeats 4000000 in
theorem best_any (a b : Up) (w : World) :
    Calls Try.prog 14 #[.agg #[.int .i64 a.node, .int .u32 (a.inc : Int), .int .i64 a.st], .agg #[.int .i64 b.node, .int .u32 (b.inc : Int), .int .i64 b.st]] w fun e w' => e = .returned (.agg #[.int .i64 (a.best b).node, .int .u32 ((a.best b).inc : Int), .int .i64 (a.best b).st]) ∧ Below w.heap.size w w' := by
  obtain ⟨c, hc⟩ : ∃ c, a.best b = c := ⟨_, rfl⟩
  rw [hc]
  obtain ⟨X, hX⟩ : ∃ X, w.heap.size = X := ⟨_, rfl⟩
  obtain ⟨W, hW⟩ : ∃ W, ((w.alloc (.cells #[.int .i64 a.node, .int .u32 (a.inc : Int), .int .i64 a.st] 24)).alloc (.cells #[.int .i64 b.node, .int .u32 (b.inc : Int), .int .i64 b.st] 24)).alloc (.cells #[.int .i64 0, .int .u32 0, .int .i64 0] 24) = W := ⟨_, rfl⟩
  have hb : Below w.heap.size w W := by rw [← hW]; exact (below2 w _ _).alloc (by simp; omega) _
  have HB := Lib.hid hb
  have k0 : W.heap[X]? = some (.cells #[.int .i64 a.node, .int .u32 (a.inc : Int), .int .i64 a.st] 24 (0, 0)) := by
    rw [← hW, ← hX, Below.heap_alloc _ _ _ (by simp; omega), Below.heap_alloc _ _ _ (by simp)]
    exact heap_alloc_new w _
  have k1 : W.heap[X + 1]? = some (.cells #[.int .i64 b.node, .int .u32 (b.inc : Int), .int .i64 b.st] 24 (0, 0)) := by
    rw [← hW, ← hX, Below.heap_alloc _ _ _ (by simp)]
    have := heap_alloc_new (w.alloc (.cells #[.int .i64 a.node, .int .u32 (a.inc : Int), .int .i64 a.st] 24)) (.cells #[.int .i64 b.node, .int .u32 (b.inc : Int), .int .i64 b.st] 24)
    simpa using this
  have k2 : W.heap[X + 1 + 1]? = some (.cells #[.int .i64 0, .int .u32 0, .int .i64 0] 24 (0, 0)) := by
    rw [← hW, ← hX]
    have := heap_alloc_new ((w.alloc (.cells #[.int .i64 a.node, .int .u32 (a.inc : Int), .int .i64 a.st] 24)).alloc (.cells #[.int .i64 b.node, .int .u32 (b.inc : Int), .int .i64 b.st] 24)) (.cells #[.int .i64 0, .int .u32 0, .int .i64 0] 24)
    simpa using this
  have HK := Lib.hid (And.intro k0 (And.intro k1 k2))
  have HA := Lib.hid (pabove_any b a)
  have HW := Lib.hid hW
  have HX := Lib.hid hX
  have HC := Lib.hid hc
  clear hb k0 k1 k2 hW hX hc
  go_enter Try.func14, Try.ntmps14
  go_wp2_with fail
  rw [HW.out, HX.out]
  refine (HA.out _ _ rfl).mono ?_
  rintro e w' ⟨rfl, hb⟩
  have hb2 := Lib.hid (HB.out.trans (hb.mono HB.out.size))
  have j0 := (hb.block _ (block_lt HK.out.1)).trans HK.out.1
  have j1 := (hb.block _ (block_lt HK.out.2.1)).trans HK.out.2.1
  have j2 := (hb.block _ (block_lt HK.out.2.2)).trans HK.out.2.2
  obtain ⟨a0, a1, a2⟩ := blk3 j0
  obtain ⟨b0, b1, b2⟩ := blk3 j1
  obtain ⟨d0, d1, d2⟩ := blk3 j2
  have g0 := blk_froz j2 0
  have g1 := blk_froz j2 1
  have g2 := blk_froz j2 2
  have HJ := Lib.hid j2
  have HXl := Lib.hid (show w.heap.size ≤ X + 1 + 1 by have := HX.out; omega)
  clear hb j0 j1 j2 HA HK HW
  cases hr : b.above a with
  | true =>
    obtain rfl : b = c := by rw [← HC.out]; unfold Up.best; rw [hr]; rfl
    clear hr
    have q := set3_blk HJ.out (.int .i64 b.node) (.int .u32 (b.inc : Int)) (.int .i64 b.st)
    obtain ⟨e0, e1, e2⟩ := blk3 q
    have HE := Lib.hid (And.intro e0 (And.intro e1 e2))
    clear q e0 e1 e2
    go_wp2
    obtain ⟨e0, e1, e2⟩ := HE.out
    refine bodyPost_ret (v := .agg #[.int .i64 b.node, .int .u32 (b.inc : Int), .int .i64 b.st]) (by simp [results, Try.results14, go_sem, e0, e1, e2]) rfl ⟨rfl, ?_⟩
    exact ((hb2.out.setCell (by exact HXl.out) _).setCell (by exact HXl.out) _).setCell (by exact HXl.out) _
  | false =>
    obtain rfl : a = c := by rw [← HC.out]; unfold Up.best; rw [hr]; rfl
    clear hr
    have q := set3_blk HJ.out (.int .i64 a.node) (.int .u32 (a.inc : Int)) (.int .i64 a.st)
    obtain ⟨e0, e1, e2⟩ := blk3 q
    have HE := Lib.hid (And.intro e0 (And.intro e1 e2))
    clear q e0 e1 e2
    go_wp2
    obtain ⟨e0, e1, e2⟩ := HE.out
    refine bodyPost_ret (v := .agg #[.int .i64 a.node, .int .u32 (a.inc : Int), .int .i64 a.st]) (by simp [results, Try.results14, go_sem, e0, e1, e2]) rfl ⟨rfl, ?_⟩
    exact ((hb2.out.setCell (by exact HXl.out) _).setCell (by exact HXl.out) _).setCell (by exact HXl.out) _
set_option maxHeartbeats 1000000 in
theorem works_any (w : World) : Calls Try.prog 15 #[] w fun e w' => e = .returned (.bool true) ∧ Below w.heap.size w w' := by
  have HA : Hid (∀ W, Calls Try.prog 13 #[.agg #[.int .i64 1, .int .u32 3, .int .i64 1], .agg #[.int .i64 1, .int .u32 3, .int .i64 0]] W fun e w' => e = .returned (.bool true) ∧ Below W.heap.size W w') := Lib.hid (fun W => pabove_any ⟨1, 3, 1⟩ ⟨1, 3, 0⟩ W true (by decide))
  go_enter Try.func15, Try.ntmps15
  go_wp2_with fail
  refine (HA.out _).mono ?_
  clear HA
  rintro e w' ⟨rfl, hb⟩
  have HB := Lib.hid hb
  clear hb
  go_wp2
  go_ret
  exact ⟨rfl, HB.out⟩
set_option maxHeartbeats 2000000 in
theorem cut_any (A : Option Addr) (n c : Nat) (ss : List Up) (w : World) (hS : SUp w A n ss) (hnc : n ≤ c) (hm : c ≤ maxLen) :
    Calls Try.prog 16 #[.slice A n c] w fun e w' => e = .returned (.slice A (min n 60) c) ∧ w' = w := by
  unfold maxLen at hm
  by_cases h : 60 < n
  · obtain ⟨b, off, rfl, _⟩ := hS.2 (by omega)
    have hq : (60 : Int) < (n : Int) := by omega
    have hq2 : (60 : Int) ≤ (c : Int) := by omega
    have h60 := Lib.hid (show min n 60 = 60 by omega)
    clear hS
    go_enter Try.func16, Try.ntmps16
    go_wp2
    go_ret
    exact ⟨by rw [h60.out]; rfl, rfl⟩
  · have hq : (n : Int) ≤ 60 := by omega
    have h60 := Lib.hid (show min n 60 = n by omega)
    clear hS
    go_enter Try.func16, Try.ntmps16
    go_wp2
    go_ret
    exact ⟨by rw [h60.out]; rfl, rfl⟩
set_option maxHeartbeats 4000000 in
theorem prefute_any (own : Nat) (u : Up) (w : World) (r k : Nat) (h : refuteN own u.inc = (r, k)) (ho : own ≤ 4294967295) (hi : u.inc ≤ 4294967295) :
    Calls Try.prog 22 #[.int .u32 (own : Int), .agg #[.int .i64 u.node, .int .u32 (u.inc : Int), .int .i64 u.st]] w fun e w' => e = .returned (.tuple #[.int .u32 (r : Int), .int .i64 (k : Int)]) ∧ Below w.heap.size w w' := by
  obtain ⟨nu, iu, su⟩ := u
  simp only at h hi ⊢
  unfold refuteN at h
  by_cases hlt : own < iu
  · by_cases hmax : iu = 4294967295
    · rw [if_pos (by omega)] at h
      obtain ⟨rfl, rfl⟩ := Prod.mk.inj h
      have z : ((iu : Int) == 4294967295) = true := by rw [beq_iff_eq]; omega
      have h1 : (iu : Int) ≤ 4294967295 := by omega
      have h2 : (4294967295 : Int) ≤ (iu : Int) := by omega
      have h3 : (own : Int) ≤ 4294967295 := by omega
      clear hmax ho hi h
      clear h3 h2
      go_enter Try.func22, Try.ntmps22
      go_wp2
      go_ret2
      exact ⟨by simp, below1 _ _⟩
    · rw [if_neg (by omega)] at h
      obtain ⟨rfl, rfl⟩ := Prod.mk.inj h
      have z : ((iu : Int) == 4294967295) = false := by rw [beq_eq_false_iff_ne]; omega
      have h1 : (iu : Int) < 4294967295 := by omega
      have hmx : max own iu = iu := by omega
      rw [hmx]
      have h3 : (own : Int) ≤ 4294967295 := by omega
      clear hmax ho hi h hmx
      clear h3
      go_enter Try.func22, Try.ntmps22
      go_wp2
      go_ret2
      exact ⟨by simp, below1 _ _⟩
  · by_cases hmax : own = 4294967295
    · rw [if_pos (by omega)] at h
      obtain ⟨rfl, rfl⟩ := Prod.mk.inj h
      have z : ((own : Int) == 4294967295) = true := by rw [beq_iff_eq]; omega
      have h1 : (own : Int) ≤ 4294967295 := by omega
      have h2 : (4294967295 : Int) ≤ (own : Int) := by omega
      have h3 : (iu : Int) ≤ 4294967295 := by omega
      clear hmax ho hi h
      clear h3 h2
      go_enter Try.func22, Try.ntmps22
      go_wp2
      go_ret2
      exact ⟨by simp, below1 _ _⟩
    · rw [if_neg (by omega)] at h
      obtain ⟨rfl, rfl⟩ := Prod.mk.inj h
      have z : ((own : Int) == 4294967295) = false := by rw [beq_eq_false_iff_ne]; omega
      have h1 : (own : Int) < 4294967295 := by omega
      have hmx : max own iu = own := by omega
      rw [hmx]
      have h3 : (iu : Int) ≤ 4294967295 := by omega
      clear hmax ho hi h hmx
      clear h3
      go_enter Try.func22, Try.ntmps22
      go_wp2
      go_ret2
      exact ⟨by simp, below1 _ _⟩
set_option maxHeartbeats 4000000 in
theorem rrefute_any (own : Nat) (u : Up) (w : World) (r k : Nat) (h : refuteN own u.inc = (r, k)) (ho : own ≤ 4294967295) (hi : u.inc ≤ 4294967295) :
    Calls Try.prog 23 #[.int .u32 (own : Int), .agg #[.int .i64 u.node, .int .u32 (u.inc : Int), .int .i64 u.st]] w fun e w' => e = .returned (.tuple #[.int .u32 (r : Int), .int .i64 (k : Int)]) ∧ Below w.heap.size w w' := by
  obtain ⟨nu, iu, su⟩ := u
  simp only at h hi ⊢
  unfold refuteN at h
  have w1 : IntKind.u64.wrap (own : Int) = (own : Int) := wrap_u64 own (by omega)
  have w2 : IntKind.u64.wrap (iu : Int) = (iu : Int) := wrap_u64 iu (by omega)
  by_cases hlt : own < iu
  · have w3 : IntKind.u64.wrap ((iu : Int) + 1) = (iu : Int) + 1 := wrap_u64 (iu + 1) (by omega)
    have hmx : max own iu = iu := by omega
    rw [hmx] at h
    clear hmx
    by_cases hmax : iu = 4294967295
    · rw [if_pos (by omega)] at h
      obtain ⟨rfl, rfl⟩ := Prod.mk.inj h
      have h1 : (4294967295 : Int) < (iu : Int) + 1 := by omega
      clear hmax ho hi h
      go_enter Try.func23, Try.ntmps23
      go_wp2
      go_ret2
      exact ⟨by simp, below1 _ _⟩
    · rw [if_neg (by omega)] at h
      obtain ⟨rfl, rfl⟩ := Prod.mk.inj h
      have h1 : decide ((4294967295 : Int) < (iu : Int) + 1) = false := by simp; omega
      have w4 : IntKind.u32.wrap ((iu : Int) + 1) = (iu : Int) + 1 := wrap_u32 (iu + 1) (by omega)
      clear hmax ho hi h
      go_enter Try.func23, Try.ntmps23
      go_wp2
      go_ret2
      exact ⟨by simp, below1 _ _⟩
  · have w3 : IntKind.u64.wrap ((own : Int) + 1) = (own : Int) + 1 := wrap_u64 (own + 1) (by omega)
    have hmx : max own iu = own := by omega
    rw [hmx] at h
    clear hmx
    by_cases hmax : own = 4294967295
    · rw [if_pos (by omega)] at h
      obtain ⟨rfl, rfl⟩ := Prod.mk.inj h
      have h1 : (4294967295 : Int) < (own : Int) + 1 := by omega
      clear hmax ho hi h
      go_enter Try.func23, Try.ntmps23
      go_wp2
      go_ret2
      exact ⟨by simp, below1 _ _⟩
    · rw [if_neg (by omega)] at h
      obtain ⟨rfl, rfl⟩ := Prod.mk.inj h
      have h1 : decide ((4294967295 : Int) < (own : Int) + 1) = false := by simp; omega
      have w4 : IntKind.u32.wrap ((own : Int) + 1) = (own : Int) + 1 := wrap_u32 (own + 1) (by omega)
      clear hmax ho hi h
      go_enter Try.func23, Try.ntmps23
      go_wp2
      go_ret2
      exact ⟨by simp, below1 _ _⟩
end Go.Proofs.Ytfkaljegkkdmmaa
