/-
  A step of the law (layer 15): Raise of both, and no call.
-/
import Derived.Test.YtphjlcogjalidaaTbStep
namespace Go.Proofs.Ytphjlcogjalidaa
open Go.RowKit
set_option linter.unusedSimpArgs false
set_option linter.unusedVariables false
section
variable {P : (Nat → Prop) → World → Nat → Tb Int → Prop} {O : Nat → Prop} {Bp Bd : Nat} {t : Tb Int}
set_option maxHeartbeats 8000000 in
theorem step_raise (C : Prg P) (s : TSt) (w : World) (h : Both P O w Bp t Bd t) (hs : s.ok) (hk : s.kind = 2) :
    Calls Try.prog 9 #[.pointer (some ⟨Bp, 0, none⟩), .pointer (some ⟨Bd, 0, none⟩), tsV s] w (StepPost P O w Bp Bd (t.raise s.ix)) := by
  obtain ⟨k, key, v, i⟩ := s
  simp only at hk
  subst hk
  unfold tsV
  simp only
  have hky : key.size ≤ maxLen := hs.key
  have hv : -9223372036854775808 ≤ v ∧ v ≤ 9223372036854775807 := hs.v
  have hi : i < 18446744073709551616 := hs.ix
  obtain ⟨X, hX⟩ : ∃ X, w.heap.size = X := ⟨_, rfl⟩
  obtain ⟨W, hW⟩ : ∃ W, w.alloc (.cells #[.int .i64 2, .string key, .int .i64 v, .int .u64 (i : Int)] TS) = W := ⟨_, rfl⟩
  have hb0 : Below w.heap.size w W := by rw [← hW]; exact below1 _ _ _
  have hs0 : W.heap.size = X + 1 := by rw [← hW, ← hX]; simp
  have k0 : W.heap[X]? = some (.cells #[.int .i64 2, .string key, .int .i64 v, .int .u64 (i : Int)] TS (0, 0)) := by rw [← hW, ← hX]; exact heap_alloc_new w _
  have h1 := h.box C hb0 (X := X) (by omega) (by omega)
  have HC := Lib.hid C
  have HB0 := Lib.hid hb0
  have HS0 := Lib.hid hs0
  have HK0 := Lib.hid k0
  have HW := Lib.hid hW
  have HX := Lib.hid hX
  have H1 := Lib.hid h1
  obtain ⟨d0, d1, d2, d3⟩ := blk4 k0
  have HR := Lib.hid (both_raise C i h1 hi)
  clear C h h1 hs hX hW hb0 hs0 k0
  go_enter Try.func9, Try.ntmps9
  go_wp2_with fail
  rw [HW.out, HX.out]
  go_wp2_with fail
  refine HR.out.mono ?_
  rintro e w1 ⟨rfl, hB1, hb1⟩
  have kx := (hb1.block X (by have := HS0.out; omega) (fun e => e.2 rfl)).trans HK0.out
  obtain ⟨f0, f1, f2, f3⟩ := blk4 kx
  have HR2 := Lib.hid (both_rraise HC.out i hB1 hi)
  have HBw := Lib.hid ((But.of_below HB0.out).trans (hb1.mono fun k (h : O k ∧ k ≠ X) => h.1))
  clear HR hB1 hb1 kx d0 d1 d2 d3
  go_wp2_with fail
  refine HR2.out.mono ?_
  rintro e w2 ⟨rfl, hB2, hb2⟩
  have HB2 := Lib.hid (hB2.wide (O' := O) fun k h => h.1)
  have HBx := Lib.hid (HBw.out.trans (hb2.mono fun k (h : O k ∧ k ≠ X) => h.1))
  clear HR2 hB2 hb2 f0 f1 f2 f3
  go_wp2
  go_ret
  exact ⟨rfl, HB2.out, HBx.out⟩
set_option maxHeartbeats 8000000 in
theorem step_rest (C : Prg P) (s : TSt) (w : World) (h : Both P O w Bp t Bd t) (hs : s.ok) (hk : s.kind ≠ 0 ∧ s.kind ≠ 1 ∧ s.kind ≠ 2 ∧ s.kind ≠ 3 ∧ s.kind ≠ 4) :
    Calls Try.prog 9 #[.pointer (some ⟨Bp, 0, none⟩), .pointer (some ⟨Bd, 0, none⟩), tsV s] w (StepPost P O w Bp Bd t) := by
  obtain ⟨k, key, v, i⟩ := s
  simp only at hk
  
  unfold tsV
  simp only
  have hky : key.size ≤ maxLen := hs.key
  have hv : -9223372036854775808 ≤ v ∧ v ≤ 9223372036854775807 := hs.v
  have hi : i < 18446744073709551616 := hs.ix
  obtain ⟨X, hX⟩ : ∃ X, w.heap.size = X := ⟨_, rfl⟩
  obtain ⟨W, hW⟩ : ∃ W, w.alloc (.cells #[.int .i64 k, .string key, .int .i64 v, .int .u64 (i : Int)] TS) = W := ⟨_, rfl⟩
  have hb0 : Below w.heap.size w W := by rw [← hW]; exact below1 _ _ _
  have hs0 : W.heap.size = X + 1 := by rw [← hW, ← hX]; simp
  have k0 : W.heap[X]? = some (.cells #[.int .i64 k, .string key, .int .i64 v, .int .u64 (i : Int)] TS (0, 0)) := by rw [← hW, ← hX]; exact heap_alloc_new w _
  have h1 := h.box C hb0 (X := X) (by omega) (by omega)
  have HC := Lib.hid C
  have HB0 := Lib.hid hb0
  have HS0 := Lib.hid hs0
  have HK0 := Lib.hid k0
  have HW := Lib.hid hW
  have HX := Lib.hid hX
  have H1 := Lib.hid h1
  obtain ⟨d0, d1, d2, d3⟩ := blk4 k0
  have z0 : (k == 0) = false := by rw [beq_eq_false_iff_ne]; exact hk.1
  have z1 : (k == 1) = false := by rw [beq_eq_false_iff_ne]; exact hk.2.1
  have z2 : (k == 2) = false := by rw [beq_eq_false_iff_ne]; exact hk.2.2.1
  have z3 : (k == 3) = false := by rw [beq_eq_false_iff_ne]; exact hk.2.2.2.1
  have z4 : (k == 4) = false := by rw [beq_eq_false_iff_ne]; exact hk.2.2.2.2
  clear hk
  clear C h h1 hs hX hW hb0 hs0 k0
  go_enter Try.func9, Try.ntmps9
  go_wp2_with fail
  rw [HW.out, HX.out]
  go_wp2
  go_ret
  exact ⟨rfl, H1.out.wide fun k h => h.1, But.of_below HB0.out⟩
end
end Go.Proofs.Ytphjlcogjalidaa
