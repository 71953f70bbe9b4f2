/-
  No table: what each method tells of it (layer 15).
-/
import Derived.Test.YtphjlcogjalidaaTpPrg
namespace Go.Proofs.Ytphjlcogjalidaa
open Go.RowKit
set_option linter.unusedSimpArgs false
set_option linter.unusedVariables false

section
variable {w : World} {q : Option Addr}
theorem raise_no (i : Nat) (h : NoTp w q) : Calls Try.prog 20 #[.pointer q, .int .u64 (i : Int)] w fun e w' => e = .returned (.tuple #[]) ∧ w = w' := by
  have HM := Lib.hid (made_no h)
  clear h
  go_enter Try.func20, Try.ntmps20
  go_wp2_with fail
  refine HM.out.mono ?_
  rintro e w' ⟨rfl, rfl⟩
  go_wp2
  refine bodyPost_end (results_none rfl _ _ _) rfl ⟨rfl, rfl⟩
theorem last_no (h : NoTp w q) : Calls Try.prog 13 #[.pointer q] w fun e w' => e = .returned (.int .u64 0) ∧ w = w' := by
  have HM := Lib.hid (made_no h)
  clear h
  go_enter Try.func13, Try.ntmps13
  go_wp2_with fail
  refine HM.out.mono ?_
  rintro e w' ⟨rfl, rfl⟩
  go_wp2
  go_ret
  exact ⟨rfl, rfl⟩
theorem count_no (h : NoTp w q) : Calls Try.prog 14 #[.pointer q] w fun e w' => e = .returned (.int .i64 0) ∧ w = w' := by
  have HM := Lib.hid (made_no h)
  clear h
  go_enter Try.func14, Try.ntmps14
  go_wp2_with fail
  refine HM.out.mono ?_
  rintro e w' ⟨rfl, rfl⟩
  go_wp2
  go_ret
  exact ⟨rfl, rfl⟩
theorem copy_no (h : NoTp w q) : Calls Try.prog 22 #[.pointer q] w fun e w' => e = .returned (.pointer none) ∧ w = w' := by
  have HM := Lib.hid (made_no h)
  clear h
  go_enter Try.func22, Try.ntmps22
  go_wp2_with fail
  refine HM.out.mono ?_
  rintro e w' ⟨rfl, rfl⟩
  go_wp2
  go_ret
  exact ⟨rfl, rfl⟩
theorem drop_no (k : ByteArray) (i : Nat) (h : NoTp w q) : Calls Try.prog 19 #[.pointer q, .string k, .int .u64 (i : Int)] w fun e w' => e = .returned (.bool false) ∧ w = w' := by
  have HM := Lib.hid (made_no h)
  clear h
  go_enter Try.func19, Try.ntmps19
  go_wp2_with fail
  refine HM.out.mono ?_
  rintro e w' ⟨rfl, rfl⟩
  go_wp2
  go_ret
  exact ⟨rfl, rfl⟩
theorem put_no (k : ByteArray) (v : Int) (i : Nat) (h : NoTp w q) : Calls Try.prog 17 #[.pointer q, .string k, .int .i64 v, .int .u64 (i : Int)] w fun e w' => e = .returned (.tuple #[trV noRw, .int .i64 1]) ∧ Below w.heap.size w w' := by
  have hb0 := below1 w #[.string ⟨#[]⟩, .int .i64 0, .int .u64 0, .int .u64 0] 32
  have k0 := heap_alloc_new w (.cells #[.string ⟨#[]⟩, .int .i64 0, .int .u64 0, .int .u64 0] 32)
  obtain ⟨W, hW⟩ : ∃ W, w.alloc (.cells #[.string ⟨#[]⟩, .int .i64 0, .int .u64 0, .int .u64 0] 32) = W := ⟨_, rfl⟩
  rw [hW] at hb0 k0
  obtain ⟨X, hX⟩ : ∃ X, w.heap.size = X := ⟨_, rfl⟩
  rw [hX] at k0
  have HM := Lib.hid (made_no (h.below hb0))
  have HB := Lib.hid hb0
  have HW := Lib.hid hW
  have HX := Lib.hid hX
  obtain ⟨d0, d1, d2, d3⟩ := blk4 k0
  have z0 := blk_froz k0 0
  have z1 := blk_froz k0 1
  have z2 := blk_froz k0 2
  have z3 := blk_froz k0 3
  have hxl := block_lt k0
  have HQ := Lib.hid (set4_blk k0 (.string ⟨#[]⟩) (.int .i64 0) (.int .u64 0) (.int .u64 0))
  clear h hb0 hW hX k0
  go_enter Try.func17, Try.ntmps17
  go_wp2_with fail
  rw [HW.out, HX.out]
  refine HM.out.mono ?_
  rintro e w' ⟨rfl, rfl⟩
  go_wp2
  obtain ⟨q0, q1, q2, q3⟩ := blk4 HQ.out
  refine bodyPost_ret (v := .tuple #[trV noRw, .int .i64 1]) (by simp [results, Try.results17, go_sem, q0, q1, q2, q3, trV, noRw]) rfl ⟨rfl, ?_⟩
  have := HB.out
  rw [HX.out] at this ⊢
  exact below_set4 this _ _ _ _
theorem get_no (k : ByteArray) (h : NoTp w q) : Calls Try.prog 10 #[.pointer q, .string k] w fun e w' => e = .returned (.tuple #[trV noRw, .bool false]) ∧ Below w.heap.size w w' := by
  have hb0 := below1 w #[.string ⟨#[]⟩, .int .i64 0, .int .u64 0, .int .u64 0] 32
  have k0 := heap_alloc_new w (.cells #[.string ⟨#[]⟩, .int .i64 0, .int .u64 0, .int .u64 0] 32)
  obtain ⟨W, hW⟩ : ∃ W, w.alloc (.cells #[.string ⟨#[]⟩, .int .i64 0, .int .u64 0, .int .u64 0] 32) = W := ⟨_, rfl⟩
  rw [hW] at hb0 k0
  obtain ⟨X, hX⟩ : ∃ X, w.heap.size = X := ⟨_, rfl⟩
  rw [hX] at k0
  have HM := Lib.hid (made_no (h.below hb0))
  have HB := Lib.hid hb0
  have HW := Lib.hid hW
  have HX := Lib.hid hX
  obtain ⟨d0, d1, d2, d3⟩ := blk4 k0
  have z0 := blk_froz k0 0
  have z1 := blk_froz k0 1
  have z2 := blk_froz k0 2
  have z3 := blk_froz k0 3
  have hxl := block_lt k0
  have HQ := Lib.hid (set4_blk k0 (.string ⟨#[]⟩) (.int .i64 0) (.int .u64 0) (.int .u64 0))
  clear h hb0 hW hX k0
  go_enter Try.func10, Try.ntmps10
  go_wp2_with fail
  rw [HW.out, HX.out]
  refine HM.out.mono ?_
  rintro e w' ⟨rfl, rfl⟩
  go_wp2
  obtain ⟨q0, q1, q2, q3⟩ := blk4 HQ.out
  refine bodyPost_ret (v := .tuple #[trV noRw, .bool false]) (by simp [results, Try.results10, go_sem, q0, q1, q2, q3, trV, noRw]) rfl ⟨rfl, ?_⟩
  have := HB.out
  rw [HX.out] at this ⊢
  exact below_set4 this _ _ _ _
/-- Of no table no rows are told. -/
theorem newRows_nil {w w' : World} {e : Ending} (h : NewRows w [] e w') : ∃ A c, e = .returned (.slice A 0 c) ∧ Below w.heap.size w w' := by
  obtain ⟨A, c, e1, _, _, _, _, hb⟩ := h
  exact ⟨A, c, e1, hb⟩
end
end Go.Proofs.Ytphjlcogjalidaa
