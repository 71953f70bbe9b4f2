/-
  Both News (layer 9).
-/
import Derived.Test.YtmfokogckfoheaaRoWalkA
namespace Go.Proofs.Ytmfokogckfoheaa
open Go.RowKit Go.Maps
set_option linter.unusedSimpArgs false
set_option linter.unusedVariables false

theorem but_drewN {S : Nat → Prop} {w w' : World} (h : But S w w') (n : Nat) : But S w (w'.drewN n) := h.drewN n
/-- A number that is a node. -/
def nodeB (z : Int) : Bool := decide (0 ≤ z ∧ z < 8)
theorem right_new (z : Int) (inc : Nat) : (⟨z, inc, 0⟩ : Up).right = nodeB z := by
  unfold Up.right nodeB
  simp
set_option maxHeartbeats 4000000 in
theorem pnew_no (z : Int) (inc : Nat) (w : World) (hz : nodeB z = false) : Calls Try.prog 8 #[.int .i64 z, .int .u32 (inc : Int)] w fun e w' => e = .returned (.tuple #[.pointer none, .int .i64 2]) ∧ Below w.heap.size w w' := by
  have HR : Hid (∀ w, Calls Try.prog 28 #[.agg #[.int .i64 z, .int .u32 (inc : Int), .int .i64 0]] w fun e w' => e = .returned (.bool false) ∧ Below w.heap.size w w') := Lib.hid (fun w => pright_any ⟨z, inc, 0⟩ w false (by rw [right_new, hz]))
  clear hz
  go_enter Try.func8, Try.ntmps8
  go_wp2_with fail
  refine (HR.out _).mono ?_
  clear HR
  rintro e w' ⟨rfl, hb⟩
  have HB := Lib.hid ((below1 w (.cells #[.int .i64 z, .int .u32 (inc : Int), .int .i64 0] 32)).trans (hb.mono (by simp)))
  clear hb
  go_wp2
  go_ret2
  exact ⟨rfl, HB.out⟩
set_option maxHeartbeats 4000000 in
theorem pnew_yes (z : Int) (inc : Nat) (w : World) (hz : nodeB z = true) : Calls Try.prog 8 #[.int .i64 z, .int .u32 (inc : Int)] w fun e w' => ∃ B M, e = .returned (.tuple #[.pointer (some ⟨B, 0, none⟩), .int .i64 0]) ∧ RlAt w' B M (Ro.new z inc) 1 ∧ w.heap.size ≤ B ∧ w.heap.size ≤ M ∧ Below w.heap.size w w' := by
  have HR : Hid (∀ w, Calls Try.prog 28 #[.agg #[.int .i64 z, .int .u32 (inc : Int), .int .i64 0]] w fun e w' => e = .returned (.bool true) ∧ Below w.heap.size w w') := Lib.hid (fun w => pright_any ⟨z, inc, 0⟩ w true (by rw [right_new, hz]))
  have hz' : 0 ≤ z ∧ z < 8 := by unfold nodeB at hz; simpa using hz
  have HZ := Lib.hid hz'
  have hzw : wfI z := by unfold wfI; omega
  clear hz
  have u0 := up_new w ⟨z, inc, 0⟩ 32
  obtain ⟨X, hX⟩ : ∃ X, w.heap.size = X := ⟨_, rfl⟩
  obtain ⟨W, hW⟩ : ∃ W, w.alloc (.cells #[.int .i64 z, .int .u32 (inc : Int), .int .i64 0] 32) = W := ⟨_, rfl⟩
  have hb0 : Below w.heap.size w W := by rw [← hW]; exact below1 _ _
  simp only at u0
  rw [hX, hW] at u0
  have HU := Lib.hid u0
  have HB0 := Lib.hid hb0
  have HX := Lib.hid hX
  have HW := Lib.hid hW
  obtain ⟨c0, c1, c2⟩ := u0
  simp only [Nat.zero_add] at c1 c2
  have hmm := @run_makeMap Try.prog
  have HWF := Lib.hid hzw
  clear hb0 hX hW hz' hzw
  go_enter Try.func8, Try.ntmps8
  go_wp2_with fail
  rw [HW.out, HX.out]
  refine (HR.out _).mono ?_
  clear HR c0 c1 c2
  rintro e w1 ⟨rfl, hb⟩
  have hu1 := HU.out.below hb
  obtain ⟨c0, c1, c2⟩ := hu1
  simp only [Nat.zero_add] at c1 c2
  have HB1 := Lib.hid (HB0.out.trans (hb.mono HB0.out.size))
  have hm0 := MapIs.made w1
  have hlt := bcell_lt c0
  obtain ⟨w2, hrun, hm2, hg2, hs2⟩ := hm0.put ⟨z, inc, 0⟩ HWF.out (by unfold maxLen; omega)
  unfold upV at hrun
  simp only at hrun
  have HM2 := Lib.hid hm2
  have HG2 := Lib.hid hg2
  have HS2 := Lib.hid hs2
  clear hb hm0 hm2 hg2 hs2
  go_wp2
  go_ret2
  have hs := HS2.out
  have h1 := HB1.out.size
  simp only [World.size_alloc] at hs
  have hM : MapIs w2 w1.heap.size (Ro.new z inc).T 1 := HM2.out
  have hB2 : Below w.heap.size w w2 := (HB1.out.alloc h1 _).grown HG2.out (by simp; omega) (fun k e => by cases e; exact h1)
  refine ⟨_, _, rfl, ⟨heap_alloc_new w2 _, hM.block (heap_alloc_old _ _ hM.lt), Ro.ok.new HZ.out⟩, by omega, h1, hB2.alloc hB2.size _⟩
set_option maxHeartbeats 4000000 in
theorem rnew_no (z : Int) (inc : Nat) (w : World) (hz : nodeB z = false) : Calls Try.prog 9 #[.int .i64 z, .int .u32 (inc : Int)] w fun e w' => e = .returned (.pointer none) ∧ Below w.heap.size w w' := by
  have HR : Hid (∀ w, Calls Try.prog 29 #[.agg #[.int .i64 z, .int .u32 (inc : Int), .int .i64 0]] w fun e w' => e = .returned (.bool false) ∧ Below w.heap.size w w') := Lib.hid (fun w => rright_any ⟨z, inc, 0⟩ w false (by rw [right_new, hz]))
  clear hz
  go_enter Try.func9, Try.ntmps9
  go_wp2_with fail
  refine (HR.out _).mono ?_
  clear HR
  rintro e w' ⟨rfl, hb⟩
  have HB := Lib.hid ((below1 w (.cells #[.int .i64 z, .int .u32 (inc : Int), .int .i64 0] 32)).trans (hb.mono (by simp)))
  clear hb
  go_wp2
  go_ret
  exact ⟨rfl, HB.out⟩
theorem listTo_new {z : Int} {inc : Nat} (h : 0 ≤ z ∧ z < 8) : listTo (Ro.new z inc).T 8 = [⟨z, inc, 0⟩] := by
  have h' : z = 0 ∨ z = 1 ∨ z = 2 ∨ z = 3 ∨ z = 4 ∨ z = 5 ∨ z = 6 ∨ z = 7 := by omega
  rcases h' with rfl | rfl | rfl | rfl | rfl | rfl | rfl | rfl <;> rfl
set_option maxHeartbeats 4000000 in
theorem rnew_yes (z : Int) (inc : Nat) (w : World) (hz : nodeB z = true) : Calls Try.prog 9 #[.int .i64 z, .int .u32 (inc : Int)] w fun e w' => ∃ B v, e = .returned (.pointer (some ⟨B, 0, none⟩)) ∧ RrAt w' w.heap.size B v (Ro.new z inc) ∧ w.heap.size ≤ B ∧ Below w.heap.size w w' := by
  have HR : Hid (∀ w, Calls Try.prog 29 #[.agg #[.int .i64 z, .int .u32 (inc : Int), .int .i64 0]] w fun e w' => e = .returned (.bool true) ∧ Below w.heap.size w w') := Lib.hid (fun w => rright_any ⟨z, inc, 0⟩ w true (by rw [right_new, hz]))
  have hz' : 0 ≤ z ∧ z < 8 := by unfold nodeB at hz; simpa using hz
  have HZ := Lib.hid hz'
  clear hz
  have u0 := up_new w ⟨z, inc, 0⟩ 32
  obtain ⟨X, hX⟩ : ∃ X, w.heap.size = X := ⟨_, rfl⟩
  obtain ⟨W, hW⟩ : ∃ W, w.alloc (.cells #[.int .i64 z, .int .u32 (inc : Int), .int .i64 0] 32) = W := ⟨_, rfl⟩
  have hb0 : Below w.heap.size w W := by rw [← hW]; exact below1 _ _
  simp only at u0
  rw [hX, hW] at u0
  have HU := Lib.hid u0
  have HB0 := Lib.hid hb0
  have HX := Lib.hid hX
  have HW := Lib.hid hW
  obtain ⟨c0, c1, c2⟩ := u0
  simp only [Nat.zero_add] at c1 c2
  clear hb0 hX hW hz'
  go_enter Try.func9, Try.ntmps9
  go_wp2_with fail
  rw [HW.out, HX.out]
  refine (HR.out _).mono ?_
  clear HR c0 c1 c2
  rintro e w1 ⟨rfl, hb⟩
  have hu1 := HU.out.below hb
  obtain ⟨c0, c1, c2⟩ := hu1
  simp only [Nat.zero_add] at c1 c2
  have HB1 := Lib.hid (HB0.out.trans (hb.mono HB0.out.size))
  have hlt := bcell_lt c0
  clear hb
  go_wp2
  go_ret
  have h1 := HB1.out.size
  have hcell := heap_alloc_new w1 (.cells #[.int .i64 z, .int .u32 (inc : Int), .int .i64 0] 32)
  have hblk := heap_alloc_new (w1.alloc (.cells #[.int .i64 z, .int .u32 (inc : Int), .int .i64 0] 32)) (.cells #[.int .i64 z, .slice (some ⟨w1.heap.size, 0, none⟩) 1 1] 46)
  rw [World.size_alloc] at hblk
  refine ⟨_, _, rfl, ⟨hblk, ?_, Ro.ok.new HZ.out⟩, by omega, (HB1.out.alloc h1 _).alloc (by simp; omega) _⟩
  rw [listTo_new HZ.out]
  refine ⟨rfl, .inr ⟨w1.heap.size, 1, _, rfl, h1, (heap_alloc_old _ _ (by simp)).trans hcell, Nat.le_refl _, by unfold maxLen; omega, rfl, rfl⟩⟩
end Go.Proofs.Ytmfokogckfoheaa
