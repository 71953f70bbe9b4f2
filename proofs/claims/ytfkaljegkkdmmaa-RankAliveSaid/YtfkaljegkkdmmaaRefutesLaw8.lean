/-
  With any incarnation of its own a node refutes any update as the document says: the law sodalitylaw08.RankRefutes over the contracts (layer 8).
-/
import Derived.Test.YtfkaljegkkdmmaaRkWalkB
namespace Go.Proofs.Ytfkaljegkkdmmaa
open Go.RowKit
set_option linter.unusedSimpArgs false
set_option linter.unusedVariables false

theorem UpAt.below {w w' : World} {X o : Nat} {x : Up} (h : UpAt w X o x) (hb : Below w.heap.size w w') : UpAt w' X o x := by
  have hlt : X < w.heap.size := bcell_lt h.1
  exact h.of_block (hb.block X hlt)
set_option maxHeartbeats 4000000 in
theorem refutes_walk (own : Nat) (u : Up) (w : World) (ho : own ≤ 4294967295) (hi : u.inc ≤ 4294967295) :
    Calls Try.prog 5 #[.int .u32 (own : Int), .agg #[.int .i64 u.node, .int .u32 (u.inc : Int), .int .i64 u.st]] w fun e w' => e = .returned (.bool true) ∧ Below w.heap.size w w' := by
  obtain ⟨X, hX⟩ : ∃ X, w.heap.size = X := ⟨_, rfl⟩
  have hu0 := up_new w u 24
  obtain ⟨W0, hW0⟩ : ∃ W0, w.alloc (.cells #[.int .i64 u.node, .int .u32 (u.inc : Int), .int .i64 u.st] 24) = W0 := ⟨_, rfl⟩
  have hb0 : Below w.heap.size w W0 := by rw [← hW0]; exact below1 _ _
  rw [hW0, hX] at hu0
  obtain ⟨r, k, hrk⟩ : ∃ r k, refuteN own u.inc = (r, k) := ⟨_, _, rfl⟩
  have HP := Lib.hid (fun w => prefute_any own u w r k hrk ho hi)
  have HR := Lib.hid (fun w => rrefute_any own u w r k hrk ho hi)
  have HWk := Lib.hid (fun w => works_any w)
  have HX := Lib.hid hX
  have HW0 := Lib.hid hW0
  have HB0 := Lib.hid hb0
  have HU0 := Lib.hid hu0
  obtain ⟨c0, c1, c2⟩ := hu0
  simp only [Nat.zero_add] at c1 c2
  clear hX hW0 hb0 hrk ho hi
  go_enter Try.func5, Try.ntmps5
  go_wp2_with fail
  rw [HW0.out, HX.out]
  refine (HP.out _).mono ?_
  clear HP
  rintro e w1 ⟨rfl, hb1⟩
  have hu1 := HU0.out.below hb1
  have HB1 := Lib.hid (HB0.out.trans (hb1.mono HB0.out.size))
  clear c0 c1 c2 hb1
  obtain ⟨c0, c1, c2⟩ := hu1
  simp only [Nat.zero_add] at c1 c2
  go_wp2_with fail
  refine (HR.out _).mono ?_
  clear HR
  rintro e w2 ⟨rfl, hb2⟩
  have HB2 := Lib.hid (HB1.out.trans (hb2.mono HB1.out.size))
  clear c0 c1 c2 hb2
  go_wp2_with fail
  refine (HWk.out _).mono ?_
  clear HWk
  rintro e w3 ⟨rfl, hb3⟩
  have HB3 := Lib.hid (HB2.out.trans (hb3.mono HB2.out.size))
  clear hb3
  go_wp2
  go_ret
  exact ⟨by simp, HB3.out⟩
theorem refutes_row (z : Int) (u : Up) (w : World) (hz : 0 ≤ z ∧ z ≤ 4294967295) (hu : u.inc < 4294967296) :
    Calls Try.prog 5 #[.int .u32 z, .agg #[.int .i64 u.node, .int .u32 (u.inc : Int), .int .i64 u.st]] w fun e w' => e = .returned (.bool true) ∧ Below w.heap.size w w' := by
  have h := refutes_walk z.toNat u w (by omega) (by omega)
  rwa [show ((z.toNat : Nat) : Int) = z by omega] at h
end Go.Proofs.Ytfkaljegkkdmmaa
