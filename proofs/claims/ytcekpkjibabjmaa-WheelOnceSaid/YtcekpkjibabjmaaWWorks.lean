/-
  works, of the law's: a timer (layer 6).
-/
import Derived.Test.YtcekpkjibabjmaaWLeft
import Derived.Test.YtcekpkjibabjmaaWTick
namespace Go.Proofs.Ytcekpkjibabjmaa
open Go.RowKit
set_option linter.unusedSimpArgs false

theorem wfI_small {z : Int} (h1 : -1000000000000 ≤ z) (h2 : z ≤ 1000000000000) : wfI z := by unfold wfI; omega
/-- All blocks from B on. -/
def From (B : Nat) : Nat → Prop := fun k => B ≤ k
theorem kept_below {B : Nat} {w w' : World} (h : Kept (From B) w w') (hB : B ≤ w.heap.size) : Below B w w' := h.1.below hB (fun _ hk hk' => absurd hk' (Nat.not_le.2 hk))
set_option maxHeartbeats 2000000 in
theorem works_any (w : World) : Calls Try.prog 17 #[] w fun e w' => e = .returned (.bool true) ∧ Below w.heap.size w w' := by
  have HNew := Lib.hid (new_at w)
  have hmay : St.new.may 7 1 = true := by decide
  have hd : (St.new.set 7 1).due = [7] := by decide
  have hnow : (St.new.set 7 1).now = 0 := by decide
  obtain ⟨s1, hs1⟩ : ∃ s1, St.new.set 7 1 = s1 := ⟨_, rfl⟩
  rw [hs1] at hd hnow
  have HM := Lib.hid hmay
  have HD := Lib.hid hd
  have HNw := Lib.hid hnow
  have HS1 := Lib.hid hs1
  clear hmay hd hnow hs1
  go_enter Try.func17, Try.ntmps17
  go_wp2_with fail
  refine HNew.out.mono ?_
  rintro e w1 ⟨B, rfl, h1, hb1⟩
  have hset := set_at _ w1 B St.new h1 (fun k hk => Nat.le_trans hb1.size hk) 7 1 (wfI_small (by omega) (by omega)) (wfI_small (by omega) (by omega)) (by show 0 ≤ _; omega)
  rw [HM.out, HS1.out] at hset
  have HSet := Lib.hid hset
  have HB1 := Lib.hid hb1
  clear h1 hset hb1
  go_wp2_with fail
  refine HSet.out.mono ?_
  rintro e w2 ⟨rfl, h2, hk2⟩
  have HB2 : Hid (Below w.heap.size w w2) := Lib.hid (HB1.out.trans (kept_below hk2 HB1.out.size))
  have HTick := Lib.hid (tick_at _ w2 B s1 h2 (fun k hk => Nat.le_trans HB2.out.size hk) (by rw [HNw.out]; omega))
  clear h2 hk2
  go_wp2_with fail
  refine HTick.out.mono ?_
  rintro e w3 ⟨v, rfl, hv, _, _, hk3⟩
  rw [HD.out] at hv
  obtain ⟨A, c, rfl, _, _⟩ := row_shape hv
  have HB3 : Hid (Below w.heap.size w w3) := Lib.hid (HB2.out.trans (kept_below hk3 HB2.out.size))
  clear hv hk3
  go_wp2
  go_ret
  exact ⟨rfl, HB3.out⟩
end Go.Proofs.Ytcekpkjibabjmaa
