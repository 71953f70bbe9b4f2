/-
  The law's works: an exact one is chosen, walked (layer 17).
-/
import Derived.Test.YtmegfkclpjddgaaZj34
import Derived.Test.YtmegfkclpjddgaaZj37
namespace Go.Proofs.Ytmegfkclpjddgaa
open Go.RowKit
set_option linter.unusedSimpArgs false
set_option linter.unusedVariables false

abbrev bStar : ByteArray := ⟨#[42]⟩
abbrev bDb : ByteArray := ⟨#[100, 98]⟩
abbrev bWeb : ByteArray := ⟨#[119, 101, 98]⟩
abbrev wk1 : Im := ⟨9, [⟨bStar, bDb, false, 1, 1⟩], 1⟩
abbrev wk2 : Im := ⟨9, [⟨bWeb, bDb, true, 2, 2⟩, ⟨bStar, bDb, false, 1, 1⟩], 2⟩
theorem wk_new : mostT 9 = 9 := rfl
theorem wk_add1 : Ls.addI ⟨9, [], 0⟩ bStar bDb false 1 = (0, wk1) := by kernel_rfl
theorem wk_add2 : Ls.addI wk1 bWeb bDb true 2 = (0, wk2) := by kernel_rfl
theorem wk_chosen : Chosen wk2.l bWeb bDb (some 0) := by
  refine ⟨by decide, by kernel_rfl, fun j hj _ => ?_, fun j hj _ => absurd hj (Nat.not_lt_zero j)⟩
  have hj2 : j < 2 := hj
  rcases (show j = 0 ∨ j = 1 by omega) with rfl | rfl
  · exact Nat.le_refl _
  · have h1 : (wk2.l[1]'hj).rank = 2 := by kernel_rfl
    have h2 : wk2.l[0].rank = 3 := by kernel_rfl
    rw [h1, h2]
    decide
set_option maxHeartbeats 1000000 in
theorem works_any (w : World) : Calls Try.prog 18 #[] w fun e w' => e = .returned (.bool true) ∧ Below w.heap.size w w' := by
  have HN := Lib.hid (inew_any 9 w (by omega))
  rw [wk_new] at HN
  obtain ⟨X, hX⟩ : ∃ X, w.heap.size = X := ⟨_, rfl⟩
  rw [hX] at HN ⊢
  have HX := Lib.hid hX
  clear hX
  go_enter Try.func18, Try.ntmps18
  go_wp2_with fail
  refine HN.out.mono ?_
  rintro e w1 ⟨B, Bt, rfl, h1, hb1⟩
  have hB : X ≤ Bt := h1.tmine.1
  have HA := Lib.hid (add_any bStar bDb false 1 h1 (by decide) (by decide) (by decide))
  rw [wk_add1] at HA
  have HB1 := Lib.hid hb1
  clear h1 hb1 HN
  go_wp2_with fail
  refine HA.out.mono ?_
  rintro e w2 ⟨rfl, h2, hb2⟩
  have HB2 : Hid (Below X w w2) := Lib.hid (HB1.out.trans (hb2.below (by have := HB1.out.size; have := HX.out; omega) (fun k hk e => by have : k = Bt := e; omega)))
  have HA2 := Lib.hid (add_any bWeb bDb true 2 h2 (by decide) (by decide) (by decide))
  rw [wk_add2] at HA2
  clear h2 hb2 HA
  go_wp2_with fail
  refine HA2.out.mono ?_
  rintro e w3 ⟨rfl, h3, hb3⟩
  have HB3 : Hid (Below X w w3) := Lib.hid (HB2.out.trans (hb3.below (by have := HB2.out.size; have := HX.out; omega) (fun k hk e => by have : k = Bt := e; omega)))
  have HD := Lib.hid (decide_any bWeb bDb false h3 (by decide) (by decide))
  clear h3 hb3 HA2
  go_wp2_with fail
  refine HD.out.mono ?_
  rintro e w4 ⟨o, ho, rfl, hb4⟩
  obtain rfl : o = some 0 := ho.uniq wk_chosen
  have HB4 : Hid (Below X w w4) := Lib.hid (HB3.out.trans (hb4.mono (by have := HB3.out.size; have := HX.out; omega)))
  have hav : (wk2.l.map (·.allow)).getD 0 false = true := rfl
  simp only [hav]
  clear hb4 ho HD hav
  go_wp2
  go_ret
  exact ⟨rfl, HB4.out⟩
end Go.Proofs.Ytmegfkclpjddgaa
