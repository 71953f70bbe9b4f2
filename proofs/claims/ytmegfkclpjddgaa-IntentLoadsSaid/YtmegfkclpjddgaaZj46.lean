/-
  The law's works: an exact one is chosen, walked (layer 17).
-/
import Derived.Test.YtmegfkclpjddgaaZj39
import Derived.Test.YtmegfkclpjddgaaZj42
import Derived.Test.YtmegfkclpjddgaaZj43
import Derived.Test.YtmegfkclpjddgaaZj45
import Derived.Test.YtmegfkclpjddgaaZj19
namespace Go.Proofs.Ytmegfkclpjddgaa
open Go.RowKit
set_option linter.unusedSimpArgs false
set_option linter.unusedVariables false

abbrev bStar : ByteArray := ⟨#[42]⟩
abbrev bDb : ByteArray := ⟨#[100, 98]⟩
abbrev bWeb : ByteArray := ⟨#[119, 101, 98]⟩
abbrev wk1 : Im := ⟨9, [⟨bStar, bDb, false, 1, 1⟩], 1⟩
abbrev wk2 : Im := ⟨9, [⟨bWeb, bDb, true, 2, 2⟩, ⟨bStar, bDb, false, 1, 1⟩], 2⟩
theorem wk_new : mostT 9 = 9 := rfl
theorem wk_add1 : Ls.addI ⟨9, [], 0⟩ bStar bDb false 1 = (0, wk1) := by kernel_rfl
theorem wk_add2 : Ls.addI wk1 bWeb bDb true 2 = (0, wk2) := by kernel_rfl
theorem wk_chosen : Chosen wk2.l bWeb bDb (some 0) := by
  refine ⟨by decide, by kernel_rfl, fun j hj _ => ?_, fun j hj _ => absurd hj (Nat.not_lt_zero j)⟩
  have hj2 : j < 2 := hj
  rcases (show j = 0 ∨ j = 1 by omega) with rfl | rfl
  · exact Nat.le_refl _
  · have h1 : (wk2.l[1]'hj).rank = 2 := by kernel_rfl
    have h2 : wk2.l[0].rank = 3 := by kernel_rfl
    rw [h1, h2]
    decide
set_option maxHeartbeats 1000000 in
theorem works_any (w : World) : Calls Try.prog 18 #[] w fun e w' => e = .returned (.bool true) ∧ Below w.heap.size w w' := by
  have HN := Lib.hid (inew_any 9 w (by omega))
  rw [wk_new] at HN
  obtain ⟨X, hX⟩ : ∃ X, w.heap.size = X := ⟨_, rfl⟩
  rw [hX] at HN ⊢
  have HX := Lib.hid hX
  clear hX
  go_enter Try.func18, Try.ntmps18
  go_wp2_with fail
  refine HN.out.mono ?_
  rintro e w1 ⟨B, Bt, rfl, h1, hb1⟩
  have hB : X ≤ Bt := h1.tmine.1
  have HA := Lib.hid (add_any bStar bDb false 1 h1 (by decide) (by decide) (by decide))
  rw [wk_add1] at HA
  have HB1 := Lib.hid hb1
  clear h1 hb1 HN
  go_wp2_with fail
  refine HA.out.mono ?_
  rintro e w2 ⟨rfl, h2, hb2⟩
  have HB2 : Hid (Below X w w2) := Lib.hid (HB1.out.trans (hb2.below (by have := HB1.out.size; have := HX.out; omega) (fun k hk e => by have : k = Bt := e; omega)))
  have HA2 := Lib.hid (add_any bWeb bDb true 2 h2 (by decide) (by decide) (by decide))
  rw [wk_add2] at HA2
  clear h2 hb2 HA
  go_wp2_with fail
  refine HA2.out.mono ?_
  rintro e w3 ⟨rfl, h3, hb3⟩
  have HB3 : Hid (Below X w w3) := Lib.hid (HB2.out.trans (hb3.below (by have := HB2.out.size; have := HX.out; omega) (fun k hk e => by have : k = Bt := e; omega)))
  have HD := Lib.hid (decide_any bWeb bDb false h3 (by decide) (by decide))
  clear h3 hb3 HA2
  go_wp2_with fail
  refine HD.out.mono ?_
  rintro e w4 ⟨o, ho, rfl, hb4⟩
  obtain rfl : o = some 0 := ho.uniq wk_chosen
  have HB4 : Hid (Below X w w4) := Lib.hid (HB3.out.trans (hb4.mono (by have := HB3.out.size; have := HX.out; omega)))
  have hav : (wk2.l.map (·.allow)).getD 0 false = true := rfl
  simp only [hav]
  clear hb4 ho HD hav
  go_wp2
  go_ret
  exact ⟨rfl, HB4.out⟩
end Go.Proofs.Ytmegfkclpjddgaa
/-
  Any intentions are loaded as they are, or are refused, just as the document says: the law IntentLoads, walked (layer 17).
-/
namespace Go.Proofs.Ytmegfkclpjddgaa
open Go.RowKit
set_option linter.unusedSimpArgs false
set_option linter.unusedVariables false

set_option maxHeartbeats 8000000 in
set_option maxRecDepth 100000 in
theorem loads_walk (m : Int) (hm : -9223372036854775808 ≤ m ∧ m ≤ 9223372036854775807) (A : Option Addr) (n c : Nat) (l : List Ir) (last : Nat) (w : World) (hS : SK irC 5 w A n l) (hn : n ≤ maxLen) (hin : ∀ x ∈ l, x.In) (hlast : last < 18446744073709551616) :
    Calls Try.prog 8 #[.int .i64 m, .slice A n c, .int .u64 (last : Int)] w fun e w' => e = .returned (.bool true) ∧ Below w.heap.size w w' := by
  have HL := Lib.hid (load_any m hm A n c l last w hS hn hin hlast)
  have HM : Hid (∀ w1, Below w.heap.size w w1 → _) := Lib.hid fun w1 (h : Below w.heap.size w w1) => rmay_any m hm A n c l last w1 (hS.below h) hn hin
  have HWk := Lib.hid works_any
  have HS := Lib.hid hS
  have HSl := Lib.hid hS.1
  have HNn := Lib.hid hn
  obtain ⟨g0, hg0⟩ : ∃ g0, w.heap.size = g0 := ⟨_, rfl⟩
  rw [hg0] at HL HM ⊢
  have HG0 := Lib.hid hg0
  obtain ⟨mo, hmo⟩ : ∃ mo, mostT m = mo := ⟨_, rfl⟩
  rw [hmo] at HL HM
  clear hm hS hn hin hlast hg0 hmo
  go_enter Try.func8, Try.ntmps8
  go_wp2_with fail
  refine HL.out.mono ?_
  rintro e w1 ⟨hb1, ⟨hY, B, Bt, rfl, hat⟩ | ⟨hN, rfl⟩⟩
  · have HB1 := Lib.hid hb1
    have HAt := Lib.hid hat
    have HYes := Lib.hid hY
    have HM1 := Lib.hid (HM.out w1 hb1)
    have hz1 : g0 ≤ w1.heap.size := by have := hb1.size; have := HG0.out; omega
    clear hb1 hat hY HL HM
    go_wp2_with fail
    refine HM1.out.mono ?_
    rintro e w2 ⟨b, rfl, hb, hb2⟩
    obtain rfl := hb.2 HYes.out
    have HB2 : Hid (Below g0 w w2) := Lib.hid (HB1.out.trans (hb2.mono hz1))
    have HAt2 := Lib.hid (HAt.out.below hb2)
    have hz2 : g0 ≤ w2.heap.size := by have := HB2.out.size; have := HG0.out; omega
    have HLi := Lib.hid (ilist_any HAt2.out)
    clear hb hb2 HM1
    go_wp2_with fail
    refine HLi.out.mono ?_
    rintro e w3 ⟨v, rfl, hr3, hb3⟩
    obtain ⟨A3, c3, rfl, s3, _⟩ := SK.of_row irC_len hr3
    have HB3 : Hid (Below g0 w w3) := Lib.hid (HB2.out.trans (hb3.mono hz2))
    have HAt3 := Lib.hid (HAt2.out.below hb3)
    have hz3 : g0 ≤ w3.heap.size := by have := HB3.out.size; have := HG0.out; omega
    have HSm := Lib.hid (risame_any A3 n c3 l A c w3 (by have := s3; simp only [HSl.out] at this; exact this) (HS.out.below (by rw [HG0.out]; exact HB3.out)) HNn.out)
    have hl := HSl.out
    clear hr3 hb3 s3 HLi
    simp only [hl]
    go_wp2_with fail
    refine HSm.out.mono ?_
    rintro e w4 ⟨rfl, hb4⟩
    have HB4 : Hid (Below g0 w w4) := Lib.hid (HB3.out.trans (hb4.mono hz3))
    have HAt4 := Lib.hid (HAt3.out.below hb4)
    have hz4 : g0 ≤ w4.heap.size := by have := HB4.out.size; have := HG0.out; omega
    clear hb4 HSm
    go_wp2_with fail
    refine (ilast_any HAt4.out).mono ?_
    rintro e w5 ⟨rfl, rfl⟩
    simp only
    have zz : ((last : Int) == (last : Int)) = true := by simp
    go_wp2_with fail
    refine (HWk.out w4).mono ?_
    rintro e w6 ⟨rfl, hb6⟩
    have HB6 : Hid (Below g0 w w6) := Lib.hid (HB4.out.trans (hb6.mono hz4))
    clear hb6
    go_wp2
    go_ret
    exact ⟨rfl, HB6.out⟩
  · have HB1 := Lib.hid hb1
    have HNo := Lib.hid hN
    have HM1 := Lib.hid (HM.out w1 hb1)
    have hz1 : g0 ≤ w1.heap.size := by have := hb1.size; have := HG0.out; omega
    clear hb1 hN HL HM
    go_wp2_with fail
    refine HM1.out.mono ?_
    rintro e w2 ⟨b, rfl, hb, hb2⟩
    have HB2 : Hid (Below g0 w w2) := Lib.hid (HB1.out.trans (hb2.mono hz1))
    have hz2 : g0 ≤ w2.heap.size := by have := HB2.out.size; have := HG0.out; omega
    cases b with
    | true => exact absurd (hb.1 rfl) HNo.out
    | false =>
      clear hb hb2 HM1
      go_wp2_with fail
      refine (HWk.out w2).mono ?_
      rintro e w6 ⟨rfl, hb6⟩
      have HB6 : Hid (Below g0 w w6) := Lib.hid (HB2.out.trans (hb6.mono hz2))
      clear hb6
      go_wp2
      go_ret
      exact ⟨rfl, HB6.out⟩
end Go.Proofs.Ytmegfkclpjddgaa
