/-
  The law's works: an exact one is chosen, walked (layer 17).
-/
import Derived.Test.YtmegfkclpjddgaaZj42
import Derived.Test.YtmegfkclpjddgaaZj45
import Derived.Lib.QuietBelow
import Derived.BigQuiet
namespace Go.Proofs.Ytmegfkclpjddgaa
open Go.RowKit
set_option linter.unusedSimpArgs false
set_option linter.unusedVariables false

abbrev bStar : ByteArray := ⟨#[42]⟩
abbrev bDb : ByteArray := ⟨#[100, 98]⟩
abbrev bWeb : ByteArray := ⟨#[119, 101, 98]⟩
abbrev wk1 : Im := ⟨9, [⟨bStar, bDb, false, 1, 1⟩], 1⟩
abbrev wk2 : Im := ⟨9, [⟨bWeb, bDb, true, 2, 2⟩, ⟨bStar, bDb, false, 1, 1⟩], 2⟩
theorem wk_new : mostT 9 = 9 := rfl
theorem wk_add1 : Ls.addI ⟨9, [], 0⟩ bStar bDb false 1 = (0, wk1) := by kernel_rfl
theorem wk_add2 : Ls.addI wk1 bWeb bDb true 2 = (0, wk2) := by kernel_rfl
theorem wk_chosen : Chosen wk2.l bWeb bDb (some 0) := by
  refine ⟨by decide, by kernel_rfl, fun j hj _ => ?_, fun j hj _ => absurd hj (Nat.not_lt_zero j)⟩
  have hj2 : j < 2 := hj
  rcases (show j = 0 ∨ j = 1 by omega) with rfl | rfl
  · exact Nat.le_refl _
  · have h1 : (wk2.l[1]'hj).rank = 2 := by kernel_rfl
    have h2 : wk2.l[0].rank = 3 := by kernel_rfl
    rw [h1, h2]
    decide
set_option maxHeartbeats 1000000 in
theorem works_any (w : World) : Calls Try.prog 18 #[] w fun e w' => e = .returned (.bool true) ∧ Below w.heap.size w w' := by
  have HN := Lib.hid (inew_any 9 w (by omega))
  rw [wk_new] at HN
  obtain ⟨X, hX⟩ : ∃ X, w.heap.size = X := ⟨_, rfl⟩
  rw [hX] at HN ⊢
  have HX := Lib.hid hX
  clear hX
  go_enter Try.func18, Try.ntmps18
  go_wp2_with fail
  refine HN.out.mono ?_
  rintro e w1 ⟨B, Bt, rfl, h1, hb1⟩
  have hB : X ≤ Bt := h1.tmine.1
  have HA := Lib.hid (add_any bStar bDb false 1 h1 (by decide) (by decide) (by decide))
  rw [wk_add1] at HA
  have HB1 := Lib.hid hb1
  clear h1 hb1 HN
  go_wp2_with fail
  refine HA.out.mono ?_
  rintro e w2 ⟨rfl, h2, hb2⟩
  have HB2 : Hid (Below X w w2) := Lib.hid (HB1.out.trans (hb2.below (by have := HB1.out.size; have := HX.out; omega) (fun k hk e => by have : k = Bt := e; omega)))
  have HA2 := Lib.hid (add_any bWeb bDb true 2 h2 (by decide) (by decide) (by decide))
  rw [wk_add2] at HA2
  clear h2 hb2 HA
  go_wp2_with fail
  refine HA2.out.mono ?_
  rintro e w3 ⟨rfl, h3, hb3⟩
  have HB3 : Hid (Below X w w3) := Lib.hid (HB2.out.trans (hb3.below (by have := HB2.out.size; have := HX.out; omega) (fun k hk e => by have : k = Bt := e; omega)))
  have HD := Lib.hid (decide_any bWeb bDb false h3 (by decide) (by decide))
  clear h3 hb3 HA2
  go_wp2_with fail
  refine HD.out.mono ?_
  rintro e w4 ⟨o, ho, rfl, hb4⟩
  obtain rfl : o = some 0 := ho.uniq wk_chosen
  have HB4 : Hid (Below X w w4) := Lib.hid (HB3.out.trans (hb4.mono (by have := HB3.out.size; have := HX.out; omega)))
  have hav : (wk2.l.map (·.allow)).getD 0 false = true := rfl
  simp only [hav]
  clear hb4 ho HD hav
  go_wp2
  go_ret
  exact ⟨rfl, HB4.out⟩
end Go.Proofs.Ytmegfkclpjddgaa
/-
  Of any list the one is chosen that the document says: the law IntentChooses, walked (layer 17).
-/
namespace Go.Proofs.Ytmegfkclpjddgaa
open Go.RowKit Go.Sort
set_option linter.unusedSimpArgs false
set_option linter.unusedVariables false

/-- The decision, the place. -/
def cA (l : List Ir) (b : Bool) (o : Option Nat) : Bool := match o with | none => b | some k => (l.map (·.allow)).getD k false
def cK (o : Option Nat) : Int := match o with | none => -1 | some k => (k : Int)
theorem ChPost.is {w w' : World} {l : List Ir} {s d : ByteArray} {b : Bool} {e : Ending} {o : Option Nat} (h : ChPost w l s d b e w') (ho : Chosen l s d o) : e = .returned (.tuple #[.bool (cA l b o), .int .i64 (cK o)]) ∧ Below w.heap.size w w' := by
  obtain ⟨o2, h1, h2, h3⟩ := h
  obtain rfl := h1.uniq ho
  exact ⟨h2, h3⟩
set_option maxHeartbeats 4000000 in
set_option maxRecDepth 100000 in
theorem chooses_walk (A : Option Addr) (n c : Nat) (l : List Ir) (s d : ByteArray) (w : World) (hS : SK irC 5 w A n l) (hn : n ≤ maxLen) (hs : s.size ≤ maxLen) (hd : d.size ≤ maxLen) :
    Calls Try.prog 4 #[.slice A n c, .string s, .string d] w fun e w' => e = .returned (.bool true) ∧ Below w.heap.size w w' := by
  obtain ⟨o, ho⟩ := chosen_ex l s d
  have HP := Lib.hid (fun (b : Bool) (W : World) (hb : Below w.heap.size w W) => (choose_any A n c l s d b W (hS.below hb) hn hs hd).mono fun e w2 h => h.is ho)
  have HD := Lib.hid (fun (b : Bool) (W : World) (hb : Below w.heap.size w W) => (rchoose_any A n c l s d b W (hS.below hb) hn hs hd).mono fun e w2 h => h.is ho)
  obtain ⟨a, ha⟩ : ∃ a, cA l false o = a := ⟨_, rfl⟩
  obtain ⟨b, hb⟩ : ∃ b, cA l true o = b := ⟨_, rfl⟩
  obtain ⟨k0, hk0⟩ : ∃ k, cK o = k := ⟨_, rfl⟩
  have HP1 := Lib.hid (HP.out false)
  have HP2 := Lib.hid (HP.out true)
  have HD1 := Lib.hid (HD.out false)
  have HD2 := Lib.hid (HD.out true)
  rw [ha, hk0] at HP1 HD1
  rw [hb, hk0] at HP2 HD2
  have HWk := Lib.hid works_any
  have HS := Lib.hid hS
  have HL := Lib.hid hS.1
  unfold maxLen at hn
  have hm : (n : Int) ≤ 9223372036854775807 := by omega
  clear hS hs hd ho ha hb hk0 HP HD hn
  go_enter Try.func4, Try.ntmps4
  go_wp2_with fail
  refine (HP1.out w (Below.refl _ _)).mono ?_
  rintro e w1 ⟨rfl, hb1⟩
  have HB1 := Lib.hid hb1
  clear hb1
  go_wp2_with fail
  refine (HD1.out w1 HB1.out).mono ?_
  rintro e w2 ⟨rfl, hb2⟩
  have HB2 := Lib.hid (HB1.out.trans (hb2.mono HB1.out.size))
  clear hb2
  go_wp2_with fail
  refine (HP2.out w2 HB2.out).mono ?_
  rintro e w3 ⟨rfl, hb3⟩
  have HB3 := Lib.hid (HB2.out.trans (hb3.mono HB2.out.size))
  clear hb3
  go_wp2_with fail
  refine (HD2.out w3 HB3.out).mono ?_
  rintro e w4 ⟨rfl, hb4⟩
  have HB4 := Lib.hid (HB3.out.trans (hb4.mono HB3.out.size))
  clear hb4 HP1 HP2 HD1 HD2
  go_wp2
  go_loopw [15] (fun iv wr => ∃ k : Nat, k ≤ n ∧ iv = .int .i64 (k : Int) ∧ Hid (Below w.heap.size w wr)) (fun iv _ => n - (intOf iv).toNat)
  case atStart => exact ⟨0, Nat.zero_le _, rfl, HB4⟩
  case round =>
    obtain ⟨k, hk, rfl, hb⟩ := hrel
    by_cases hlt : k < n
    · have hkl : k < l.length := by rw [HL.out]; exact hlt
      obtain ⟨bb, off, rfl, hbl, hit⟩ := (HS.out.below hb.out).at_ hlt hkl
      obtain ⟨x, hx⟩ : ∃ x, l[k] = x := ⟨_, rfl⟩
      rw [hx] at hit
      obtain ⟨e0, e1, e2, e3, e4⟩ := ir_cells hit
      have q0 := cell_regrown e0
      have q1 := cell_regrown e1
      have q2 := cell_regrown e2
      have q3 := cell_regrown e3
      have q4 := cell_regrown e4
      have HRp : Hid (∀ d os, Calls Try.prog 21 #[.agg #[.string x.src, .string x.dst, .bool x.allow, .int .u64 (x.made : Int), .int .u64 (x.ix : Int)]] (grow (redrawn wr d) os) fun e w'' => e = .returned (.int .i64 (x.rank : Int)) ∧ ∃ p : Regrown, w'' = grow (redrawn wr p.d) p.os) := Lib.hid fun d os => Calls.regrown_of ((rank_any x _).mono fun e w2 ⟨h1, h2⟩ => ⟨h1, by rw [h2]; exact below1 _ _ _⟩)
      have HRd : Hid (∀ d os, Calls Try.prog 22 #[.agg #[.string x.src, .string x.dst, .bool x.allow, .int .u64 (x.made : Int), .int .u64 (x.ix : Int)]] (grow (redrawn wr d) os) fun e w'' => e = .returned (.int .i64 (x.rank : Int)) ∧ ∃ p : Regrown, w'' = grow (redrawn wr p.d) p.os) := Lib.hid fun d os => Calls.regrown_of (rrank_any x _)
      have g1 : (k : Int) < (n : Int) := by omega
      have g0 : (0 : Int) ≤ (k : Int) := by omega
      have zz : ((x.rank : Int) != (x.rank : Int)) = false := by simp
      clear hx hit e0 e1 e2 e3 e4
      go_wp2_with fail
      refine wp_region_quiet_below (by kernel_rfl) (by kernel_rfl) ?_
      repeat (go_big_quiet_step (first | exact HRp.out _ _ | exact HRd.out _ _))
      refine wpQuiet_nil ?_
      rintro _ ⟨⟨dq, osq⟩, rfl⟩
      have HBq := Lib.hid (hb.out.trans ((below_regrown wr dq osq).mono hb.out.size))
      clear q0 q1 q2 q3 q4 HRp HRd
      go_wp2
      go_roundw
      case rel => exact ⟨k + 1, by omega, by go_num, HBq⟩
      case measure => simp [intOf]; omega
    · go_wp2_with fail
      refine (HWk.out wr).mono ?_
      rintro e w5 ⟨rfl, hb5⟩
      have HB5 := Lib.hid (hb.out.trans (hb5.mono hb.out.size))
      clear hb5
      go_wp2
      go_ret
      exact ⟨rfl, HB5.out⟩
end Go.Proofs.Ytmegfkclpjddgaa
