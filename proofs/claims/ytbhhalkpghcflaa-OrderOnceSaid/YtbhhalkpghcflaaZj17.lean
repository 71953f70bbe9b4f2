/-
  The program's right, walked (layer 20).
-/
import Derived.Test.YtbhhalkpghcflaaZj16
namespace Go.Proofs.Ytbhhalkpghcflaa
open Go.RowKit
set_option linter.unusedSimpArgs false
set_option linter.unusedVariables false

/-- What a field must be. -/
def fAt (F : Nat) (x : CmW) (tags : List (List UInt8)) (sR : Bool) (k : Nat) : Bool := if F.testBit k then rAt x tags sR k else eAt x tags k
/-- Which commands the program takes, where they may have some fields alone. -/
def takes (may : Nat) (x : CmW) (tags : List (List UInt8)) (sR : Bool) : Bool := !decide (maskN x.kind &&& may = 0) && (List.range 16).all (fAt (maskN x.kind &&& may) x tags sR)
theorem takes_no {may : Nat} {x : CmW} {tags : List (List UInt8)} {sR : Bool} {k : Nat} (hk : k < 16) (h : fAt (maskN x.kind &&& may) x tags sR k = false) : takes may x tags sR = false := by
  unfold takes
  rw [all_no (List.mem_range.2 hk) h, Bool.and_false]
theorem takes_yes {may : Nat} {x : CmW} {tags : List (List UInt8)} {sR : Bool} (h0 : maskN x.kind &&& may ≠ 0) (h : ∀ k, k < 16 → fAt (maskN x.kind &&& may) x tags sR k = true) : takes may x tags sR = true := by
  unfold takes
  rw [decide_eq_false h0, List.all_eq_true.2 fun k hk => h k (List.mem_range.1 hk)]
  rfl
set_option maxRecDepth 100000 in
set_option maxHeartbeats 4000000 in
theorem right_gen (may : Nat) (x : CmW) (tags : List (List UInt8)) (subs : List Sub) (f : Sub → Bool) (w : World) (hm : may < 65536) (h0 : Cm0 w x tags)
    (hs : (maskN x.kind &&& may).testBit 15 = true → x.sn ≤ 8 → SK cmC 17 w x.sA x.sn (subs.map (·.1)) ∧ ∀ y ∈ subs, Asks w y.1 (f y)) :
    Calls Try.prog 16 #[cmV x, .int .u64 (may : Int)] w (YesB (takes may x tags (decide (x.sn ≤ 8) && subs.all f)) w) := by
  obtain ⟨R, hR⟩ : ∃ R, takes may x tags (decide (x.sn ≤ 8) && subs.all f) = R := ⟨_, rfl⟩
  obtain ⟨F, hF⟩ : ∃ F, maskN x.kind &&& may = F := ⟨_, rfl⟩
  have hFlt : F < 65536 := by rw [← hF]; exact Nat.lt_of_le_of_lt Nat.and_le_left (maskN_lt _)
  have hand : bits .and .u64 (maskN x.kind : Int) (may : Int) = (F : Int) := by rw [and_u64 _ _ (by have := maskN_lt x.kind; omega) (by omega), hF]
  have NO := Lib.hid (fun k (hk : k < 16) (h : fAt F x tags (decide (x.sn ≤ 8) && subs.all f) k = false) => (hR.symm.trans (takes_no hk (by rw [hF]; exact h)) : R = false))
  have YES := Lib.hid (fun (h1 : F ≠ 0) (h : ∀ k, k < 16 → fAt F x tags (decide (x.sn ≤ 8) && subs.all f) k = true) => (hR.symm.trans (takes_yes (by rw [hF]; exact h1) (by rw [hF]; exact h)) : R = true))
  have ZERO := Lib.hid (fun (h1 : F = 0) => (by rw [← hR]; unfold takes; rw [hF, decide_eq_true h1]; rfl : R = false))
  rw [hF] at hs
  rw [hR]
  clear hR hF
  have CS := Lib.hid (fun W => setOf_any x.kind W)
  obtain ⟨h, hh⟩ : ∃ h, w.heap.size + 1 = h := ⟨_, rfl⟩
  obtain ⟨acs, hacs⟩ : ∃ acs, (acCs h).toArray = acs := ⟨_, rfl⟩
  have HIX := Lib.hid (fun k hk w => ac_index h k hk w)
  rw [hacs] at HIX
  have CA : Hid (∀ W : World, W.heap.size = h → Calls Try.prog 34 #[.pointer (some ⟨w.heap.size, 0, none⟩)] W fun e w' => e = .returned (.agg acs) ∧ AcAt w' h w.heap.size ∧ w'.heap.size = h + 33 ∧ Below W.heap.size W w') := Lib.hid (fun W hW => by
    have := accesses_any w.heap.size W
    rw [hW, hacs] at this
    rw [hW]
    exact this)
  have HH := Lib.hid hh
  clear hh hacs
  have CB := Lib.hid (fun k hk W => bit_has F k W hFlt hk)
  have HBx := Lib.hid (Bx.new w x)
  have H0 := Lib.hid h0
  have HS := Lib.hid hs
  obtain ⟨M, hM⟩ : ∃ M, maskN x.kind = M := ⟨_, rfl⟩
  rw [hM] at hand CS
  clear h0 hs hFlt hm hM
  have HAND := Lib.hid hand
  clear hand
  unfold cmV strV
  go_enter Try.func16, Try.ntmps16
  have hand := HAND.out
  by_cases hz : F = 0
  · have ER := Lib.hid (ZERO.out hz)
    have hz' : ((F : Int) == 0) = true := by rw [hz]; rfl
    clear hz
    go_wp2_with (go_at_call 33; refine (CS.out _).mono ?_; rintro e wA ⟨rfl, rfl⟩)
    go_ret
    exact ⟨rb ER.out.symm, (Below.refl _ w).alloc (Nat.le_refl _) _⟩
  · have HZ := Lib.hid hz
    have hz' : ((F : Int) == 0) = false := by simpa using hz
    clear hz
    go_wp2_with (go_at_call 33; refine (CS.out _).mono ?_; rintro e wA ⟨rfl, rfl⟩)
    refine (CA.out _ (by rw [← HH.out]; simp)).mono ?_
    rintro e w2 ⟨rfl, hac, hsz, hb⟩
    have HAC := Lib.hid hac
    have HB2 := Lib.hid (((Below.refl _ w).alloc (Nat.le_refl _) _).trans (hb.mono (by simp)))
    have HBX := Lib.hid (HBx.out.below hb (by simp))
    have HSZ := Lib.hid hsz
    clear hac hb hsz hand hz' CA HAND
    go_wp2
    go_loopw [16] (fun i wr => ∃ k : Nat, k ≤ 16 ∧ i = .int .i64 k ∧ (∀ j, j < k → fAt F x tags (decide (x.sn ≤ 8) && subs.all f) j = true) ∧ Below w2.heap.size w2 wr) (fun i _ => 16 - (intOf i).toNat)
    case atStart => exact ⟨0, Nat.zero_le _, rfl, fun j hj => absurd hj (by omega), Below.refl _ _⟩
    case round =>
      obtain ⟨k, hk, rfl, hU, hb⟩ := hrel
      have HU := Lib.hid hU
      have HB := Lib.hid hb
      clear hU hb
      by_cases hlt : k < 16
      · have u1 : (k : Int) < 16 := by omega
        have hix := HIX.out k hlt
        have CE : Hid (∀ W, Below w2.heap.size w2 W → Calls Try.prog (fnE k) #[.pointer (some ⟨h + 1 + 2 * k, 0, none⟩)] W (YesB (eAt x tags k) W)) := Lib.hid (fun W hW => empty_at (HBX.out.below hW HBX.out.lt) (H0.out.below (HB2.out.trans (hW.mono HB2.out.size))) ((HAC.out.below hW (by have := HSZ.out; omega)) k hlt) hlt)
        have CR : Hid (F.testBit k = true → ∀ W, Below w2.heap.size w2 W → Calls Try.prog (fnR k) (capR k (h + 1 + 2 * k)) W (YesB (rAt x tags (decide (x.sn ≤ 8) && subs.all f) k) W)) := Lib.hid (fun hbit W hW => right_at (HBX.out.below hW HBX.out.lt) (H0.out.below (HB2.out.trans (hW.mono HB2.out.size))) ((HAC.out.below hW (by have := HSZ.out; omega)) k hlt) hlt (fun e => by
          subst e
          have hs := HS.out hbit
          exact ⟨fun h8 => (hs h8).1.below (HB2.out.trans (hW.mono HB2.out.size)), fun h8 y hy => ((hs h8).2 y hy).below (HB2.out.trans (hW.mono HB2.out.size))⟩))
        have hce := call_fnE k hlt
        have hcr := call_fnR k hlt
        have CBk := Lib.hid (CB.out k hlt)
        unfold acC fnV at hix
        generalize fnE k = e0 at hix CE hce
        generalize fnR k = r0 at hix CR hcr
        generalize fnL k = l0 at hix
        generalize fnD k = d0 at hix
        generalize capR k (h + 1 + 2 * k) = cr at hix CR
        generalize h + 1 + 2 * k = b at hix CE CR
        have HHIX := Lib.hid hix
        cases hbit : F.testBit k with
        | true =>
          have CR2 := Lib.hid (CR.out hbit)
          have FV : Hid (fAt F x tags (decide (x.sn ≤ 8) && subs.all f) k = rAt x tags (decide (x.sn ≤ 8) && subs.all f) k) := Lib.hid (by unfold fAt; rw [hbit]; rfl)
          rw [hbit] at CBk
          clear hbit CR CE hce
          cases hv : rAt x tags (decide (x.sn ≤ 8) && subs.all f) k with
          | true =>
            rw [hv] at CR2 FV
            clear hv
            go_wp2_with (go_at_call 35; refine (CBk.out _).mono ?_; rintro e wA ⟨rfl, rfl⟩)
            refine (CR2.out _ (HB.out.alloc HB.out.size _)).mono ?_
            rintro e w3 ⟨rfl, hb3⟩
            have HB3 := Lib.hid (((Below.refl _ wr).alloc (Nat.le_refl _) _).trans (hb3.mono (by simp)))
            clear hb3
            go_wp2_with (go_at_call 35; refine (CBk.out _).mono ?_; rintro e wA ⟨rfl, rfl⟩)
            go_roundw
            case rel =>
              refine ⟨k + 1, by omega, by go_num, fun j hj => ?_, HB.out.trans (HB3.out.mono HB.out.size)⟩
              by_cases hjk : j = k
              · rw [hjk, FV.out]
              · exact HU.out j (by omega)
            case measure => simp [intOf]; omega
          | false =>
            rw [hv] at CR2 FV
            clear hv
            go_wp2_with (go_at_call 35; refine (CBk.out _).mono ?_; rintro e wA ⟨rfl, rfl⟩)
            refine (CR2.out _ (HB.out.alloc HB.out.size _)).mono ?_
            rintro e w3 ⟨rfl, hb3⟩
            have HB3 := Lib.hid (((Below.refl _ wr).alloc (Nat.le_refl _) _).trans (hb3.mono (by simp)))
            clear hb3
            go_wp2_with (go_at_call 35; refine (CBk.out _).mono ?_; rintro e wA ⟨rfl, rfl⟩)
            have ER := Lib.hid (NO.out k hlt FV.out)
            go_ret
            exact ⟨rb ER.out.symm, HB2.out.trans ((HB.out.trans (HB3.out.mono HB.out.size)).mono HB2.out.size)⟩
        | false =>
          have FV : Hid (fAt F x tags (decide (x.sn ≤ 8) && subs.all f) k = eAt x tags k) := Lib.hid (by unfold fAt; rw [hbit]; rfl)
          rw [hbit] at CBk
          clear hbit CR hcr
          cases hv : eAt x tags k with
          | true =>
            rw [hv] at CE FV
            clear hv
            go_wp2_with (go_at_call 35; refine (CBk.out _).mono ?_; rintro e wA ⟨rfl, rfl⟩)
            refine (CE.out _ (HB.out.alloc HB.out.size _)).mono ?_
            rintro e w3 ⟨rfl, hb3⟩
            have HB3 := Lib.hid (((Below.refl _ wr).alloc (Nat.le_refl _) _).trans (hb3.mono (by simp)))
            clear hb3
            go_wp2_with (go_at_call 35; refine (CBk.out _).mono ?_; rintro e wA ⟨rfl, rfl⟩)
            go_roundw
            case rel =>
              refine ⟨k + 1, by omega, by go_num, fun j hj => ?_, HB.out.trans (HB3.out.mono HB.out.size)⟩
              by_cases hjk : j = k
              · rw [hjk, FV.out]
              · exact HU.out j (by omega)
            case measure => simp [intOf]; omega
          | false =>
            rw [hv] at CE FV
            clear hv
            go_wp2_with (go_at_call 35; refine (CBk.out _).mono ?_; rintro e wA ⟨rfl, rfl⟩)
            refine (CE.out _ (HB.out.alloc HB.out.size _)).mono ?_
            rintro e w3 ⟨rfl, hb3⟩
            have HB3 := Lib.hid (((Below.refl _ wr).alloc (Nat.le_refl _) _).trans (hb3.mono (by simp)))
            clear hb3
            go_wp2_with (go_at_call 35; refine (CBk.out _).mono ?_; rintro e wA ⟨rfl, rfl⟩)
            have ER := Lib.hid (NO.out k hlt FV.out)
            go_ret
            exact ⟨rb ER.out.symm, HB2.out.trans ((HB.out.trans (HB3.out.mono HB.out.size)).mono HB2.out.size)⟩
      · obtain rfl : k = 16 := by omega
        have ER := Lib.hid (YES.out HZ.out HU.out)
        go_wp2
        go_ret
        exact ⟨rb ER.out.symm, HB2.out.trans (HB.out.mono HB2.out.size)⟩
end Go.Proofs.Ytbhhalkpghcflaa
