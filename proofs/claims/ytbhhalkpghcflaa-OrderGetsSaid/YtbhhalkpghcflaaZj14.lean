/-
  The program's right, walked (layer 20).
-/
import Derived.Test.YtbhhalkpghcflaaZj13
import Derived.Test.YtbhhalkpghcflaaZj9
namespace Go.Proofs.Ytbhhalkpghcflaa
open Go.RowKit
set_option linter.unusedSimpArgs false
set_option linter.unusedVariables false

/-- What a field must be. -/
def fAt (F : Nat) (x : CmW) (tags : List (List UInt8)) (sR : Bool) (k : Nat) : Bool := if F.testBit k then rAt x tags sR k else eAt x tags k
/-- Which commands the program takes, where they may have some fields alone. -/
def takes (may : Nat) (x : CmW) (tags : List (List UInt8)) (sR : Bool) : Bool := !decide (maskN x.kind &&& may = 0) && (List.range 16).all (fAt (maskN x.kind &&& may) x tags sR)
theorem takes_no {may : Nat} {x : CmW} {tags : List (List UInt8)} {sR : Bool} {k : Nat} (hk : k < 16) (h : fAt (maskN x.kind &&& may) x tags sR k = false) : takes may x tags sR = false := by
  unfold takes
  rw [all_no (List.mem_range.2 hk) h, Bool.and_false]
theorem takes_yes {may : Nat} {x : CmW} {tags : List (List UInt8)} {sR : Bool} (h0 : maskN x.kind &&& may ≠ 0) (h : ∀ k, k < 16 → fAt (maskN x.kind &&& may) x tags sR k = true) : takes may x tags sR = true := by
  unfold takes
  rw [decide_eq_false h0, List.all_eq_true.2 fun k hk => h k (List.mem_range.1 hk)]
  rfl
set_option maxRecDepth 100000 in
set_option maxHeartbeats 4000000 in
theorem right_gen (may : Nat) (x : CmW) (tags : List (List UInt8)) (subs : List Sub) (f : Sub → Bool) (w : World) (hm : may < 65536) (h0 : Cm0 w x tags)
    (hs : (maskN x.kind &&& may).testBit 15 = true → x.sn ≤ 8 → SK cmC 17 w x.sA x.sn (subs.map (·.1)) ∧ ∀ y ∈ subs, Asks w y.1 (f y)) :
    Calls Try.prog 16 #[cmV x, .int .u64 (may : Int)] w (YesB (takes may x tags (decide (x.sn ≤ 8) && subs.all f)) w) := by
  obtain ⟨R, hR⟩ : ∃ R, takes may x tags (decide (x.sn ≤ 8) && subs.all f) = R := ⟨_, rfl⟩
  obtain ⟨F, hF⟩ : ∃ F, maskN x.kind &&& may = F := ⟨_, rfl⟩
  have hFlt : F < 65536 := by rw [← hF]; exact Nat.lt_of_le_of_lt Nat.and_le_left (maskN_lt _)
  have hand : bits .and .u64 (maskN x.kind : Int) (may : Int) = (F : Int) := by rw [and_u64 _ _ (by have := maskN_lt x.kind; omega) (by omega), hF]
  have NO := Lib.hid (fun k (hk : k < 16) (h : fAt F x tags (decide (x.sn ≤ 8) && subs.all f) k = false) => (hR.symm.trans (takes_no hk (by rw [hF]; exact h)) : R = false))
  have YES := Lib.hid (fun (h1 : F ≠ 0) (h : ∀ k, k < 16 → fAt F x tags (decide (x.sn ≤ 8) && subs.all f) k = true) => (hR.symm.trans (takes_yes (by rw [hF]; exact h1) (by rw [hF]; exact h)) : R = true))
  have ZERO := Lib.hid (fun (h1 : F = 0) => (by rw [← hR]; unfold takes; rw [hF, decide_eq_true h1]; rfl : R = false))
  rw [hF] at hs
  rw [hR]
  clear hR hF
  have CS := Lib.hid (fun W => setOf_any x.kind W)
  obtain ⟨h, hh⟩ : ∃ h, w.heap.size + 1 = h := ⟨_, rfl⟩
  obtain ⟨acs, hacs⟩ : ∃ acs, (acCs h).toArray = acs := ⟨_, rfl⟩
  have HIX := Lib.hid (fun k hk w => ac_index h k hk w)
  rw [hacs] at HIX
  have CA : Hid (∀ W : World, W.heap.size = h → Calls Try.prog 34 #[.pointer (some ⟨w.heap.size, 0, none⟩)] W fun e w' => e = .returned (.agg acs) ∧ AcAt w' h w.heap.size ∧ w'.heap.size = h + 33 ∧ Below W.heap.size W w') := Lib.hid (fun W hW => by
    have := accesses_any w.heap.size W
    rw [hW, hacs] at this
    rw [hW]
    exact this)
  have HH := Lib.hid hh
  clear hh hacs
  have CB := Lib.hid (fun k hk W => bit_has F k W hFlt hk)
  have HBx := Lib.hid (Bx.new w x)
  have H0 := Lib.hid h0
  have HS := Lib.hid hs
  obtain ⟨M, hM⟩ : ∃ M, maskN x.kind = M := ⟨_, rfl⟩
  rw [hM] at hand CS
  clear h0 hs hFlt hm hM
  have HAND := Lib.hid hand
  clear hand
  unfold cmV strV
  go_enter Try.func16, Try.ntmps16
  have hand := HAND.out
  by_cases hz : F = 0
  · have ER := Lib.hid (ZERO.out hz)
    have hz' : ((F : Int) == 0) = true := by rw [hz]; rfl
    clear hz
    go_wp2_with (go_at_call 33; refine (CS.out _).mono ?_; rintro e wA ⟨rfl, rfl⟩)
    go_ret
    exact ⟨rb ER.out.symm, (Below.refl _ w).alloc (Nat.le_refl _) _⟩
  · have HZ := Lib.hid hz
    have hz' : ((F : Int) == 0) = false := by simpa using hz
    clear hz
    go_wp2_with (go_at_call 33; refine (CS.out _).mono ?_; rintro e wA ⟨rfl, rfl⟩)
    refine (CA.out _ (by rw [← HH.out]; simp)).mono ?_
    rintro e w2 ⟨rfl, hac, hsz, hb⟩
    have HAC := Lib.hid hac
    have HB2 := Lib.hid (((Below.refl _ w).alloc (Nat.le_refl _) _).trans (hb.mono (by simp)))
    have HBX := Lib.hid (HBx.out.below hb (by simp))
    have HSZ := Lib.hid hsz
    clear hac hb hsz hand hz' CA HAND
    go_wp2
    go_loopw [16] (fun i wr => ∃ k : Nat, k ≤ 16 ∧ i = .int .i64 k ∧ (∀ j, j < k → fAt F x tags (decide (x.sn ≤ 8) && subs.all f) j = true) ∧ Below w2.heap.size w2 wr) (fun i _ => 16 - (intOf i).toNat)
    case atStart => exact ⟨0, Nat.zero_le _, rfl, fun j hj => absurd hj (by omega), Below.refl _ _⟩
    case round =>
      obtain ⟨k, hk, rfl, hU, hb⟩ := hrel
      have HU := Lib.hid hU
      have HB := Lib.hid hb
      clear hU hb
      by_cases hlt : k < 16
      · have u1 : (k : Int) < 16 := by omega
        have hix := HIX.out k hlt
        have CE : Hid (∀ W, Below w2.heap.size w2 W → Calls Try.prog (fnE k) #[.pointer (some ⟨h + 1 + 2 * k, 0, none⟩)] W (YesB (eAt x tags k) W)) := Lib.hid (fun W hW => empty_at (HBX.out.below hW HBX.out.lt) (H0.out.below (HB2.out.trans (hW.mono HB2.out.size))) ((HAC.out.below hW (by have := HSZ.out; omega)) k hlt) hlt)
        have CR : Hid (F.testBit k = true → ∀ W, Below w2.heap.size w2 W → Calls Try.prog (fnR k) (capR k (h + 1 + 2 * k)) W (YesB (rAt x tags (decide (x.sn ≤ 8) && subs.all f) k) W)) := Lib.hid (fun hbit W hW => right_at (HBX.out.below hW HBX.out.lt) (H0.out.below (HB2.out.trans (hW.mono HB2.out.size))) ((HAC.out.below hW (by have := HSZ.out; omega)) k hlt) hlt (fun e => by
          subst e
          have hs := HS.out hbit
          exact ⟨fun h8 => (hs h8).1.below (HB2.out.trans (hW.mono HB2.out.size)), fun h8 y hy => ((hs h8).2 y hy).below (HB2.out.trans (hW.mono HB2.out.size))⟩))
        have hce := call_fnE k hlt
        have hcr := call_fnR k hlt
        have CBk := Lib.hid (CB.out k hlt)
        unfold acC fnV at hix
        generalize fnE k = e0 at hix CE hce
        generalize fnR k = r0 at hix CR hcr
        generalize fnL k = l0 at hix
        generalize fnD k = d0 at hix
        generalize capR k (h + 1 + 2 * k) = cr at hix CR
        generalize h + 1 + 2 * k = b at hix CE CR
        have HHIX := Lib.hid hix
        cases hbit : F.testBit k with
        | true =>
          have CR2 := Lib.hid (CR.out hbit)
          have FV : Hid (fAt F x tags (decide (x.sn ≤ 8) && subs.all f) k = rAt x tags (decide (x.sn ≤ 8) && subs.all f) k) := Lib.hid (by unfold fAt; rw [hbit]; rfl)
          rw [hbit] at CBk
          clear hbit CR CE hce
          cases hv : rAt x tags (decide (x.sn ≤ 8) && subs.all f) k with
          | true =>
            rw [hv] at CR2 FV
            clear hv
            go_wp2_with (go_at_call 35; refine (CBk.out _).mono ?_; rintro e wA ⟨rfl, rfl⟩)
            refine (CR2.out _ (HB.out.alloc HB.out.size _)).mono ?_
            rintro e w3 ⟨rfl, hb3⟩
            have HB3 := Lib.hid (((Below.refl _ wr).alloc (Nat.le_refl _) _).trans (hb3.mono (by simp)))
            clear hb3
            go_wp2_with (go_at_call 35; refine (CBk.out _).mono ?_; rintro e wA ⟨rfl, rfl⟩)
            go_roundw
            case rel =>
              refine ⟨k + 1, by omega, by go_num, fun j hj => ?_, HB.out.trans (HB3.out.mono HB.out.size)⟩
              by_cases hjk : j = k
              · rw [hjk, FV.out]
              · exact HU.out j (by omega)
            case measure => simp [intOf]; omega
          | false =>
            rw [hv] at CR2 FV
            clear hv
            go_wp2_with (go_at_call 35; refine (CBk.out _).mono ?_; rintro e wA ⟨rfl, rfl⟩)
            refine (CR2.out _ (HB.out.alloc HB.out.size _)).mono ?_
            rintro e w3 ⟨rfl, hb3⟩
            have HB3 := Lib.hid (((Below.refl _ wr).alloc (Nat.le_refl _) _).trans (hb3.mono (by simp)))
            clear hb3
            go_wp2_with (go_at_call 35; refine (CBk.out _).mono ?_; rintro e wA ⟨rfl, rfl⟩)
            have ER := Lib.hid (NO.out k hlt FV.out)
            go_ret
            exact ⟨rb ER.out.symm, HB2.out.trans ((HB.out.trans (HB3.out.mono HB.out.size)).mono HB2.out.size)⟩
        | false =>
          have FV : Hid (fAt F x tags (decide (x.sn ≤ 8) && subs.all f) k = eAt x tags k) := Lib.hid (by unfold fAt; rw [hbit]; rfl)
          rw [hbit] at CBk
          clear hbit CR hcr
          cases hv : eAt x tags k with
          | true =>
            rw [hv] at CE FV
            clear hv
            go_wp2_with (go_at_call 35; refine (CBk.out _).mono ?_; rintro e wA ⟨rfl, rfl⟩)
            refine (CE.out _ (HB.out.alloc HB.out.size _)).mono ?_
            rintro e w3 ⟨rfl, hb3⟩
            have HB3 := Lib.hid (((Below.refl _ wr).alloc (Nat.le_refl _) _).trans (hb3.mono (by simp)))
            clear hb3
            go_wp2_with (go_at_call 35; refine (CBk.out _).mono ?_; rintro e wA ⟨rfl, rfl⟩)
            go_roundw
            case rel =>
              refine ⟨k + 1, by omega, by go_num, fun j hj => ?_, HB.out.trans (HB3.out.mono HB.out.size)⟩
              by_cases hjk : j = k
              · rw [hjk, FV.out]
              · exact HU.out j (by omega)
            case measure => simp [intOf]; omega
          | false =>
            rw [hv] at CE FV
            clear hv
            go_wp2_with (go_at_call 35; refine (CBk.out _).mono ?_; rintro e wA ⟨rfl, rfl⟩)
            refine (CE.out _ (HB.out.alloc HB.out.size _)).mono ?_
            rintro e w3 ⟨rfl, hb3⟩
            have HB3 := Lib.hid (((Below.refl _ wr).alloc (Nat.le_refl _) _).trans (hb3.mono (by simp)))
            clear hb3
            go_wp2_with (go_at_call 35; refine (CBk.out _).mono ?_; rintro e wA ⟨rfl, rfl⟩)
            have ER := Lib.hid (NO.out k hlt FV.out)
            go_ret
            exact ⟨rb ER.out.symm, HB2.out.trans ((HB.out.trans (HB3.out.mono HB.out.size)).mono HB2.out.size)⟩
      · obtain rfl : k = 16 := by omega
        have ER := Lib.hid (YES.out HZ.out HU.out)
        go_wp2
        go_ret
        exact ⟨rb ER.out.symm, HB2.out.trans (HB.out.mono HB2.out.size)⟩
end Go.Proofs.Ytbhhalkpghcflaa
/-
  Which commands may be: the program's words and the document's, both by fields (layer 20). Nothing of any program is walked here.
-/
namespace Go.Proofs.Ytbhhalkpghcflaa
open Go.RowKit
set_option linter.unusedSimpArgs false
set_option linter.unusedVariables false

theorem mask_all (k : Int) : maskN k &&& 65535 = maskN k := by
  rw [show (65535 : Nat) = 2 ^ 16 - 1 from rfl, Nat.and_two_pow_sub_one_eq_mod, Nat.mod_eq_of_lt (maskN_lt k)]
theorem mask_in (k : Int) {i : Nat} (hi : i < 16) : (maskN k &&& 32767).testBit i = (hasB k.toNat i && decide (i < 15)) := by
  rw [Nat.testBit_and, maskN_bit k hi, show (32767 : Nat) = 2 ^ 15 - 1 from rfl, Nat.testBit_two_pow_sub_one]
theorem mask_zero (k : Int) : decide (maskN k = 0) = !kindOk k := by
  by_cases h : k < 1 ∨ 18 < k
  · rw [maskN_out h]
    unfold kindOk
    rw [Bool.eq_iff_iff]
    simp
    omega
  · obtain ⟨n, rfl⟩ : ∃ n : Nat, k = n := ⟨k.toNat, by omega⟩
    have : ∀ n : Nat, n < 19 → 1 ≤ n → decide (maskN (n : Int) = 0) = !kindOk (n : Int) := by decide
    exact this n (by omega) (by omega)
theorem mask_zero_in (k : Int) : decide (maskN k &&& 32767 = 0) = !(kindOk k && !decide (k = 18)) := by
  by_cases h : k < 1 ∨ 18 < k
  · rw [maskN_out h]
    unfold kindOk
    rw [Bool.eq_iff_iff]
    simp
    omega
  · obtain ⟨n, rfl⟩ : ∃ n : Nat, k = n := ⟨k.toNat, by omega⟩
    have : ∀ n : Nat, n < 19 → 1 ≤ n → decide (maskN (n : Int) &&& 32767 = 0) = !(kindOk (n : Int) && !decide ((n : Int) = 18)) := by decide
    exact this n (by omega) (by omega)
/-- All fields are right, or empty. -/
def fieldsOk (kind : Nat) (l : List Fv) : Bool := (List.range 15).all fun k => fOk kind k (l.getD k (.flag true))
def subOk (y : Sub) : Bool := kindOk y.1.kind && !decide (y.1.kind = 18) && fieldsOk y.1.kind.toNat (y.1.vals y.2) && decide (y.1.sn = 0)
def cmdOk (x : CmW) (tags : List (List UInt8)) (subs : List Sub) : Bool := kindOk x.kind && fieldsOk x.kind.toNat (x.vals tags) && (if hasB x.kind.toNat 15 then decide (x.sn ≤ 8) && subs.all subOk else decide (x.sn = 0))
theorem rAt_15 {x : CmW} {tags : List (List UInt8)} {sR : Bool} : rAt x tags sR 15 = sR := rfl
theorem eAt_15 {x : CmW} {tags : List (List UInt8)} : eAt x tags 15 = decide (x.sn = 0) := rfl
theorem rAt_lt {x : CmW} {tags : List (List UInt8)} {sR : Bool} {k : Nat} (hk : k < 15) : rAt x tags sR k = ((x.vals tags).getD k (.flag true)).right := by
  unfold rAt
  rw [List.getElem?_eq_getElem (show k < (x.vals tags).length from hk), List.getD_eq_getElem?_getD, List.getElem?_eq_getElem (show k < (x.vals tags).length from hk)]
  rfl
theorem eAt_lt {x : CmW} {tags : List (List UInt8)} {k : Nat} (hk : k < 15) : eAt x tags k = ((x.vals tags).getD k (.flag true)).empty := by
  unfold eAt
  rw [List.getElem?_eq_getElem (show k < (x.vals tags).length from hk), List.getD_eq_getElem?_getD, List.getElem?_eq_getElem (show k < (x.vals tags).length from hk)]
  rfl
theorem range16 (f : Nat → Bool) : (List.range 16).all f = ((List.range 15).all f && f 15) := by
  rw [List.range_succ, List.all_append, List.all_cons, List.all_nil, Bool.and_true]
theorem all_congr' {l : List Nat} {f g : Nat → Bool} (h : ∀ k ∈ l, f k = g k) : l.all f = l.all g := by
  rw [Bool.eq_iff_iff, List.all_eq_true, List.all_eq_true]
  exact ⟨fun a k hk => by rw [← h k hk]; exact a k hk, fun a k hk => by rw [h k hk]; exact a k hk⟩
theorem takes_all (x : CmW) (tags : List (List UInt8)) (sR : Bool) : takes 65535 x tags sR = (kindOk x.kind && fieldsOk x.kind.toNat (x.vals tags) && (if hasB x.kind.toNat 15 then sR else decide (x.sn = 0))) := by
  unfold takes
  rw [mask_all, mask_zero, Bool.not_not, range16, Bool.and_assoc]
  congr 2
  · unfold fieldsOk
    refine all_congr' fun k hk => ?_
    have hk' : k < 15 := List.mem_range.1 hk
    unfold fAt fOk
    rw [maskN_bit _ (by omega), rAt_lt hk', eAt_lt hk']
  · unfold fAt
    rw [maskN_bit _ (by decide), rAt_15, eAt_15]
theorem takes_in (x : CmW) (tags : List (List UInt8)) (sR : Bool) : takes 32767 x tags sR = subOk (x, tags) := by
  unfold takes subOk
  rw [mask_zero_in, Bool.not_not, range16, Bool.and_assoc, Bool.and_assoc, Bool.and_assoc]
  congr 3
  · unfold fieldsOk
    refine all_congr' fun k hk => ?_
    have hk' : k < 15 := List.mem_range.1 hk
    unfold fAt fOk
    rw [mask_in _ (by omega), rAt_lt hk', eAt_lt hk', decide_eq_true hk', Bool.and_true]
  · unfold fAt
    rw [mask_in _ (by decide), eAt_15]
    simp
theorem asks_sub {w : World} {y : Sub} (h : Cm0 w y.1 y.2) : Asks w y.1 (subOk y) := fun w' hb => by
  have h1 := right_gen 32767 y.1 y.2 [] (fun _ => true) w' (by decide) (h.below hb) (fun e => by
    rw [mask_in _ (by decide)] at e
    simp at e)
  rw [takes_in] at h1
  exact h1
/-- The program's Right's own question. -/
theorem right_all (x : CmW) (tags : List (List UInt8)) (subs : List Sub) (w : World) (h : Cm1 w x tags subs) : Calls Try.prog 16 #[cmV x, .int .u64 65535] w (YesB (cmdOk x tags subs) w) := by
  have h1 := right_gen 65535 x tags subs subOk w (by decide) h.top (fun _ _ => ⟨h.row, fun y hy => asks_sub (h.each y hy)⟩)
  rw [takes_all] at h1
  exact h1
/-! ### The document's words -/
theorem nOk_f (k : Int) (i : Nat) (z : Int) : nOk k i z = fOk k.toNat i (.num z) := by
  unfold nOk fOk hasX
  cases hasB k.toNat i with
  | true => simp [Fv.right]
  | false =>
    simp only [Bool.or_false, Bool.false_eq_true, if_false]
    show _ = decide (z = 0)
    rw [Bool.eq_iff_iff]
    simp
    omega
theorem tOk_f (k : Int) (i : Nat) (s : List UInt8) : tOk k i s = fOk k.toNat (3 + i) (.text s) := by
  unfold tOk fOk hasX
  cases hasB k.toNat (3 + i) with
  | true => simp [Fv.right]
  | false =>
    simp only [Bool.or_false, Bool.false_eq_true, if_false]
    show _ = decide (s = [])
    rw [Bool.eq_iff_iff]
    simp
    rintro rfl
    simp
theorem head_is {x : CmW} {tags : List (List UInt8)} (ht : tags.length = x.tn) : headOk x tags = (kindOk x.kind && fieldsOk x.kind.toNat (x.vals tags) && subsN x) := by
  have hT : ∀ p q : Bool, (decide (x.tn ≤ 8) && (decide (x.tn = 0) || hasX x.kind 11) && p && q && tags.all (fun s => decide (s.length ≤ 80))) = (fOk x.kind.toNat 11 (.texts tags) && p && q) := by
    intro p q
    unfold fOk hasX
    rw [← ht]
    cases hasB x.kind.toNat 11 with
    | true =>
      simp only [Bool.or_true, Bool.and_true, if_true]
      show _ = (decide (tags.length ≤ 8) && tags.all (fun s => decide (s.length ≤ 80)) && p && q)
      generalize tags.all (fun s => decide (s.length ≤ 80)) = a
      cases decide (tags.length ≤ 8) <;> cases p <;> cases q <;> cases a <;> rfl
    | false =>
      simp only [Bool.or_false, Bool.false_eq_true, if_false]
      show _ = (decide (tags = []) && p && q)
      cases tags with
      | nil => simp
      | cons a l => simp
  have hA : (!x.allow || hasX x.kind 12) = fOk x.kind.toNat 12 (.flag x.allow) := by
    unfold fOk hasX
    cases hasB x.kind.toNat 12 <;> cases x.allow <;> rfl
  have hO : (decide (x.old = 0) || hasX x.kind 13) = fOk x.kind.toNat 13 (.idx x.old) := by
    unfold fOk hasX
    cases hasB x.kind.toNat 13
    · simp [Fv.empty]
    · simp [Fv.right]
  have hS : (decide (x.ses = 0) || hasX x.kind 14) = fOk x.kind.toNat 14 (.idx x.ses) := by
    unfold fOk hasX
    cases hasB x.kind.toNat 14
    · simp [Fv.empty]
    · simp [Fv.right]
  have h15 : fieldsOk x.kind.toNat (x.vals tags) = (fOk x.kind.toNat 0 (.num x.node) && (fOk x.kind.toNat 1 (.num x.port) && (fOk x.kind.toNat 2 (.num x.status) && (fOk x.kind.toNat (3 + 0) (.text x.id) && (fOk x.kind.toNat (3 + 1) (.text x.name) && (fOk x.kind.toNat (3 + 2) (.text x.svc) && (fOk x.kind.toNat (3 + 3) (.text x.note) && (fOk x.kind.toNat (3 + 4) (.text x.key) && (fOk x.kind.toNat (3 + 5) (.text x.val) && (fOk x.kind.toNat (3 + 6) (.text x.src) && (fOk x.kind.toNat (3 + 7) (.text x.dst) && (fOk x.kind.toNat 11 (.texts tags) && (fOk x.kind.toNat 12 (.flag x.allow) && (fOk x.kind.toNat 13 (.idx x.old) && (fOk x.kind.toNat 14 (.idx x.ses) && true))))))))))))))) := rfl
  have hM := hT ((!x.allow || hasX x.kind 12) && (decide (x.old = 0) || hasX x.kind 13)) (decide (x.ses = 0) || hasX x.kind 14)
  rw [h15]
  unfold headOk
  rw [show allAt (nOk x.kind) 0 x.nums = (nOk x.kind 0 x.node && (nOk x.kind 1 x.port && (nOk x.kind 2 x.status && true))) from rfl,
    show allAt (tOk x.kind) 0 x.texts = (tOk x.kind 0 x.id && (tOk x.kind 1 x.name && (tOk x.kind 2 x.svc && (tOk x.kind 3 x.note && (tOk x.kind 4 x.key && (tOk x.kind 5 x.val && (tOk x.kind 6 x.src && (tOk x.kind 7 x.dst && true)))))))) from rfl,
    show midOk x = (decide (x.tn ≤ 8) && (decide (x.tn = 0) || hasX x.kind 11) && ((!x.allow || hasX x.kind 12) && (decide (x.old = 0) || hasX x.kind 13)) && (decide (x.ses = 0) || hasX x.kind 14)) by unfold midOk; simp only [Bool.and_assoc]]
  rw [← Bool.and_assoc (_ && _ && _ && _) (tags.all _), hM, hA, hO, hS]
  simp only [nOk_f, tOk_f, Bool.and_assoc, Bool.true_and, Bool.and_true]
theorem right1_is {x : CmW} {tags : List (List UInt8)} {subs : List Sub} (ht : tags.length = x.tn) (hs : subs.length = x.sn) (hc : ∀ y ∈ subs, y.2.length = y.1.tn) : right1 x tags subs = cmdOk x tags subs := by
  have h1 : ∀ y ∈ subs, (!decide (y.1.kind = 18) && right0 y.1 y.2) = subOk y := fun y hy => by
    unfold right0 subOk
    rw [head_is (hc y hy)]
    cases hk : kindOk y.1.kind with
    | false => simp
    | true =>
      by_cases h18 : y.1.kind = 18
      · simp [h18]
      · have hb : hasX y.1.kind 15 = false := by
          unfold kindOk at hk
          simp only [Bool.and_eq_true, decide_eq_true_eq] at hk
          unfold hasX
          have : ∀ n : Nat, n < 18 → hasB n 15 = false := by decide
          exact this _ (by omega)
        unfold subsN
        rw [hb, decide_eq_false h18]
        generalize fieldsOk _ _ = a
        cases a with
        | false => simp
        | true =>
          rw [Bool.eq_iff_iff]
          simp
          omega
  unfold right1 cmdOk
  rw [head_is ht]
  have e : subs.all (fun y => !decide (y.1.kind = 18) && right0 y.1 y.2) = subs.all subOk := by
    rw [Bool.eq_iff_iff, List.all_eq_true, List.all_eq_true]
    exact ⟨fun a y hy => by rw [← h1 y hy]; exact a y hy, fun a y hy => by rw [h1 y hy]; exact a y hy⟩
  rw [e]
  unfold subsN hasX
  cases hasB x.kind.toNat 15 with
  | true => simp only [Bool.or_true, Bool.and_true, if_true, Bool.and_assoc]
  | false =>
    simp only [Bool.or_false, Bool.false_eq_true, if_false]
    by_cases h0 : x.sn = 0
    · have : subs = [] := List.eq_nil_of_length_eq_zero (by omega)
      subst this
      simp [h0]
    · simp [h0]
end Go.Proofs.Ytbhhalkpghcflaa
/-
  The document's Right over a command and its commands (layer 20).
-/
namespace Go.Proofs.Ytbhhalkpghcflaa
open Go.RowKit
set_option linter.unusedSimpArgs false
set_option linter.unusedVariables false

theorem rright_sub {w : World} {y : Sub} (h : Cm0 w y.1 y.2) (h18 : y.1.kind ≠ 18) : Calls Try.prog 9 #[cmV y.1] w fun e w' => e = .returned (.bool (right0 y.1 y.2)) ∧ Below w.heap.size w w' := by
  have h1 := rright_gen y.1 y.2 [] w h (fun hs => by
    have hx : hasX y.1.kind 15 = false := by
      unfold hasX
      by_cases hk : y.1.kind < 1 ∨ 18 < y.1.kind
      · have := maskN_bit y.1.kind (i := 15) (by decide)
        rw [← this, maskN_out hk, Nat.zero_testBit]
      · have : ∀ n : Nat, n < 18 → hasB n 15 = false := by decide
        exact this _ (by omega)
    unfold subsN at hs
    rw [hx] at hs
    simp only [Bool.or_false, Bool.and_eq_true, decide_eq_true_eq] at hs
    exact ⟨⟨hs.2.symm, fun h => absurd h (by omega)⟩, (fun y hy => by cases hy), (fun y hy => by cases hy)⟩)
  rw [show right1 y.1 y.2 [] = right0 y.1 y.2 by unfold right1 right0; simp] at h1
  exact h1
theorem rRight_any (x : CmW) (tags : List (List UInt8)) (subs : List Sub) (w : World) (h : Cm1 w x tags subs) : Calls Try.prog 9 #[cmV x] w (YesB (cmdOk x tags subs) w) := by
  rw [← right1_is h.top.len h.len (fun y hy => (h.each y hy).len)]
  exact rright_gen x tags subs w h.top (fun _ => ⟨h.row, fun y hy => (h.each y hy).small.kind, fun y hy w' hb h18 => rright_sub ((h.each y hy).below hb) h18⟩)
end Go.Proofs.Ytbhhalkpghcflaa
