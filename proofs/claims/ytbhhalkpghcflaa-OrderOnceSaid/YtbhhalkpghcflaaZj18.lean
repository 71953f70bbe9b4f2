/-
  Which commands may be: the program's words and the document's, both by fields (layer 20). Nothing of any program is walked here.
-/
import Derived.Test.YtbhhalkpghcflaaZj17
import Derived.Test.YtbhhalkpghcflaaZj12
namespace Go.Proofs.Ytbhhalkpghcflaa
open Go.RowKit
set_option linter.unusedSimpArgs false
set_option linter.unusedVariables false

theorem mask_all (k : Int) : maskN k &&& 65535 = maskN k := by
  rw [show (65535 : Nat) = 2 ^ 16 - 1 from rfl, Nat.and_two_pow_sub_one_eq_mod, Nat.mod_eq_of_lt (maskN_lt k)]
theorem mask_in (k : Int) {i : Nat} (hi : i < 16) : (maskN k &&& 32767).testBit i = (hasB k.toNat i && decide (i < 15)) := by
  rw [Nat.testBit_and, maskN_bit k hi, show (32767 : Nat) = 2 ^ 15 - 1 from rfl, Nat.testBit_two_pow_sub_one]
theorem mask_zero (k : Int) : decide (maskN k = 0) = !kindOk k := by
  by_cases h : k < 1 ∨ 18 < k
  · rw [maskN_out h]
    unfold kindOk
    rw [Bool.eq_iff_iff]
    simp
    omega
  · obtain ⟨n, rfl⟩ : ∃ n : Nat, k = n := ⟨k.toNat, by omega⟩
    have : ∀ n : Nat, n < 19 → 1 ≤ n → decide (maskN (n : Int) = 0) = !kindOk (n : Int) := by decide
    exact this n (by omega) (by omega)
theorem mask_zero_in (k : Int) : decide (maskN k &&& 32767 = 0) = !(kindOk k && !decide (k = 18)) := by
  by_cases h : k < 1 ∨ 18 < k
  · rw [maskN_out h]
    unfold kindOk
    rw [Bool.eq_iff_iff]
    simp
    omega
  · obtain ⟨n, rfl⟩ : ∃ n : Nat, k = n := ⟨k.toNat, by omega⟩
    have : ∀ n : Nat, n < 19 → 1 ≤ n → decide (maskN (n : Int) &&& 32767 = 0) = !(kindOk (n : Int) && !decide ((n : Int) = 18)) := by decide
    exact this n (by omega) (by omega)
/-- All fields are right, or empty. -/
def fieldsOk (kind : Nat) (l : List Fv) : Bool := (List.range 15).all fun k => fOk kind k (l.getD k (.flag true))
def subOk (y : Sub) : Bool := kindOk y.1.kind && !decide (y.1.kind = 18) && fieldsOk y.1.kind.toNat (y.1.vals y.2) && decide (y.1.sn = 0)
def cmdOk (x : CmW) (tags : List (List UInt8)) (subs : List Sub) : Bool := kindOk x.kind && fieldsOk x.kind.toNat (x.vals tags) && (if hasB x.kind.toNat 15 then decide (x.sn ≤ 8) && subs.all subOk else decide (x.sn = 0))
theorem rAt_15 {x : CmW} {tags : List (List UInt8)} {sR : Bool} : rAt x tags sR 15 = sR := rfl
theorem eAt_15 {x : CmW} {tags : List (List UInt8)} : eAt x tags 15 = decide (x.sn = 0) := rfl
theorem rAt_lt {x : CmW} {tags : List (List UInt8)} {sR : Bool} {k : Nat} (hk : k < 15) : rAt x tags sR k = ((x.vals tags).getD k (.flag true)).right := by
  unfold rAt
  rw [List.getElem?_eq_getElem (show k < (x.vals tags).length from hk), List.getD_eq_getElem?_getD, List.getElem?_eq_getElem (show k < (x.vals tags).length from hk)]
  rfl
theorem eAt_lt {x : CmW} {tags : List (List UInt8)} {k : Nat} (hk : k < 15) : eAt x tags k = ((x.vals tags).getD k (.flag true)).empty := by
  unfold eAt
  rw [List.getElem?_eq_getElem (show k < (x.vals tags).length from hk), List.getD_eq_getElem?_getD, List.getElem?_eq_getElem (show k < (x.vals tags).length from hk)]
  rfl
theorem range16 (f : Nat → Bool) : (List.range 16).all f = ((List.range 15).all f && f 15) := by
  rw [List.range_succ, List.all_append, List.all_cons, List.all_nil, Bool.and_true]
theorem all_congr' {l : List Nat} {f g : Nat → Bool} (h : ∀ k ∈ l, f k = g k) : l.all f = l.all g := by
  rw [Bool.eq_iff_iff, List.all_eq_true, List.all_eq_true]
  exact ⟨fun a k hk => by rw [← h k hk]; exact a k hk, fun a k hk => by rw [h k hk]; exact a k hk⟩
theorem takes_all (x : CmW) (tags : List (List UInt8)) (sR : Bool) : takes 65535 x tags sR = (kindOk x.kind && fieldsOk x.kind.toNat (x.vals tags) && (if hasB x.kind.toNat 15 then sR else decide (x.sn = 0))) := by
  unfold takes
  rw [mask_all, mask_zero, Bool.not_not, range16, Bool.and_assoc]
  congr 2
  · unfold fieldsOk
    refine all_congr' fun k hk => ?_
    have hk' : k < 15 := List.mem_range.1 hk
    unfold fAt fOk
    rw [maskN_bit _ (by omega), rAt_lt hk', eAt_lt hk']
  · unfold fAt
    rw [maskN_bit _ (by decide), rAt_15, eAt_15]
theorem takes_in (x : CmW) (tags : List (List UInt8)) (sR : Bool) : takes 32767 x tags sR = subOk (x, tags) := by
  unfold takes subOk
  rw [mask_zero_in, Bool.not_not, range16, Bool.and_assoc, Bool.and_assoc, Bool.and_assoc]
  congr 3
  · unfold fieldsOk
    refine all_congr' fun k hk => ?_
    have hk' : k < 15 := List.mem_range.1 hk
    unfold fAt fOk
    rw [mask_in _ (by omega), rAt_lt hk', eAt_lt hk', decide_eq_true hk', Bool.and_true]
  · unfold fAt
    rw [mask_in _ (by decide), eAt_15]
    simp
theorem asks_sub {w : World} {y : Sub} (h : Cm0 w y.1 y.2) : Asks w y.1 (subOk y) := fun w' hb => by
  have h1 := right_gen 32767 y.1 y.2 [] (fun _ => true) w' (by decide) (h.below hb) (fun e => by
    rw [mask_in _ (by decide)] at e
    simp at e)
  rw [takes_in] at h1
  exact h1
/-- The program's Right's own question. -/
theorem right_all (x : CmW) (tags : List (List UInt8)) (subs : List Sub) (w : World) (h : Cm1 w x tags subs) : Calls Try.prog 16 #[cmV x, .int .u64 65535] w (YesB (cmdOk x tags subs) w) := by
  have h1 := right_gen 65535 x tags subs subOk w (by decide) h.top (fun _ _ => ⟨h.row, fun y hy => asks_sub (h.each y hy)⟩)
  rw [takes_all] at h1
  exact h1
/-! ### The document's words -/
theorem nOk_f (k : Int) (i : Nat) (z : Int) : nOk k i z = fOk k.toNat i (.num z) := by
  unfold nOk fOk hasX
  cases hasB k.toNat i with
  | true => simp [Fv.right]
  | false =>
    simp only [Bool.or_false, Bool.false_eq_true, if_false]
    show _ = decide (z = 0)
    rw [Bool.eq_iff_iff]
    simp
    omega
theorem tOk_f (k : Int) (i : Nat) (s : List UInt8) : tOk k i s = fOk k.toNat (3 + i) (.text s) := by
  unfold tOk fOk hasX
  cases hasB k.toNat (3 + i) with
  | true => simp [Fv.right]
  | false =>
    simp only [Bool.or_false, Bool.false_eq_true, if_false]
    show _ = decide (s = [])
    rw [Bool.eq_iff_iff]
    simp
    rintro rfl
    simp
theorem head_is {x : CmW} {tags : List (List UInt8)} (ht : tags.length = x.tn) : headOk x tags = (kindOk x.kind && fieldsOk x.kind.toNat (x.vals tags) && subsN x) := by
  have hT : ∀ p q : Bool, (decide (x.tn ≤ 8) && (decide (x.tn = 0) || hasX x.kind 11) && p && q && tags.all (fun s => decide (s.length ≤ 80))) = (fOk x.kind.toNat 11 (.texts tags) && p && q) := by
    intro p q
    unfold fOk hasX
    rw [← ht]
    cases hasB x.kind.toNat 11 with
    | true =>
      simp only [Bool.or_true, Bool.and_true, if_true]
      show _ = (decide (tags.length ≤ 8) && tags.all (fun s => decide (s.length ≤ 80)) && p && q)
      generalize tags.all (fun s => decide (s.length ≤ 80)) = a
      cases decide (tags.length ≤ 8) <;> cases p <;> cases q <;> cases a <;> rfl
    | false =>
      simp only [Bool.or_false, Bool.false_eq_true, if_false]
      show _ = (decide (tags = []) && p && q)
      cases tags with
      | nil => simp
      | cons a l => simp
  have hA : (!x.allow || hasX x.kind 12) = fOk x.kind.toNat 12 (.flag x.allow) := by
    unfold fOk hasX
    cases hasB x.kind.toNat 12 <;> cases x.allow <;> rfl
  have hO : (decide (x.old = 0) || hasX x.kind 13) = fOk x.kind.toNat 13 (.idx x.old) := by
    unfold fOk hasX
    cases hasB x.kind.toNat 13
    · simp [Fv.empty]
    · simp [Fv.right]
  have hS : (decide (x.ses = 0) || hasX x.kind 14) = fOk x.kind.toNat 14 (.idx x.ses) := by
    unfold fOk hasX
    cases hasB x.kind.toNat 14
    · simp [Fv.empty]
    · simp [Fv.right]
  have h15 : fieldsOk x.kind.toNat (x.vals tags) = (fOk x.kind.toNat 0 (.num x.node) && (fOk x.kind.toNat 1 (.num x.port) && (fOk x.kind.toNat 2 (.num x.status) && (fOk x.kind.toNat (3 + 0) (.text x.id) && (fOk x.kind.toNat (3 + 1) (.text x.name) && (fOk x.kind.toNat (3 + 2) (.text x.svc) && (fOk x.kind.toNat (3 + 3) (.text x.note) && (fOk x.kind.toNat (3 + 4) (.text x.key) && (fOk x.kind.toNat (3 + 5) (.text x.val) && (fOk x.kind.toNat (3 + 6) (.text x.src) && (fOk x.kind.toNat (3 + 7) (.text x.dst) && (fOk x.kind.toNat 11 (.texts tags) && (fOk x.kind.toNat 12 (.flag x.allow) && (fOk x.kind.toNat 13 (.idx x.old) && (fOk x.kind.toNat 14 (.idx x.ses) && true))))))))))))))) := rfl
  have hM := hT ((!x.allow || hasX x.kind 12) && (decide (x.old = 0) || hasX x.kind 13)) (decide (x.ses = 0) || hasX x.kind 14)
  rw [h15]
  unfold headOk
  rw [show allAt (nOk x.kind) 0 x.nums = (nOk x.kind 0 x.node && (nOk x.kind 1 x.port && (nOk x.kind 2 x.status && true))) from rfl,
    show allAt (tOk x.kind) 0 x.texts = (tOk x.kind 0 x.id && (tOk x.kind 1 x.name && (tOk x.kind 2 x.svc && (tOk x.kind 3 x.note && (tOk x.kind 4 x.key && (tOk x.kind 5 x.val && (tOk x.kind 6 x.src && (tOk x.kind 7 x.dst && true)))))))) from rfl,
    show midOk x = (decide (x.tn ≤ 8) && (decide (x.tn = 0) || hasX x.kind 11) && ((!x.allow || hasX x.kind 12) && (decide (x.old = 0) || hasX x.kind 13)) && (decide (x.ses = 0) || hasX x.kind 14)) by unfold midOk; simp only [Bool.and_assoc]]
  rw [← Bool.and_assoc (_ && _ && _ && _) (tags.all _), hM, hA, hO, hS]
  simp only [nOk_f, tOk_f, Bool.and_assoc, Bool.true_and, Bool.and_true]
theorem right1_is {x : CmW} {tags : List (List UInt8)} {subs : List Sub} (ht : tags.length = x.tn) (hs : subs.length = x.sn) (hc : ∀ y ∈ subs, y.2.length = y.1.tn) : right1 x tags subs = cmdOk x tags subs := by
  have h1 : ∀ y ∈ subs, (!decide (y.1.kind = 18) && right0 y.1 y.2) = subOk y := fun y hy => by
    unfold right0 subOk
    rw [head_is (hc y hy)]
    cases hk : kindOk y.1.kind with
    | false => simp
    | true =>
      by_cases h18 : y.1.kind = 18
      · simp [h18]
      · have hb : hasX y.1.kind 15 = false := by
          unfold kindOk at hk
          simp only [Bool.and_eq_true, decide_eq_true_eq] at hk
          unfold hasX
          have : ∀ n : Nat, n < 18 → hasB n 15 = false := by decide
          exact this _ (by omega)
        unfold subsN
        rw [hb, decide_eq_false h18]
        generalize fieldsOk _ _ = a
        cases a with
        | false => simp
        | true =>
          rw [Bool.eq_iff_iff]
          simp
          omega
  unfold right1 cmdOk
  rw [head_is ht]
  have e : subs.all (fun y => !decide (y.1.kind = 18) && right0 y.1 y.2) = subs.all subOk := by
    rw [Bool.eq_iff_iff, List.all_eq_true, List.all_eq_true]
    exact ⟨fun a y hy => by rw [← h1 y hy]; exact a y hy, fun a y hy => by rw [h1 y hy]; exact a y hy⟩
  rw [e]
  unfold subsN hasX
  cases hasB x.kind.toNat 15 with
  | true => simp only [Bool.or_true, Bool.and_true, if_true, Bool.and_assoc]
  | false =>
    simp only [Bool.or_false, Bool.false_eq_true, if_false]
    by_cases h0 : x.sn = 0
    · have : subs = [] := List.eq_nil_of_length_eq_zero (by omega)
      subst this
      simp [h0]
    · simp [h0]
end Go.Proofs.Ytbhhalkpghcflaa
/-
  The document's Right over a command and its commands (layer 20).
-/
namespace Go.Proofs.Ytbhhalkpghcflaa
open Go.RowKit
set_option linter.unusedSimpArgs false
set_option linter.unusedVariables false

theorem rright_sub {w : World} {y : Sub} (h : Cm0 w y.1 y.2) (h18 : y.1.kind ≠ 18) : Calls Try.prog 9 #[cmV y.1] w fun e w' => e = .returned (.bool (right0 y.1 y.2)) ∧ Below w.heap.size w w' := by
  have h1 := rright_gen y.1 y.2 [] w h (fun hs => by
    have hx : hasX y.1.kind 15 = false := by
      unfold hasX
      by_cases hk : y.1.kind < 1 ∨ 18 < y.1.kind
      · have := maskN_bit y.1.kind (i := 15) (by decide)
        rw [← this, maskN_out hk, Nat.zero_testBit]
      · have : ∀ n : Nat, n < 18 → hasB n 15 = false := by decide
        exact this _ (by omega)
    unfold subsN at hs
    rw [hx] at hs
    simp only [Bool.or_false, Bool.and_eq_true, decide_eq_true_eq] at hs
    exact ⟨⟨hs.2.symm, fun h => absurd h (by omega)⟩, (fun y hy => by cases hy), (fun y hy => by cases hy)⟩)
  rw [show right1 y.1 y.2 [] = right0 y.1 y.2 by unfold right1 right0; simp] at h1
  exact h1
theorem rRight_any (x : CmW) (tags : List (List UInt8)) (subs : List Sub) (w : World) (h : Cm1 w x tags subs) : Calls Try.prog 9 #[cmV x] w (YesB (cmdOk x tags subs) w) := by
  rw [← right1_is h.top.len h.len (fun y hy => (h.each y hy).len)]
  exact rright_gen x tags subs w h.top (fun _ => ⟨h.row, fun y hy => (h.each y hy).small.kind, fun y hy w' hb h18 => rright_sub ((h.each y hy).below hb) h18⟩)
end Go.Proofs.Ytbhhalkpghcflaa
