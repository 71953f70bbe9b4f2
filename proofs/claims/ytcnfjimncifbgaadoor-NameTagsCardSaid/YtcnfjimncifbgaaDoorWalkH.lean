/-
  The walks of name.Tags, of the document's plain Tags, and of the law NameTags (layer 1).
-/
import Derived.Test.YtcnfjimncifbgaaDoorWalkG
import Derived.Test.YtcnfjimncifbgaaDoorWalkE
namespace Go.Proofs.YtcnfjimncifbgaaDoor
open Go.RowKit Go.ChangeShapes Go.WideShapes Go.ChangeAt
set_option linter.unusedSimpArgs false

def tagsB (l : List ByteArray) : Bool := decide (l.length ≤ 4) && risingB l && l.all fun x => rightB x.data.toList
def RightsTo (l : List ByteArray) (k : Nat) : Prop := ∀ j (h : j < l.length), j < k → rightB l[j].data.toList = true
theorem RightsTo.zero (l : List ByteArray) : RightsTo l 0 := fun _ _ h => absurd h (by omega)
theorem RightsTo.next {l : List ByteArray} {k : Nat} (h : RightsTo l k) (hk : k < l.length) (ho : rightB l[k].data.toList = true) : RightsTo l (k + 1) := by
  intro j hj hjk
  by_cases e : j = k
  · subst e; exact ho
  · exact h j hj (by omega)
theorem tags_all {l : List ByteArray} {k : Nat} (h : RightsTo l k) (hk : l.length ≤ k) (h4 : l.length ≤ 4) (hr : risingB l = true) : tagsB l = true := by
  have : (l.all fun x => rightB x.data.toList) = true := by
    rw [List.all_eq_true]
    intro x hx
    obtain ⟨j, hj, rfl⟩ := List.mem_iff_getElem.1 hx
    exact h j hj (by omega)
  simp [tagsB, this, hr, h4]
theorem tags_wrong {l : List ByteArray} {k : Nat} (hk : k < l.length) (ho : rightB l[k].data.toList = false) : tagsB l = false := by
  have : (l.all fun x => rightB x.data.toList) = false := by
    rw [Bool.eq_false_iff]
    intro e
    have := List.all_eq_true.1 e l[k] (List.getElem_mem hk)
    rw [ho] at this; cases this
  simp [tagsB, this]
theorem tags_falls {l : List ByteArray} (h : risingB l = false) : tagsB l = false := by simp [tagsB, h]
theorem tags_long {l : List ByteArray} (h : 4 < l.length) : tagsB l = false := by simp [tagsB, show ¬ l.length ≤ 4 by omega]

set_option maxHeartbeats 400000 in
theorem rtags_any (A : Option Addr) (n c : Nat) (xs : List ByteArray) (w : World) (h : RS w A n xs) (hS : Small xs) (hn : n ≤ maxLen) :
    Calls Tryd.prog 30 #[.slice A n c] w fun e w' => e = .returned (.bool (tagsB xs)) ∧ Below w.heap.size w w' := by
  have hl := h.1
  unfold maxLen at hn
  by_cases h4 : 4 < n
  · have HS := Lib.hid (tags_long (l := xs) (by omega))
    clear h
    go_enter Tryd.func30, Tryd.ntmps30
    go_wp2
    go_ret
    exact ⟨ret_bool HS.out.symm, Below.refl _ _⟩
  have cr := rrising_any A n c xs w h (by omega)
  cases er : risingB xs with
  | false =>
    rw [er] at cr
    have HS := Lib.hid (tags_falls er)
    clear h er
    go_enter Tryd.func30, Tryd.ntmps30
    go_wp2_with (go_at_call 31; refine cr.mono ?_; rintro e w1 ⟨rfl, hb⟩)
    go_ret
    exact ⟨ret_bool HS.out.symm, hb⟩
  | true =>
    rw [er] at cr
    have ER := Lib.hid er
    have HL := Lib.hid hl
    have HSm := Lib.hid hS
    clear er hS
    go_enter Tryd.func30, Tryd.ntmps30
    go_wp2_with (go_at_call 31; refine cr.mono ?_; rintro e w1 ⟨rfl, hb⟩)
    have h' := h.below hb
    have HB := Lib.hid hb
    clear h hb cr
    go_loop [3] (fun i => ∃ k : Nat, k ≤ n ∧ i = .int .i64 k ∧ RightsTo xs k) (fun i => n - (intOf i).toNat)
    case atStart => exact ⟨0, Nat.zero_le _, rfl, RightsTo.zero _⟩
    case round =>
      obtain ⟨k, hk, rfl, hr⟩ := hrel
      by_cases hlt : k < n
      · obtain ⟨b, off, rfl, hb, hc⟩ := h'.2 (by omega)
        have q : k < xs.length := by omega
        have hcell := hc k q
        have hz := HSm.out xs[k] (List.getElem_mem q)
        have c1 := rright_any xs[k] w1 hz
        cases ho : rightB xs[k].data.toList with
        | true =>
          rw [ho] at c1
          have HS := Lib.hid (hr.next q ho)
          clear hc hr ho h' hz
          go_wp2_with (go_at_call 10; refine c1.mono ?_; rintro e w' ⟨rfl, rfl⟩)
          go_round
          case rel => exact ⟨k + 1, by omega, by go_num, HS.out⟩
          case measure => simp [intOf]; omega
        | false =>
          rw [ho] at c1
          have HS := Lib.hid (tags_wrong q ho)
          clear hc hr ho h' hz
          go_wp2_with (go_at_call 10; refine c1.mono ?_; rintro e w' ⟨rfl, rfl⟩)
          go_ret
          exact ⟨ret_bool HS.out.symm, HB.out⟩
      · obtain rfl : k = n := by omega
        have HS := Lib.hid (tags_all hr (by omega) (by omega) ER.out)
        clear hr h'
        go_wp2
        go_ret
        exact ⟨ret_bool HS.out.symm, HB.out⟩

theorem right_again (s : ByteArray) (w : World) (hs : s.size ≤ maxLen) :
    Calls Tryd.prog 9 #[.string s] w fun e w' => e = .returned (.bool (rightB s.data.toList)) ∧ w' = w :=
  (right_any s w hs).mono (by rintro e w' ⟨rfl, rfl⟩; exact ⟨rfl, rfl⟩)

set_option maxHeartbeats 1000000 in
theorem tags_any (A : Option Addr) (n c : Nat) (xs : List ByteArray) (w : World) (h : RS w A n xs) (hS : Small xs) (hn : n ≤ maxLen) :
    Calls Tryd.prog 29 #[.slice A n c] w fun e w' => e = .returned (.bool (tagsB xs)) ∧ Below w.heap.size w w' := by
  have hl := h.1
  unfold maxLen at hn
  by_cases h4 : 4 < n
  · have HS := Lib.hid (tags_long (l := xs) (by omega))
    clear h
    go_enter Tryd.func29, Tryd.ntmps29
    go_wp2
    go_ret
    exact ⟨ret_bool HS.out.symm, Below.refl _ _⟩
  have HSm := Lib.hid hS
  clear hS
  go_enter Tryd.func29, Tryd.ntmps29
  go_wp2
  go_loopw [9] (fun i wr => ∃ k : Nat, k ≤ n ∧ i = .int .i64 k ∧ RightsTo xs k ∧ RisesTo xs k ∧ Below w.heap.size w wr) (fun i _ => n - (intOf i).toNat)
  case atStart => exact ⟨0, Nat.zero_le _, rfl, RightsTo.zero _, fun j _ hj => absurd hj (by omega), Below.refl _ _⟩
  case round =>
    obtain ⟨k, hk, rfl, hr, hs, hb⟩ := hrel
    by_cases hlt : k < n
    · obtain ⟨b, off, rfl, hb1, hc⟩ := (h.below hb).2 (by omega)
      have q : k < xs.length := by omega
      have hy := hc k q
      have hz := HSm.out xs[k] (List.getElem_mem q)
      have c1 := fun W => right_again xs[k] W hz
      have g2 : (0 : Int) ≤ (k : Int) := by omega
      have g3 : (k : Int) < (n : Int) := by omega
      cases ho : rightB xs[k].data.toList with
      | false =>
        rw [ho] at c1
        have HS := Lib.hid (tags_wrong q ho)
        clear hc hr hs ho h hz
        go_wp2
        go_quiet ((go_at_call 9; exact Calls.quiet_of_same (c1 _)))
        go_wp2
        go_ret
        exact ⟨ret_bool HS.out.symm, below_draws hb _⟩
      | true =>
        rw [ho] at c1
        have HR := Lib.hid (hr.next q ho)
        by_cases hk0 : k = 0
        · subst hk0
          have HS : Hid (RisesTo xs (0 + 1)) := Lib.hid (RisesTo.one _)
          have d0 : decide ((0 : Int) < 0) = false := by decide
          have hy0 : wr.cell? ⟨b, off, none⟩ = some (.string xs[0]) := hy
          clear hc hr hs ho h hz hy
          go_wp2
          go_quiet ((go_at_call 9; exact Calls.quiet_of_same (c1 _)))
          go_wp2
          go_roundw
          case rel => exact ⟨0 + 1, by omega, by go_num, HR.out, HS.out, below_draws hb _⟩
          case measure => simp [intOf]; omega
        · have q1 : k - 1 < xs.length := by omega
          have hx := hc (k - 1) q1
          have hk1 : 1 ≤ k := by omega
          have d0 : decide (0 < k) = true := decide_eq_true (by omega)
          have g0 : (0 : Int) ≤ (k : Int) - 1 := by omega
          have g1 : (k : Int) - 1 < (n : Int) := by omega
          have ek : IntKind.i64.wrap ((k : Int) - 1) = (k : Int) - 1 := IntWalk.i64_in _ (by omega)
          have ek2 : ((k : Int) - 1).toNat = k - 1 := by omega
          cases he : ltS (xs[k - 1]'q1) (xs[k]'q) with
          | true =>
            have HS := Lib.hid (hs.next q hk1 he)
            have t1 : Op.bytesLess (xs[k - 1]'q1).toList (xs[k]'q).toList = true := he
            clear hc hr hs ho h hz he
            go_wp2
            go_quiet ((go_at_call 9; exact Calls.quiet_of_same (c1 _)))
            clear ek ek2
            go_wp2
            go_roundw
            case rel => exact ⟨k + 1, by omega, by go_num, HR.out, HS.out, below_draws hb _⟩
            case measure => simp [intOf]; omega
          | false =>
            have HS := Lib.hid (tags_falls (rises_no q hk1 he))
            have t1 : Op.bytesLess (xs[k - 1]'q1).toList (xs[k]'q).toList = false := he
            clear hc hr hs ho h hz he
            go_wp2
            go_quiet ((go_at_call 9; exact Calls.quiet_of_same (c1 _)))
            clear ek ek2
            go_wp2
            go_ret
            exact ⟨ret_bool HS.out.symm, below_draws hb _⟩
    · have HS := Lib.hid (tags_all hr (by omega) (by omega) (hs.all (by omega)))
      clear hr hs h
      go_wp2
      go_ret
      exact ⟨ret_bool HS.out.symm, hb⟩

/-! ### The law -/
set_option maxHeartbeats 400000 in
theorem nametags_walk (A : Option Addr) (n c : Nat) (xs : List ByteArray) (w : World) (h : RS w A n xs) (hS : Small xs) (hn : n ≤ maxLen) (hM : MaxIs w) :
    Calls Tryd.prog 6 #[.slice A n c] w fun e w' => e = .returned (.bool true) ∧ Below w.heap.size w w' := by
  have c1 := tags_any A n c xs w h hS hn
  have c2 : Hid (∀ W, Below w.heap.size w W → Calls Tryd.prog 30 #[.slice A n c] W fun e w' => e = .returned (.bool (tagsB xs)) ∧ Below w.heap.size w w') := Lib.hid (fun W hb =>
    (rtags_any A n c xs W (h.below hb) hS hn).mono (by rintro e w' ⟨rfl, hb2⟩; exact ⟨rfl, hb.trans (hb2.mono hb.size)⟩))
  have c7 : Hid (∀ W, Below w.heap.size w W → Calls Tryd.prog 15 #[] W fun e w' => e = .returned (.bool true) ∧ Below w.heap.size w w') := Lib.hid (fun W hb =>
    (works_any W (hM.keep hb)).mono (by rintro e w' ⟨rfl, hb2⟩; exact ⟨rfl, hb.trans (hb2.mono hb.size)⟩))
  clear h hS hM
  generalize tagsB xs = r at c1 c2
  go_enter Tryd.func6, Tryd.ntmps6
  go_wp2_with (first
    | (go_at_call 29; refine c1.mono ?_; rintro e w1 ⟨rfl, hb⟩)
    | (go_at_call 30; refine (c2.out _ hb).mono ?_; rintro e w2 ⟨rfl, hb2⟩)
    | (go_at_call 15; refine (c7.out _ hb2).mono ?_; rintro e w3 ⟨rfl, hb3⟩))
  go_ret
  exact ⟨rfl, hb3⟩
end Go.Proofs.YtcnfjimncifbgaaDoor
