/-
  Whether a command may have such tags (layer 20): every, over texts.
-/
import Derived.Test.YtbhhalkpghcflaaZj18
import Derived.Test.YtbhhalkpghcflaaZj19
namespace Go.Proofs.Ytbhhalkpghcflaa
open Go.RowKit
set_option linter.unusedSimpArgs false
set_option linter.unusedVariables false

abbrev isT (s : List UInt8) : Bool := decide (s.length ≤ 80)
theorem not_text (b : Nat) (s : List UInt8) (w : World) (h : w.cell? ⟨b, 0, none⟩ = some (.func (.func 63) #[] #[])) : Calls Try.prog 96 #[strV s, .pointer (some ⟨b, 0, none⟩)] w fun e w' => e = .returned (.bool (!isT s)) ∧ w = w' := by
  have C := Lib.hid (istext_any s w)
  unfold isT
  obtain ⟨B, hB⟩ : ∃ B, decide (s.length ≤ 80) = B := ⟨_, rfl⟩
  rw [hB] at C ⊢
  clear hB
  unfold strV at C ⊢
  go_enter Try.func96, Try.ntmps96
  go_wp2_with (go_at_call 63; refine C.out.mono ?_; rintro e w1 ⟨rfl, rfl⟩)
  go_ret
  exact ⟨rfl, rfl⟩
/-- Where the first stands that may not be: below 0 if there is none. -/
def Idx (bad : Bool) (w : World) (e : Ending) (w' : World) : Prop := ∃ z : Int, e = .returned (.int .i64 z) ∧ decide (z ≥ 0) = bad ∧ Below w.heap.size w w'
set_option maxHeartbeats 1000000 in
theorem index_str (A : Option Addr) (n c b : Nat) (l : List (List UInt8)) (w : World) (hr : RV w A n (l.map strV)) (hn : n ≤ maxLen) (h : w.cell? ⟨b, 0, none⟩ = some (.func (.func 63) #[] #[])) :
    Calls Try.prog 104 #[.slice A n c, .func (.func 96) #[] #[.pointer (some ⟨b, 0, none⟩)]] w (Idx (!l.all isT) w) := by
  have C := Lib.hid (fun s => not_text b s w h)
  have hl : l.length = n := by simpa using hr.1
  have HR := Lib.hid hr
  have HL := Lib.hid hl
  unfold maxLen at hn
  clear hr hl h
  go_enter Try.func104, Try.ntmps104
  go_wp2
  go_loop [8] (fun i => ∃ k : Nat, k ≤ n ∧ i = .int .i64 k ∧ UpTo (fun _ s => isT s) l k) (fun i => n - (intOf i).toNat)
  case atStart => exact ⟨0, Nat.zero_le _, rfl, UpTo.zero _ _⟩
  case round =>
    obtain ⟨k, hk, rfl, hU⟩ := hrel
    have HU := Lib.hid hU
    clear hU
    by_cases hlt : k < n
    · obtain ⟨p, off, e, hbl, hc⟩ := HR.out.at_ hlt
      obtain ⟨s, hs⟩ : ∃ s, l[k]'(by rw [HL.out]; exact hlt) = s := ⟨_, rfl⟩
      rw [List.getElem_map, hs] at hc
      have HS := Lib.hid hs
      subst e
      have C2 := Lib.hid (C.out s)
      clear hs
      unfold strV at hc C2
      cases ht : isT s with
      | true =>
        rw [ht] at C2
        have HT := Lib.hid ht
        clear ht
        go_wp2_with (go_at_call 96; refine C2.out.mono ?_; rintro e w1 ⟨rfl, rfl⟩)
        go_round
        case rel => exact ⟨k + 1, by omega, by go_num, HU.out.next (by rw [HL.out]; exact hlt) (by rw [HS.out]; exact HT.out)⟩
        case measure => simp [intOf]; omega
      | false =>
        rw [ht] at C2
        have HT := Lib.hid ht
        clear ht
        go_wp2_with (go_at_call 96; refine C2.out.mono ?_; rintro e w1 ⟨rfl, rfl⟩)
        go_ret
        have hm : s ∈ l := by rw [← HS.out]; exact List.getElem_mem _
        exact ⟨k, rfl, by rw [all_no hm HT.out]; simp, Below.refl _ _⟩
    · obtain rfl : k = n := by omega
      go_wp2
      go_ret
      exact ⟨-1, rfl, by rw [HU.out.all_ (f := isT) (Nat.le_of_eq HL.out)]; rfl, Below.refl _ _⟩
theorem contains_str (A : Option Addr) (n c b : Nat) (l : List (List UInt8)) (w : World) (hr : RV w A n (l.map strV)) (hn : n ≤ maxLen) (h : w.cell? ⟨b, 0, none⟩ = some (.func (.func 63) #[] #[])) :
    Calls Try.prog 95 #[.slice A n c, .func (.func 96) #[] #[.pointer (some ⟨b, 0, none⟩)]] w fun e w' => e = .returned (.bool (!l.all isT)) ∧ Below w.heap.size w w' := by
  have C := Lib.hid (index_str A n c b l w hr hn h)
  obtain ⟨B, hB⟩ : ∃ B, (!l.all isT) = B := ⟨_, rfl⟩
  rw [hB] at C ⊢
  clear hr hn h hB
  go_enter Try.func95, Try.ntmps95
  go_wp2_with (go_at_call 104; refine C.out.mono ?_; rintro e w1 ⟨z, rfl, hz, hb⟩; have HB := Lib.hid hb; have HZ := Lib.hid hz; clear hb hz)
  go_ret
  exact ⟨rb HZ.out, HB.out⟩
theorem every_str (A : Option Addr) (n c : Nat) (l : List (List UInt8)) (w : World) (hr : RV w A n (l.map strV)) (hn : n ≤ maxLen) :
    Calls Try.prog 70 #[.slice A n c, .func (.func 63) #[] #[]] w fun e w' => e = .returned (.bool (l.all isT)) ∧ Below w.heap.size w w' := by
  have C := Lib.hid (contains_str A n c w.heap.size l (w.alloc (.cells #[.func (.func 63) #[] #[]] 105)) (hr.below ((Below.refl _ w).alloc (Nat.le_refl _) _)) hn (by rw [cell_of_row _ w.heap.size 0 _ _ (0, 0) (heap_alloc_new w _)]; rfl))
  have hmf := hmf
  obtain ⟨B, hB⟩ : ∃ B, l.all isT = B := ⟨_, rfl⟩
  rw [hB] at C ⊢
  clear hr hn hB
  go_enter Try.func70, Try.ntmps70
  go_wp2_with (go_at_call 95; refine C.out.mono ?_; rintro e w1 ⟨rfl, hb⟩; have HB := Lib.hid hb; clear hb)
  go_ret
  exact ⟨by simp, ((Below.refl _ w).alloc (Nat.le_refl _) _).trans (HB.out.mono (by simp))⟩
theorem texts_empty (b : Nat) (p : Addr) (A : Option Addr) (n c : Nat) (w : World) (h1 : w.cell? ⟨b, 0, none⟩ = some (.pointer (some p))) (h2 : w.cell? p = some (.slice A n c)) (hn : n ≤ maxLen) : Calls Try.prog 68 #[.pointer (some ⟨b, 0, none⟩)] w fun e w' => e = .returned (.bool (decide (n = 0))) ∧ w = w' := by
  unfold maxLen at hn
  go_enter Try.func68, Try.ntmps68
  go_wp2
  go_ret
  exact ⟨rb (show ((n : Int) == 0) = decide (n = 0) by rw [Bool.eq_iff_iff]; simp), rfl⟩
theorem texts_right (b : Nat) (p : Addr) (A : Option Addr) (n c : Nat) (l : List (List UInt8)) (w : World) (h1 : w.cell? ⟨b, 0, none⟩ = some (.pointer (some p))) (h2 : w.cell? p = some (.slice A n c)) (hr : RV w A n (l.map strV)) (hn : n ≤ maxLen) : Calls Try.prog 69 #[.pointer (some ⟨b, 0, none⟩)] w fun e w' => e = .returned (.bool (Fv.texts l).right) ∧ Below w.heap.size w w' := by
  show Calls _ _ _ _ fun e w' => e = .returned (.bool (decide (l.length ≤ 8) && l.all isT)) ∧ Below w.heap.size w w'
  have C := Lib.hid (every_str A n c l w hr hn)
  have hl : l.length = n := by simpa using hr.1
  unfold maxLen at hn
  obtain ⟨B, hB⟩ : ∃ B, l.all isT = B := ⟨_, rfl⟩
  rw [hB] at C ⊢
  rw [hl]
  clear hr hB hl
  by_cases h8 : n ≤ 8
  · have g : decide ((n : Int) ≤ 8) = true := decide_eq_true (by omega)
    rw [decide_eq_true h8, Bool.true_and]
    go_enter Try.func69, Try.ntmps69
    go_wp2_with (go_at_call 70; refine C.out.mono ?_; rintro e w1 ⟨rfl, hb⟩; have HB := Lib.hid hb; clear hb)
    go_ret
    exact ⟨rfl, HB.out⟩
  · have g : decide ((n : Int) ≤ 8) = false := decide_eq_false (by omega)
    rw [decide_eq_false h8, Bool.false_and]
    go_enter Try.func69, Try.ntmps69
    go_wp2
    go_ret
    exact ⟨rfl, Below.refl _ _⟩
end Go.Proofs.Ytbhhalkpghcflaa
