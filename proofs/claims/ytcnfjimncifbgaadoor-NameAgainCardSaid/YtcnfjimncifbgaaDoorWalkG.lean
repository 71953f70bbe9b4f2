/-
  The walks of the document's plain Has, Same and Rising (layer 1): loops that only read.
-/
import Derived.Test.YtcnfjimncifbgaaDoorMem
import Derived.Test.YtcnfjimncifbgaaDoorWalkC
import Derived.Lib.Hide
import Derived.IntWalk
import Derived.Deep.QuietTactic
import Derived.BigQuiet
import Derived.LoopTactic
namespace Go.Proofs.YtcnfjimncifbgaaDoor
open Go.RowKit Go.ChangeShapes Go.WideShapes Go.ChangeAt
set_option linter.unusedSimpArgs false

theorem below_draws {B : Nat} {a w : World} (h : Below B a w) (q : Nat) : Below B a (w.drewN q) := ⟨h.os, h.tape, h.output, h.size, h.block⟩

/-! ### Has -/
def NotYet (l : List ByteArray) (s : ByteArray) (k : Nat) : Prop := ∀ x ∈ l.take k, x ≠ s
theorem NotYet.zero (l : List ByteArray) (s : ByteArray) : NotYet l s 0 := by intro x hx; simp at hx
theorem NotYet.next {l : List ByteArray} {s : ByteArray} {k : Nat} (h : NotYet l s k) (hk : k < l.length) (hn : l[k] ≠ s) : NotYet l s (k + 1) := by
  intro x hx
  rw [List.take_succ_eq_append_getElem hk, List.mem_append, List.mem_singleton] at hx
  rcases hx with hx | rfl
  · exact h x hx
  · exact hn
theorem NotYet.no {l : List ByteArray} {s : ByteArray} (h : NotYet l s l.length) : hasB l s = false := by
  rw [Bool.eq_false_iff]
  intro e
  exact h s (by rw [List.take_length]; exact (hasB_iff l s).1 e) rfl
theorem has_here {l : List ByteArray} {s : ByteArray} {k : Nat} (hk : k < l.length) (he : l[k] = s) : hasB l s = true := (hasB_iff l s).2 (by rw [← he]; exact List.getElem_mem hk)

set_option maxHeartbeats 400000 in
theorem rhas_any (A : Option Addr) (n c : Nat) (xs : List ByteArray) (s : ByteArray) (w : World) (h : RS w A n xs) (hn : n ≤ 1000) :
    Calls Tryd.prog 24 #[.slice A n c, .string s] w fun e w' => e = .returned (.bool (hasB xs s)) ∧ w = w' := by
  have hl := h.1
  go_enter Tryd.func24, Tryd.ntmps24
  go_wp2
  go_loop [5] (fun i => ∃ k : Nat, k ≤ n ∧ i = .int .i64 k ∧ NotYet xs s k) (fun i => n - (intOf i).toNat)
  case atStart => exact ⟨0, Nat.zero_le _, rfl, NotYet.zero _ _⟩
  case round =>
    obtain ⟨k, hk, rfl, hny⟩ := hrel
    by_cases hlt : k < n
    · obtain ⟨b, off, rfl, hb, hc⟩ := h.2 (by omega)
      have hcell := hc k (by omega)
      by_cases he : xs[k] = s
      · have HS := Lib.hid (has_here (by omega) he)
        have t1 : (xs[k].toList == s.toList) = true := same_list.2 he
        clear hc hny he h
        go_wp2
        go_ret
        exact ⟨ret_bool HS.out.symm, rfl⟩
      · have HS := Lib.hid (hny.next (by omega) he)
        have t1 : (xs[k].toList == s.toList) = false := other_list.2 he
        clear hc hny he h
        go_wp2
        go_round
        case rel => exact ⟨k + 1, by omega, by go_num, HS.out⟩
        case measure => simp [intOf]; omega
    · obtain rfl : k = n := by omega
      have HS : Hid (hasB xs s = false) := Lib.hid (by rw [← hl] at hny; exact hny.no)
      clear hny h
      go_wp2
      go_ret
      exact ⟨ret_bool HS.out.symm, rfl⟩

/-! ### Same -/
def SameTo (l m : List ByteArray) (k : Nat) : Prop := l.take k = m.take k
theorem SameTo.zero (l m : List ByteArray) : SameTo l m 0 := by simp [SameTo]
theorem SameTo.next {l m : List ByteArray} {k : Nat} (h : SameTo l m k) (hk : k < l.length) (hm : k < m.length) (he : l[k] = m[k]) : SameTo l m (k + 1) := by
  unfold SameTo at *
  rw [List.take_succ_eq_append_getElem hk, List.take_succ_eq_append_getElem hm, h, he]
theorem SameTo.all {l m : List ByteArray} {n : Nat} (h : SameTo l m n) (hl : l.length = n) (hm : m.length = n) : l = m := by
  unfold SameTo at h
  rwa [List.take_of_length_le (by omega), List.take_of_length_le (by omega)] at h

set_option maxHeartbeats 400000 in
theorem rsame_yes (A B : Option Addr) (n c d : Nat) (xs : List ByteArray) (w : World) (h : RS w A n xs) (k : RS w B n xs) (hn : n ≤ 1000) :
    Calls Tryd.prog 22 #[.slice A n c, .slice B n d] w fun e w' => e = .returned (.bool true) ∧ Below w.heap.size w w' := by
  have hl := h.1
  go_enter Tryd.func22, Tryd.ntmps22
  go_wp2
  go_loopw [5] (fun i wr => ∃ k : Nat, k ≤ n ∧ i = .int .i64 k ∧ Below w.heap.size w wr) (fun i _ => n - (intOf i).toNat)
  case atStart => exact ⟨0, Nat.zero_le _, rfl, Below.refl _ _⟩
  case round =>
    obtain ⟨j, hj, rfl, hb⟩ := hrel
    by_cases hlt : j < n
    · obtain ⟨b1, off1, rfl, hb1, hc1⟩ := (h.below hb).2 (by omega)
      obtain ⟨b2, off2, rfl, hb2, hc2⟩ := (k.below hb).2 (by omega)
      have hx := hc1 j (by omega)
      have hy := hc2 j (by omega)
      have g1 : (0 : Int) ≤ (j : Int) := by omega
      have g2 : (j : Int) < (n : Int) := by omega
      have t1 : (xs[j].toList == xs[j].toList) = true := same_list.2 rfl
      clear hc1 hc2 h k
      go_wp2
      go_quiet (fail)
      go_wp2
      go_roundw
      case rel => exact ⟨j + 1, by omega, by go_num, below_draws hb _⟩
      case measure => simp [intOf]; omega
    · obtain rfl : j = n := by omega
      clear h k
      go_wp2
      go_ret
      exact ⟨rfl, hb⟩

/-! ### Rising -/
def risingB : List ByteArray → Bool
  | x :: y :: r => ltS x y && risingB (y :: r)
  | _ => true
theorem rising_iff : ∀ l : List ByteArray, risingB l = true ↔ ∀ k (h : k + 1 < l.length), ltS l[k] l[k + 1] = true
  | [] => by simp [risingB]
  | [x] => by simp [risingB]
  | x :: y :: r => by
    rw [risingB, Bool.and_eq_true, rising_iff (y :: r)]
    constructor
    · rintro ⟨h1, h2⟩ k hk
      cases k with
      | zero => exact h1
      | succ k => exact h2 k (by simpa using hk)
    · intro h
      exact ⟨h 0 (by simp), fun k hk => h (k + 1) (by simpa using hk)⟩
theorem rising_SS {l : List ByteArray} (h : SS l) : risingB l = true :=
  (rising_iff l).2 fun k hk => List.pairwise_iff_getElem.1 h k (k + 1) (by omega) hk (by omega)
def RisesTo (l : List ByteArray) (k : Nat) : Prop := ∀ j (h : j + 1 < l.length), j + 1 < k → ltS l[j] l[j + 1] = true
theorem RisesTo.one (l : List ByteArray) : RisesTo l 1 := fun j _ h => absurd h (by omega)
theorem RisesTo.next {l : List ByteArray} {k : Nat} (h : RisesTo l k) (hk : k < l.length) (h1 : 1 ≤ k) (hl : ltS (l[k - 1]'(by omega)) l[k] = true) : RisesTo l (k + 1) := by
  intro j hj hjk
  by_cases e : j + 1 = k
  · subst e; exact hl
  · exact h j hj (by omega)
theorem RisesTo.all {l : List ByteArray} {k : Nat} (h : RisesTo l k) (hk : l.length ≤ k) : risingB l = true := (rising_iff l).2 fun j hj => h j hj (by omega)
theorem rises_no {l : List ByteArray} {k : Nat} (hk : k < l.length) (h1 : 1 ≤ k) (hl : ltS (l[k - 1]'(by omega)) l[k] = false) : risingB l = false := by
  rw [Bool.eq_false_iff]
  intro e
  have := (rising_iff l).1 e (k - 1) (by omega)
  simp only [Nat.sub_add_cancel h1] at this
  rw [hl] at this; cases this

set_option maxHeartbeats 400000 in
theorem rrising_any (A : Option Addr) (n c : Nat) (xs : List ByteArray) (w : World) (h : RS w A n xs) (hn : n ≤ 1000) :
    Calls Tryd.prog 31 #[.slice A n c] w fun e w' => e = .returned (.bool (risingB xs)) ∧ Below w.heap.size w w' := by
  have hl := h.1
  go_enter Tryd.func31, Tryd.ntmps31
  go_wp2
  go_loopw [3] (fun i wr => ∃ k : Nat, 1 ≤ k ∧ k ≤ n + 1 ∧ i = .int .i64 k ∧ RisesTo xs k ∧ Below w.heap.size w wr) (fun i _ => n + 1 - (intOf i).toNat)
  case atStart => exact ⟨1, by omega, by omega, rfl, RisesTo.one _, Below.refl _ _⟩
  case round =>
    obtain ⟨k, hk1, hk, rfl, hr, hb⟩ := hrel
    by_cases hlt : k < n
    · obtain ⟨b, off, rfl, hb1, hc⟩ := (h.below hb).2 (by omega)
      have q1 : k - 1 < xs.length := by omega
      have q2 : k < xs.length := by omega
      have hx := hc (k - 1) q1
      have hy := hc k q2
      have ek : IntKind.i64.wrap ((k : Int) - 1) = (k : Int) - 1 := IntWalk.i64_in _ (by omega)
      have ek2 : ((k : Int) - 1).toNat = k - 1 := by omega
      have g0 : (0 : Int) ≤ (k : Int) - 1 := by omega
      have g1 : (k : Int) - 1 < (n : Int) := by omega
      have g2 : (0 : Int) ≤ (k : Int) := by omega
      have g3 : (k : Int) < (n : Int) := by omega
      cases he : ltS (xs[k - 1]'q1) (xs[k]'q2) with
      | true =>
        have HS := Lib.hid (hr.next q2 hk1 he)
        have t1 : Op.bytesLess (xs[k - 1]'q1).toList (xs[k]'q2).toList = true := he
        clear hc hr he h
        go_wp2
        go_quiet (fail)
        clear ek ek2
        go_wp2
        go_roundw
        case rel => exact ⟨k + 1, by omega, by omega, by go_num, HS.out, below_draws hb _⟩
        case measure => simp [intOf]; omega
      | false =>
        have HS := Lib.hid (rises_no q2 hk1 he)
        have t1 : Op.bytesLess (xs[k - 1]'q1).toList (xs[k]'q2).toList = false := he
        clear hc hr he h
        go_wp2
        go_quiet (fail)
        clear ek ek2
        go_wp2
        go_ret
        exact ⟨ret_bool HS.out.symm, below_draws hb _⟩
    · have HS := Lib.hid (hr.all (by omega))
      clear hr h
      go_wp2
      go_ret
      exact ⟨ret_bool HS.out.symm, hb⟩
end Go.Proofs.YtcnfjimncifbgaaDoor
