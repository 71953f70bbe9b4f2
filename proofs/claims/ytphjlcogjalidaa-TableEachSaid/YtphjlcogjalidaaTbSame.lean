/-
  The law's same (layer 15): are rows the document's?
-/
import Derived.Test.YtphjlcogjalidaaTbEq
namespace Go.Proofs.Ytphjlcogjalidaa
open Go.RowKit
set_option linter.unusedSimpArgs false
set_option linter.unusedVariables false

theorem ret_boolT {a b : Bool} (h : a = b) : Ending.returned (.bool a) = .returned (.bool b) := by rw [h]
/-- Are the lists the same? -/
def sameT : List (Rw Int) → List (Rw Int) → Bool
  | [], [] => true
  | a :: l, b :: m => eqB a b && sameT l m
  | _, _ => false
theorem sameT_iff : ∀ l m : List (Rw Int), sameT l m = true ↔ l = m
  | [], [] => by simp [sameT]
  | [], _ :: _ => by simp [sameT]
  | _ :: _, [] => by simp [sameT]
  | a :: l, b :: m => by rw [sameT, Bool.and_eq_true, eqB_iff, sameT_iff l m, List.cons.injEq]
set_option maxHeartbeats 4000000 in
theorem same_any (A : Option Addr) (n c : Nat) (l : List (Rw Int)) (A2 : Option Addr) (n2 c2 : Nat) (l2 : List (Rw Int)) (w : World) (hS : SK trC 4 w A n l) (hS2 : SK trC 4 w A2 n2 l2) (hn : n ≤ maxLen) :
    Calls Try.prog 12 #[.slice A n c, .slice A2 n2 c2] w fun e w' => e = .returned (.bool (sameT l l2)) ∧ Below w.heap.size w w' := by
  unfold maxLen at hn
  have hm : n ≤ 9223372036854775807 := by omega
  have hl := hS.1
  have hl2 := hS2.1
  obtain ⟨r, hr⟩ : ∃ r, sameT l l2 = r := ⟨_, rfl⟩
  rw [hr]
  have HR := Lib.hid hr
  have HL := Lib.hid hl
  have HL2 := Lib.hid hl2
  have HS := Lib.hid hS
  have HS2 := Lib.hid hS2
  clear hr hl hl2 hS hS2 hn
  by_cases hn : n = n2
  · subst hn
    have zz2 : (n != n) = false := by simp
    go_enter Try.func12, Try.ntmps12
    go_wp2
    go_loopw [5] (fun i wr => ∃ k : Nat, k ≤ n ∧ i = .int .i64 (k : Int) ∧ Hid (l.take k = l2.take k) ∧ Hid (Below w.heap.size w wr)) (fun i _ => n - (intOf i).toNat)
    case atStart => exact ⟨0, Nat.zero_le _, rfl, Lib.hid rfl, Lib.hid (Below.refl _ _)⟩
    case round =>
      obtain ⟨k, hk, rfl, hf, hb⟩ := hrel
      by_cases hlt : k < n
      · have hkl : k < l.length := by have := HL.out; omega
        have hkl2 : k < l2.length := by have := HL2.out; omega
        obtain ⟨b, off, rfl, hbl, hit⟩ := (HS.out.below hb.out).at_ hlt hkl
        obtain ⟨b2, off2, rfl, hbl2, hit2⟩ := (HS2.out.below hb.out).at_ hlt hkl2
        obtain ⟨x, hx⟩ : ∃ x, l[k] = x := ⟨_, rfl⟩
        obtain ⟨y, hy⟩ : ∃ x, l2[k] = x := ⟨_, rfl⟩
        rw [hx] at hit
        rw [hy] at hit2
        obtain ⟨c0, c1, c2, c3⟩ := tr_cells hit
        obtain ⟨d0, d1, d2, d3⟩ := tr_cells hit2
        have HXk := Lib.hid hx
        have HYk := Lib.hid hy
        have ug := tr_guard
        have q1 : (k : Int) < (n : Int) := by omega
        have q0 : (0 : Int) ≤ (k : Int) := by omega
        clear hx hy hit hit2
        have ue := tr_eq x y
        unfold trV at ue
        cases hxy : eqB x y with
        | true =>
          rw [hxy] at ue
          have HXY := Lib.hid ((eqB_iff x y).1 hxy)
          clear hxy
          go_wp2
          go_quiet (fail)
          go_wp2
          go_roundw
          case rel => exact ⟨k + 1, by omega, by go_num, Lib.hid (by rw [List.take_succ_eq_append_getElem hkl, List.take_succ_eq_append_getElem hkl2, hf.out, HXk.out, HYk.out, HXY.out]), Lib.hid (below_drewN hb.out nq)⟩
          case measure => simp [intOf]; omega
        | false =>
          rw [hxy] at ue
          have HXY := Lib.hid (show x ≠ y from fun e => by rw [(eqB_iff x y).2 e] at hxy; cases hxy)
          clear hxy
          go_wp2
          go_quiet (fail)
          go_wp2
          go_ret
          refine ⟨ret_boolT ?_, below_drewN hb.out nq⟩
          rw [← HR.out]
          cases e : sameT l l2
          · rfl
          · exact absurd ((sameT_iff l l2).1 e) (fun h => HXY.out (by rw [← HXk.out, ← HYk.out]; simp only [h]))
      · go_wp2
        go_ret
        refine ⟨ret_boolT ?_, hb.out⟩
        rw [← HR.out]
        have h1 := hf.out
        rw [List.take_of_length_le (by have := HL.out; omega), List.take_of_length_le (by have := HL2.out; omega)] at h1
        exact ((sameT_iff l l2).2 h1).symm
  · have zz : (n != n2) = true := by rw [bne_iff_ne]; exact hn
    obtain rfl : false = r := by
      rw [← HR.out]
      cases e : sameT l l2
      · rfl
      · exact absurd ((sameT_iff l l2).1 e) (fun h => hn (by have h1 := HL.out; have h2 := HL2.out; rw [h, h2] at h1; exact h1.symm))
    have HN := Lib.hid hn
    clear hn
    go_enter Try.func12, Try.ntmps12
    go_wp2
    go_ret
    exact ⟨rfl, Below.refl _ _⟩
end Go.Proofs.Ytphjlcogjalidaa
