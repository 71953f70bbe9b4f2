/-
  Set of the document's wheel at any ticks; the law's rounds and its comparison of two rows (layer 6).
-/
import Derived.Test.YtcekpkjibabjmaaVSet
namespace Go.Proofs.Ytcekpkjibabjmaa
open Go.RowKit
set_option linter.unusedSimpArgs false
set_option linter.unusedVariables false

set_option maxHeartbeats 4000000 in
theorem rset_any (Q : Nat → Prop) (w : World) (B2 : Nat) (s : St) (h : RwAt Q w B2 s) (hQ : ∀ k, w.heap.size ≤ k → Q k) (id n : Int) (hid : wfI id) (hn : wfI n) (hN : s.now ≤ 1099511627776) :
    Calls Try.prog 9 #[.pointer (some ⟨B2, 0, none⟩), .int .i64 id, .int .i64 n] w fun e w' => e = .returned (.bool (s.may id n)) ∧ RwAt Q w' B2 (s.set id n) ∧ But (· = B2) w w' := by
  by_cases hr : n < 1 ∨ 262144 < n
  · obtain ⟨e1, e2⟩ := may_no (s := s) (id := id) hr
    rw [e1, e2]
    have H := Lib.hid h
    clear h e1 e2 hQ
    unfold wfI at hn
    go_enter Try.func9, Try.ntmps9
    rcases hr with hr | hr
    · go_wp2
      go_ret
      exact ⟨rfl, H.out, But.refl _ _⟩
    · have hr2 : ¬ n < 1 := by omega
      go_wp2
      go_ret
      exact ⟨rfl, H.out, But.refl _ _⟩
  · obtain ⟨m, rfl⟩ : ∃ m : Nat, n = (m : Int) := ⟨n.toNat, by omega⟩
    by_cases hm : s.may id (m : Int) = true
    · rw [hm]
      exact rset_yes Q w B2 s h hQ id m hid (by omega) (by omega) hN hm
    · rw [Bool.not_eq_true] at hm
      have e2 : s.set id (m : Int) = s := by unfold St.set; rw [hm]; rfl
      have hh0 : hasL s.L id = false ∧ 64 ≤ s.L.length := by
        unfold St.may at hm
        rw [decide_eq_false_iff_not] at hm
        cases hb : hasL s.L id with
        | true => exact absurd ⟨by omega, by omega, .inl hb⟩ hm
        | false => exact ⟨rfl, Nat.le_of_not_lt (fun h => hm ⟨by omega, by omega, .inr h⟩)⟩
      rw [hm, e2]
      have HHas := Lib.hid (rhas_any Q w B2 s h id)
      rw [hh0.1] at HHas
      have H := Lib.hid h
      obtain ⟨_, hok, A0, n0, c0', hh, hr0⟩ := h
      obtain ⟨_, cl0, _, _⟩ := ref_cells hh
      have hn0 : s.L.length = n0 := hr0.1
      have q1 : (n0 : Int) ≤ 64 := by have := hok.most; omega
      have q2 : (64 : Int) ≤ (n0 : Int) := by omega
      have q3 : 1 ≤ (m : Int) := by omega
      have q4 : (m : Int) ≤ 262144 := by omega
      clear hok hh hr0 hn0 hh0 hm e2 hr hQ hn
      go_enter Try.func9, Try.ntmps9
      go_wp2_with fail
      refine HHas.out.mono ?_
      rintro e w' ⟨rfl, rfl⟩
      go_wp2
      go_ret
      exact ⟨rfl, H.out, But.refl _ _⟩
/-- How many rounds: below 300. -/
theorem many_any (n : Int) (hn : wfI n) (w : World) : Calls Try.prog 12 #[.int .i64 n] w fun e w' => (∃ r : Nat, r < 300 ∧ e = .returned (.int .i64 (r : Int)) ∧ r = (n % 18446744073709551616).toNat % 300) ∧ w = w' := by
  unfold wfI at hn
  obtain ⟨u, hu⟩ : ∃ u : Nat, n % 18446744073709551616 = (u : Int) := ⟨(n % 18446744073709551616).toNat, by omega⟩
  have hu1 : (u : Int) < 18446744073709551616 := by omega
  have hw : IntKind.u64.wrap n = (u : Int) := by rw [← hu]; rfl
  obtain ⟨r, hr⟩ : ∃ r : Nat, (u : Int) % 300 = (r : Int) := ⟨u % 300, by omega⟩
  have hr1 : r < 300 := by omega
  have hrt : Int.tmod (u : Int) 300 = (r : Int) := by rw [Int.tmod_eq_emod_of_nonneg (by omega)]; exact hr
  have hw2 : IntKind.u64.wrap (r : Int) = (r : Int) := IntWalk.u64_in _ (by omega)
  have hw3 : IntKind.i64.wrap (r : Int) = (r : Int) := IntWalk.i64_in _ (by omega)
  have HE : Hid (r = (n % 18446744073709551616).toNat % 300) := Lib.hid (by rw [hu]; omega)
  clear hu hr
  go_enter Try.func12, Try.ntmps12
  go_wp2
  go_ret
  exact ⟨⟨r, hr1, rfl, HE.out⟩, rfl⟩
theorem same_any (A B : Option Addr) (n c d : Nat) (l : List Int) (w : World) (h1 : RV w A n (l.map encZ)) (h2 : RV w B n (l.map encZ)) (hn : n ≤ 140737488355328) :
    Calls Try.prog 13 #[.slice A n c, .slice B n d] w fun e w' => e = .returned (.bool true) ∧ Below w.heap.size w w' := by
  have hln : l.length = n := by simpa using h1.1
  have H1 := Lib.hid h1
  have H2 := Lib.hid h2
  have HLn := Lib.hid hln
  clear h1 h2 hln
  go_enter Try.func13, Try.ntmps13
  go_wp2
  go_loopw [5] (fun kv wr => ∃ k : Nat, k ≤ n ∧ kv = .int .i64 (k : Int) ∧ Hid (Below w.heap.size w wr)) (fun kv _ => n - (RowKit.intOf kv).toNat)
  case atStart => exact ⟨0, Nat.zero_le _, rfl, Lib.hid (Below.refl _ _)⟩
  case round =>
    obtain ⟨k, hk, rfl, hb⟩ := hrel
    by_cases hlt : k < n
    · have hk' : k < l.length := by rw [HLn.out]; exact hlt
      obtain ⟨b, off, rfl, _, hc1⟩ := (H1.out.below hb.out).at_ hlt
      obtain ⟨b2, off2, rfl, _, hc2⟩ := (H2.out.below hb.out).at_ hlt
      rw [List.getElem_map] at hc1 hc2
      obtain ⟨x, hx⟩ : ∃ x, l[k] = x := ⟨_, rfl⟩
      rw [hx] at hc1 hc2
      unfold encZ at hc1 hc2
      have q1 : (k : Int) < (n : Int) := by omega
      have q2 : (0 : Int) ≤ (k : Int) := by omega
      clear hx hk'
      go_wp2
      go_quiet (fail)
      have HB := Lib.hid (below_drewN hb.out nq)
      go_wp2
      go_roundw
      case rel => exact ⟨k + 1, by omega, by go_num, HB⟩
      case measure => simp [RowKit.intOf]; omega
    · obtain rfl : k = n := by omega
      go_wp2
      go_ret
      exact ⟨rfl, hb.out⟩
end Go.Proofs.Ytcekpkjibabjmaa
