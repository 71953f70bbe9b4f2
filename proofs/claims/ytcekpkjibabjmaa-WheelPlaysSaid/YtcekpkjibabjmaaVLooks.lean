/-
  The law's looks: two wheels with the same state answer alike (layer 6).
-/
import Derived.Test.YtcekpkjibabjmaaVSame
import Derived.Test.YtcekpkjibabjmaaWWorks
namespace Go.Proofs.Ytcekpkjibabjmaa
open Go.RowKit
set_option linter.unusedSimpArgs false
set_option linter.unusedVariables false

theorem optV_shape (o : Option Nat) : ∃ (a : Int) (b : Bool), optV o = .tuple #[.int .i64 a, .bool b] := by
  cases o with
  | none => exact ⟨0, false, rfl⟩
  | some n => exact ⟨n, true, rfl⟩
theorem own_zero {w : World} {base : Nat} {v : Value} {l : List Int} (h : w.ownsRow base 3 1 v l.length (l.map encZ)) : rowOwn w v l := by
  refine ⟨h.1, ?_⟩
  rcases h.2 with h | ⟨g, cap, cur, e, _, r⟩
  · exact .inl h
  · exact .inr ⟨g, cap, cur, e, Nat.zero_le _, r⟩
set_option maxHeartbeats 8000000 in
set_option maxRecDepth 100000 in
theorem looks_any (S Q : Nat → Prop) (w : World) (B B2 : Nat) (s : St) (h1 : WhAt S w B s) (h2 : RwAt Q w B2 s) (id : Int) (hid : wfI id) (hN : s.now ≤ 1099511627776) :
    Calls Try.prog 16 #[.pointer (some ⟨B, 0, none⟩), .pointer (some ⟨B2, 0, none⟩), .int .i64 id] w fun e w' => e = .returned (.bool true) ∧ Below w.heap.size w w' := by
  have hl := left_at S w B s h1 id hid hN
  have hrl := fun w' (hb : Below w.heap.size w w') => rleft_any Q w' B2 s (h2.below hb) id hN
  have hn := fun w' (hb : Below w.heap.size w w') => next_at S w' B s (h1.below hb) hN
  have hrn := fun w' (hb : Below w.heap.size w w') => rnext_any Q w' B2 s (h2.below hb) hN
  obtain ⟨a1, b1, e1⟩ := optV_shape (s.left id)
  obtain ⟨a2, b2, e2⟩ := optV_shape s.next
  rw [e1] at hl hrl
  rw [e2] at hn hrn
  have HL := Lib.hid hl
  have HRL := Lib.hid hrl
  have HNx := Lib.hid hn
  have HRN := Lib.hid hrn
  have HIds := Lib.hid (fun w' (hb : Below w.heap.size w w') => ids_at S w' B s (h1.below hb))
  have HNow := Lib.hid (fun w' (hb : Below w.heap.size w w') => now_at S w' B s (h1.below hb))
  obtain ⟨_, hok, A, n, c, hh, hr⟩ := h2
  have hlen : s.L.length = n := hr.1
  have hlt := block_lt hh
  have HH := Lib.hid hh
  have HR := Lib.hid hr
  have HN := Lib.hid hlen
  have q0 : (n : Int) ≤ 64 := by have := hok.most; omega
  clear hl hrl hn hrn e1 e2 h1 hh hr hok hlen
  go_enter Try.func16, Try.ntmps16
  go_wp2_with fail
  refine HL.out.mono ?_
  rintro e w1 ⟨rfl, hb1⟩
  have HB1 := Lib.hid hb1
  clear hb1
  go_wp2_with fail
  refine (HRL.out w1 HB1.out).mono ?_
  rintro e w2 ⟨rfl, hb2⟩
  have HB2 := Lib.hid (HB1.out.trans (hb2.mono HB1.out.size))
  clear hb2
  go_wp2_with fail
  refine (HNx.out w2 HB2.out).mono ?_
  rintro e w3 ⟨rfl, hb3⟩
  have HB3 := Lib.hid (HB2.out.trans (hb3.mono HB2.out.size))
  clear hb3
  go_wp2_with fail
  refine (HRN.out w3 HB3.out).mono ?_
  rintro e w4 ⟨rfl, hb4⟩
  have HB4 := Lib.hid (HB3.out.trans (hb4.mono HB3.out.size))
  clear hb4
  go_wp2_with fail
  refine (HIds.out w4 HB4.out).mono ?_
  rintro e w5 ⟨v, rfl, hv, hb5⟩
  have HB5 := Lib.hid (HB4.out.trans (hb5.mono HB4.out.size))
  rw [show s.L.length = (s.L.map Prod.fst).length by simp] at hv
  obtain ⟨A5, c5, rfl, hrv, _⟩ := row_shape (own_zero hv)
  rw [List.length_map, HN.out] at hrv ⊢
  have HRV := Lib.hid hrv
  obtain ⟨c0w, c1w, _, _⟩ := ref_cells ((HB5.out.block B2 hlt).trans HH.out)
  clear hv hb5 hrv
  go_wp2
  go_loopw [16] (fun kv wr => ∃ k : Nat, k ≤ n ∧ kv = .int .i64 (k : Int) ∧ Hid (Below w5.heap.size w5 wr)) (fun kv _ => n - (RowKit.intOf kv).toNat)
  case atStart => exact ⟨0, Nat.zero_le _, rfl, Lib.hid (Below.refl _ _)⟩
  case round =>
    obtain ⟨k, hk, rfl, hb⟩ := hrel
    have HBW := Lib.hid (HB5.out.trans (hb.out.mono HB5.out.size))
    obtain ⟨c0r, c1r, _, _⟩ := ref_cells ((HBW.out.block B2 hlt).trans HH.out)
    by_cases hlk : k < n
    · have hk' : k < s.L.length := by rw [HN.out]; exact hlk
      obtain ⟨b, off, rfl, _, hc1⟩ := (HRV.out.below hb.out).at_ hlk
      have hrr := HR.out.but (But.of_below (S := fun _ => False) HBW.out) (fun _ h => h.elim)
      obtain ⟨b', off', rfl, _, _, hat⟩ := hrr.2 (by omega)
      obtain ⟨cr, cr2⟩ := hat k hk'
      rw [List.getElem_map, List.getElem_map] at hc1
      obtain ⟨x, hx⟩ : ∃ x, (s.L[k]).1 = x := ⟨_, rfl⟩
      rw [hx] at hc1 cr
      unfold encZ at hc1
      have q1 : (k : Int) < (n : Int) := by omega
      have q2 : (0 : Int) ≤ (k : Int) := by omega
      clear cr2 hx hk' hat hrr
      go_wp2
      go_quiet (fail)
      have HB := Lib.hid (below_drewN hb.out nq)
      go_wp2
      go_roundw
      case rel => exact ⟨k + 1, by omega, by go_num, HB⟩
      case measure => simp [RowKit.intOf]; omega
    · obtain rfl : k = n := by omega
      have HNw : Hid (∀ j, Calls Try.prog 21 #[.pointer (some ⟨B, 0, none⟩)] (wr.drewN j) fun e w' => e = .returned (.int .i64 (s.now : Int)) ∧ w' = wr.drewN j) := Lib.hid (fun j => (HNow.out (wr.drewN j) (below_drewN HBW.out j)).mono (fun e w' h => ⟨h.1, h.2.symm⟩))
      have z1 : (a1 == a1) = true := beq_self_eq_true a1
      have z2 : (b1 == b1) = true := beq_self_eq_true b1
      have z3 : (a2 == a2) = true := beq_self_eq_true a2
      have z4 : (b2 == b2) = true := beq_self_eq_true b2
      go_wp2
      go_quiet ((go_at_call 21; exact Calls.quiet_of_same (HNw.out _)))
      go_wp2
      go_ret
      exact ⟨rfl, below_drewN HBW.out nq⟩
end Go.Proofs.Ytcekpkjibabjmaa
