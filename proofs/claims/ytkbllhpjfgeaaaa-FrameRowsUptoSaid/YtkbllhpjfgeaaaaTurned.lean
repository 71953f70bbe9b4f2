/-
  The walk of the law's own Turned (layer 2).
-/
import Derived.Test.YtkbllhpjfgeaaaaTurn
import Derived.StillTailTactics
import Derived.Deep.QuietTactic
import Derived.BigQuiet
import Derived.WalkLawsBesides
namespace Go.Proofs.Ytkbllhpjfgeaaaa
open Go.RowKit
set_option linter.unusedSimpArgs false

def fromOf (U n : Nat) : Nat := U % (8 * n)
def stepsOf (U n : Nat) : Nat := min 32 (8 * n - fromOf U n)

/-- A store into a row of the call's own. -/
theorem bown_store {w : World} {base : Nat} {e : TypeId} {g n c : Nat} {xs : List Value} (h : w.ownsRow base e 1 (.slice (some ⟨g, 0, none⟩) n c) n xs) (i : Nat) (u : Value) :
    (w.setCell ⟨g, i, none⟩ u).ownsRow base e 1 (.slice (some ⟨g, 0, none⟩) n c) n (xs.set i u) := by
  refine ⟨by rw [List.length_set]; exact h.1, ?_⟩
  rcases h.2 with ⟨hv, _⟩ | ⟨g', cap, cur, hv, hb, hh, h1, h2, h3, h4⟩
  · cases hv
  · cases hv
    refine Or.inr ⟨g, c, cur.setIfInBounds i u, rfl, hb, heap_setCell_same w g i cur e u hh, h1, h2, by simpa using h3, ?_⟩
    rw [Array.toList_setIfInBounds, List.take_set, h4]
theorem bown_cell {w : World} {base : Nat} {e : TypeId} {g n c : Nat} {xs : List UInt8} (h : w.ownsRow base e 1 (.slice (some ⟨g, 0, none⟩) n c) n (xs.map byteV)) {i : Nat} (hi : i < xs.length) : w.cell? ⟨g, i, none⟩ = some (.int .u8 (xs[i].toNat : Int)) := by
  have := h.cells (g := g) rfl i (byteV xs[i]) (by simp [hi])
  by_cases e : i = 0
  · subst e; simpa [Addr.add, byteV] using this
  · simpa [Addr.add, e, byteV] using this
theorem bown_free {w : World} {base : Nat} {e : TypeId} {g n c : Nat} {xs : List Value} (h : w.ownsRow base e 1 (.slice (some ⟨g, 0, none⟩) n c) n xs) (i : Nat) : w.frozen? ⟨g, i, none⟩ = false := by
  rcases h.2 with ⟨hv, _⟩ | ⟨g', cap, cur, hv, hb, hh, _⟩
  · cases hv
  · cases hv
    simp [World.frozen?, hh]

theorem mask_bit (m k : Nat) : (((m : Int) / 2 ^ k).tmod 2 == 1) = m.testBit k := by
  obtain ⟨q, hq⟩ : ∃ q : Nat, m / 2 ^ k = q := ⟨_, rfl⟩
  have e : ((m : Int) / 2 ^ k) = (q : Int) := by rw [← hq, Int.natCast_ediv, Int.natCast_pow]; rfl
  rw [e, Nat.testBit_eq_decide_div_mod_eq, hq, Int.tmod_eq_emod_of_nonneg (by omega), Bool.eq_iff_iff, beq_iff_eq, decide_eq_true_eq]
  omega

theorem xor_turn (y : UInt8) (T : Nat) : Value.int .u8 (bits .xor .u8 (y.toNat : Int) (128 / 2 ^ T)) = byteV (flipB y T) := by
  have e : (128 / 2 ^ T : Int) = ((128 / 2 ^ T : Nat) : Int) := by rw [Int.natCast_ediv, Int.natCast_pow]; rfl
  have l : 128 / 2 ^ T < 256 := Nat.lt_of_le_of_lt (Nat.div_le_self _ _) (by omega)
  rw [e, u8_xor_nat _ _ y.toNat_lt l, byteV, flip_toNat]

set_option maxHeartbeats 1000000 in
set_option maxRecDepth 100000 in
theorem turned_any (A : Option Addr) (n c : Nat) (xs : List UInt8) (at_ : Int) (U m : Nat) (w : World) (h : RB w A n xs) (hnil : A = none → c = 0) (hn : n ≤ 140737488355328) (hU : IntKind.u64.wrap at_ = (U : Int)) (hU2 : U < 18446744073709551616) (hpos : n ≠ 0) :
    Calls Try.prog 26 #[.slice A n c, .agg #[.int .i64 at_, .int .u32 (m : Int)]] w fun e w' => ∃ A' c', e = .returned (.tuple #[.slice A' n c', .bool (anyTo m (stepsOf U n))]) ∧ RB w' A' n (turnTo xs (fromOf U n) m (stepsOf U n)) ∧ ((A' = none → c' = 0) ∧ n ≤ c') ∧ Below w.heap.size w w' := by
  obtain ⟨i0, hi, hz0, hz1, hz2⟩ := info_parts u8_info
  have hl := h.1
  have hU3 := Lib.hid hU2
  clear hU2
  have f0 : ((n : Int) == 0) = false := by rw [beq_eq_false_iff_ne]; omega
  have hown : ((w.alloc (.cells #[.int .i64 at_, .int .u32 (m : Int)] 61)).alloc (.cells #[] 5)).ownsRow (w.heap.size + 1) 5 1 (.slice (some ⟨w.heap.size + 1, 0, none⟩) 0 0) 0 [] := by
    have := World.ownsRow_made (base := w.heap.size + 1) (e := 5) (size := 1) (w.alloc (.cells #[.int .i64 at_, .int .u32 (m : Int)] 61)) #[] 0 (by simp) (Nat.zero_le _) rfl
    simpa using this
  have hR := (h.alloc (.cells #[.int .i64 at_, .int .u32 (m : Int)] 61)).alloc (.cells #[] 5)
  clear h
  obtain ⟨F, hF⟩ : ∃ F, fromOf U n = F := ⟨_, rfl⟩
  have hFl : F < 8 * n := by rw [← hF]; exact Nat.mod_lt _ (by omega)
  have eF : (U : Int) % (8 * (n : Int)) = (F : Int) := by rw [← hF, fromOf, Int.natCast_emod, Int.natCast_mul]; rfl
  have hS : stepsOf U n = min 32 (8 * n - F) := by rw [stepsOf, hF]
  obtain ⟨S, hS2⟩ : ∃ S, stepsOf U n = S := ⟨_, rfl⟩
  rw [hS2] at hS
  rw [hF, hS2]
  have hSl : S ≤ 32 ∧ F + S ≤ 8 * n ∧ (S = 32 ∨ F + S = 8 * n) := by omega
  have HS := Lib.hid hSl
  clear hS hS2 hF hSl
  go_enter Try.func26, Try.ntmps26
  go_wp2_with (at_builtin; refine wpList_append_rb rfl (.tmp 10) (.tmp 11) 22 rfl (w.heap.size + 1) 5 i0 (.int .u8 0) 1 Try.underlying22 hi hz0 hz1 hz2 rfl _ 0 [] rfl hown A n c xs rfl hnil hR ?c1 ?c2 ?c3 ?_)
  case c1 => unfold maxLen; omega
  case c2 => omega
  case c3 => simp
  intro v1 w1 hown1 hg1
  have hbx : ∀ k u, (w.alloc (.cells #[.int .i64 at_, .int .u32 (m : Int)] 61)).cell? ⟨w.heap.size, k, none⟩ = some u → w1.cell? ⟨w.heap.size, k, none⟩ = some u := fun k u hu =>
    hg1.cell ((World.cell?_alloc_past _ _ _ (by simp)).trans hu) (by simp [Value.ownBlock])
  have hx0 := hbx 0 (.int .i64 at_) (by rw [cell_of_row _ w.heap.size 0 _ _ _ (heap_alloc_new w _)]; rfl)
  have hx1 := hbx 1 (.int .u32 (m : Int)) (by rw [cell_of_row _ w.heap.size 1 _ _ _ (heap_alloc_new w _)]; rfl)
  have hb1 : Below w.heap.size w w1 := (((Below.refl _ _).alloc (Nat.le_refl _) _).alloc (by simp) _).grown hg1 (by simp; omega) (fun j hj => by simp [Value.ownBlock] at hj; omega)
  rcases hown1.2 with ⟨_, h0⟩ | ⟨g, c1, cur, rfl, hgb, _⟩
  · exact absurd h0 (by simpa using hpos)
  clear hbx hg1 hown hR
  have HW1 := Lib.hid hown1
  have HL := Lib.hid hl
  clear hown1 hl
  go_wp2
  clear eF hU
  go_loopw [8, 9] (fun a i wr => ∃ k : Nat, k ≤ S ∧ i = .int .i64 k ∧ a = .bool (anyTo m k) ∧ wr.ownsRow (w.heap.size + 1) 5 1 (.slice (some ⟨g, 0, none⟩) n c1) n ((turnTo xs F m k).map byteV) ∧ wr.cell? ⟨w.heap.size, 1, none⟩ = some (.int .u32 (m : Int)) ∧ Below w.heap.size w wr) (fun _ i _ => 32 - (intOf i).toNat)
  case atStart => exact ⟨0, Nat.zero_le _, rfl, rfl, HW1.out, hx1, hb1⟩
  case round =>
    obtain ⟨k, hk, rfl, rfl, hown, hmk, hbel⟩ := hrel
    have hs := HS.out
    by_cases hlt : k < S
    · have q1 : k < 32 := by omega
      have q2 : F + k < 8 * n := by omega
      clear hs hx0 hx1 hb1
      have mb := mask_bit m k
      cases hbit : m.testBit k with
      | false =>
        rw [hbit] at mb
        have HA : Hid (anyTo m (k + 1) = anyTo m k) := Lib.hid (by rw [anyTo, hbit]; simp)
        have HT : Hid (turnTo xs F m (k + 1) = turnTo xs F m k) := Lib.hid (by rw [turnTo, hbit]; simp)
        have HO := Lib.hid hown
        have HB := Lib.hid hbel
        clear hown hbel hbit
        go_wp2
        exact ⟨⟨k + 1, by omega, by go_num, by rw [HA.out], by rw [HT.out]; exact HO.out, hmk, HB.out⟩, by simp [intOf]; omega⟩
      | true =>
        rw [hbit] at mb
        obtain ⟨J, hJ⟩ : ∃ J, F + k = J := ⟨_, rfl⟩
        have hlen : (turnTo xs F m k).length = n := by rw [turnTo_length]; exact HL.out
        have HA : Hid (anyTo m (k + 1) = true) := Lib.hid (by rw [anyTo, hbit]; simp)
        have HT : Hid (turnTo xs F m (k + 1) = (turnTo xs F m k).set (J / 8) (flipB ((turnTo xs F m k).getD (J / 8) 0) (J % 8))) := Lib.hid (by rw [turnTo, hbit, hJ]; simp)
        obtain ⟨Q, hQ⟩ : ∃ Q, J / 8 = Q := ⟨_, rfl⟩
        obtain ⟨T, hT8⟩ : ∃ T, J % 8 = T := ⟨_, rfl⟩
        have hT7 : T < 8 := by omega
        rw [hQ, hT8] at HT
        obtain ⟨ys, hys⟩ : ∃ ys, turnTo xs F m k = ys := ⟨_, rfl⟩
        rw [hys] at hown HT hlen
        have hj8 : Q < ys.length := by omega
        have hQn : Q < n := by omega
        have hcell := bown_cell hown hj8
        have hfree := bown_free hown Q
        have e2 : (J : Int) / 8 = (Q : Int) := by omega
        have e2' : (J : Int).tdiv 8 = (Q : Int) := by rw [Int.tdiv_eq_ediv_of_nonneg (by omega)]; exact e2
        have e3 : (J : Int) % 8 = (T : Int) := by omega
        have e3' : (J : Int).tmod 8 = (T : Int) := by rw [Int.tmod_eq_emod_of_nonneg (by omega)]; exact e3
        have eQ : IntKind.i64.wrap (Q : Int) = (Q : Int) := IntWalk.i64_in _ (by omega)
        have eT : IntKind.i64.wrap (T : Int) = (T : Int) := IntWalk.i64_in _ (by omega)
        have g1 : (0 : Int) ≤ (Q : Int) := by omega
        have g2 : (Q : Int) < (n : Int) := by omega
        have g3 : (0 : Int) ≤ (T : Int) := by omega
        have g4 : (T : Int) < 8 := by omega
        obtain ⟨y, hy⟩ : ∃ y : UInt8, ys[Q] = y := ⟨_, rfl⟩
        rw [hy] at hcell
        have hyl := y.toNat_lt
        have HY := Lib.hid hy
        have e1 : IntKind.i64.wrap ((F : Int) + (k : Int)) = (J : Int) := by rw [IntWalk.i64_in _ (by omega)]; omega
        have hJl : J < 8 * n := by omega
        have HO := Lib.hid hown
        have HB := Lib.hid hbel
        have HH := Lib.hid hlen
        have HJ := Lib.hid hJ
        clear hown hbel hbit hlen hys hJ hQ hT8 hy
        go_wp2
        go_still_tail 19, (by kernel_rfl)
        have hc2 : wr.drew.cell? ⟨g, Q, none⟩ = some (.int .u8 (y.toNat : Int)) := hcell
        have hf2 : wr.drew.frozen? ⟨g, Q, none⟩ = false := hfree
        have hm2 : wr.drew.cell? ⟨w.heap.size, 1, none⟩ = some (.int .u32 (m : Int)) := hmk
        have HO2 : Hid (wr.drew.ownsRow (w.heap.size + 1) 5 1 (.slice (some ⟨g, 0, none⟩) n c1) n (ys.map byteV)) := Lib.hid HO.out
        have HB2 : Hid (Below w.heap.size w wr.drew) := Lib.hid HB.out.drew
        clear hcell hfree hmk HO HB
        change wpList _ _ _ _ _ wr.drew
        generalize wr.drew = w2 at *
        go_wp2
        rw [xor_turn y T]
        refine ⟨⟨k + 1, by omega, by go_num, by rw [HA.out], ?_, (World.cell?_setCell_other _ _ _ _ (by intro e; injection e; omega)).trans hm2, HB2.out.setCell (by simp; omega) _⟩, by simp [intOf]; omega⟩
        rw [HT.out]
        have := bown_store HO2.out Q (byteV (flipB y T))
        rw [List.map_set]
        rw [show ys.getD Q 0 = y from by rw [← HY.out]; simp [List.getD, hj8]]
        exact this
    · have hkS : k = S := by omega
      subst hkS
      clear hx0 hx1 hb1
      have HO := Lib.hid hown
      have HB := Lib.hid hbel
      clear hown hbel
      by_cases h32 : k = 32
      · subst h32
        go_wp2
        go_ret2
        obtain ⟨A', c', ev, hr, hnil', hle, _⟩ := RB.own HO.out
        cases ev
        exact ⟨_, _, rfl, hr, ⟨hnil', hle⟩, HB.out⟩
      · have h8 : F + k = 8 * n := by omega
        go_wp2
        go_ret2
        obtain ⟨A', c', ev, hr, hnil', hle, _⟩ := RB.own HO.out
        cases ev
        exact ⟨_, _, rfl, hr, ⟨hnil', hle⟩, HB.out⟩

theorem turned_none (A : Option Addr) (c : Nat) (at_ m : Int) (w : World) (hnil : A = none → c = 0) :
    Calls Try.prog 26 #[.slice A 0 c, .agg #[.int .i64 at_, .int .u32 m]] w fun e w' => ∃ A' c', e = .returned (.tuple #[.slice A' 0 c', .bool false]) ∧ RB w' A' 0 [] ∧ ((A' = none → c' = 0) ∧ 0 ≤ c') ∧ Below w.heap.size w w' := by
  obtain ⟨i0, hi, hz0, hz1, hz2⟩ := info_parts u8_info
  have hown : ((w.alloc (.cells #[.int .i64 at_, .int .u32 m] 61)).alloc (.cells #[] 5)).ownsRow (w.heap.size + 1) 5 1 (.slice (some ⟨w.heap.size + 1, 0, none⟩) 0 0) 0 [] := by
    have := World.ownsRow_made (base := w.heap.size + 1) (e := 5) (size := 1) (w.alloc (.cells #[.int .i64 at_, .int .u32 m] 61)) #[] 0 (by simp) (Nat.zero_le _) rfl
    simpa using this
  go_enter Try.func26, Try.ntmps26
  go_wp2_with (at_builtin; refine wpList_append_rb rfl (.tmp 10) (.tmp 11) 22 rfl (w.heap.size + 1) 5 i0 (.int .u8 0) 1 Try.underlying22 hi hz0 hz1 hz2 rfl _ 0 [] rfl hown A 0 c [] rfl hnil (RB.zero _ _) ?c1 ?c2 ?c3 ?_)
  case c1 => unfold maxLen; omega
  case c2 => omega
  case c3 => simp
  intro v1 w1 hown1 hg1
  have hb1 : Below w.heap.size w w1 := (((Below.refl _ _).alloc (Nat.le_refl _) _).alloc (by simp) _).grown hg1 (by simp; omega) (fun j hj => by simp [Value.ownBlock] at hj; omega)
  obtain ⟨A', c', rfl, hr, hnil', _⟩ := RB.own (xs := []) hown1
  clear hg1 hown hown1
  have HB := Lib.hid hb1
  have HR := Lib.hid hr
  have HN := Lib.hid hnil'
  clear hb1 hr hnil'
  go_wp2
  go_ret2
  exact ⟨_, _, rfl, HR.out, ⟨HN.out, Nat.zero_le _⟩, HB.out⟩

/-- Any row, any spoil. -/
theorem turned_all (A : Option Addr) (n c : Nat) (xs : List UInt8) (at_ : Int) (m : Nat) (w : World) (h : RB w A n xs) (hnil : A = none → c = 0) (hn : n ≤ 140737488355328) :
    ∃ f i, f + i ≤ 8 * n ∧ i ≤ 32 ∧ ∀ w1, Below w.heap.size w w1 → Calls Try.prog 26 #[.slice A n c, .agg #[.int .i64 at_, .int .u32 (m : Int)]] w1 fun e w' => ∃ A' c', e = .returned (.tuple #[.slice A' n c', .bool (anyTo m i)]) ∧ RB w' A' n (turnTo xs f m i) ∧ ((A' = none → c' = 0) ∧ n ≤ c') ∧ Below w1.heap.size w1 w' := by
  by_cases h0 : n = 0
  · subst h0
    obtain rfl : xs = [] := List.eq_nil_of_length_eq_zero h.1
    exact ⟨0, 0, by omega, by omega, fun w1 _ => turned_none A c at_ m w1 hnil⟩
  · have hw : IntKind.u64.wrap at_ = (((IntKind.u64.wrap at_).toNat : Nat) : Int) ∧ (IntKind.u64.wrap at_).toNat < 18446744073709551616 := by
      have h1 : 0 ≤ at_ % 18446744073709551616 := by omega
      have h2 : at_ % 18446744073709551616 < 18446744073709551616 := by omega
      have e : IntKind.u64.wrap at_ = at_ % 18446744073709551616 := by simp [IntKind.wrap, IntKind.signed, IntKind.bits]
      rw [e]
      omega
    have hf : fromOf (IntKind.u64.wrap at_).toNat n < 8 * n := Nat.mod_lt _ (by omega)
    refine ⟨fromOf (IntKind.u64.wrap at_).toNat n, stepsOf (IntKind.u64.wrap at_).toNat n, by unfold stepsOf; omega, by unfold stepsOf; omega, fun w1 hb => turned_any A n c xs at_ (IntKind.u64.wrap at_).toNat m w1 (h.below hb) hnil hn hw.1 hw.2 h0⟩
end Go.Proofs.Ytkbllhpjfgeaaaa
