/-
  Left, Taken and Below of the program's draws, walked (layer 5).
-/
import Derived.Test.YtckeknhoimgccaaEMem
namespace Go.Proofs.Ytckeknhoimgccaa
open Go.RowKit
set_option linter.unusedSimpArgs false

theorem taken_any (S : Nat → Prop) (v : Value) (d : Dr) (w : World) (h : DwAt S w v d) : Calls Try.prog 22 #[v] w fun e w' => e = .returned (.int .i64 (d.at_ : Int)) ∧ w = w' := by
  obtain ⟨hok, ⟨rfl, rfl⟩ | ⟨B, A, n, c, rfl, _, hh, _, _⟩⟩ := h
  · go_enter Try.func22, Try.ntmps22
    go_wp2
    go_ret
    exact ⟨rfl, rfl⟩
  · have c1 : w.cell? ⟨B, 1, none⟩ = some (.int .i64 (d.at_ : Int)) := by rw [cell_of_row _ _ _ _ _ _ hh]; rfl
    have HH := Lib.hid hh
    clear hh
    go_enter Try.func22, Try.ntmps22
    go_wp2
    go_ret
    exact ⟨rfl, rfl⟩
theorem left_any (S : Nat → Prop) (v : Value) (d : Dr) (w : World) (h : DwAt S w v d) : Calls Try.prog 37 #[v] w fun e w' => e = .returned (.int .i64 ((d.l.length - d.at_ : Nat) : Int)) ∧ w = w' := by
  obtain ⟨hok, ⟨rfl, rfl⟩ | ⟨B, A, n, c, rfl, _, hh, hr, _⟩⟩ := h
  · go_enter Try.func37, Try.ntmps37
    go_wp2
    go_ret
    exact ⟨rfl, rfl⟩
  · have c0 : w.cell? ⟨B, 0, none⟩ = some (.slice A n c) := by rw [cell_of_row _ _ _ _ _ _ hh]; rfl
    have hn : d.l.length - d.at_ = n := by simpa using hr.1.1
    rw [hn]
    have HN := Lib.hid hn
    have HH := Lib.hid hh
    clear hh hn
    go_enter Try.func37, Try.ntmps37
    go_wp2
    go_ret
    exact ⟨rfl, rfl⟩
theorem below_few (v : Value) (n : Int) (w : World) (h : n < 2) : Calls Try.prog 27 #[v, .int .i64 n] w fun e w' => e = .returned (.int .i64 0) ∧ w = w' := by
  go_enter Try.func27, Try.ntmps27
  go_wp2
  go_ret
  exact ⟨rfl, rfl⟩
theorem below_empty (S : Nat → Prop) (v : Value) (d : Dr) (n : Int) (w : World) (h : DwAt S w v d) (hn : 2 ≤ n) (hs : d.l.length ≤ d.at_) : Calls Try.prog 27 #[v, .int .i64 n] w fun e w' => e = .returned (.int .i64 0) ∧ w = w' := by
  have hl := left_any S v d w h
  rw [show d.l.length - d.at_ = 0 by omega] at hl
  have HL := Lib.hid hl
  clear hl h
  have q : ¬ n < 2 := by omega
  go_enter Try.func27, Try.ntmps27
  go_wp2_with fail
  refine HL.out.mono ?_
  rintro e w' ⟨rfl, rfl⟩
  go_wp2
  go_ret
  exact ⟨rfl, rfl⟩
/-- What the two stores leave. -/
theorem dw_next {S : Nat → Prop} {w : World} {B m m' c' : Nat} {A A' : Option Addr} {c : Nat} {d : Dr} (hok : okD d) (hs : d.at_ < d.l.length) (hSB : S B) (hh : w.heap[B]? = some (.cells #[.slice A m c, .int .i64 (d.at_ : Int)] 64 (0, 0)))
    (hr : RVn S w A' m' ((d.l.drop (d.at_ + 1)).map u32V)) (h1 : m' ≤ c') (h2 : c' ≤ maxLen) :
    DwAt S ((w.setCell ⟨B, 0, none⟩ (.slice A' m' c')).setCell ⟨B, 1, none⟩ (.int .i64 ((d.at_ : Int) + 1))) (.pointer (some ⟨B, 0, none⟩)) ⟨d.l, d.at_ + 1⟩ ∧ But (Tgt (.pointer (some ⟨B, 0, none⟩))) w ((w.setCell ⟨B, 0, none⟩ (.slice A' m' c')).setCell ⟨B, 1, none⟩ (.int .i64 ((d.at_ : Int) + 1))) := by
  have hb : But (Tgt (.pointer (some ⟨B, 0, none⟩))) w ((w.setCell ⟨B, 0, none⟩ (.slice A' m' c')).setCell ⟨B, 1, none⟩ (.int .i64 ((d.at_ : Int) + 1))) := (But.set (S := Tgt (.pointer (some ⟨B, 0, none⟩))) w (p := ⟨B, 0, none⟩) (show Tgt _ _ from rfl) _).trans (But.set _ (p := ⟨B, 1, none⟩) (show Tgt _ _ from rfl) _)
  refine ⟨⟨⟨hok.1, hok.2.1, hs⟩, .inr ⟨B, A', m', c', rfl, hSB, ?_, ?_, h1, h2⟩⟩, hb⟩
  · have h3 := block_set (block_set hh 0 (.slice A' m' c')) 1 (.int .i64 ((d.at_ : Int) + 1))
    rw [h3]
    simp
  · exact hr.but (hb.mono fun k hk => by
      have : k = B := by simpa [Tgt, eq_comm] using hk
      rw [this]; exact hSB)
set_option maxHeartbeats 1000000 in
theorem below_some (S : Nat → Prop) (v : Value) (d : Dr) (n : Int) (w : World) (h : DwAt S w v d) (hn : 2 ≤ n) (hn63 : n ≤ 9223372036854775807) (hs : d.at_ < d.l.length) :
    Calls Try.prog 27 #[v, .int .i64 n] w fun e w' => e = .returned (.int .i64 (d.below n : Int)) ∧ DwAt S w' v (d.next n) ∧ But (Tgt v) w w' := by
  have hl := left_any S v d w h
  have HL := Lib.hid hl
  have H := Lib.hid h
  obtain ⟨hok, ⟨rfl, rfl⟩ | ⟨B, A, m, c, rfl, hSB, hh, hr, hmc⟩⟩ := h
  · simp at hs
  have hm : d.l.length - d.at_ = m := by simpa using hr.1.1
  have HM := Lib.hid hm
  rw [hm] at HL
  obtain ⟨b, off, rfl, hb, hx⟩ := hr.1.at_ (k := 0) (by omega)
  obtain ⟨x, hxx⟩ : ∃ x, d.l.getD d.at_ 0 = x := ⟨_, rfl⟩
  have HX := Lib.hid hxx
  have hx32 : x < 4294967296 := by rw [← hxx]; exact hok.1.get _
  have hxe : ((d.l.drop d.at_).map u32V)[0]'(by simp; omega) = .int .u32 (x : Int) := by
    rw [List.getElem_map, List.getElem_drop, ← hxx]
    simp [u32V, List.getD, List.getElem?_eq_getElem hs]
  rw [hxe, Nat.add_zero] at hx
  have c0 : w.cell? ⟨B, 0, none⟩ = some (.slice (some ⟨b, off, none⟩) m c) := by rw [cell_of_row _ _ _ _ _ _ hh]; rfl
  have c1 : w.cell? ⟨B, 1, none⟩ = some (.int .i64 (d.at_ : Int)) := by rw [cell_of_row _ _ _ _ _ _ hh]; rfl
  have f0 : w.frozen? ⟨B, 0, none⟩ = false := by simp [World.frozen?, hh]
  have f1 : w.frozen? ⟨B, 1, none⟩ = false := by simp [World.frozen?, hh]
  have HH := Lib.hid hh
  have HR := Lib.hid hr
  have q : ¬ n < 2 := by omega
  have q1 : ((m : Int) == 0) = false := by rw [beq_eq_false_iff_ne]; omega
  have q2 : (0 : Int) < (m : Int) := by omega
  have q3 : (1 : Int) ≤ (c : Int) := by omega
  have q4 : (d.at_ : Int) ≤ 4096 := by have := hok.2.1; have := hok.2.2; omega
  have HOk := Lib.hid hok
  have HNx : Hid (d.next n = ⟨d.l, d.at_ + 1⟩) := Lib.hid (by rw [Dr.next, if_neg (by unfold Dr.spent; omega)])
  have HP : Hid ((x : Int) * min n 2147483648 / 4294967296 = (d.below n : Int)) := Lib.hid (by
    have e : (capB n : Int) = min n 2147483648 := by unfold capB; split <;> omega
    rw [Dr.below, if_neg (by unfold Dr.spent; omega), hxx, ← e, ← Int.natCast_mul]
    omega)
  clear hl hm hxx hxe hh hr hok
  have HD : Hid (∀ A' m' c', RVn S w A' m' ((d.l.drop (d.at_ + 1)).map u32V) → m' ≤ c' → c' ≤ maxLen → DwAt S ((w.setCell ⟨B, 0, none⟩ (.slice A' m' c')).setCell ⟨B, 1, none⟩ (.int .i64 ((d.at_ : Int) + 1))) (.pointer (some ⟨B, 0, none⟩)) (d.next n) ∧ But (Tgt (.pointer (some ⟨B, 0, none⟩))) w ((w.setCell ⟨B, 0, none⟩ (.slice A' m' c')).setCell ⟨B, 1, none⟩ (.int .i64 ((d.at_ : Int) + 1)))) := Lib.hid (fun A' m' c' h1 h2 h3 => by rw [HNx.out]; exact dw_next HOk.out hs hSB HH.out h1 h2 h3)
  have HD1 : Hid (RVn S w (some ⟨b, off + 1, none⟩) (m - 1) ((d.l.drop (d.at_ + 1)).map u32V)) := Lib.hid (by
    have := HR.out.drop (m := 1) (by omega)
    rwa [← List.map_drop, List.drop_drop] at this)
  have HD2 : Hid (c = 1 → RVn S w (some ⟨b, off, none⟩) (m - 1) ((d.l.drop (d.at_ + 1)).map u32V)) := Lib.hid (fun e => by
    have h1 := HD1.out.1.1
    have h0 : m - 1 = 0 := by omega
    rw [h0] at h1 ⊢
    rw [List.eq_nil_of_length_eq_zero h1]
    exact ⟨RV.zero _ _, fun _ _ _ h => absurd h (by omega)⟩)
  by_cases hc : c = 1
  · by_cases hn31 : n ≤ 2147483648
    · have hp0 : (0 : Int) ≤ (x : Int) * n := Int.mul_nonneg (by omega) (by omega)
      have hp1 : (x : Int) * n ≤ 9223372036854775807 := Int.le_trans (Int.mul_le_mul (c := 4294967295) (d := 2147483648) (by omega) hn31 (by omega) (by omega)) (by omega)
      have hp2 : (x : Int) * n / 4294967296 ≤ 9223372036854775807 := by omega
      go_enter Try.func27, Try.ntmps27
      go_wp2_with fail
      refine HL.out.mono ?_
      rintro e w' ⟨rfl, rfl⟩
      go_wp2
      go_ret
      refine ⟨?_, HD.out _ _ _ (HD2.out hc) (by omega) (by omega)⟩
      rw [← HP.out, show min n 2147483648 = n by omega]
      rfl
    · go_enter Try.func27, Try.ntmps27
      go_wp2_with fail
      refine HL.out.mono ?_
      rintro e w' ⟨rfl, rfl⟩
      go_wp2
      go_ret
      refine ⟨?_, HD.out _ _ _ (HD2.out hc) (by omega) (by omega)⟩
      rw [← HP.out, show min n 2147483648 = 2147483648 by omega]
      rfl
  · by_cases hn31 : n ≤ 2147483648
    · have hp0 : (0 : Int) ≤ (x : Int) * n := Int.mul_nonneg (by omega) (by omega)
      have hp1 : (x : Int) * n ≤ 9223372036854775807 := Int.le_trans (Int.mul_le_mul (c := 4294967295) (d := 2147483648) (by omega) hn31 (by omega) (by omega)) (by omega)
      have hp2 : (x : Int) * n / 4294967296 ≤ 9223372036854775807 := by omega
      go_enter Try.func27, Try.ntmps27
      go_wp2_with fail
      refine HL.out.mono ?_
      rintro e w' ⟨rfl, rfl⟩
      go_wp2
      go_ret
      refine ⟨?_, HD.out _ _ _ HD1.out (by omega) (by omega)⟩
      rw [← HP.out, show min n 2147483648 = n by omega]
      rfl
    · go_enter Try.func27, Try.ntmps27
      go_wp2_with fail
      refine HL.out.mono ?_
      rintro e w' ⟨rfl, rfl⟩
      go_wp2
      go_ret
      refine ⟨?_, HD.out _ _ _ HD1.out (by omega) (by omega)⟩
      rw [← HP.out, show min n 2147483648 = 2147483648 by omega]
      rfl
theorem below_any (S : Nat → Prop) (v : Value) (d : Dr) (n : Int) (w : World) (h : DwAt S w v d) (hn63 : n ≤ 9223372036854775807) :
    Calls Try.prog 27 #[v, .int .i64 n] w fun e w' => e = .returned (.int .i64 (d.below n : Int)) ∧ DwAt S w' v (d.next n) ∧ But (Tgt v) w w' := by
  by_cases hs : d.spent n
  · rw [Dr.below, if_pos hs, Dr.next, if_pos hs]
    by_cases h2 : n < 2
    · exact (below_few v n w h2).mono fun e w' ⟨he, hw⟩ => ⟨he, hw ▸ h, hw ▸ But.refl _ _⟩
    · have : d.l.length ≤ d.at_ := by unfold Dr.spent at hs; omega
      exact (below_empty S v d n w h (by omega) this).mono fun e w' ⟨he, hw⟩ => ⟨he, hw ▸ h, hw ▸ But.refl _ _⟩
  · unfold Dr.spent at hs
    exact below_some S v d n w h (by omega) hn63 (by omega)
end Go.Proofs.Ytckeknhoimgccaa
