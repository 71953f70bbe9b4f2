/-
  New, made, full, the last number, the pick (layer 7).
-/
import Derived.Test.YticjkpnlnonibaaHMem
import Derived.Laws.LoneSync
namespace Go.Proofs.Yticjkpnlnonibaa
open Go.RowKit
set_option linter.unusedSimpArgs false

theorem new_any (most : Int) (w : World) :
    Calls Try.prog 7 #[.int .i64 most] w fun e w' => e = .returned (.pointer (some ⟨w.heap.size, 0, none⟩)) ∧ w' = w.alloc (.cells #[.slice none 0 0, .int .i64 (capOf most : Int), .int .i64 0] 58) := by
  obtain ⟨c, hc⟩ : ∃ c, capOf most = c := ⟨_, rfl⟩
  have HC := Lib.hid hc
  rw [hc]
  clear hc
  go_enter Try.func7, Try.ntmps7
  go_wp2
  all_goals (
    go_ret
    have e := HC.out
    unfold capOf at e)
  · rw [if_pos (by omega)] at e; subst e; exact ⟨rfl, rfl⟩
  · rw [if_neg (by omega), if_pos (by omega)] at e; subst e; exact ⟨rfl, rfl⟩
  · rw [if_neg (by omega), if_neg (by omega)] at e
    have : most = (c : Int) := by omega
    subst this; exact ⟨rfl, rfl⟩
theorem rnew_any (most : Int) (w : World) :
    Calls Try.prog 8 #[.int .i64 most] w fun e w' => e = .returned (.pointer (some ⟨w.heap.size, 0, none⟩)) ∧ w' = w.alloc (.cells #[.slice none 0 0, .int .i64 0, .int .i64 (capOf most : Int)] 62) := by
  obtain ⟨c, hc⟩ : ∃ c, capOf most = c := ⟨_, rfl⟩
  have HC := Lib.hid hc
  rw [hc]
  clear hc
  go_enter Try.func8, Try.ntmps8
  go_wp2
  all_goals (
    go_ret
    have e := HC.out
    unfold capOf at e)
  · rw [if_pos (by omega)] at e; subst e; exact ⟨rfl, rfl⟩
  · rw [if_neg (by omega), if_pos (by omega)] at e; subst e; exact ⟨rfl, rfl⟩
  · rw [if_neg (by omega), if_neg (by omega)] at e
    have : most = (c : Int) := by omega
    subst this; exact ⟨rfl, rfl⟩
theorem made_nil (w : World) :
    Calls Try.prog 25 #[.pointer none] w fun e w' => e = .returned (.bool false) ∧ w' = w := by
  go_enter Try.func25, Try.ntmps25
  go_wp2
  go_ret
  exact ⟨rfl, rfl⟩
theorem made_any (w : World) (B : Nat) (m : Nat) (hc : w.cell? ⟨B, 1, none⟩ = some (.int .i64 (m : Int))) (b : Bool) (hb : decide ((0 : Int) < (m : Int)) = b) :
    Calls Try.prog 25 #[.pointer (some ⟨B, 0, none⟩)] w fun e w' => e = .returned (.bool b) ∧ w' = w := by
  go_enter Try.func25, Try.ntmps25
  go_wp2
  go_ret
  refine ⟨?_, rfl⟩
  rw [← hb]
  simp
theorem full_any (w : World) (B : Nat) (v : Value) (s : Fl) (h : FlAt w B v s) :
    Calls Try.prog 26 #[.pointer (some ⟨B, 0, none⟩)] w fun e w' => e = .returned (.bool s.full) ∧ ∃ q, w' = w.drewN q := by
  obtain ⟨A, c, rfl, _⟩ := h.row.form
  obtain ⟨c0, c1, c2⟩ := h.cells
  obtain ⟨n, hn⟩ : ∃ n, s.L.length = n := ⟨_, rfl⟩
  obtain ⟨b, hb⟩ : ∃ b, s.full = b := ⟨_, rfl⟩
  have hb' : decide ((s.most : Int) ≤ (n : Int)) = b := by
    rw [← hb, Fl.full, hn]
    exact decide_eq_decide.2 (by omega)
  obtain ⟨m, hm⟩ : ∃ m, s.most = m := ⟨_, rfl⟩
  rw [hn] at c0
  rw [hm] at c1 hb'
  rw [hb]
  clear hn hb hm h c2
  go_enter Try.func26, Try.ntmps26
  go_wp2_with fail
  go_quiet (fail)
  go_wp2
  go_ret
  refine ⟨?_, _, rfl⟩
  rw [← hb']
  simp
theorem load_any (w : World) (B : Nat) (x : Int) (hc : w.cell? ⟨B, 2, none⟩ = some (.int .i64 x)) :
    Calls Try.prog 28 #[.pointer (some ⟨B, 2, none⟩)] w fun e w' => e = .returned (.int .i64 x) ∧ w' = w := by
  have hl := run_call_load (P := Try.prog) Try.func36 (by kernel_rfl) (by kernel_rfl) (by kernel_rfl) .i64 (by kernel_rfl) hc
  go_enter Try.func28, Try.ntmps28
  go_wp2
  go_ret
  exact ⟨rfl, rfl⟩
theorem add_any (w : World) (B : Nat) (x : Nat) (hx : x < 1099511627776) (hc : w.cell? ⟨B, 2, none⟩ = some (.int .i64 (x : Int))) (hz : w.frozen? ⟨B, 2, none⟩ = false) :
    Calls Try.prog 34 #[.pointer (some ⟨B, 2, none⟩), .int .i64 1] w fun e w' => e = .returned (.int .i64 ((x + 1 : Nat) : Int)) ∧ w' = w.setCell ⟨B, 2, none⟩ (.int .i64 ((x + 1 : Nat) : Int)) := by
  have hl := run_call_add (P := Try.prog) Try.func41 (by kernel_rfl) (by kernel_rfl) (by kernel_rfl) .i64 (by kernel_rfl) (y := 1) (s := ((x + 1 : Nat) : Int)) hc hz (by
    simp [go_sem, IntKind.wrap_i64]
    omega)
  go_enter Try.func34, Try.ntmps34
  go_wp2
  go_ret
  exact ⟨rfl, rfl⟩
theorem picked_none (w : World) (B c : Nat) (A : Option Addr) (pick : Int) (hc : w.cell? ⟨B, 0, none⟩ = some (.slice A 0 c)) :
    Calls Try.prog 30 #[.pointer (some ⟨B, 0, none⟩), .int .i64 pick] w fun e w' => e = .returned (.tuple #[.int .i64 0, .bool false]) ∧ w' = w := by
  go_enter Try.func30, Try.ntmps30
  go_wp2
  go_ret2
  exact ⟨rfl, rfl⟩
theorem picked_any (w : World) (B n c : Nat) (A : Option Addr) (pick : Int) (hn : 0 < n) (hn2 : n ≤ 256) (hc : w.cell? ⟨B, 0, none⟩ = some (.slice A n c)) :
    Calls Try.prog 30 #[.pointer (some ⟨B, 0, none⟩), .int .i64 pick] w fun e w' => e = .returned (.tuple #[.int .i64 (pickOf n pick : Int), .bool true]) ∧ w' = w := by
  have hp := pick_twice hn pick
  have hb := tmod_lt' pick (show (0 : Int) < n by omega)
  rw [← hp]
  have HB := Lib.hid hb
  have z : ((n : Int) == 0) = false := by simp; omega
  clear hp hb
  go_enter Try.func30, Try.ntmps30
  go_wp2
  go_ret2
  have hb := HB.out
  rw [IntWalk.wrap64_in _ (by omega)]
  exact ⟨rfl, rfl⟩
theorem rpicked_none (w : World) (B c : Nat) (A : Option Addr) (pick : Int) (hc : w.cell? ⟨B, 0, none⟩ = some (.slice A 0 c)) :
    Calls Try.prog 33 #[.pointer (some ⟨B, 0, none⟩), .int .i64 pick] w fun e w' => e = .returned (.int .i64 (-1)) ∧ w' = w := by
  go_enter Try.func33, Try.ntmps33
  go_wp2
  go_ret
  exact ⟨rfl, rfl⟩
theorem rpicked_any (w : World) (B n c : Nat) (A : Option Addr) (pick : Int) (hn : 0 < n) (hn2 : n ≤ 256) (hc : w.cell? ⟨B, 0, none⟩ = some (.slice A n c)) :
    Calls Try.prog 33 #[.pointer (some ⟨B, 0, none⟩), .int .i64 pick] w fun e w' => e = .returned (.int .i64 (pickOf n pick : Int)) ∧ w' = w := by
  have hp := pick_once hn pick
  have hb := tmod_lt' pick (show (0 : Int) < n by omega)
  rw [← hp]
  have HB := Lib.hid hb
  have z : ((n : Int) == 0) = false := by simp; omega
  clear hp hb
  go_enter Try.func33, Try.ntmps33
  go_wp2
  · go_ret
    have hb := HB.out
    rw [IntWalk.wrap64_in _ (by omega)]
    exact ⟨rfl, rfl⟩
  · go_ret
    exact ⟨rfl, rfl⟩
end Go.Proofs.Yticjkpnlnonibaa
