/-
  The program's flight: its methods (layer 7).
-/
import Derived.Test.YticjkpnlnonibaaHAll
namespace Go.Proofs.Yticjkpnlnonibaa
open Go.RowKit
set_option linter.unusedSimpArgs false
set_option linter.unusedVariables false

theorem bel_drewN {w : World} (q : Nat) : Below w.heap.size w (w.drewN q) := below_drewN (Below.refl _ _) q
theorem Flown.of_below {w W : World} {B : Nat} {v : Value} {s : Fl} {p : Pk} {w' : World} (hb : Below w.heap.size w W) (h : Flown W B v s p w') : Flown w B v s p w' := by
  obtain ⟨A, c, v', h1, h2, h3, h4⟩ := h
  exact ⟨A, c, v', h1, fun b off e => Nat.le_trans hb.size (h2 b off e), (But.of_below hb).trans h3, fun b e => (h4 b e).imp id (fun h => Nat.le_trans hb.size h)⟩
theorem made_fl (w : World) (B : Nat) (v : Value) (s : Fl) (h : FlAt w B v s) :
    Calls Try.prog 25 #[.pointer (some ⟨B, 0, none⟩)] w fun e w' => e = .returned (.bool true) ∧ w' = w := by
  have := h.ok.most
  exact made_any w B s.most h.cells.2.1 true (by simp; omega)
set_option maxHeartbeats 2000000 in
theorem send_any (w : World) (B : Nat) (v : Value) (s : Fl) (p : Pk) (h : FlAt w B v s) (hp : BodyAt w p) (ho : Outs (Sof B v) p) (hs : s.sent < 1099511627775) (r : Bool) (hr : s.may p = r) :
    Calls Try.prog 12 #[.pointer (some ⟨B, 0, none⟩), .agg #[.int .i64 p.fr, .int .i64 p.to, .slice p.A p.body.length p.c]] w fun e w' =>
      (r = true → e = .returned (.tuple #[.int .i64 ((s.sent + 1 : Nat) : Int), .bool true]) ∧ Flown w B v s p w') ∧ (r = false → e = .returned (.tuple #[.int .i64 0, .bool false]) ∧ Below w.heap.size w w') := by
  obtain ⟨W0, hW0⟩ : ∃ W0, w.alloc (.cells #[.int .i64 p.fr, .int .i64 p.to, .slice p.A p.body.length p.c] 30) = W0 := ⟨_, rfl⟩
  have hal : Below w.heap.size w W0 := by rw [← hW0]; exact (Below.refl _ w).alloc (Nat.le_refl _) _
  have hbx : W0.heap[w.heap.size]? = some (.cells #[.int .i64 p.fr, .int .i64 p.to, .slice p.A p.body.length p.c] 30 (0, 0)) := by rw [← hW0]; exact heap_alloc_new w _
  obtain ⟨x0, x1, x2⟩ := blk3 hbx
  have HM := Lib.hid (made_fl W0 B v s (h.below hal))
  have HF := Lib.hid (full_any W0 B v s (h.below hal))
  have HFly : Hid (∀ q, s.full = false → p.body.length ≤ 1400 → Calls Try.prog 27 #[.pointer (some ⟨B, 0, none⟩), .agg #[.int .i64 p.fr, .int .i64 p.to, .slice p.A p.body.length p.c]] (W0.drewN q) fun e w' => e = .returned (.int .i64 ((s.sent + 1 : Nat) : Int)) ∧ Flown w B v s p w') := Lib.hid (fun q hf hb => by
    have hbq : Below w.heap.size w (W0.drewN q) := hal.trans ((bel_drewN q).mono hal.size)
    exact (fly_any _ B v s p (h.below hbq) (hp.below hbq) ho hs hf hb).mono (fun e w' ⟨he, hF⟩ => ⟨he, hF.of_below hbq⟩))
  obtain ⟨X, hX⟩ : ∃ X, w.heap.size = X := ⟨_, rfl⟩
  have HX := Lib.hid hX
  have HW0 := Lib.hid hW0
  have HAl := Lib.hid hal
  rw [hX] at x0 x1 x2
  have HR : Hid (r = (!s.full && decide (p.body.length ≤ 1400))) := Lib.hid hr.symm
  clear h hp ho hW0 hal hbx hX hr hs
  go_enter Try.func12, Try.ntmps12
  go_wp2_with fail
  rw [HW0.out, HX.out]
  refine HM.out.mono ?_
  rintro e w' ⟨rfl, hw'⟩
  rw [hw']
  clear hw' HM
  go_wp2_with fail
  refine HF.out.mono ?_
  rintro e w' ⟨rfl, q, hw'⟩
  rw [hw']
  clear hw' HF
  cases hfull : s.full with
  | true =>
    have hr0 : Hid (r = false) := Lib.hid (by rw [HR.out, hfull]; rfl)
    clear hfull HFly
    go_wp2
    go_ret2
    rw [hr0.out]
    exact ⟨(fun h => by cases h), fun _ => ⟨rfl, HAl.out.trans ((bel_drewN q).mono HAl.out.size)⟩⟩
  | false =>
    by_cases hb : p.body.length ≤ 1400
    · have hr0 : Hid (r = true) := Lib.hid (by rw [HR.out, hfull, decide_eq_true hb]; rfl)
      have HC := Lib.hid (HFly.out q hfull hb)
      have z2 : decide (1400 < p.body.length) = false := by simp; exact hb
      clear hfull HFly
      go_wp2_with fail
      refine HC.out.mono ?_
      clear HC
      rintro e w' ⟨rfl, hF⟩
      have HF := Lib.hid hF
      clear hF
      go_wp2
      go_ret2
      rw [hr0.out]
      exact ⟨fun _ => ⟨rfl, HF.out⟩, fun h => by cases h⟩
    · have hr0 : Hid (r = false) := Lib.hid (by rw [HR.out, hfull, decide_eq_false hb]; rfl)
      have z2 : decide (1400 < p.body.length) = true := by simp; omega
      clear hfull HFly
      go_wp2
      go_ret2
      rw [hr0.out]
      exact ⟨(fun h => by cases h), fun _ => ⟨rfl, HAl.out.trans ((bel_drewN q).mono HAl.out.size)⟩⟩
theorem count_any (w : World) (B : Nat) (v : Value) (s : Fl) (h : FlAt w B v s) :
    Calls Try.prog 19 #[.pointer (some ⟨B, 0, none⟩)] w fun e w' => e = .returned (.int .i64 (s.L.length : Int)) ∧ w' = w := by
  have HM := Lib.hid (made_fl w B v s h)
  obtain ⟨A, c, hv, _⟩ := h.row.form
  obtain ⟨c0, _, _⟩ := h.cells
  rw [hv] at c0
  clear h hv
  go_enter Try.func19, Try.ntmps19
  go_wp2_with fail
  refine HM.out.mono ?_
  rintro e w' ⟨rfl, hw'⟩
  rw [hw']
  clear hw' HM
  go_wp2
  go_ret
  exact ⟨rfl, rfl⟩
theorem sent_any (w : World) (B : Nat) (v : Value) (s : Fl) (h : FlAt w B v s) (hs : s.sent ≤ 1099511627776) :
    Calls Try.prog 13 #[.pointer (some ⟨B, 0, none⟩)] w fun e w' => e = .returned (.int .i64 (s.sent : Int)) ∧ w' = w := by
  have HM := Lib.hid (made_fl w B v s h)
  have HL := Lib.hid (load_any w B s.sent h.cells.2.2)
  clear h
  go_enter Try.func13, Try.ntmps13
  go_wp2_with fail
  refine HM.out.mono ?_
  rintro e w' ⟨rfl, hw'⟩
  rw [hw']
  clear hw' HM
  go_wp2_with fail
  refine HL.out.mono ?_
  rintro e w' ⟨rfl, hw'⟩
  rw [hw']
  clear hw' HL
  go_wp2
  go_ret
  exact ⟨rfl, rfl⟩
theorem list_any (w : World) (B : Nat) (v : Value) (s : Fl) (h : FlAt w B v s) :
    Calls Try.prog 20 #[.pointer (some ⟨B, 0, none⟩)] w fun e w' => ∃ v' m, e = .returned v' ∧ Copied w.heap.size w' v' s.L m ∧ Below w.heap.size w w' := by
  have HM := Lib.hid (made_fl w B v s h)
  have HL := Lib.hid (all_any w B v s h)
  clear h
  go_enter Try.func20, Try.ntmps20
  go_wp2_with fail
  refine HM.out.mono ?_
  rintro e w' ⟨rfl, hw'⟩
  rw [hw']
  clear hw' HM
  go_wp2_with fail
  refine HL.out.mono ?_
  clear HL
  rintro e w' ⟨v', m, rfl, hC, hb⟩
  have HC := Lib.hid hC
  have HB := Lib.hid hb
  clear hC hb
  go_wp2
  go_ret
  exact ⟨v', m, rfl, HC.out, HB.out⟩
/-- What taking away leaves. -/
def Gone (w : World) (B : Nat) (v : Value) (s' : Fl) (w' : World) : Prop := (∃ v', FlAt w' B v' s' ∧ v'.ownBlock = v.ownBlock) ∧ But (Sof B v) w w'
theorem losetop_any (w : World) (B : Nat) (v : Value) (s : Fl) (h : FlAt w B v s) (to : Int) :
    Calls Try.prog 18 #[.pointer (some ⟨B, 0, none⟩), .int .i64 to] w fun e w' => e = .returned (.int .i64 ((s.L.length : Int) - ((s.lose to).L.length : Int))) ∧ Gone w B v (s.lose to) w' := by
  have HM := Lib.hid (made_fl w B v s h)
  have HL := Lib.hid (lose_any w B v s h to)
  clear h
  go_enter Try.func18, Try.ntmps18
  go_wp2_with fail
  refine HM.out.mono ?_
  rintro e w' ⟨rfl, hw'⟩
  rw [hw']
  clear hw' HM
  go_wp2_with fail
  refine HL.out.mono ?_
  clear HL
  rintro e w' ⟨rfl, hC, hb⟩
  have HC : Hid (Gone w B v (s.lose to) w') := Lib.hid ⟨hC, hb⟩
  clear hC hb
  go_wp2
  go_ret
  exact ⟨rfl, HC.out⟩
end Go.Proofs.Yticjkpnlnonibaa
