/-
  step of the law, walked (layer 7).
-/
import Derived.Test.YticjkpnlnonibaaHList
namespace Go.Proofs.Yticjkpnlnonibaa
open Go.RowKit
set_option linter.unusedSimpArgs false
set_option linter.unusedVariables false
set_option linter.unusedSectionVars false

def stepL (B : Nat) (B2 : Nat) (X : Nat) (n : Int) (d : Int) : Nat → Value → World → Prop
  | 0, v, _ => v = .pointer (some ⟨B, 0, none⟩)
  | 1, v, _ => v = .pointer (some ⟨X, 1, none⟩)
  | 2, v, _ => v = .int .i64 n
  | 3, v, _ => v = .int .i64 d
  | 4, v, _ => v = .pointer (some ⟨B2, 0, none⟩)
  | 5, v, _ => v = .pointer (some ⟨X, 1, none⟩)
  | 6, v, _ => v = .int .i64 n
  | 7, v, _ => v = .int .i64 d
  | 8, v, _ => v = .bool true
  | 9, v, _ => v = .bool true
  | _, _, _ => True
theorem stepL_stable (B : Nat) (B2 : Nat) (X : Nat) (n : Int) (d : Int) : ∀ i v w w', stepL B B2 X n d i v w → True → stepL B B2 X n d i v w'
  | 0, _, _, _, h, _ | 1, _, _, _, h, _ | 2, _, _, _, h, _ | 3, _, _, _, h, _ | 4, _, _, _, h, _ | 5, _, _, _, h, _ | 6, _, _, _, h, _ | 7, _, _, _, h, _ | 8, _, _, _, h, _ | 9, _, _, _, h, _ => h
  | _ + 10, _, _, _, h, _ => h

theorem blk5 {w : World} {B : Nat} {a b c d e : Value} {t : TypeId} (h : w.heap[B]? = some (.cells #[a, b, c, d, e] t (0, 0))) : w.cell? ⟨B, 0, none⟩ = some a ∧ w.cell? ⟨B, 1, none⟩ = some b ∧ w.cell? ⟨B, 2, none⟩ = some c ∧ w.cell? ⟨B, 3, none⟩ = some d ∧ w.cell? ⟨B, 4, none⟩ = some e :=
  ⟨blk_cells h 0 _ rfl, blk_cells h 1 _ rfl, blk_cells h 2 _ rfl, blk_cells h 3 _ rfl, blk_cells h 4 _ rfl⟩
theorem Pair.notX {base : Nat} {w : World} {B B2 : Nat} {v v2 : Value} {s t : Fl} (h : Pair base w B v s B2 v2 t) {X : Nat} {cur : Array Value} (hx : w.heap[X]? = some (.cells cur 32 (0, 0))) : ¬ Sof B v X ∧ ¬ Sof B2 v2 X := by
  refine ⟨fun e => ?_, fun e => ?_⟩
  · rcases e with rfl | e
    · have := h.fl.blk.symm.trans hx
      simp at this
    · obtain ⟨c, hc⟩ := h.fl.row.cells e
      have := hc.symm.trans hx
      simp at this
  · rcases e with rfl | e
    · have := h.rf.blk.symm.trans hx
      simp at this
    · obtain ⟨c, hc⟩ := h.rf.row.cells e
      have := hc.symm.trans hx
      simp at this
theorem Pair.notT {base : Nat} {w : World} {B B2 : Nat} {v v2 : Value} {s t : Fl} (h : Pair base w B v s B2 v2 t) {X : Nat} {cur : Array Value} {ty : TypeId} (hx : w.heap[X]? = some (.cells cur ty (0, 0))) (h1 : ty ≠ 58) (h2 : ty ≠ 62) (h3 : ty ≠ TF) : ¬ Sof B v X ∧ ¬ Sof B2 v2 X := by
  refine ⟨fun e => ?_, fun e => ?_⟩
  · rcases e with rfl | e
    · have := h.fl.blk.symm.trans hx
      simp only [Option.some.injEq, Obj.cells.injEq] at this
      exact h1 this.2.1.symm
    · obtain ⟨c, hc⟩ := h.fl.row.cells e
      have := hc.symm.trans hx
      simp only [Option.some.injEq, Obj.cells.injEq] at this
      exact h3 this.2.1.symm
  · rcases e with rfl | e
    · have := h.rf.blk.symm.trans hx
      simp only [Option.some.injEq, Obj.cells.injEq] at this
      exact h2 this.2.1.symm
    · obtain ⟨c, hc⟩ := h.rf.row.cells e
      have := hc.symm.trans hx
      simp only [Option.some.injEq, Obj.cells.injEq] at this
      exact h3 this.2.1.symm
theorem Pair.typed {base : Nat} {w : World} {B B2 : Nat} {v v2 : Value} {s t : Fl} (h : Pair base w B v s B2 v2 t) {p : Pk} (ht : Typed w p) : Outs (Sof B v) p ∧ Outs (Sof B2 v2) p := by
  have key : ∀ b off, p.A = some ⟨b, off, none⟩ → 0 < p.body.length → ¬ Sof B v b ∧ ¬ Sof B2 v2 b := fun b off e hn => by
    obtain ⟨b', off', cur, e', hh⟩ := ht hn
    rw [e] at e'
    simp only [Option.some.injEq, Addr.mk.injEq] at e'
    obtain ⟨rfl, _⟩ := e'
    exact h.notT hh (by decide) (by decide) (by decide)
  exact ⟨fun b off e hn => (key b off e hn).1, fun b off e hn => (key b off e hn).2⟩
theorem Typed.zero (w : World) : Typed w zeroPk := fun h => absurd h (Nat.lt_irrefl _)
theorem FlAt.picked {w : World} {B : Nat} {v : Value} {s : Fl} (h : FlAt w B v s) (n : Int) : BodyAt w (s.pick n).p ∧ Typed w (s.pick n).p := by
  rcases Nat.eq_zero_or_pos s.L.length with h0 | h0
  · rw [Fl.pick_nil h0]; exact ⟨BodyAt.zero w, Typed.zero w⟩
  · have hk := pickOf_lt h0 n
    rw [Fl.pick_at hk]; exact h.body _ (List.getElem_mem hk)
theorem RfAt.picked {base : Nat} {w : World} {B : Nat} {v : Value} {s : Fl} (h : RfAt base w B v s) (n : Int) : BodyAt w (s.pick n).p ∧ Outs (fun k => base ≤ k) (s.pick n).p := by
  rcases Nat.eq_zero_or_pos s.L.length with h0 | h0
  · rw [Fl.pick_nil h0]; exact ⟨BodyAt.zero w, fun b off e => by cases e⟩
  · have hk := pickOf_lt h0 n
    rw [Fl.pick_at hk]; exact h.body _ (List.getElem_mem hk)
theorem pair_loseX {base : Nat} {w : World} {B B2 : Nat} {v v2 : Value} {s t : Fl} (h : Pair base w B v s B2 v2 t) (to : Int) :
    Calls Try.prog 18 #[.pointer (some ⟨B, 0, none⟩), .int .i64 to] w fun e w' => e = .returned (.int .i64 ((s.L.length : Int) - ((s.lose to).L.length : Int))) ∧ ∃ v', Pair base w' B v' (s.lose to) B2 v2 t ∧ But (Sof B v) w w' :=
  (losetop_any w B v s h.fl to).mono (fun e w' ⟨he, ⟨v', h1, h2⟩, h3⟩ => ⟨he, v', h.left h1 h3 (fun b e => .inl (by rw [← h2]; exact e)), h3⟩)
theorem pair_rloseX {base : Nat} {w : World} {B B2 : Nat} {v v2 : Value} {s t : Fl} (h : Pair base w B v s B2 v2 t) (to : Int) :
    Calls Try.prog 24 #[.pointer (some ⟨B2, 0, none⟩), .int .i64 to] w fun e w' => e = .returned (.int .i64 ((t.L.length : Int) - ((t.lose to).L.length : Int))) ∧ ∃ v', Pair base w' B v s B2 v' (t.lose to) ∧ But (Sof B2 v2) w w' :=
  (rlose_any base w B2 v2 t h.rf h.baseW to).mono (fun e w' ⟨he, v', h1, h3, h4⟩ => ⟨he, v', h.right h1 h3 h4, h3⟩)
/-- Behind a step. -/
def Stepped (base : Nat) (w : World) (B B2 : Nat) (m : Nat) (w' : World) : Prop := (∃ v s v2 t, Pair base w' B v s B2 v2 t ∧ s.same t ∧ s.sent ≤ m) ∧ But (fun k => base ≤ k) w w'
theorem Stepped.new {base : Nat} {w w1 w2 : World} {B B2 m : Nat} (h : Stepped base w B B2 m w1) (hb : Below w1.heap.size w1 w2) : Stepped base w B B2 m w2 := by
  obtain ⟨⟨v, s, v2, t, h1, h2, h3⟩, h4⟩ := h
  exact ⟨⟨v, s, v2, t, h1.below hb, h2, h3⟩, h4.trans (But.of_below hb)⟩
theorem Fl.lose_sent (s : Fl) (to : Int) : (s.lose to).sent = s.sent := rfl
section
variable {base : Nat} {w : World} {B B2 : Nat} {v v2 : Value} {s t : Fl} (h : Pair base w B v s B2 v2 t) (hst : s.same t) (n : Int) (p : Pk) (hp : BodyAt w p) (ho : Outs (fun k => base ≤ k) p) (hs : s.sent < 1099511627775)
include h hst hp ho hs
set_option maxHeartbeats 4000000 in
theorem step_lose : Calls Try.prog 9 #[.pointer (some ⟨B, 0, none⟩), .pointer (some ⟨B2, 0, none⟩), .agg #[.int .i64 4, .int .i64 n, .int .i64 p.fr, .int .i64 p.to, .slice p.A p.body.length p.c]] w fun e w' => e = .returned (.bool true) ∧ Stepped base w B B2 (s.sent + 1) w' := by
  obtain ⟨W0, hW0⟩ : ∃ W0, w.alloc (.cells #[.int .i64 4, .int .i64 n, .int .i64 p.fr, .int .i64 p.to, .slice p.A p.body.length p.c] 32) = W0 := ⟨_, rfl⟩
  have hal : Below w.heap.size w W0 := by rw [← hW0]; exact (Below.refl _ w).alloc (Nat.le_refl _) _
  have hbx : W0.heap[w.heap.size]? = some (.cells #[.int .i64 4, .int .i64 n, .int .i64 p.fr, .int .i64 p.to, .slice p.A p.body.length p.c] 32 (0, 0)) := by rw [← hW0]; exact heap_alloc_new w _
  obtain ⟨X, hX⟩ : ∃ X, w.heap.size = X := ⟨_, rfl⟩
  rw [hX] at hbx
  obtain ⟨x0, x1, x2, x3, x4⟩ := blk5 hbx
  obtain ⟨d, hd⟩ : ∃ d, (s.L.length : Int) - ((s.lose n).L.length : Int) = d := ⟨_, rfl⟩
  have hd2 : (t.L.length : Int) - ((t.lose n).L.length : Int) = d := by rw [← hst.loses n, hd]
  have HL : Hid (∀ w' va vb tt, Pair base w' B va s B2 vb tt → Calls Try.prog 18 #[.pointer (some ⟨B, 0, none⟩), .int .i64 n] w' fun e w2 => e = .returned (.int .i64 d) ∧ ∃ v', Pair base w2 B v' (s.lose n) B2 vb tt ∧ But (Sof B va) w' w2) := Lib.hid (fun w' va vb tt hpr => by
    have := pair_loseX hpr n
    rw [hd] at this
    exact this)
  have HR : Hid (∀ w' va ss vb, Pair base w' B va ss B2 vb t → Calls Try.prog 24 #[.pointer (some ⟨B2, 0, none⟩), .int .i64 n] w' fun e w2 => e = .returned (.int .i64 d) ∧ ∃ v', Pair base w2 B va ss B2 v' (t.lose n) ∧ But (Sof B2 vb) w' w2) := Lib.hid (fun w' va ss vb hpr => by
    have := pair_rloseX hpr n
    rw [hd2] at this
    exact this)
  have HEnd : Hid (∀ va vb w', Pair base w' B va (s.lose n) B2 vb (t.lose n) → But (fun k => base ≤ k) W0 w' → Stepped base w B B2 (s.sent + 1) w') := Lib.hid (fun va vb w' h1 h2 =>
    ⟨⟨va, _, vb, _, h1, hst.lose n, by rw [Fl.lose_sent]; omega⟩, (But.of_below hal).trans h2⟩)
  have HP0 := Lib.hid (h.below hal)
  have HBX := Lib.hid hbx
  have HW0 := Lib.hid hW0
  have HX := Lib.hid hX
  clear h hst hp ho hs hW0 hal hbx hX hd hd2
  go_enter Try.func9, Try.ntmps9
  go_wp2_with fail
  rw [HW0.out, HX.out]
  go_wp2_with fail
  have HKeep : ∀ {f : Nat → Bool} {w' : World} (f' : Nat → Bool), f' 3 = f 3 → f' 7 = f 7 → (∃ va vb, Pair base w' B va (if f 3 then s.lose n else s) B2 vb (if f 7 then t.lose n else t) ∧ But (fun k => base ≤ k) W0 w' ∧ w'.heap[X]? = some (.cells #[.int .i64 4, .int .i64 n, .int .i64 p.fr, .int .i64 p.to, .slice p.A p.body.length p.c] 32 (0, 0))) →
      ∃ va vb, Pair base w' B va (if f' 3 then s.lose n else s) B2 vb (if f' 7 then t.lose n else t) ∧ But (fun k => base ≤ k) W0 w' ∧ w'.heap[X]? = some (.cells #[.int .i64 4, .int .i64 n, .int .i64 p.fr, .int .i64 p.to, .slice p.A p.body.length p.c] 32 (0, 0)) := fun f' e1 e2 hI => by rw [e1, e2]; exact hI
  refine Go.Rel.wp_region_states (by kernel_rfl) (by kernel_rfl) (by kernel_rfl) (by kernel_rfl) (fun f w' => ∃ va vb, Pair base w' B va (if f 3 then s.lose n else s) B2 vb (if f 7 then t.lose n else t) ∧ But (fun k => base ≤ k) W0 w' ∧ w'.heap[X]? = some (.cells #[.int .i64 4, .int .i64 n, .int .i64 p.fr, .int .i64 p.to, .slice p.A p.body.length p.c] 32 (0, 0))) (fun _ _ => True) (fun _ _ _ _ _ => trivial) trivial
    ⟨v, v2, HP0.out.below (bel_drewN 1), (But.refl _ _).drew, HBX.out⟩ (stepL B B2 X n d) (stepL_stable B B2 X n d) ?hsteps ?hend
  case hsteps =>
    refine (.cons ?_ (.cons ?_ (.cons ?_ (.cons ?_ (.cons ?_ (.cons ?_ (.cons ?_ (.cons ?_ (.cons ?_ (.cons ?_ .nil))))))))))
    · intro f a w' hI hf hanc hdesc hle hs' hd K hK
      have f0 : a.tmps[0]? = some (.pointer (some ⟨B, 0, none⟩)) := hs'.2.2 0 (by kernel_rfl)
      unfold Go.Rel.stepOf
      go_simp
      exact hK _ _ trivial (HKeep _ (by simp [Go.Rel.upd]) (by simp [Go.Rel.upd]) hI) rfl
    · intro f a w' hI hf hanc hdesc hle hs' hd K hK
      have f5 : a.tmps[5]? = some (.pointer (some ⟨X, 0, none⟩)) := hs'.2.2 5 (by kernel_rfl)
      unfold Go.Rel.stepOf
      go_simp
      exact hK _ _ trivial (HKeep _ (by simp [Go.Rel.upd]) (by simp [Go.Rel.upd]) hI) rfl
    · intro f a w' hI hf hanc hdesc hle hs' hd K hK
      obtain ⟨_, t1, rfl⟩ := hd 1 126 (by kernel_rfl)
      have hI2 := hI
      obtain ⟨_, _, _, _, hbx⟩ := hI2
      obtain ⟨_, x1, _⟩ := blk5 hbx
      unfold Go.Rel.stepOf
      go_simp
      exact hK _ _ trivial (HKeep _ (by simp [Go.Rel.upd]) (by simp [Go.Rel.upd]) hI) rfl
    · intro f a w' hI hf hanc hdesc hle hs' hd K hK
      obtain ⟨_, t0, rfl⟩ := hd 0 125 (by kernel_rfl)
      obtain ⟨_, t2, rfl⟩ := hd 2 127 (by kernel_rfl)
      obtain ⟨va, vb, hpr, hbu, hbx⟩ := hI
      rw [hf] at hpr
      unfold Go.Rel.stepOf
      go_simp
      refine (HL.out _ _ _ _ hpr).mono ?_
      rintro e w2 ⟨rfl, vc, hpr2, hb2⟩
      refine hK _ _ trivial ⟨vc, vb, ?_, hbu.trans (Pair.butL hpr hb2), (hb2.block X (block_lt hbx) (hpr.notX hbx).1).trans hbx⟩ rfl
      have u3 : Go.Rel.upd f 3 3 = true := by simp [Go.Rel.upd]
      have u7 : Go.Rel.upd f 3 7 = f 7 := by simp [Go.Rel.upd]
      rw [u3, u7]
      exact hpr2
    · intro f a w' hI hf hanc hdesc hle hs' hd K hK
      have f1 : a.tmps[1]? = some (.pointer (some ⟨B2, 0, none⟩)) := hs'.2.2 1 (by kernel_rfl)
      unfold Go.Rel.stepOf
      go_simp
      exact hK _ _ trivial (HKeep _ (by simp [Go.Rel.upd]) (by simp [Go.Rel.upd]) hI) rfl
    · intro f a w' hI hf hanc hdesc hle hs' hd K hK
      have f5 : a.tmps[5]? = some (.pointer (some ⟨X, 0, none⟩)) := hs'.2.2 5 (by kernel_rfl)
      unfold Go.Rel.stepOf
      go_simp
      exact hK _ _ trivial (HKeep _ (by simp [Go.Rel.upd]) (by simp [Go.Rel.upd]) hI) rfl
    · intro f a w' hI hf hanc hdesc hle hs' hd K hK
      obtain ⟨_, t5, rfl⟩ := hd 5 130 (by kernel_rfl)
      have hI2 := hI
      obtain ⟨_, _, _, _, hbx⟩ := hI2
      obtain ⟨_, x1, _⟩ := blk5 hbx
      unfold Go.Rel.stepOf
      go_simp
      exact hK _ _ trivial (HKeep _ (by simp [Go.Rel.upd]) (by simp [Go.Rel.upd]) hI) rfl
    · intro f a w' hI hf hanc hdesc hle hs' hd K hK
      obtain ⟨_, t4, rfl⟩ := hd 4 129 (by kernel_rfl)
      obtain ⟨_, t6, rfl⟩ := hd 6 131 (by kernel_rfl)
      obtain ⟨va, vb, hpr, hbu, hbx⟩ := hI
      rw [hf] at hpr
      unfold Go.Rel.stepOf
      go_simp
      refine (HR.out _ _ _ _ hpr).mono ?_
      rintro e w2 ⟨rfl, vc, hpr2, hb2⟩
      refine hK _ _ trivial ⟨va, vc, ?_, hbu.trans (Pair.butR hpr hb2), (hb2.block X (block_lt hbx) (hpr.notX hbx).2).trans hbx⟩ rfl
      have u3 : Go.Rel.upd f 7 7 = true := by simp [Go.Rel.upd]
      have u7 : Go.Rel.upd f 7 3 = f 3 := by simp [Go.Rel.upd]
      rw [u3, u7]
      exact hpr2
    · intro f a w' hI hf hanc hdesc hle hs' hd K hK
      obtain ⟨_, t3, rfl⟩ := hd 3 128 (by kernel_rfl)
      obtain ⟨_, t7, rfl⟩ := hd 7 132 (by kernel_rfl)
      unfold Go.Rel.stepOf
      go_simp
      exact hK _ _ trivial (HKeep _ (by simp [Go.Rel.upd]) (by simp [Go.Rel.upd]) hI) rfl
    · intro f a w' hI hf hanc hdesc hle hs' hd K hK
      obtain ⟨_, t8, rfl⟩ := hd 8 133 (by kernel_rfl)
      unfold Go.Rel.stepOf
      go_simp
      exact hK _ _ trivial (HKeep _ (by simp [Go.Rel.upd]) (by simp [Go.Rel.upd]) hI) rfl
  case hend =>
    intro f a w3 hall hI hle hs' hR'
    have z3 := hall 3 (by decide)
    have z7 := hall 7 (by decide)
    obtain ⟨va, vb, h1, h2, _⟩ := hI
    rw [z3, z7] at h1
    have HF := Lib.hid (HEnd.out va vb w3 h1 h2)
    clear z3 z7 h1 h2 hall hle
    obtain ⟨v125, s125, _⟩ := hR' 0 125 (by kernel_rfl)
    obtain ⟨v126, s126, _⟩ := hR' 1 126 (by kernel_rfl)
    obtain ⟨v127, s127, _⟩ := hR' 2 127 (by kernel_rfl)
    obtain ⟨v128, s128, _⟩ := hR' 3 128 (by kernel_rfl)
    obtain ⟨v129, s129, _⟩ := hR' 4 129 (by kernel_rfl)
    obtain ⟨v130, s130, _⟩ := hR' 5 130 (by kernel_rfl)
    obtain ⟨v131, s131, _⟩ := hR' 6 131 (by kernel_rfl)
    obtain ⟨v132, s132, _⟩ := hR' 7 132 (by kernel_rfl)
    obtain ⟨v133, s133, _⟩ := hR' 8 133 (by kernel_rfl)
    obtain ⟨_, s6, rfl⟩ := hR' 9 6 (by kernel_rfl)
    have e := hs'.shape
    simp only [List.toList_toArray, List.foldl, Go.Rel.reset, Array.getD_eq_getD_getElem?, s125, s126, s127, s128, s129, s130, s131, s132, s133, s6, Option.getD_some] at e
    simp at e
    clear hR' hs' s125 s126 s127 s128 s129 s130 s131 s132 s133 s6
    subst e
    go_wp2
    go_ret
    exact ⟨rfl, HF.out⟩
set_option maxHeartbeats 4000000 in
theorem step_send : Calls Try.prog 9 #[.pointer (some ⟨B, 0, none⟩), .pointer (some ⟨B2, 0, none⟩), .agg #[.int .i64 0, .int .i64 n, .int .i64 p.fr, .int .i64 p.to, .slice p.A p.body.length p.c]] w fun e w' => e = .returned (.bool true) ∧ Stepped base w B B2 (s.sent + 1) w' := by
  obtain ⟨W0, hW0⟩ : ∃ W0, w.alloc (.cells #[.int .i64 0, .int .i64 n, .int .i64 p.fr, .int .i64 p.to, .slice p.A p.body.length p.c] 32) = W0 := ⟨_, rfl⟩
  have hal : Below w.heap.size w W0 := by rw [← hW0]; exact (Below.refl _ w).alloc (Nat.le_refl _) _
  have hbx : W0.heap[w.heap.size]? = some (.cells #[.int .i64 0, .int .i64 n, .int .i64 p.fr, .int .i64 p.to, .slice p.A p.body.length p.c] 32 (0, 0)) := by rw [← hW0]; exact heap_alloc_new w _
  obtain ⟨X, hX⟩ : ∃ X, w.heap.size = X := ⟨_, rfl⟩
  rw [hX] at hbx
  obtain ⟨x0, x1, x2, x3, x4⟩ := blk5 hbx
  have hp0 := hp.below hal
  have h0 := h.below hal
  have hS := pair_send h0 p hp0 ho hs
  have hts : t.sent < 1099511627775 := by rw [← hst.sent]; exact hs
  obtain ⟨r, hr⟩ : ∃ r, s.may p = r := ⟨_, rfl⟩
  have hr2 : t.may p = r := by rw [← hst.may p, hr]
  obtain ⟨d, hd⟩ : ∃ d, s.num r = d := ⟨_, rfl⟩
  have hd2 : t.num r = d := by rw [← hst.num r, hd]
  rw [hr, hd] at hS
  have HR : Hid (∀ w' va ss vb, Pair base w' B va ss B2 vb t → BodyAt w' p → Calls Try.prog 21 #[.pointer (some ⟨B2, 0, none⟩), .agg #[.int .i64 p.fr, .int .i64 p.to, .slice p.A p.body.length p.c]] w' fun e w2 => e = .returned (.tuple #[.int .i64 d, .bool r]) ∧ R_ base w' B va ss B2 vb (t.send p) w2) := Lib.hid (fun w' va ss vb hpr hpp => by
    have := pair_rsend hpr p hpp ho hts
    rw [hr2, hd2] at this
    exact this)
  have HS := Lib.hid hS
  have HP0 := Lib.hid h0
  have HBX := Lib.hid hbx
  have HW0 := Lib.hid hW0
  have HX := Lib.hid hX
  have HAl := Lib.hid hal
  have HBd := Lib.hid hp0
  have HO := Lib.hid ho
  have HST := Lib.hid hst
  clear h hst hp ho hs hW0 hal hbx hX hd hd2 hr hr2 hS hp0 h0 hts
  go_enter Try.func9, Try.ntmps9
  go_wp2_with fail
  rw [HW0.out, HX.out]
  go_wp2_with fail
  refine HS.out.mono ?_
  clear HS
  rintro e w1 ⟨rfl, va, s1, hpr1, hsm, hb1, _⟩
  have hbx1 := (hb1.block X (block_lt HBX.out) (HP0.out.notX HBX.out).1).trans HBX.out
  have hbd1 := HBd.out.but (HP0.out.butL hb1) (fun b off e hn => HO.out b off e hn)
  have HR1 := Lib.hid (HR.out w1 va s1 v2 hpr1 hbd1)
  have HPR1 := Lib.hid hpr1
  have HSM := Lib.hid hsm
  have HB1 := Lib.hid (HP0.out.butL hb1)
  clear hpr1 hsm hb1 hbd1 x0 x1 x2 x3 x4 HR
  obtain ⟨x0, x1, x2, x3, x4⟩ := blk5 hbx1
  clear hbx1
  go_wp2_with fail
  refine HR1.out.mono ?_
  clear HR1
  rintro e w2 ⟨rfl, vb, hpr2, hb2⟩
  have HF : Hid (Stepped base w B B2 (s.sent + 1) w2) := Lib.hid ⟨⟨va, s1, vb, _, hpr2, HSM.out.trans (HST.out.send p), by rw [HSM.out.sent]; exact Fl.send_sent s p⟩, ((But.of_below HAl.out).trans HB1.out).trans (HPR1.out.butR hb2)⟩
  clear hpr2 hb2
  cases r <;> (
    go_wp2
    go_ret
    exact ⟨by simp, HF.out⟩)
set_option maxHeartbeats 4000000 in
theorem step_copy : Calls Try.prog 9 #[.pointer (some ⟨B, 0, none⟩), .pointer (some ⟨B2, 0, none⟩), .agg #[.int .i64 3, .int .i64 n, .int .i64 p.fr, .int .i64 p.to, .slice p.A p.body.length p.c]] w fun e w' => e = .returned (.bool true) ∧ Stepped base w B B2 (s.sent + 1) w' := by
  obtain ⟨W0, hW0⟩ : ∃ W0, w.alloc (.cells #[.int .i64 3, .int .i64 n, .int .i64 p.fr, .int .i64 p.to, .slice p.A p.body.length p.c] 32) = W0 := ⟨_, rfl⟩
  have hal : Below w.heap.size w W0 := by rw [← hW0]; exact (Below.refl _ w).alloc (Nat.le_refl _) _
  have hbx : W0.heap[w.heap.size]? = some (.cells #[.int .i64 3, .int .i64 n, .int .i64 p.fr, .int .i64 p.to, .slice p.A p.body.length p.c] 32 (0, 0)) := by rw [← hW0]; exact heap_alloc_new w _
  obtain ⟨X, hX⟩ : ∃ X, w.heap.size = X := ⟨_, rfl⟩
  rw [hX] at hbx
  obtain ⟨x0, x1, x2, x3, x4⟩ := blk5 hbx
  have hp0 := hp.below hal
  have h0 := h.below hal
  have hS := pair_copy h0 n hs
  have hts : t.sent < 1099511627775 := by rw [← hst.sent]; exact hs
  obtain ⟨r, hr⟩ : ∃ r, (!s.full && s.any) = r := ⟨_, rfl⟩
  have hr2 : (!t.full && t.any) = r := by rw [← hst.full, ← hst.any, hr]
  obtain ⟨d, hd⟩ : ∃ d, s.num r = d := ⟨_, rfl⟩
  have hd2 : t.num r = d := by rw [← hst.num r, hd]
  rw [hr, hd] at hS
  have HR : Hid (∀ w' va ss vb, Pair base w' B va ss B2 vb t → Calls Try.prog 23 #[.pointer (some ⟨B2, 0, none⟩), .int .i64 n] w' fun e w2 => e = .returned (.tuple #[.int .i64 d, .bool r]) ∧ R_ base w' B va ss B2 vb (t.copy n) w2) := Lib.hid (fun w' va ss vb hpr => by
    have := pair_rcopy hpr n hts
    rw [hr2, hd2] at this
    exact this)
  have HS := Lib.hid hS
  have HP0 := Lib.hid h0
  have HBX := Lib.hid hbx
  have HW0 := Lib.hid hW0
  have HX := Lib.hid hX
  have HAl := Lib.hid hal
  have HBd := Lib.hid hp0
  have HO := Lib.hid ho
  have HST := Lib.hid hst
  clear h hst hp ho hs hW0 hal hbx hX hd hd2 hr hr2 hS hp0 h0 hts
  go_enter Try.func9, Try.ntmps9
  go_wp2_with fail
  rw [HW0.out, HX.out]
  go_wp2_with fail
  refine HS.out.mono ?_
  clear HS
  rintro e w1 ⟨rfl, va, s1, hpr1, hsm, hb1, _⟩
  have hbx1 := (hb1.block X (block_lt HBX.out) (HP0.out.notX HBX.out).1).trans HBX.out
  have hbd1 := HBd.out.but (HP0.out.butL hb1) (fun b off e hn => HO.out b off e hn)
  have HR1 := Lib.hid (HR.out w1 va s1 v2 hpr1)
  have HPR1 := Lib.hid hpr1
  have HSM := Lib.hid hsm
  have HB1 := Lib.hid (HP0.out.butL hb1)
  clear hpr1 hsm hb1 hbd1 x0 x1 x2 x3 x4 HR
  obtain ⟨x0, x1, x2, x3, x4⟩ := blk5 hbx1
  clear hbx1
  go_wp2_with fail
  refine HR1.out.mono ?_
  clear HR1
  rintro e w2 ⟨rfl, vb, hpr2, hb2⟩
  have HF : Hid (Stepped base w B B2 (s.sent + 1) w2) := Lib.hid ⟨⟨va, s1, vb, _, hpr2, HSM.out.trans (HST.out.copy n), by rw [HSM.out.sent]; exact Fl.copy_sent s n⟩, ((But.of_below HAl.out).trans HB1.out).trans (HPR1.out.butR hb2)⟩
  clear hpr2 hb2
  cases r <;> (
    go_wp2
    go_ret
    exact ⟨by simp, HF.out⟩)
set_option maxHeartbeats 4000000 in
theorem step_drop : Calls Try.prog 9 #[.pointer (some ⟨B, 0, none⟩), .pointer (some ⟨B2, 0, none⟩), .agg #[.int .i64 2, .int .i64 n, .int .i64 p.fr, .int .i64 p.to, .slice p.A p.body.length p.c]] w fun e w' => e = .returned (.bool true) ∧ Stepped base w B B2 (s.sent + 1) w' := by
  obtain ⟨W0, hW0⟩ : ∃ W0, w.alloc (.cells #[.int .i64 2, .int .i64 n, .int .i64 p.fr, .int .i64 p.to, .slice p.A p.body.length p.c] 32) = W0 := ⟨_, rfl⟩
  have hal : Below w.heap.size w W0 := by rw [← hW0]; exact (Below.refl _ w).alloc (Nat.le_refl _) _
  have hbx : W0.heap[w.heap.size]? = some (.cells #[.int .i64 2, .int .i64 n, .int .i64 p.fr, .int .i64 p.to, .slice p.A p.body.length p.c] 32 (0, 0)) := by rw [← hW0]; exact heap_alloc_new w _
  obtain ⟨X, hX⟩ : ∃ X, w.heap.size = X := ⟨_, rfl⟩
  rw [hX] at hbx
  obtain ⟨x0, x1, x2, x3, x4⟩ := blk5 hbx
  have hp0 := hp.below hal
  have h0 := h.below hal
  have hS := pair_drop h0 n
  have hts : t.sent < 1099511627775 := by rw [← hst.sent]; exact hs
  obtain ⟨r, hr⟩ : ∃ r, s.any = r := ⟨_, rfl⟩
  have hr2 : t.any = r := by rw [← hst.any, hr]
  obtain ⟨d, hd⟩ : ∃ d, (s.pick n).id = d := ⟨_, rfl⟩
  have hd1 : (t.pick n).id = d := by rw [← (hst.pickp n).2, hd]
  obtain ⟨q, hq⟩ : ∃ q, (t.pick n).p = q := ⟨_, rfl⟩
  have hd2 : t.pick n = ⟨d, q⟩ := by rw [← hd1, ← hq]
  rw [hr, hd] at hS
  have HR : Hid (∀ w' va ss vb, Pair base w' B va ss B2 vb t → Calls Try.prog 22 #[.pointer (some ⟨B2, 0, none⟩), .int .i64 n] w' fun e w2 => e = .returned (.tuple #[.agg #[.int .i64 (d : Int), .int .i64 q.fr, .int .i64 q.to, .slice q.A q.body.length q.c], .bool r]) ∧ R_ base w' B va ss B2 vb (t.out n) w2) := Lib.hid (fun w' va ss vb hpr => by
    have := pair_rout hpr n
    rw [hr2, hd2] at this
    exact this)
  have HS := Lib.hid hS
  have HP0 := Lib.hid h0
  have HBX := Lib.hid hbx
  have HW0 := Lib.hid hW0
  have HX := Lib.hid hX
  have HAl := Lib.hid hal
  have HBd := Lib.hid hp0
  have HO := Lib.hid ho
  have HST := Lib.hid hst
  clear h hst hp ho hs hW0 hal hbx hX hd hd1 hq hd2 hr hr2 hS hp0 h0 hts
  go_enter Try.func9, Try.ntmps9
  go_wp2_with fail
  rw [HW0.out, HX.out]
  go_wp2_with fail
  refine HS.out.mono ?_
  clear HS
  rintro e w1 ⟨rfl, va, s1, hpr1, hsm, hb1, _⟩
  have hbx1 := (hb1.block X (block_lt HBX.out) (HP0.out.notX HBX.out).1).trans HBX.out
  have hbd1 := HBd.out.but (HP0.out.butL hb1) (fun b off e hn => HO.out b off e hn)
  have HR1 := Lib.hid (HR.out w1 va s1 v2 hpr1)
  have HPR1 := Lib.hid hpr1
  have HSM := Lib.hid hsm
  have HB1 := Lib.hid (HP0.out.butL hb1)
  clear hpr1 hsm hb1 hbd1 x0 x1 x2 x3 x4 HR
  obtain ⟨x0, x1, x2, x3, x4⟩ := blk5 hbx1
  clear hbx1
  go_wp2_with fail
  refine HR1.out.mono ?_
  clear HR1
  rintro e w2 ⟨rfl, vb, hpr2, hb2⟩
  have HF : Hid (Stepped base w B B2 (s.sent + 1) w2) := Lib.hid ⟨⟨va, s1, vb, _, hpr2, HSM.out.trans (HST.out.out n), by rw [HSM.out.sent]; exact Nat.le_succ _⟩, ((But.of_below HAl.out).trans HB1.out).trans (HPR1.out.butR hb2)⟩
  clear hpr2 hb2
  cases r <;> (
    go_wp2
    go_ret
    exact ⟨by simp, HF.out.new ((Below.refl _ _).alloc (Nat.le_refl _) _)⟩)
set_option maxHeartbeats 4000000 in
theorem step_deliver : Calls Try.prog 9 #[.pointer (some ⟨B, 0, none⟩), .pointer (some ⟨B2, 0, none⟩), .agg #[.int .i64 1, .int .i64 n, .int .i64 p.fr, .int .i64 p.to, .slice p.A p.body.length p.c]] w fun e w' => e = .returned (.bool true) ∧ Stepped base w B B2 (s.sent + 1) w' := by
  obtain ⟨W0, hW0⟩ : ∃ W0, w.alloc (.cells #[.int .i64 1, .int .i64 n, .int .i64 p.fr, .int .i64 p.to, .slice p.A p.body.length p.c] 32) = W0 := ⟨_, rfl⟩
  have hal : Below w.heap.size w W0 := by rw [← hW0]; exact (Below.refl _ w).alloc (Nat.le_refl _) _
  have hbx : W0.heap[w.heap.size]? = some (.cells #[.int .i64 1, .int .i64 n, .int .i64 p.fr, .int .i64 p.to, .slice p.A p.body.length p.c] 32 (0, 0)) := by rw [← hW0]; exact heap_alloc_new w _
  obtain ⟨X, hX⟩ : ∃ X, w.heap.size = X := ⟨_, rfl⟩
  rw [hX] at hbx
  obtain ⟨x0, x1, x2, x3, x4⟩ := blk5 hbx
  have hp0 := hp.below hal
  have h0 := h.below hal
  have hS := pair_deliver h0 n
  have hts : t.sent < 1099511627775 := by rw [← hst.sent]; exact hs
  obtain ⟨r, hr⟩ : ∃ r, s.any = r := ⟨_, rfl⟩
  have hr2 : t.any = r := by rw [← hst.any, hr]
  obtain ⟨d, hd1⟩ : ∃ d, (t.pick n).id = d := ⟨_, rfl⟩
  obtain ⟨u, hd⟩ : ∃ u, (s.pick n).p = u := ⟨_, rfl⟩
  have hu := h0.fl.picked n
  rw [hd] at hu
  obtain ⟨q, hq⟩ : ∃ q, (t.pick n).p = q := ⟨_, rfl⟩
  have hd2 : t.pick n = ⟨d, q⟩ := by rw [← hd1, ← hq]
  have hqb := h0.rf.picked n
  rw [hq] at hqb
  have huq : u.strip = q.strip := by rw [← hd, ← hq]; exact (hst.pickp n).1
  have HU := Lib.hid hu
  have HQ := Lib.hid hqb
  have HUQ := Lib.hid huq
  rw [hr, hd] at hS
  unfold pkV at hS
  have HR : Hid (∀ w' va ss vb, Pair base w' B va ss B2 vb t → Calls Try.prog 22 #[.pointer (some ⟨B2, 0, none⟩), .int .i64 n] w' fun e w2 => e = .returned (.tuple #[.agg #[.int .i64 (d : Int), .int .i64 q.fr, .int .i64 q.to, .slice q.A q.body.length q.c], .bool r]) ∧ R_ base w' B va ss B2 vb (t.out n) w2) := Lib.hid (fun w' va ss vb hpr => by
    have := pair_rout hpr n
    rw [hr2, hd2] at this
    exact this)
  have HS := Lib.hid hS
  have HP0 := Lib.hid h0
  have HBX := Lib.hid hbx
  have HW0 := Lib.hid hW0
  have HX := Lib.hid hX
  have HAl := Lib.hid hal
  have HBd := Lib.hid hp0
  have HO := Lib.hid ho
  have HST := Lib.hid hst
  clear h hst hp ho hs hW0 hal hbx hX hd hd1 hq hd2 hr hr2 hu hqb huq hS hp0 h0 hts
  go_enter Try.func9, Try.ntmps9
  go_wp2_with fail
  rw [HW0.out, HX.out]
  go_wp2_with fail
  refine HS.out.mono ?_
  clear HS
  rintro e w1 ⟨rfl, va, s1, hpr1, hsm, hb1, _⟩
  have hbx1 := (hb1.block X (block_lt HBX.out) (HP0.out.notX HBX.out).1).trans HBX.out
  have hu1 := HU.out.1.but hb1 (HP0.out.typed HU.out.2).1
  have hut1 := HU.out.2.but hb1 (HP0.out.typed HU.out.2).1
  have hq1 := HQ.out.1.but (HP0.out.butL hb1) (fun b off e hn => HQ.out.2 b off e hn)
  obtain ⟨W1, hW1⟩ : ∃ W1, w1.alloc (.cells #[.int .i64 u.fr, .int .i64 u.to, .slice u.A u.body.length u.c] 30) = W1 := ⟨_, rfl⟩
  have hal1 : Below w1.heap.size w1 W1 := by rw [← hW1]; exact (Below.refl _ w1).alloc (Nat.le_refl _) _
  have hby1 : W1.heap[w1.heap.size]? = some (.cells #[.int .i64 u.fr, .int .i64 u.to, .slice u.A u.body.length u.c] 30 (0, 0)) := by rw [← hW1]; exact heap_alloc_new w1 _
  have hprW := hpr1.below hal1
  have HR1 := Lib.hid (HR.out W1 va s1 v2 hprW)
  have HPR1 := Lib.hid hprW
  have HSM := Lib.hid hsm
  have HB1 := Lib.hid ((HP0.out.butL hb1).trans (But.of_below hal1))
  have hbxW := (hal1.block X (block_lt hbx1)).trans hbx1
  have HBXW := Lib.hid hbxW
  have HU1 := Lib.hid (hu1.below hal1)
  have HUT1 := Lib.hid (hut1.below hal1)
  have HQ1 := Lib.hid (hq1.below hal1)
  obtain ⟨Y, hY⟩ : ∃ Y, w1.heap.size = Y := ⟨_, rfl⟩
  rw [hY] at hby1
  have HY := Lib.hid hY
  have HBY := Lib.hid hby1
  have HW1 := Lib.hid hW1
  clear x0 x1 x2 x3 x4 HR
  obtain ⟨x0, x1, x2, x3, x4⟩ := blk5 hbxW
  have hXl := bcell_lt (blk5 hbx1).1
  simp only at hXl
  have y1 := (blk5 hbx1).2.1
  clear hpr1 hsm hb1 hbx1 hu1 hut1 hq1 hW1 hal1 hby1 hprW hbxW hY
  go_wp2_with fail
  rw [HW1.out, HY.out]
  refine HR1.out.mono ?_
  clear HR1 y1 hXl
  rintro e w2 ⟨rfl, vb, hpr2, hb2⟩
  have hby2 := (hb2.block Y (block_lt HBY.out) (HPR1.out.notT HBY.out (by decide) (by decide) (by decide)).2).trans HBY.out
  have hu2 := HU1.out.but hb2 (HPR1.out.typed HUT1.out).2
  have hq2 := HQ1.out.but (HPR1.out.butR hb2) (fun b off e hn => HQ.out.2 b off e hn)
  have hal2 : Below w2.heap.size w2 (w2.alloc (.cells #[.int .i64 (d : Int), .int .i64 q.fr, .int .i64 q.to, .slice q.A q.body.length q.c] TF)) := (Below.refl _ w2).alloc (Nat.le_refl _) _
  have HSame := Lib.hid (same_any _ u q (hu2.below hal2) (hq2.below hal2) true (decide_eq_true HUQ.out))
  have HF : Hid (Stepped base w B B2 (s.sent + 1) w2) := Lib.hid ⟨⟨va, s1, vb, _, hpr2, HSM.out.trans (HST.out.out n), by rw [HSM.out.sent]; exact Nat.le_succ _⟩, ((But.of_below HAl.out).trans HB1.out).trans (HPR1.out.butR hb2)⟩
  obtain ⟨z0, z1, z2⟩ := blk3 hby2
  have hYl := block_lt hby2
  have HAl2 := Lib.hid hal2
  clear hpr2 hb2 hby2 hu2 hq2 hal2 x0 x1 x2 x3 x4
  go_wp2_with fail
  refine HSame.out.mono ?_
  clear HSame
  rintro e w3 ⟨rfl, hb3⟩
  have HF3 := Lib.hid ((HF.out.new HAl2.out).new hb3)
  clear hb3
  cases r <;> (
    go_wp2
    go_ret
    exact ⟨by simp, HF3.out⟩)
set_option maxHeartbeats 4000000 in
theorem step_else (kind : Int) (k0 : kind ≠ 0) (k1 : kind ≠ 1) (k2 : kind ≠ 2) (k3 : kind ≠ 3) (k4 : kind ≠ 4) : Calls Try.prog 9 #[.pointer (some ⟨B, 0, none⟩), .pointer (some ⟨B2, 0, none⟩), .agg #[.int .i64 kind, .int .i64 n, .int .i64 p.fr, .int .i64 p.to, .slice p.A p.body.length p.c]] w fun e w' => e = .returned (.bool true) ∧ Stepped base w B B2 (s.sent + 1) w' := by
  obtain ⟨W0, hW0⟩ : ∃ W0, w.alloc (.cells #[.int .i64 kind, .int .i64 n, .int .i64 p.fr, .int .i64 p.to, .slice p.A p.body.length p.c] 32) = W0 := ⟨_, rfl⟩
  have hal : Below w.heap.size w W0 := by rw [← hW0]; exact (Below.refl _ w).alloc (Nat.le_refl _) _
  have hbx : W0.heap[w.heap.size]? = some (.cells #[.int .i64 kind, .int .i64 n, .int .i64 p.fr, .int .i64 p.to, .slice p.A p.body.length p.c] 32 (0, 0)) := by rw [← hW0]; exact heap_alloc_new w _
  obtain ⟨X, hX⟩ : ∃ X, w.heap.size = X := ⟨_, rfl⟩
  rw [hX] at hbx
  obtain ⟨x0, x1, x2, x3, x4⟩ := blk5 hbx
  have HF : Hid (Stepped base w B B2 (s.sent + 1) W0) := Lib.hid ⟨⟨v, s, v2, t, h.below hal, hst, Nat.le_succ _⟩, But.of_below hal⟩
  have HW0 := Lib.hid hW0
  have HX := Lib.hid hX
  have z0 : (kind == 0) = false := by rw [beq_eq_false_iff_ne]; exact k0
  have z1 : (kind == 1) = false := by rw [beq_eq_false_iff_ne]; exact k1
  have z2 : (kind == 2) = false := by rw [beq_eq_false_iff_ne]; exact k2
  have z3 : (kind == 3) = false := by rw [beq_eq_false_iff_ne]; exact k3
  have z4 : (kind == 4) = false := by rw [beq_eq_false_iff_ne]; exact k4
  clear h hst hp ho hs hW0 hal hbx hX k0 k1 k2 k3 k4
  go_enter Try.func9, Try.ntmps9
  go_wp2
  rw [HW0.out]
  go_ret
  exact ⟨rfl, HF.out⟩
theorem step_any (kind : Int) : Calls Try.prog 9 #[.pointer (some ⟨B, 0, none⟩), .pointer (some ⟨B2, 0, none⟩), .agg #[.int .i64 kind, .int .i64 n, .int .i64 p.fr, .int .i64 p.to, .slice p.A p.body.length p.c]] w fun e w' => e = .returned (.bool true) ∧ Stepped base w B B2 (s.sent + 1) w' := by
  by_cases k0 : kind = 0
  · rw [k0]; exact step_send h hst n p hp ho hs
  by_cases k1 : kind = 1
  · rw [k1]; exact step_deliver h hst n p hp ho hs
  by_cases k2 : kind = 2
  · rw [k2]; exact step_drop h hst n p hp ho hs
  by_cases k3 : kind = 3
  · rw [k3]; exact step_copy h hst n p hp ho hs
  by_cases k4 : kind = 4
  · rw [k4]; exact step_lose h hst n p hp ho hs
  exact step_else h hst n p hp ho hs kind k0 k1 k2 k3 k4
end
end Go.Proofs.Yticjkpnlnonibaa
