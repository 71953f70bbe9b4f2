/-
  The program's flight and the document's, side by side (layer 7).
-/
import Derived.Test.YticjkpnlnonibaaHRefO
namespace Go.Proofs.Yticjkpnlnonibaa
open Go.RowKit
set_option linter.unusedSimpArgs false
set_option linter.unusedVariables false

def zeroPk : Pk := ⟨0, 0, [], none, 0⟩
def zeroIt : It := ⟨0, zeroPk⟩
theorem BodyAt.zero (w : World) : BodyAt w zeroPk := ⟨RV.zero _ _, Nat.le_refl _, fun _ => rfl, Nat.zero_le _⟩
/-- The picked one, or a zero packet. -/
def Fl.pick (s : Fl) (pick : Int) : It := s.L.getD (pickOf s.L.length pick) zeroIt
def Fl.any (s : Fl) : Bool := decide (0 < s.L.length)
def Fl.send (s : Fl) (p : Pk) : Fl := if s.may p then s.fly p else s
def Fl.copy (s : Fl) (pick : Int) : Fl := if !s.full && s.any then s.fly (s.pick pick).p else s
def Fl.num (s : Fl) (r : Bool) : Int := if r then ((s.sent + 1 : Nat) : Int) else 0
theorem Fl.pick_at {s : Fl} {pick : Int} (hk : pickOf s.L.length pick < s.L.length) : s.pick pick = s.L[pickOf s.L.length pick] := by
  unfold Fl.pick
  simp [List.getD, List.getElem?_eq_getElem hk]
theorem Fl.pick_nil {s : Fl} {pick : Int} (h : s.L.length = 0) : s.pick pick = zeroIt := by
  unfold Fl.pick
  rw [List.eq_nil_of_length_eq_zero h]
  rfl
theorem Fl.out_nil {s : Fl} {pick : Int} (h : s.L.length = 0) : s.out pick = s := by
  obtain ⟨L, sent, most⟩ := s
  obtain rfl : L = [] := List.eq_nil_of_length_eq_zero h
  rfl
theorem Fl.same.any {s t : Fl} (h : s.same t) : s.any = t.any := by unfold Fl.any; rw [h.len]
theorem Fl.same.may {s t : Fl} (h : s.same t) (p : Pk) : s.may p = t.may p := by unfold Fl.may; rw [h.full]
theorem Fl.same.num {s t : Fl} (h : s.same t) (r : Bool) : s.num r = t.num r := by unfold Fl.num; rw [h.sent]
theorem Fl.same.pick {s t : Fl} (h : s.same t) (pick : Int) : (s.pick pick).strip = (t.pick pick).strip := by
  rcases Nat.eq_zero_or_pos s.L.length with h0 | h0
  · rw [Fl.pick_nil h0, Fl.pick_nil (by rw [← h.len]; exact h0)]
  · have h1 := pickOf_lt h0 pick
    have h2 : pickOf t.L.length pick < t.L.length := pickOf_lt (by rw [← h.len]; exact h0) pick
    rw [Fl.pick_at h1, Fl.pick_at h2]
    have := h.at_ (pickOf s.L.length pick) h1 (by rw [← h.len]; exact h1)
    rw [this]
    simp only [h.len]
theorem Fl.same.pickp {s t : Fl} (h : s.same t) (pick : Int) : (s.pick pick).p.strip = (t.pick pick).p.strip ∧ (s.pick pick).id = (t.pick pick).id := by
  have := h.pick pick
  unfold It.strip at this
  simp only [Prod.mk.injEq] at this
  exact ⟨this.2, this.1⟩
theorem Fl.same.send {s t : Fl} (h : s.same t) (p : Pk) : (s.send p).same (t.send p) := by
  unfold Fl.send
  rw [h.may p]
  split
  · exact h.fly rfl
  · exact h
theorem Fl.same.copy {s t : Fl} (h : s.same t) (pick : Int) : (s.copy pick).same (t.copy pick) := by
  unfold Fl.copy
  rw [h.full, h.any]
  split
  · exact h.fly (h.pickp pick).1
  · exact h
theorem Fl.same.refl (s : Fl) : s.same s := ⟨rfl, rfl, rfl⟩
theorem Fl.same.loses {s t : Fl} (h : s.same t) (to : Int) : (s.L.length : Int) - ((s.lose to).L.length : Int) = (t.L.length : Int) - ((t.lose to).L.length : Int) := by rw [h.len, (h.lose to).len]
theorem Fl.send_sent (s : Fl) (p : Pk) : (s.send p).sent ≤ s.sent + 1 := by unfold Fl.send Fl.fly; split <;> simp
theorem Fl.copy_sent (s : Fl) (k : Int) : (s.copy k).sent ≤ s.sent + 1 := by unfold Fl.copy Fl.fly; split <;> simp
/-- Both in memory, apart. -/
structure Pair (base : Nat) (w : World) (B : Nat) (v : Value) (s : Fl) (B2 : Nat) (v2 : Value) (t : Fl) : Prop where
  fl : FlAt w B v s
  rf : RfAt base w B2 v2 t
  geB : base ≤ B
  geV : ∀ b, v.ownBlock = some b → base ≤ b
  apart : ∀ b, v.ownBlock = some b → v2.ownBlock ≠ some b
section
variable {base : Nat} {w w' : World} {B B2 : Nat} {v v' v2 v2' : Value} {s s' t t' : Fl}
theorem Pair.geS (h : Pair base w B v s B2 v2 t) {k : Nat} (hk : Sof B v k) : base ≤ k := by
  rcases hk with rfl | hk
  · exact h.geB
  · exact h.geV k hk
theorem Pair.B_ne (h : Pair base w B v s B2 v2 t) : B ≠ B2 := fun e => by
  have := h.fl.blk
  rw [e, h.rf.blk] at this
  simp at this
theorem Pair.v_ne (h : Pair base w B v s B2 v2 t) : v.ownBlock ≠ some B2 := fun e => by
  obtain ⟨cur, hc⟩ := h.fl.row.cells e
  have := hc.symm.trans h.rf.blk
  simp at this
theorem Pair.v2_ne (h : Pair base w B v s B2 v2 t) : v2.ownBlock ≠ some B := fun e => by
  obtain ⟨cur, hc⟩ := h.rf.row.cells e
  have := hc.symm.trans h.fl.blk
  simp at this
theorem Pair.left (h : Pair base w B v s B2 v2 t) (hf : FlAt w' B v' s') (hb : But (Sof B v) w w') (hl : ∀ b, v'.ownBlock = some b → v.ownBlock = some b ∨ w.heap.size ≤ b) : Pair base w' B v' s' B2 v2 t := by
  have hbw : base ≤ w.heap.size := Nat.le_trans h.geB (Nat.le_of_lt h.fl.lt)
  refine ⟨hf, h.rf.but hb (fun e => ?_) (fun b e e2 => ?_) (fun b e => h.geS e), h.geB, fun b e => ?_, fun b e e2 => ?_⟩
  · rcases e with e | e
    · exact h.B_ne e.symm
    · exact h.v_ne e
  · rcases e2 with rfl | e2
    · exact h.v2_ne e
    · exact h.apart b e2 e
  · rcases hl b e with h1 | h1
    · exact h.geV b h1
    · exact Nat.le_trans hbw h1
  · rcases hl b e with h1 | h1
    · exact h.apart b h1 e2
    · have := h.rf.row.lt e2
      omega
theorem Pair.right (h : Pair base w B v s B2 v2 t) (hf : RfAt base w' B2 v2' t') (hb : But (Sof B2 v2) w w') (hl : ∀ b, v2'.ownBlock = some b → v2.ownBlock = some b ∨ w.heap.size ≤ b) : Pair base w' B v s B2 v2' t' := by
  refine ⟨h.fl.but hb (fun e => ?_) (fun b e e2 => ?_) (fun x hx b off e hn e2 => ?_), hf, h.geB, h.geV, fun b e e2 => ?_⟩
  · rcases e with e | e
    · exact h.B_ne e
    · exact h.v2_ne e
  · rcases e2 with rfl | e2
    · exact h.v_ne e
    · exact h.apart b e e2
  · obtain ⟨b', off', cur, e', hh⟩ := (h.fl.body x hx).2 hn
    rw [e] at e'
    simp only [Option.some.injEq, Addr.mk.injEq] at e'
    obtain ⟨rfl, _⟩ := e'
    rcases e2 with rfl | e2
    · have := h.rf.blk.symm.trans hh
      simp at this
    · obtain ⟨cur', hc⟩ := h.rf.row.cells e2
      have := hc.symm.trans hh
      simp at this
  · rcases hl b e2 with h1 | h1
    · exact h.apart b e h1
    · have := h.fl.row.lt e
      omega
theorem Pair.below (h : Pair base w B v s B2 v2 t) (hb : Below w.heap.size w w') : Pair base w' B v s B2 v2 t := ⟨h.fl.below hb, h.rf.below hb, h.geB, h.geV, h.apart⟩
theorem Pair.baseW (h : Pair base w B v s B2 v2 t) : base ≤ w.heap.size := Nat.le_trans h.geB (Nat.le_of_lt h.fl.lt)
theorem Pair.outs (h : Pair base w B v s B2 v2 t) {p : Pk} (ho : Outs (fun k => base ≤ k) p) : Outs (Sof B v) p := fun b off e hn hs => ho b off e hn (h.geS hs)
theorem Pair.butL (h : Pair base w B v s B2 v2 t) (hb : But (Sof B v) w w') : But (fun k => base ≤ k) w w' := hb.mono (fun k hk => h.geS hk)
theorem Pair.butR (h : Pair base w B v s B2 v2 t) (hb : But (Sof B2 v2) w w') : But (fun k => base ≤ k) w w' := hb.mono (fun k hk => h.rf.geS hk)
/-- What lies behind w's end is not touched. -/
theorem Pair.old (h : Pair base w B v s B2 v2 t) {X : Nat} (hX : w.heap.size ≤ X) : ¬ Sof B v X ∧ ¬ Sof B2 v2 X := by
  refine ⟨fun e => ?_, fun e => ?_⟩
  · rcases e with rfl | e
    · have := h.fl.lt; omega
    · have := h.fl.row.lt e; omega
  · rcases e with rfl | e
    · have := h.rf.lt; omega
    · have := h.rf.row.lt e; omega
/-- A call of the program's flight, at the pair. -/
def L_ (base : Nat) (w : World) (B : Nat) (v : Value) (B2 : Nat) (v2 : Value) (t : Fl) (s1 : Fl) (w' : World) : Prop := ∃ v' s', Pair base w' B v' s' B2 v2 t ∧ s'.same s1 ∧ But (Sof B v) w w' ∧ ∀ b, v'.ownBlock = some b → v.ownBlock = some b ∨ w.heap.size ≤ b
def R_ (base : Nat) (w : World) (B : Nat) (v : Value) (s : Fl) (B2 : Nat) (v2 : Value) (t1 : Fl) (w' : World) : Prop := ∃ v2', Pair base w' B v s B2 v2' t1 ∧ But (Sof B2 v2) w w'
theorem Pair.L_below (h : Pair base w B v s B2 v2 t) (hb : Below w.heap.size w w') : L_ base w B v B2 v2 t s w' := ⟨v, s, h.below hb, .refl s, But.of_below hb, fun b e => .inl e⟩
theorem Pair.L_flown (h : Pair base w B v s B2 v2 t) {p : Pk} (hF : Flown w B v s p w') : L_ base w B v B2 v2 t (s.fly p) w' := by
  obtain ⟨A, c, v', h1, h2, h3, h4⟩ := hF
  exact ⟨v', _, h.left h1 h3 h4, (Fl.same.refl s).fly rfl, h3, h4⟩
theorem Pair.L_gone (h : Pair base w B v s B2 v2 t) {s1 : Fl} (hF : Gone w B v s1 w') : L_ base w B v B2 v2 t s1 w' := by
  obtain ⟨⟨v', h1, h2⟩, h3⟩ := hF
  exact ⟨v', _, h.left h1 h3 (fun b e => .inl (by rw [← h2]; exact e)), .refl s1, h3, fun b e => .inl (by rw [← h2]; exact e)⟩
theorem Pair.R_below (h : Pair base w B v s B2 v2 t) (hb : Below w.heap.size w w') : R_ base w B v s B2 v2 t w' := ⟨v2, h.below hb, But.of_below hb⟩
theorem Pair.R_flown (h : Pair base w B v s B2 v2 t) {p : Pk} (hF : RFlown base w B2 v2 t p w') : R_ base w B v s B2 v2 (t.fly p) w' := by
  obtain ⟨v', h1, h3, h4⟩ := hF
  exact ⟨v', h.right h1 h3 h4, h3⟩
theorem Pair.R_gone (h : Pair base w B v s B2 v2 t) {s1 : Fl} (hF : RGone base w B2 v2 s1 w') : R_ base w B v s B2 v2 s1 w' := by
  obtain ⟨v', h1, h3, h4⟩ := hF
  exact ⟨v', h.right h1 h3 h4, h3⟩
end
section
variable {base : Nat} {w : World} {B B2 : Nat} {v v2 : Value} {s t : Fl} (h : Pair base w B v s B2 v2 t)
include h
theorem pair_send (p : Pk) (hp : BodyAt w p) (ho : Outs (fun k => base ≤ k) p) (hs : s.sent < 1099511627775) :
    Calls Try.prog 12 #[.pointer (some ⟨B, 0, none⟩), .agg #[.int .i64 p.fr, .int .i64 p.to, .slice p.A p.body.length p.c]] w fun e w' => e = .returned (.tuple #[.int .i64 (s.num (s.may p)), .bool (s.may p)]) ∧ L_ base w B v B2 v2 t (s.send p) w' := by
  refine (send_any w B v s p h.fl hp (h.outs ho) hs (s.may p) rfl).mono ?_
  rintro e w' ⟨h1, h2⟩
  unfold Fl.send Fl.num
  cases hr : s.may p with
  | true =>
    obtain ⟨rfl, hF⟩ := h1 hr
    exact ⟨rfl, h.L_flown hF⟩
  | false =>
    obtain ⟨rfl, hF⟩ := h2 hr
    exact ⟨rfl, h.L_below hF⟩
theorem pair_rsend (p : Pk) (hp : BodyAt w p) (ho : Outs (fun k => base ≤ k) p) (hs : t.sent < 1099511627775) :
    Calls Try.prog 21 #[.pointer (some ⟨B2, 0, none⟩), .agg #[.int .i64 p.fr, .int .i64 p.to, .slice p.A p.body.length p.c]] w fun e w' => e = .returned (.tuple #[.int .i64 (t.num (t.may p)), .bool (t.may p)]) ∧ R_ base w B v s B2 v2 (t.send p) w' := by
  unfold Fl.send Fl.num
  cases hr : t.may p with
  | true =>
    have hr2 := hr
    unfold Fl.may at hr2
    simp only [Bool.and_eq_true, Bool.not_eq_true', decide_eq_true_eq] at hr2
    exact (rsend_yes base w B2 v2 t p h.rf h.baseW hp ho hs hr2.1 hr2.2).mono (fun e w' ⟨he, hF⟩ => ⟨he, h.R_flown hF⟩)
  | false => exact (rsend_no base w B2 v2 t p h.rf hr).mono (fun e w' ⟨he, hF⟩ => ⟨he, h.R_below hF⟩)
theorem pair_deliver (n : Int) :
    Calls Try.prog 14 #[.pointer (some ⟨B, 0, none⟩), .int .i64 n] w fun e w' => e = .returned (.tuple #[pkV (s.pick n).p, .bool s.any]) ∧ L_ base w B v B2 v2 t (s.out n) w' := by
  unfold Fl.any
  rcases Nat.eq_zero_or_pos s.L.length with h0 | h0
  · rw [Fl.pick_nil h0, Fl.out_nil h0, decide_eq_false (by omega)]
    exact (deliver_none w B v s h.fl n h0).mono (fun e w' ⟨he, hF⟩ => ⟨he, h.L_below hF⟩)
  · have hk := pickOf_lt h0 n
    rw [Fl.pick_at hk, decide_eq_true h0]
    exact (deliver_some w B v s h.fl n h0 hk).mono (fun e w' ⟨he, hF⟩ => ⟨he, h.L_gone hF⟩)
theorem pair_drop (n : Int) :
    Calls Try.prog 16 #[.pointer (some ⟨B, 0, none⟩), .int .i64 n] w fun e w' => e = .returned (.tuple #[.int .i64 ((s.pick n).id : Int), .bool s.any]) ∧ L_ base w B v B2 v2 t (s.out n) w' := by
  unfold Fl.any
  rcases Nat.eq_zero_or_pos s.L.length with h0 | h0
  · rw [Fl.pick_nil h0, Fl.out_nil h0, decide_eq_false (by omega)]
    exact (drop_none w B v s h.fl n h0).mono (fun e w' ⟨he, hF⟩ => ⟨he, h.L_below hF⟩)
  · have hk := pickOf_lt h0 n
    rw [Fl.pick_at hk, decide_eq_true h0]
    exact (drop_some w B v s h.fl n h0 hk).mono (fun e w' ⟨he, hF⟩ => ⟨he, h.L_gone hF⟩)
theorem pair_rout (n : Int) :
    Calls Try.prog 22 #[.pointer (some ⟨B2, 0, none⟩), .int .i64 n] w fun e w' => e = .returned (.tuple #[itV (t.pick n), .bool t.any]) ∧ R_ base w B v s B2 v2 (t.out n) w' := by
  unfold Fl.any
  rcases Nat.eq_zero_or_pos t.L.length with h0 | h0
  · rw [Fl.pick_nil h0, Fl.out_nil h0, decide_eq_false (by omega)]
    exact (rout_none base w B2 v2 t h.rf n h0).mono (fun e w' ⟨he, hF⟩ => ⟨he, h.R_below hF⟩)
  · have hk := pickOf_lt h0 n
    rw [Fl.pick_at hk, decide_eq_true h0]
    exact (rout_some base w B2 v2 t h.rf h.baseW n h0 hk).mono (fun e w' ⟨he, hF⟩ => ⟨he, h.R_gone hF⟩)
theorem pair_copy (n : Int) (hs : s.sent < 1099511627775) :
    Calls Try.prog 17 #[.pointer (some ⟨B, 0, none⟩), .int .i64 n] w fun e w' => e = .returned (.tuple #[.int .i64 (s.num (!s.full && s.any)), .bool (!s.full && s.any)]) ∧ L_ base w B v B2 v2 t (s.copy n) w' := by
  unfold Fl.copy Fl.num
  cases hf : s.full with
  | true => exact (copy_none w B v s h.fl n (.inl hf)).mono (fun e w' ⟨he, hF⟩ => ⟨he, h.L_below hF⟩)
  | false =>
    unfold Fl.any
    rcases Nat.eq_zero_or_pos s.L.length with h0 | h0
    · rw [decide_eq_false (by omega)]
      exact (copy_none w B v s h.fl n (.inr h0)).mono (fun e w' ⟨he, hF⟩ => ⟨he, h.L_below hF⟩)
    · have hk := pickOf_lt h0 n
      rw [decide_eq_true h0, Fl.pick_at hk]
      exact (copy_some w B v s h.fl n hs hf h0 hk).mono (fun e w' ⟨he, hF⟩ => ⟨he, h.L_flown hF⟩)
theorem pair_rcopy (n : Int) (hs : t.sent < 1099511627775) :
    Calls Try.prog 23 #[.pointer (some ⟨B2, 0, none⟩), .int .i64 n] w fun e w' => e = .returned (.tuple #[.int .i64 (t.num (!t.full && t.any)), .bool (!t.full && t.any)]) ∧ R_ base w B v s B2 v2 (t.copy n) w' := by
  unfold Fl.copy Fl.num
  unfold Fl.any
  rcases Nat.eq_zero_or_pos t.L.length with h0 | h0
  · rw [decide_eq_false (by omega)]
    rw [Bool.and_false]
    exact (rcopy_none base w B2 v2 t h.rf n h0).mono (fun e w' ⟨he, hF⟩ => ⟨he, h.R_below hF⟩)
  · have hk := pickOf_lt h0 n
    rw [decide_eq_true h0, Fl.pick_at hk]
    cases hf : t.full with
    | true => exact (rcopy_full base w B2 v2 t h.rf n hf h0 hk).mono (fun e w' ⟨he, hF⟩ => ⟨he, h.R_below hF⟩)
    | false => exact (rcopy_some base w B2 v2 t h.rf h.baseW n hs hf h0 hk).mono (fun e w' ⟨he, hF⟩ => ⟨he, h.R_flown hF⟩)
theorem pair_lose (to : Int) :
    Calls Try.prog 18 #[.pointer (some ⟨B, 0, none⟩), .int .i64 to] w fun e w' => e = .returned (.int .i64 ((s.L.length : Int) - ((s.lose to).L.length : Int))) ∧ L_ base w B v B2 v2 t (s.lose to) w' :=
  (losetop_any w B v s h.fl to).mono (fun e w' ⟨he, hF⟩ => ⟨he, h.L_gone hF⟩)
theorem pair_rlose (to : Int) :
    Calls Try.prog 24 #[.pointer (some ⟨B2, 0, none⟩), .int .i64 to] w fun e w' => e = .returned (.int .i64 ((t.L.length : Int) - ((t.lose to).L.length : Int))) ∧ R_ base w B v s B2 v2 (t.lose to) w' :=
  (rlose_any base w B2 v2 t h.rf h.baseW to).mono (fun e w' ⟨he, hF⟩ => ⟨he, h.R_gone hF⟩)
end
end Go.Proofs.Yticjkpnlnonibaa
