/-
  The program's wheel and the document's, side by side (layer 6).
-/
import Derived.Test.YtcekpkjibabjmaaVLooks
namespace Go.Proofs.Ytcekpkjibabjmaa
open Go.RowKit
set_option linter.unusedSimpArgs false
set_option linter.unusedVariables false

/-- Both in memory, each in blocks of its own, all of them among T. -/
def Pair (T : Nat → Prop) (w : World) (B B2 : Nat) (s1 s2 : St) : Prop :=
  ∃ S : Nat → Prop, (∀ k, S k → T k ∧ k < w.heap.size) ∧ WhAt S w B s1 ∧ RwAt (fun k => ¬ S k) w B2 s2 ∧ T B2 ∧ ∀ k, w.heap.size ≤ k → T k
theorem Pair.narrow {T T' : Nat → Prop} {w w' : World} {B B2 : Nat} {s1 s2 : St} (h : Pair T w B B2 s1 s2) (hb : Below w.heap.size w w') (hT : ∀ k, T k → k < w.heap.size → T' k) (hcl : ∀ k, w'.heap.size ≤ k → T' k) : Pair T' w' B B2 s1 s2 := by
  obtain ⟨S, hS, hw, hr, hB2, _⟩ := h
  exact ⟨S, fun k h => ⟨hT k (hS k h).1 (hS k h).2, Nat.lt_of_lt_of_le (hS k h).2 hb.size⟩, hw.below hb, hr.below hb, hT B2 hB2 hr.lt, hcl⟩
theorem Pair.below {T : Nat → Prop} {w w' : World} {B B2 : Nat} {s1 s2 : St} (h : Pair T w B B2 s1 s2) (hb : Below w.heap.size w w') : Pair T w' B B2 s1 s2 := by
  have hh := h
  obtain ⟨_, _, _, _, _, hcl⟩ := h
  exact Pair.narrow hh hb (fun _ h _ => h) (fun k hk => hcl k (Nat.le_trans hb.size hk))
theorem Pair.left {T : Nat → Prop} {w : World} {B B2 : Nat} {s1 s2 : St} (h : Pair T w B B2 s1 s2) {f : FuncId} {args : Array Value} {E : (Nat → Prop) → Ending → World → Prop} {s1' : St}
    (call : ∀ S, WhAt S w B s1 → (∀ k, w.heap.size ≤ k → S k) → Calls Try.prog f args w (fun e w' => E S e w' ∧ WhAt S w' B s1' ∧ Kept S w w')) :
    Calls Try.prog f args w (fun e w' => (∃ S, ¬ S B2 ∧ E S e w') ∧ Pair T w' B B2 s1' s2 ∧ But T w w') := by
  obtain ⟨S, hS, hw, hr, hB2, hcl⟩ := h
  have hlt := hr.lt
  refine (call (fun k => S k ∨ w.heap.size ≤ k) (hw.mono (fun k _ h => .inl h)) (fun k h => .inr h)).mono ?_
  rintro e w' ⟨he, hw', hk⟩
  have hsz := hk.1.size
  refine ⟨⟨_, (fun h => h.elim hr.1 (fun h => by omega)), he⟩, ⟨fun k => (S k ∨ w.heap.size ≤ k) ∧ k < w'.heap.size, (fun k h => ⟨h.1.elim (fun h => (hS k h).1) (hcl k), h.2⟩), hw'.mono (fun k hk h => ⟨h, hk⟩), ?_, hB2, fun k h => hcl k (Nat.le_trans hsz h)⟩, hk.1.mono (fun k h => h.elim (fun h => (hS k h).1) (hcl k))⟩
  refine ((hr.mono (R := fun k => ¬ S k ∧ k < w.heap.size) (fun b hb h => ⟨h, hb⟩)).but hk.1 ?_).mono ?_
  · rintro b (h | h) hb ⟨h1, h2⟩
    · exact h1 h
    · omega
  · rintro b hb ⟨h1, h2⟩ ⟨h3 | h3, _⟩
    · exact h1 h3
    · omega
theorem Pair.right {T : Nat → Prop} {w : World} {B B2 : Nat} {s1 s2 : St} (h : Pair T w B B2 s1 s2) {f : FuncId} {args : Array Value} {E : Ending → World → Prop} {s2' : St}
    (call : ∀ Q, RwAt Q w B2 s2 → (∀ k, w.heap.size ≤ k → Q k) → Calls Try.prog f args w (fun e w' => E e w' ∧ RwAt Q w' B2 s2' ∧ But (· = B2) w w')) :
    Calls Try.prog f args w (fun e w' => E e w' ∧ Pair T w' B B2 s1 s2' ∧ But (· = B2) w w') := by
  obtain ⟨S, hS, hw, hr, hB2, hcl⟩ := h
  refine (call _ hr (fun k h hs => by have := (hS k hs).2; omega)).mono ?_
  rintro e w' ⟨he, hr', hb⟩
  exact ⟨he, ⟨S, fun k h => ⟨(hS k h).1, Nat.lt_of_lt_of_le (hS k h).2 hb.size⟩, hw.but hb (fun k e _ h => hr.1 (by rw [← e]; exact h)), hr', hB2, fun k h => hcl k (Nat.le_trans hb.size h)⟩, hb⟩
theorem Pair.tB2 {T : Nat → Prop} {w : World} {B B2 : Nat} {s1 s2 : St} (h : Pair T w B B2 s1 s2) : T B2 := by obtain ⟨_, _, _, _, h, _⟩ := h; exact h
theorem Pair.ok {T : Nat → Prop} {w : World} {B B2 : Nat} {s1 s2 : St} (h : Pair T w B B2 s1 s2) : s2.ok := by obtain ⟨_, _, _, h, _, _⟩ := h; exact h.2.1
theorem pair_set {T : Nat → Prop} {w : World} {B B2 : Nat} {s s2 : St} (h : Pair T w B B2 s s2) (id n : Int) (hid : wfI id) (hn : wfI n) (hN : s.now ≤ 1099511627776) :
    Calls Try.prog 8 #[.pointer (some ⟨B, 0, none⟩), .int .i64 id, .int .i64 n] w fun e w' => e = .returned (.bool (s.may id n)) ∧ Pair T w' B B2 (s.set id n) s2 ∧ But T w w' :=
  (h.left (E := fun _ e _ => e = .returned (.bool (s.may id n))) (fun S h1 hcl => set_at S w B s h1 hcl id n hid hn hN)).mono fun e w' ⟨⟨_, _, he⟩, r⟩ => ⟨he, r⟩
theorem pair_rset {T : Nat → Prop} {w : World} {B B2 : Nat} {s s1 : St} (h : Pair T w B B2 s1 s) (id n : Int) (hid : wfI id) (hn : wfI n) (hN : s.now ≤ 1099511627776) :
    Calls Try.prog 9 #[.pointer (some ⟨B2, 0, none⟩), .int .i64 id, .int .i64 n] w fun e w' => e = .returned (.bool (s.may id n)) ∧ Pair T w' B B2 s1 (s.set id n) ∧ But T w w' :=
  (h.right (E := fun e _ => e = .returned (.bool (s.may id n))) (fun Q h1 hcl => rset_any Q w B2 s h1 hcl id n hid hn hN)).mono fun e w' ⟨he, r, hb⟩ => ⟨he, r, hb.mono (fun k e => by rw [e]; exact h.tB2)⟩
theorem pair_stop {T : Nat → Prop} {w : World} {B B2 : Nat} {s s2 : St} (h : Pair T w B B2 s s2) (id : Int) (hid : wfI id) (hN : s.now ≤ 1099511627776) :
    Calls Try.prog 10 #[.pointer (some ⟨B, 0, none⟩), .int .i64 id] w fun e w' => e = .returned (.bool (hasL s.L id)) ∧ Pair T w' B B2 (s.stop id) s2 ∧ But T w w' :=
  (h.left (E := fun _ e _ => e = .returned (.bool (hasL s.L id))) (fun S h1 hcl => stop_at S w B s h1 hcl id hid hN)).mono fun e w' ⟨⟨_, _, he⟩, r⟩ => ⟨he, r⟩
theorem pair_rstop {T : Nat → Prop} {w : World} {B B2 : Nat} {s s1 : St} (h : Pair T w B B2 s1 s) (id : Int) :
    Calls Try.prog 11 #[.pointer (some ⟨B2, 0, none⟩), .int .i64 id] w fun e w' => e = .returned (.bool (hasL s.L id)) ∧ Pair T w' B B2 s1 (s.stop id) ∧ But T w w' :=
  (h.right (E := fun e _ => e = .returned (.bool (hasL s.L id))) (fun Q h1 hcl => rstop_any Q w B2 s h1 hcl id)).mono fun e w' ⟨he, r, hb⟩ => ⟨he, r, hb.mono (fun k e => by rw [e]; exact h.tB2)⟩
theorem pair_tick {T : Nat → Prop} {w : World} {B B2 : Nat} {s s2 : St} (h : Pair T w B B2 s s2) (hN : s.now < 1099511627776) :
    Calls Try.prog 14 #[.pointer (some ⟨B, 0, none⟩)] w fun e w' => (∃ v, e = .returned v ∧ rowOwn w' v s.due ∧ ∀ b, v.ownBlock = some b → b ≠ B2) ∧ Pair T w' B B2 s.tick s2 ∧ But T w w' :=
  (h.left (E := fun S e w' => ∃ v, e = .returned v ∧ rowOwn w' v s.due ∧ ∀ b, v.ownBlock = some b → S b) (fun S h1 hcl => (tick_at S w B s h1 hcl hN).mono fun e w' ⟨v, he, hv, hb, r⟩ => ⟨⟨v, he, hv, hb⟩, r⟩)).mono fun e w' ⟨⟨S, hS, v, he, hv, hb⟩, r⟩ => ⟨⟨v, he, hv, fun b e e2 => hS (by rw [← e2]; exact hb b e)⟩, r⟩
theorem pair_rtick {T : Nat → Prop} {w : World} {B B2 : Nat} {s s1 : St} (h : Pair T w B B2 s1 s) (hN : s.now < 1099511627776) :
    Calls Try.prog 15 #[.pointer (some ⟨B2, 0, none⟩)] w fun e w' => (∃ v, e = .returned v ∧ rowOwn w' v s.due) ∧ Pair T w' B B2 s1 s.tick ∧ But (· = B2) w w' :=
  (h.right (E := fun e w' => ∃ v, e = .returned v ∧ rowOwn w' v s.due) (fun Q h1 hcl => (rtick_any Q w B2 s h1 hcl hN).mono fun e w' ⟨v, he, hv, r⟩ => ⟨⟨v, he, own_zero hv⟩, r⟩))
theorem pair_looks {T : Nat → Prop} {w : World} {B B2 : Nat} {s : St} (h : Pair T w B B2 s s) (id : Int) (hid : wfI id) (hN : s.now ≤ 1099511627776) :
    Calls Try.prog 16 #[.pointer (some ⟨B, 0, none⟩), .pointer (some ⟨B2, 0, none⟩), .int .i64 id] w fun e w' => e = .returned (.bool true) ∧ Pair T w' B B2 s s ∧ Below w.heap.size w w' := by
  have hh := h
  obtain ⟨S, _, hw, hr, _, _⟩ := h
  exact (looks_any S _ w B B2 s hw hr id hid hN).mono fun e w' ⟨he, hb⟩ => ⟨he, hh.below hb, hb⟩
theorem pair_new {w w1 : World} {B : Nat} (h : WhAt (From w.heap.size) w1 B St.new) (hb : Below w.heap.size w w1) : Pair (From w.heap.size) (w1.alloc (.cells #[.int .i64 0, .slice none 0 0] 28)) B w1.heap.size St.new St.new := by
  have hb2 : Below w1.heap.size w1 (w1.alloc (.cells #[.int .i64 0, .slice none 0 0] 28)) := (Below.refl _ _).alloc (Nat.le_refl _) _
  refine ⟨fun k => w.heap.size ≤ k ∧ k < w1.heap.size, fun k h => ⟨h.1, Nat.lt_of_lt_of_le h.2 hb2.size⟩, (h.mono (fun k hk h => ⟨h, hk⟩)).below hb2, ?_, hb.size, fun k h => Nat.le_trans hb.size (Nat.le_trans hb2.size h)⟩
  exact ⟨(fun h => absurd h.2 (Nat.lt_irrefl _)), St.ok.new, none, 0, 0, heap_alloc_new _ _, rfl, fun h => absurd h (Nat.lt_irrefl _)⟩
end Go.Proofs.Ytcekpkjibabjmaa
