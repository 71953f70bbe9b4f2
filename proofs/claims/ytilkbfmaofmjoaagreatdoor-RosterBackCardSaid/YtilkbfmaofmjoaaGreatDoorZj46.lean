import Derived.Test.YtilkbfmaofmjoaaGreatDoorZj44
import Derived.Test.YtilkbfmaofmjoaaGreatDoorZj45
import Derived.Test.YtilkbfmaofmjoaaGreatDoorZj41
namespace Go.Proofs.YtilkbfmaofmjoaaGreatDoor
open Go.RowKit Go.Rel
set_option linter.unusedSimpArgs false
set_option linter.unusedVariables false
def Ch4 (B1 B2 B3 D : Nat) (k : Nat) : Prop := Ch3 B1 B2 B3 k ∨ k = D
def Both (base : Nat) (w : World) (B B1 B2 B3 m : Nat) (d : Ro) (D md : Nat) (d2 : Ro) : Prop :=
  ∃ Sp Sd : Nat → Prop, RoAt Sp w B B1 B2 B3 m d ∧ RdAt base Sd w D md d2 ∧ (∀ k, Sp k → k < w.heap.size ∧ ¬ Sd k ∧ (base ≤ k ∨ k = gPw)) ∧ ∀ k, Sd k → k < w.heap.size
theorem RdAt.top {base : Nat} {S : Nat → Prop} {w : World} {B m : Nat} {d : Ro} (h : RdAt base S w B m d) : base ≤ w.heap.size := by
  obtain ⟨_, _, _, _, _, _, _, _, h1⟩ := h
  exact h1.top
section
variable {base : Nat} {w w' : World} {B B1 B2 B3 m D md : Nat} {d d2 : Ro}
theorem Both.below (h : Both base w B B1 B2 B3 m d D md d2) (hb : Below w.heap.size w w') : Both base w' B B1 B2 B3 m d D md d2 := by
  obtain ⟨Sp, Sd, h1, h2, h3, h4⟩ := h
  have hz := hb.size
  exact ⟨Sp, Sd, h1.below hb, h2.below hb, fun k hk => ⟨by have := (h3 k hk).1; omega, (h3 k hk).2⟩, fun k hk => by have := h4 k hk; omega⟩
theorem Both.top (h : Both base w B B1 B2 B3 m d D md d2) : base ≤ w.heap.size := by
  obtain ⟨Sp, Sd, h1, h2, h3, h4⟩ := h
  exact h2.top
theorem Both.lt (h : Both base w B B1 B2 B3 m d D md d2) : (B < w.heap.size ∧ B1 < w.heap.size ∧ B2 < w.heap.size ∧ B3 < w.heap.size) ∧ D < w.heap.size := by
  obtain ⟨Sp, Sd, h1, h2, h3, h4⟩ := h
  exact ⟨h1.lt, h2.lt⟩
theorem Both.ch (h : Both base w B B1 B2 B3 m d D md d2) : ∀ k, Ch4 B1 B2 B3 D k → base ≤ k := by
  obtain ⟨Sp, Sd, h1, h2, h3, h4⟩ := h
  rintro k (hk | rfl)
  · have := h1.ch k hk
    exact (h3 k this.1).2.2.resolve_right this.2.2.1
  · exact h2.lo _ h2.mine
theorem Both.left (h : Both base w B B1 B2 B3 m d D md d2) : ∃ Sp, RoAt Sp w B B1 B2 B3 m d ∧ ∀ w' d', RoAt (fun k => Sp k ∨ w.heap.size ≤ k) w' B B1 B2 B3 m d' → But (Ch3 B1 B2 B3) w w' → Both base w' B B1 B2 B3 m d' D md d2 := by
  obtain ⟨Sp, Sd, h1, h2, h3, h4⟩ := h
  have ht := h2.top
  refine ⟨Sp, h1, fun w' d' k1 kb => ?_⟩
  have hz := kb.size
  refine ⟨fun k => (Sp k ∨ w.heap.size ≤ k) ∧ k < w'.heap.size, Sd, k1.narrow fun k hk hs => ⟨hs, hk⟩, h2.but kb fun k e => ?_, fun k hk => ⟨hk.2, ?_, ?_⟩, fun k hk => by have := h4 k hk; omega⟩
  · have hc := h1.ch k e
    exact ⟨(h3 k hc.1).2.1, (h3 k hc.1).2.2.resolve_right hc.2.2.1⟩
  · rcases hk.1 with hs | hs
    · exact (h3 k hs).2.1
    · intro e
      have := h4 k e
      omega
  · rcases hk.1 with hs | hs
    · exact (h3 k hs).2.2
    · exact .inl (Nat.le_trans ht hs)
theorem Both.right (h : Both base w B B1 B2 B3 m d D md d2) : ∃ Sd, RdAt base Sd w D md d2 ∧ ∀ w' d', RdAt base (fun k => Sd k ∨ w.heap.size ≤ k) w' D md d' → But (· = D) w w' → Both base w' B B1 B2 B3 m d D md d' := by
  obtain ⟨Sp, Sd, h1, h2, h3, h4⟩ := h
  have hD := h2.mine
  refine ⟨Sd, h2, fun w' d' k1 kb => ?_⟩
  have hz := kb.size
  refine ⟨Sp, fun k => (Sd k ∨ w.heap.size ≤ k) ∧ k < w'.heap.size, h1.but kb (fun k e hs => (h3 k hs).2.1 (by rw [show k = D from e]; exact hD)), k1.narrow (fun k hk hs => ⟨hs, hk⟩) (fun k hk => k1.lo k hk.1), fun k hk => ⟨by have := (h3 k hk).1; omega, fun e => ?_, (h3 k hk).2.2⟩, fun k hk => hk.2⟩
  rcases e.1 with z | z
  · exact (h3 k hk).2.1 z
  · have := (h3 k hk).1; omega
theorem Both.read (h : Both base w B B1 B2 B3 m d D md d2) : ∃ Sp, RoAt Sp w B B1 B2 B3 m d := by
  obtain ⟨Sp, Sd, h1, _⟩ := h
  exact ⟨Sp, h1⟩
theorem Both.ref (h : Both base w B B1 B2 B3 m d D md d2) : ∃ Sd A1 A2 A3 c1 c2 c3 l2, RoOk md d2 ∧ RdIs base Sd w D A1 A2 A3 c1 c2 c3 md l2 d2 := by
  obtain ⟨Sp, Sd, _, ⟨h0, A1, A2, A3, c1, c2, c3, l2, h1⟩, _⟩ := h
  exact ⟨Sd, A1, A2, A3, c1, c2, c3, l2, h0, h1⟩
theorem Both.aside {b1 b2 b3 : Nat} (h : Both base w B B1 B2 B3 m d D md d2) {w1 : World} (hb : Below w.heap.size w w1) (hz : w.heap.size ≤ b1 ∧ w.heap.size ≤ b2 ∧ w.heap.size ≤ b3) (hc : But (Ch3 b1 b2 b3) w1 w') : Both base w' B B1 B2 B3 m d D md d2 := by
  obtain ⟨Sp, Sd, h1, h2, h3, h4⟩ := h
  have ht := h2.top
  have hs1 := hb.size
  have hs2 := hc.size
  have key : ∀ k, Ch3 b1 b2 b3 k → w.heap.size ≤ k := by
    rintro k (rfl | rfl | rfl)
    · exact hz.1
    · exact hz.2.1
    · exact hz.2.2
  exact ⟨Sp, Sd, (h1.below hb).but hc fun k e hs => by have := key k e; have := (h3 k hs).1; omega, (h2.below hb).but hc fun k e => ⟨fun hs => by have := key k e; have := h4 k hs; omega, by have := key k e; omega⟩, fun k hk => ⟨by have := (h3 k hk).1; omega, (h3 k hk).2⟩, fun k hk => by have := h4 k hk; omega⟩
end
theorem both_new {w w1 w2 : World} {base B B1 B2 B3 D m md : Nat} (hbase : base ≤ w.heap.size) (hg : gPw < base) (hp : RoAt (fun k => w.heap.size ≤ k ∨ k = gPw) w1 B B1 B2 B3 m (Ro.new m)) (hd : RdAt base (· = D) w2 D md (Ro.new md)) (hD : w1.heap.size = D) (hb1 : w.heap.size ≤ w1.heap.size) (hb2 : Below w1.heap.size w1 w2) : Both base w2 B B1 B2 B3 m (Ro.new m) D md (Ro.new md) := by
  have h2 := hb2.size
  have h3 := hd.lt
  refine ⟨fun k => k < w1.heap.size ∧ (w.heap.size ≤ k ∨ k = gPw), (· = D), (hp.narrow fun k hk z => ⟨hk, z⟩).below hb2, hd, fun k hk => ⟨by omega, fun e => by omega, ?_⟩, fun k hk => by omega⟩
  rcases hk.2 with z | z
  · exact .inl (by omega)
  · exact .inr z
end Go.Proofs.YtilkbfmaofmjoaaGreatDoor
namespace Go.Proofs.YtilkbfmaofmjoaaGreatDoor
open Go.RowKit
set_option linter.unusedSimpArgs false
set_option linter.unusedVariables false
structure RSt where
  kind : Int
  node : Int
  text : ByteArray
  s : Rw SvW
  c : Rw CkA
  ix : Nat
structure RSt.Ok (W : World) (x : RSt) : Prop where
  node : -9223372036854775808 ≤ x.node ∧ x.node ≤ 9223372036854775807
  text : x.text.size ≤ 140737488355328
  s : SvIn W x.s
  c : CkIn x.c
  ix : x.ix < 18446744073709551616
theorem RSt.Ok.below {W W' : World} {x : RSt} (h : x.Ok W) (hb : Below W.heap.size W W') : x.Ok W' := ⟨h.node, h.text, h.s.below hb, h.c, h.ix⟩
abbrev TRs : TypeId := 35
def stC (x : RSt) : List Value := [.int .i64 x.kind, .int .i64 x.node, .string x.text, .int .i64 x.s.val.a.node, .string x.s.val.a.id, .string x.s.val.a.name, .slice x.s.val.A x.s.val.n x.s.val.c, .int .i64 x.s.val.a.port, .int .u64 (x.s.made : Int), .int .u64 (x.s.ix : Int), .int .i64 x.c.val.node, .string x.c.val.id, .string x.c.val.svc, .string x.c.val.note, .int .i64 x.c.val.status, .int .u64 (x.c.made : Int), .int .u64 (x.c.ix : Int), .int .u64 (x.ix : Int)]
def stV (x : RSt) : Value := .agg #[.int .i64 x.kind, .int .i64 x.node, .string x.text, .int .i64 x.s.val.a.node, .string x.s.val.a.id, .string x.s.val.a.name, .slice x.s.val.A x.s.val.n x.s.val.c, .int .i64 x.s.val.a.port, .int .u64 (x.s.made : Int), .int .u64 (x.s.ix : Int), .int .i64 x.c.val.node, .string x.c.val.id, .string x.c.val.svc, .string x.c.val.note, .int .i64 x.c.val.status, .int .u64 (x.c.made : Int), .int .u64 (x.c.ix : Int), .int .u64 (x.ix : Int)]
theorem st_blk {w : World} {b : Nat} {x : RSt} {t : TypeId} (h : w.heap[b]? = some (.cells #[.int .i64 x.kind, .int .i64 x.node, .string x.text, .int .i64 x.s.val.a.node, .string x.s.val.a.id, .string x.s.val.a.name, .slice x.s.val.A x.s.val.n x.s.val.c, .int .i64 x.s.val.a.port, .int .u64 (x.s.made : Int), .int .u64 (x.s.ix : Int), .int .i64 x.c.val.node, .string x.c.val.id, .string x.c.val.svc, .string x.c.val.note, .int .i64 x.c.val.status, .int .u64 (x.c.made : Int), .int .u64 (x.c.ix : Int), .int .u64 (x.ix : Int)] t (0, 0))) : w.cell? ⟨b, 0, none⟩ = some (.int .i64 x.kind) ∧ w.cell? ⟨b, 1, none⟩ = some (.int .i64 x.node) ∧ w.cell? ⟨b, 2, none⟩ = some (.string x.text) ∧ w.cell? ⟨b, 3, none⟩ = some (.int .i64 x.s.val.a.node) ∧ w.cell? ⟨b, 4, none⟩ = some (.string x.s.val.a.id) ∧ w.cell? ⟨b, 5, none⟩ = some (.string x.s.val.a.name) ∧ w.cell? ⟨b, 6, none⟩ = some (.slice x.s.val.A x.s.val.n x.s.val.c) ∧ w.cell? ⟨b, 7, none⟩ = some (.int .i64 x.s.val.a.port) ∧ w.cell? ⟨b, 8, none⟩ = some (.int .u64 (x.s.made : Int)) ∧ w.cell? ⟨b, 9, none⟩ = some (.int .u64 (x.s.ix : Int)) ∧ w.cell? ⟨b, 10, none⟩ = some (.int .i64 x.c.val.node) ∧ w.cell? ⟨b, 11, none⟩ = some (.string x.c.val.id) ∧ w.cell? ⟨b, 12, none⟩ = some (.string x.c.val.svc) ∧ w.cell? ⟨b, 13, none⟩ = some (.string x.c.val.note) ∧ w.cell? ⟨b, 14, none⟩ = some (.int .i64 x.c.val.status) ∧ w.cell? ⟨b, 15, none⟩ = some (.int .u64 (x.c.made : Int)) ∧ w.cell? ⟨b, 16, none⟩ = some (.int .u64 (x.c.ix : Int)) ∧ w.cell? ⟨b, 17, none⟩ = some (.int .u64 (x.ix : Int)) :=
  ⟨cellsN h 0 _ rfl, cellsN h 1 _ rfl, cellsN h 2 _ rfl, cellsN h 3 _ rfl, cellsN h 4 _ rfl, cellsN h 5 _ rfl, cellsN h 6 _ rfl, cellsN h 7 _ rfl, cellsN h 8 _ rfl, cellsN h 9 _ rfl, cellsN h 10 _ rfl, cellsN h 11 _ rfl, cellsN h 12 _ rfl, cellsN h 13 _ rfl, cellsN h 14 _ rfl, cellsN h 15 _ rfl, cellsN h 16 _ rfl, cellsN h 17 _ rfl⟩
def RSt.after (x : RSt) (d : Ro) : Nat × Ro :=
  if x.kind = 0 then d.node ⟨x.node, x.text⟩ x.ix else if x.kind = 1 then d.dropN x.node x.ix else if x.kind = 2 then d.service x.s.val.a x.ix else if x.kind = 3 then d.dropS x.node x.text x.ix
  else if x.kind = 4 then d.check x.c.val x.ix else if x.kind = 5 then d.dropC x.node x.text x.ix else (0, d)
end Go.Proofs.YtilkbfmaofmjoaaGreatDoor
namespace Go.Proofs.YtilkbfmaofmjoaaGreatDoor
open Go.RowKit Go.Rel
set_option linter.unusedSimpArgs false
set_option linter.unusedVariables false
structure StR (base X : Nat) (x : RSt) (cs : Array Value) (j1 j2 B B1 B2 B3 m D md : Nat) (d d' d2 d2' : Ro) (v1 v2 : Value) (f : Nat → Bool) (e : Nat → Value) (w : World) : Prop where
  both : Both base w B B1 B2 B3 m (if f j1 then d' else d) D md (if f j2 then d2' else d2)
  blk : w.heap[X]? = some (.cells cs TRs (0, 0))
  out : ¬ Ch4 B1 B2 B3 D X
  tg : TgAt (fun k => k < base) w x.s.val
  k1 : f j1 = true → e j1 = v1
  k2 : f j2 = true → e j2 = v2
section
variable {base X : Nat} {x : RSt} {cs : Array Value} {j1 j2 B B1 B2 B3 m D md : Nat} {d d' d2 d2' : Ro} {v1 v2 : Value} {f : Nat → Bool} {e e' : Nat → Value} {w w' : World} {v : Value} {ops : Array Oper}
theorem StR.start (h : Both base w B B1 B2 B3 m d D md d2) (hx : w.heap[X]? = some (.cells cs TRs (0, 0))) (ho : ¬ Ch4 B1 B2 B3 D X) (ht : TgAt (fun k => k < base) w x.s.val) (e : Nat → Value) : StR base X x cs j1 j2 B B1 B2 B3 m D md d d' d2 d2' v1 v2 (fun _ => false) e { w with drawn := w.drawn + 1 } :=
  ⟨h.below ⟨rfl, rfl, rfl, Nat.le_refl _, fun _ _ => rfl⟩, hx, ho, ht.below ⟨rfl, rfl, rfl, Nat.le_refl _, fun _ _ => rfl⟩, (fun z => by cases z), (fun z => by cases z)⟩
theorem StR.keep {j : Nat} (hj : [j1, j2].contains j = false) (h : StR base X x cs j1 j2 B B1 B2 B3 m D md d d' d2 d2' v1 v2 f e w) (hp : Go.Rel.Put ops j e v e') : StR base X x cs j1 j2 B B1 B2 B3 m D md d d' d2 d2' v1 v2 (Go.Rel.upd f j) e' w := by
  simp only [List.contains_cons, List.contains_nil, Bool.or_false, Bool.or_eq_false_iff, beq_eq_false_iff_ne] at hj
  have e1 := hp.1 j1 (Ne.symm hj.1)
  have e2 := hp.1 j2 (Ne.symm hj.2)
  refine ⟨?_, h.blk, h.out, h.tg, ?_, ?_⟩
  · rw [ale_off hj.1, ale_off hj.2]; exact h.both
  · rw [ale_off hj.1, e1]; exact h.k1
  · rw [ale_off hj.2, e2]; exact h.k2
theorem StR.left (h : StR base X x cs j1 j2 B B1 B2 B3 m D md d d' d2 d2' v1 v2 f e w) (hj : j1 ≠ j2) (hf : f j1 = false) {fn : Nat} {args : Array Value}
    (C : ∀ S, RoAt S w B B1 B2 B3 m d → TgAt (fun k => k < base) w x.s.val → Calls Tryz.prog fn args w fun r w' => r = .returned v1 ∧ RoAt (fun k => S k ∨ w.heap.size ≤ k) w' B B1 B2 B3 m d' ∧ But (Ch3 B1 B2 B3) w w') :
    Calls Tryz.prog fn args w fun r w' => ∃ v, r = .returned v ∧ (∀ e', (∀ m, m ≠ j1 → e' m = e m) → e' j1 = v → StR base X x cs j1 j2 B B1 B2 B3 m D md d d' d2 d2' v1 v2 (Go.Rel.upd f j1) e' w') ∧ But (Ch4 B1 B2 B3 D) w w' := by
  have hb := h.both
  rw [hf] at hb
  have hch := hb.ch
  obtain ⟨Sp, k1, k4⟩ := hb.left
  refine (C Sp k1 h.tg).mono ?_
  rintro r w' ⟨rfl, q1, q2⟩
  have g2 : But (Ch4 B1 B2 B3 D) w w' := q2.mono fun k z => .inl z
  refine ⟨_, rfl, fun e' he hv => ⟨?_, (g2.block X (block_lt h.blk) h.out).trans h.blk, h.out, h.tg.but g2 (fun k z q => by have := hch k z; omega), fun _ => hv, fun z => ?_⟩, g2⟩
  · rw [ale_on, ale_off hj]
    exact k4 w' d' q1 q2
  · rw [ale_off hj] at z
    rw [he j2 (Ne.symm hj)]
    exact h.k2 z
theorem StR.right (h : StR base X x cs j1 j2 B B1 B2 B3 m D md d d' d2 d2' v1 v2 f e w) (hj : j2 ≠ j1) (hf : f j2 = false) {fn : Nat} {args : Array Value}
    (C : ∀ S, RdAt base S w D md d2 → TgAt (fun k => k < base) w x.s.val → Calls Tryz.prog fn args w fun r w' => r = .returned v2 ∧ RdAt base (fun k => S k ∨ w.heap.size ≤ k) w' D md d2' ∧ But (· = D) w w') :
    Calls Tryz.prog fn args w fun r w' => ∃ v, r = .returned v ∧ (∀ e', (∀ m, m ≠ j2 → e' m = e m) → e' j2 = v → StR base X x cs j1 j2 B B1 B2 B3 m D md d d' d2 d2' v1 v2 (Go.Rel.upd f j2) e' w') ∧ But (Ch4 B1 B2 B3 D) w w' := by
  have hb := h.both
  rw [hf] at hb
  have hch := hb.ch
  obtain ⟨Sd, k1, k4⟩ := hb.right
  refine (C Sd k1 h.tg).mono ?_
  rintro r w' ⟨rfl, q1, q2⟩
  have g2 : But (Ch4 B1 B2 B3 D) w w' := q2.mono fun k z => .inr z
  refine ⟨_, rfl, fun e' he hv => ⟨?_, (g2.block X (block_lt h.blk) h.out).trans h.blk, h.out, h.tg.but g2 (fun k z q => by have := hch k z; omega), fun z => ?_, fun _ => hv⟩, g2⟩
  · rw [ale_on, ale_off hj]
    exact k4 w' d2' q1 q2
  · rw [ale_off hj] at z
    rw [he j1 (Ne.symm hj)]
    exact h.k1 z
end
def StepPost (base : Nat) (w : World) (B B1 B2 B3 m : Nat) (d' : Ro) (D md : Nat) (d2' : Ro) (P : Prop) (e : Ending) (w' : World) : Prop :=
  ∃ b, e = .returned (.bool b) ∧ Both base w' B B1 B2 B3 m d' D md d2' ∧ But (Ch4 B1 B2 B3 D) w w' ∧ (P → b = true)
end Go.Proofs.YtilkbfmaofmjoaaGreatDoor
namespace Go.Proofs.YtilkbfmaofmjoaaGreatDoor
open Go.RowKit Go.Rel
set_option linter.unusedSimpArgs false
set_option linter.unusedVariables false
def rst0 (B : Nat) (D : Nat) (X : Nat) (x : RSt) (bq : Bool) : Nat → Value
  | 0 => .pointer (some ⟨B, 0, none⟩)
  | 1 | 9 => .pointer (some ⟨X, 1, none⟩)
  | 2 | 10 => .int .i64 x.node
  | 3 | 11 => .pointer (some ⟨X, 2, none⟩)
  | 4 | 12 => .string x.text
  | 5 | 13 => .pointer (some ⟨X, 17, none⟩)
  | 6 | 14 => .int .u64 (x.ix : Int)
  | 8 => .pointer (some ⟨D, 0, none⟩)
  | 16 | 17 => .bool bq
  | _ => undef
set_option maxHeartbeats 4000000 in
set_option maxRecDepth 100000 in
theorem step0_any {base : Nat} {w : World} {B B1 B2 B3 m D md : Nat} {d d2 : Ro} (x : RSt) (h : Both base w B B1 B2 B3 m d D md d2) (hx : x.Ok w) (ht : TgAt (fun k => k < base) w x.s.val) (hk : x.kind = 0) : Calls Tryz.prog 11 #[.pointer (some ⟨B, 0, none⟩), .pointer (some ⟨D, 0, none⟩), stV x] w fun e w' => StepPost base w B B1 B2 B3 m (x.after d).2 D md (x.after d2).2 ((x.after d).1 = (x.after d2).1) e w' := by
  have ha1 : x.after d = d.node ⟨x.node, x.text⟩ x.ix := by unfold RSt.after; simp only [hk]; rfl
  have ha2 : x.after d2 = d2.node ⟨x.node, x.text⟩ x.ix := by unfold RSt.after; simp only [hk]; rfl
  rw [ha1, ha2]
  obtain ⟨⟨er1, d'⟩, he1⟩ : ∃ r, d.node ⟨x.node, x.text⟩ x.ix = r := ⟨_, rfl⟩
  obtain ⟨⟨er2, d2'⟩, he2⟩ : ∃ r, d2.node ⟨x.node, x.text⟩ x.ix = r := ⟨_, rfl⟩
  rw [he1, he2]
  have HE1 := Lib.hid he1
  have HE2 := Lib.hid he2
  have HOk := Lib.hid hx
  have HSi := Lib.hid (fun (W : World) (ht : TgAt (fun k => k < base) W x.s.val) => (⟨hx.s.node, hx.s.port, hx.s.id, hx.s.name, ht.tx, hx.s.small⟩ : SvIn W x.s))
  have b0 := below1 w #[.int .i64 x.kind, .int .i64 x.node, .string x.text, .int .i64 x.s.val.a.node, .string x.s.val.a.id, .string x.s.val.a.name, .slice x.s.val.A x.s.val.n x.s.val.c, .int .i64 x.s.val.a.port, .int .u64 (x.s.made : Int), .int .u64 (x.s.ix : Int), .int .i64 x.c.val.node, .string x.c.val.id, .string x.c.val.svc, .string x.c.val.note, .int .i64 x.c.val.status, .int .u64 (x.c.made : Int), .int .u64 (x.c.ix : Int), .int .u64 (x.ix : Int)] TRs
  have k0 := heap_alloc_new w (.cells #[.int .i64 x.kind, .int .i64 x.node, .string x.text, .int .i64 x.s.val.a.node, .string x.s.val.a.id, .string x.s.val.a.name, .slice x.s.val.A x.s.val.n x.s.val.c, .int .i64 x.s.val.a.port, .int .u64 (x.s.made : Int), .int .u64 (x.s.ix : Int), .int .i64 x.c.val.node, .string x.c.val.id, .string x.c.val.svc, .string x.c.val.note, .int .i64 x.c.val.status, .int .u64 (x.c.made : Int), .int .u64 (x.c.ix : Int), .int .u64 (x.ix : Int)] TRs)
  obtain ⟨X, hX⟩ : ∃ X, w.heap.size = X := ⟨_, rfl⟩
  obtain ⟨W1, hW1⟩ : ∃ W1, w.alloc (.cells #[.int .i64 x.kind, .int .i64 x.node, .string x.text, .int .i64 x.s.val.a.node, .string x.s.val.a.id, .string x.s.val.a.name, .slice x.s.val.A x.s.val.n x.s.val.c, .int .i64 x.s.val.a.port, .int .u64 (x.s.made : Int), .int .u64 (x.s.ix : Int), .int .i64 x.c.val.node, .string x.c.val.id, .string x.c.val.svc, .string x.c.val.note, .int .i64 x.c.val.status, .int .u64 (x.c.made : Int), .int .u64 (x.c.ix : Int), .int .u64 (x.ix : Int)] TRs) = W1 := ⟨_, rfl⟩
  rw [hW1] at b0 k0
  rw [hX] at k0
  have HBo := Lib.hid (h.below b0)
  have HOut : Hid (¬ Ch4 B1 B2 B3 D X) := Lib.hid (by
    have := h.lt
    rintro ((z | z | z) | z) <;> omega)
  have HTg := Lib.hid (ht.below b0)
  have HB0 := Lib.hid b0
  have HK1 := Lib.hid k0
  have HW1 := Lib.hid hW1
  have HX := Lib.hid hX
  obtain ⟨bq, hbq⟩ : ∃ bq, ((er1 : Int) == (er2 : Int)) = bq := ⟨_, rfl⟩
  have HBq := Lib.hid hbq
  have HBq2 : Hid (er1 = er2 → bq = true) := Lib.hid (fun e => by rw [← hbq, e]; simp)
  have HCp : Hid (∀ (f : Nat → Bool) (e : Nat → Value) (w' : World), StR base X x #[.int .i64 x.kind, .int .i64 x.node, .string x.text, .int .i64 x.s.val.a.node, .string x.s.val.a.id, .string x.s.val.a.name, .slice x.s.val.A x.s.val.n x.s.val.c, .int .i64 x.s.val.a.port, .int .u64 (x.s.made : Int), .int .u64 (x.s.ix : Int), .int .i64 x.c.val.node, .string x.c.val.id, .string x.c.val.svc, .string x.c.val.note, .int .i64 x.c.val.status, .int .u64 (x.c.made : Int), .int .u64 (x.c.ix : Int), .int .u64 (x.ix : Int)] 7 15 B B1 B2 B3 m D md d d' d2 d2' (.int .i64 (er1 : Int)) (.int .i64 (er2 : Int)) f e w' → f 7 = false → Calls Tryz.prog 28 #[.pointer (some ⟨B, 0, none⟩), .int .i64 x.node, .string x.text, .int .u64 (x.ix : Int)] w' fun r w2 => ∃ v, r = .returned v ∧ (∀ e', (∀ m, m ≠ 7 → e' m = e m) → e' 7 = v → StR base X x #[.int .i64 x.kind, .int .i64 x.node, .string x.text, .int .i64 x.s.val.a.node, .string x.s.val.a.id, .string x.s.val.a.name, .slice x.s.val.A x.s.val.n x.s.val.c, .int .i64 x.s.val.a.port, .int .u64 (x.s.made : Int), .int .u64 (x.s.ix : Int), .int .i64 x.c.val.node, .string x.c.val.id, .string x.c.val.svc, .string x.c.val.note, .int .i64 x.c.val.status, .int .u64 (x.c.made : Int), .int .u64 (x.c.ix : Int), .int .u64 (x.ix : Int)] 7 15 B B1 B2 B3 m D md d d' d2 d2' (.int .i64 (er1 : Int)) (.int .i64 (er2 : Int)) (Go.Rel.upd f 7) e' w2) ∧ But (Ch4 B1 B2 B3 D) w' w2) := Lib.hid fun f e w' hI hf =>
    hI.left (by decide) hf fun S h ht => by
      have h9 := rnode_any x.node x.text x.ix h HOk.out.node (Nat.le_trans HOk.out.text (by decide)) HOk.out.ix
      rw [show d.node ⟨x.node, x.text⟩ x.ix = (er1, d') from HE1.out] at h9
      exact h9
  have HCd : Hid (∀ (f : Nat → Bool) (e : Nat → Value) (w' : World), StR base X x #[.int .i64 x.kind, .int .i64 x.node, .string x.text, .int .i64 x.s.val.a.node, .string x.s.val.a.id, .string x.s.val.a.name, .slice x.s.val.A x.s.val.n x.s.val.c, .int .i64 x.s.val.a.port, .int .u64 (x.s.made : Int), .int .u64 (x.s.ix : Int), .int .i64 x.c.val.node, .string x.c.val.id, .string x.c.val.svc, .string x.c.val.note, .int .i64 x.c.val.status, .int .u64 (x.c.made : Int), .int .u64 (x.c.ix : Int), .int .u64 (x.ix : Int)] 7 15 B B1 B2 B3 m D md d d' d2 d2' (.int .i64 (er1 : Int)) (.int .i64 (er2 : Int)) f e w' → f 15 = false → Calls Tryz.prog 36 #[.pointer (some ⟨D, 0, none⟩), .int .i64 x.node, .string x.text, .int .u64 (x.ix : Int)] w' fun r w2 => ∃ v, r = .returned v ∧ (∀ e', (∀ m, m ≠ 15 → e' m = e m) → e' 15 = v → StR base X x #[.int .i64 x.kind, .int .i64 x.node, .string x.text, .int .i64 x.s.val.a.node, .string x.s.val.a.id, .string x.s.val.a.name, .slice x.s.val.A x.s.val.n x.s.val.c, .int .i64 x.s.val.a.port, .int .u64 (x.s.made : Int), .int .u64 (x.s.ix : Int), .int .i64 x.c.val.node, .string x.c.val.id, .string x.c.val.svc, .string x.c.val.note, .int .i64 x.c.val.status, .int .u64 (x.c.made : Int), .int .u64 (x.c.ix : Int), .int .u64 (x.ix : Int)] 7 15 B B1 B2 B3 m D md d d' d2 d2' (.int .i64 (er1 : Int)) (.int .i64 (er2 : Int)) (Go.Rel.upd f 15) e' w2) ∧ But (Ch4 B1 B2 B3 D) w' w2) := Lib.hid fun f e w' hI hf =>
    hI.right (by decide) hf fun S h ht => by
      have h9 := rdnode_any x.node x.text x.ix h (Nat.le_trans HOk.out.text (by decide)) HOk.out.ix
      rw [show d2.node ⟨x.node, x.text⟩ x.ix = (er2, d2') from HE2.out] at h9
      exact h9
  unfold stV
  rw [hk]
  have HKd := Lib.hid hk
  clear h hx ht ha1 ha2 he1 he2 b0 k0 hW1 hX hbq hk
  go_enter Tryz.func11, Tryz.ntmps11
  go_wp2_with fail
  rw [← HKd.out]
  rw [HW1.out, HX.out]
  have hre : ∀ w : World, (But (Ch4 B1 B2 B3 D)) w w := (fun w => But.refl _ w)
  have hrd : ∀ (ops9 : Array Oper) (f9 : Nat → Bool) (e9 : Nat → Value) (w9 : World) (i9 : Nat) (v9 : Value) (e8 : Nat → Value), [7, 15].contains i9 = false → (fun (f : Nat → Bool) (e : Nat → Value) (w : World) => StR base X x #[.int .i64 x.kind, .int .i64 x.node, .string x.text, .int .i64 x.s.val.a.node, .string x.s.val.a.id, .string x.s.val.a.name, .slice x.s.val.A x.s.val.n x.s.val.c, .int .i64 x.s.val.a.port, .int .u64 (x.s.made : Int), .int .u64 (x.s.ix : Int), .int .i64 x.c.val.node, .string x.c.val.id, .string x.c.val.svc, .string x.c.val.note, .int .i64 x.c.val.status, .int .u64 (x.c.made : Int), .int .u64 (x.c.ix : Int), .int .u64 (x.ix : Int)] 7 15 B B1 B2 B3 m D md d d' d2 d2' (.int .i64 (er1 : Int)) (.int .i64 (er2 : Int)) f e w) f9 e9 w9 → Go.Rel.Put ops9 i9 e9 v9 e8 → (fun (f : Nat → Bool) (e : Nat → Value) (w : World) => StR base X x #[.int .i64 x.kind, .int .i64 x.node, .string x.text, .int .i64 x.s.val.a.node, .string x.s.val.a.id, .string x.s.val.a.name, .slice x.s.val.A x.s.val.n x.s.val.c, .int .i64 x.s.val.a.port, .int .u64 (x.s.made : Int), .int .u64 (x.s.ix : Int), .int .i64 x.c.val.node, .string x.c.val.id, .string x.c.val.svc, .string x.c.val.note, .int .i64 x.c.val.status, .int .u64 (x.c.made : Int), .int .u64 (x.c.ix : Int), .int .u64 (x.ix : Int)] 7 15 B B1 B2 B3 m D md d d' d2 d2' (.int .i64 (er1 : Int)) (.int .i64 (er2 : Int)) f e w) (Go.Rel.upd f9 i9) e8 w9 := (fun _ _ _ _ _ _ _ hj h hp => StR.keep hj h hp)
  refine Go.Rel.wp_tabe (by kernel_rfl) (by kernel_rfl) (fun (f : Nat → Bool) (e : Nat → Value) (w : World) => StR base X x #[.int .i64 x.kind, .int .i64 x.node, .string x.text, .int .i64 x.s.val.a.node, .string x.s.val.a.id, .string x.s.val.a.name, .slice x.s.val.A x.s.val.n x.s.val.c, .int .i64 x.s.val.a.port, .int .u64 (x.s.made : Int), .int .u64 (x.s.ix : Int), .int .i64 x.c.val.node, .string x.c.val.id, .string x.c.val.svc, .string x.c.val.note, .int .i64 x.c.val.status, .int .u64 (x.c.made : Int), .int .u64 (x.c.ix : Int), .int .u64 (x.ix : Int)] 7 15 B B1 B2 B3 m D md d d' d2 d2' (.int .i64 (er1 : Int)) (.int .i64 (er2 : Int)) f e w) (But (Ch4 B1 B2 B3 D)) hre ((fun _ _ _ h k => h.trans k)) ((But.refl _ _).drew) (fun e => StR.start HBo.out HK1.out HOut.out HTg.out e) (rst0 B D X x bq) (fun | 7, v, w => True | 15, v, w => True | _, _, _ => True) (fun i => ([7, 15] : List Nat).contains i) (fun i => ([2, 4, 6, 7, 10, 12, 14, 15, 16] : List Nat).contains i) (by kernel_rfl) (fun i v w w' h g => by revert h; split <;> exact id) [7, 15] (by decide) (hrd _) ?_ (Go.Rel.AllOf.get ?_) ?_
  · repeat (refine .cons (by first | exact Go.Rel.pure_sp rfl | exact Go.Rel.pure_yes (by kernel_rfl) (fun _ => by kernel_rfl) | exact Go.Rel.pure_no (by kernel_rfl) rfl) ?_)
    exact .nil
  · refine ⟨?_, ?_, ?_, ?_, ?_, ?_, ?_, ?_, ?_, trivial⟩
    · exact SpecE.ld (hrd _) hre (q := .pointer (some ⟨X, 1, none⟩)) (h := fun _ w' _ hI _ _ _ _ => by obtain ⟨y0, y1, y2, y3, y4, y5, y6, y7, y8, y9, y10, y11, y12, y13, y14, y15, y16, y17⟩ := st_blk (x := x) hI.blk; go_simp; rfl)
    · exact SpecE.ld (hrd _) hre (q := .pointer (some ⟨X, 2, none⟩)) (h := fun _ w' _ hI _ _ _ _ => by obtain ⟨y0, y1, y2, y3, y4, y5, y6, y7, y8, y9, y10, y11, y12, y13, y14, y15, y16, y17⟩ := st_blk (x := x) hI.blk; go_simp; rfl)
    · exact SpecE.ld (hrd _) hre (q := .pointer (some ⟨X, 17, none⟩)) (h := fun _ w' _ hI _ _ _ _ => by obtain ⟨y0, y1, y2, y3, y4, y5, y6, y7, y8, y9, y10, y11, y12, y13, y14, y15, y16, y17⟩ := st_blk (x := x) hI.blk; go_simp; rfl)
    · refine SpecE.gen (fun e => [(12, .pointer (some ⟨B, 0, none⟩)), (14, .int .i64 x.node), (16, .string x.text), (18, .int .u64 (x.ix : Int))]) rfl rfl (fun _ => by kernel_rfl) fun f w' e hI hf hdesc hanc hle hX K hK => ?_
      go_simp
      refine (HCp.out f e w' hI hf).mono ?_
      rintro e9 w9 ⟨v9, rfl, h9, hb9⟩
      exact hK _ _ hb9 (fun e' hp => h9 e' (fun m hm => hp.1 m hm) (hp.2 rfl)) trivial
    · exact SpecE.ld (hrd _) hre (q := .pointer (some ⟨X, 1, none⟩)) (h := fun _ w' _ hI _ _ _ _ => by obtain ⟨y0, y1, y2, y3, y4, y5, y6, y7, y8, y9, y10, y11, y12, y13, y14, y15, y16, y17⟩ := st_blk (x := x) hI.blk; go_simp; rfl)
    · exact SpecE.ld (hrd _) hre (q := .pointer (some ⟨X, 2, none⟩)) (h := fun _ w' _ hI _ _ _ _ => by obtain ⟨y0, y1, y2, y3, y4, y5, y6, y7, y8, y9, y10, y11, y12, y13, y14, y15, y16, y17⟩ := st_blk (x := x) hI.blk; go_simp; rfl)
    · exact SpecE.ld (hrd _) hre (q := .pointer (some ⟨X, 17, none⟩)) (h := fun _ w' _ hI _ _ _ _ => by obtain ⟨y0, y1, y2, y3, y4, y5, y6, y7, y8, y9, y10, y11, y12, y13, y14, y15, y16, y17⟩ := st_blk (x := x) hI.blk; go_simp; rfl)
    · refine SpecE.gen (fun e => [(20, .pointer (some ⟨D, 0, none⟩)), (22, .int .i64 x.node), (24, .string x.text), (26, .int .u64 (x.ix : Int))]) rfl rfl (fun _ => by kernel_rfl) fun f w' e hI hf hdesc hanc hle hX K hK => ?_
      go_simp
      refine (HCd.out f e w' hI hf).mono ?_
      rintro e9 w9 ⟨v9, rfl, h9, hb9⟩
      exact hK _ _ hb9 (fun e' hp => h9 e' (fun m hm => hp.1 m hm) (hp.2 rfl)) trivial
    · refine SpecE.gen (fun e => [(19, e 7), (27, e 15)]) rfl rfl (fun _ => by kernel_rfl) fun f w' e hI hf hdesc hanc hle hX K hK => ?_
      have q1 := hI.k1 (hanc 60 7 (by kernel_rfl))
      have q2 := hI.k2 (hanc 60 15 (by kernel_rfl))
      have qq := HBq.out
      simp only [q1, q2]
      go_simp
      exact hK _ _ (hre _) (fun e' hp => hrd _ f e w' 16 _ e' rfl hI hp) rfl
  · intro f w2 e hall hJ hle hv
    have hb2 := hJ.both
    rw [hall 7 (by decide), hall 15 (by decide)] at hb2
    have HB2 := Lib.hid hb2
    have HL2 := Lib.hid hle
    have v9 := hv 17 rfl
    simp only [Go.Rel.finL, List.setIfInBounds_toArray, List.set_cons_succ, List.set_cons_zero]
    rw [show e 17 = .bool bq from v9]
    clear hv hall hJ hle hb2 v9
    go_wp2
    go_ret
    exact ⟨bq, rfl, HB2.out, (But.of_below HB0.out).trans HL2.out, HBq2.out⟩
def rst1 (B : Nat) (D : Nat) (X : Nat) (x : RSt) (bq : Bool) : Nat → Value
  | 0 => .pointer (some ⟨B, 0, none⟩)
  | 1 | 7 => .pointer (some ⟨X, 1, none⟩)
  | 2 | 8 => .int .i64 x.node
  | 3 | 9 => .pointer (some ⟨X, 17, none⟩)
  | 4 | 10 => .int .u64 (x.ix : Int)
  | 6 => .pointer (some ⟨D, 0, none⟩)
  | 12 | 13 => .bool bq
  | _ => undef
set_option maxHeartbeats 4000000 in
set_option maxRecDepth 100000 in
theorem step1_any {base : Nat} {w : World} {B B1 B2 B3 m D md : Nat} {d d2 : Ro} (x : RSt) (h : Both base w B B1 B2 B3 m d D md d2) (hx : x.Ok w) (ht : TgAt (fun k => k < base) w x.s.val) (hk : x.kind = 1) : Calls Tryz.prog 11 #[.pointer (some ⟨B, 0, none⟩), .pointer (some ⟨D, 0, none⟩), stV x] w fun e w' => StepPost base w B B1 B2 B3 m (x.after d).2 D md (x.after d2).2 ((x.after d).1 = (x.after d2).1) e w' := by
  have ha1 : x.after d = d.dropN x.node x.ix := by unfold RSt.after; simp only [hk]; rfl
  have ha2 : x.after d2 = d2.dropN x.node x.ix := by unfold RSt.after; simp only [hk]; rfl
  rw [ha1, ha2]
  obtain ⟨⟨er1, d'⟩, he1⟩ : ∃ r, d.dropN x.node x.ix = r := ⟨_, rfl⟩
  obtain ⟨⟨er2, d2'⟩, he2⟩ : ∃ r, d2.dropN x.node x.ix = r := ⟨_, rfl⟩
  rw [he1, he2]
  have HE1 := Lib.hid he1
  have HE2 := Lib.hid he2
  have HOk := Lib.hid hx
  have HSi := Lib.hid (fun (W : World) (ht : TgAt (fun k => k < base) W x.s.val) => (⟨hx.s.node, hx.s.port, hx.s.id, hx.s.name, ht.tx, hx.s.small⟩ : SvIn W x.s))
  have b0 := below1 w #[.int .i64 x.kind, .int .i64 x.node, .string x.text, .int .i64 x.s.val.a.node, .string x.s.val.a.id, .string x.s.val.a.name, .slice x.s.val.A x.s.val.n x.s.val.c, .int .i64 x.s.val.a.port, .int .u64 (x.s.made : Int), .int .u64 (x.s.ix : Int), .int .i64 x.c.val.node, .string x.c.val.id, .string x.c.val.svc, .string x.c.val.note, .int .i64 x.c.val.status, .int .u64 (x.c.made : Int), .int .u64 (x.c.ix : Int), .int .u64 (x.ix : Int)] TRs
  have k0 := heap_alloc_new w (.cells #[.int .i64 x.kind, .int .i64 x.node, .string x.text, .int .i64 x.s.val.a.node, .string x.s.val.a.id, .string x.s.val.a.name, .slice x.s.val.A x.s.val.n x.s.val.c, .int .i64 x.s.val.a.port, .int .u64 (x.s.made : Int), .int .u64 (x.s.ix : Int), .int .i64 x.c.val.node, .string x.c.val.id, .string x.c.val.svc, .string x.c.val.note, .int .i64 x.c.val.status, .int .u64 (x.c.made : Int), .int .u64 (x.c.ix : Int), .int .u64 (x.ix : Int)] TRs)
  obtain ⟨X, hX⟩ : ∃ X, w.heap.size = X := ⟨_, rfl⟩
  obtain ⟨W1, hW1⟩ : ∃ W1, w.alloc (.cells #[.int .i64 x.kind, .int .i64 x.node, .string x.text, .int .i64 x.s.val.a.node, .string x.s.val.a.id, .string x.s.val.a.name, .slice x.s.val.A x.s.val.n x.s.val.c, .int .i64 x.s.val.a.port, .int .u64 (x.s.made : Int), .int .u64 (x.s.ix : Int), .int .i64 x.c.val.node, .string x.c.val.id, .string x.c.val.svc, .string x.c.val.note, .int .i64 x.c.val.status, .int .u64 (x.c.made : Int), .int .u64 (x.c.ix : Int), .int .u64 (x.ix : Int)] TRs) = W1 := ⟨_, rfl⟩
  rw [hW1] at b0 k0
  rw [hX] at k0
  have HBo := Lib.hid (h.below b0)
  have HOut : Hid (¬ Ch4 B1 B2 B3 D X) := Lib.hid (by
    have := h.lt
    rintro ((z | z | z) | z) <;> omega)
  have HTg := Lib.hid (ht.below b0)
  have HB0 := Lib.hid b0
  have HK1 := Lib.hid k0
  have HW1 := Lib.hid hW1
  have HX := Lib.hid hX
  obtain ⟨bq, hbq⟩ : ∃ bq, ((er1 : Int) == (er2 : Int)) = bq := ⟨_, rfl⟩
  have HBq := Lib.hid hbq
  have HBq2 : Hid (er1 = er2 → bq = true) := Lib.hid (fun e => by rw [← hbq, e]; simp)
  have HCp : Hid (∀ (f : Nat → Bool) (e : Nat → Value) (w' : World), StR base X x #[.int .i64 x.kind, .int .i64 x.node, .string x.text, .int .i64 x.s.val.a.node, .string x.s.val.a.id, .string x.s.val.a.name, .slice x.s.val.A x.s.val.n x.s.val.c, .int .i64 x.s.val.a.port, .int .u64 (x.s.made : Int), .int .u64 (x.s.ix : Int), .int .i64 x.c.val.node, .string x.c.val.id, .string x.c.val.svc, .string x.c.val.note, .int .i64 x.c.val.status, .int .u64 (x.c.made : Int), .int .u64 (x.c.ix : Int), .int .u64 (x.ix : Int)] 5 11 B B1 B2 B3 m D md d d' d2 d2' (.int .i64 (er1 : Int)) (.int .i64 (er2 : Int)) f e w' → f 5 = false → Calls Tryz.prog 29 #[.pointer (some ⟨B, 0, none⟩), .int .i64 x.node, .int .u64 (x.ix : Int)] w' fun r w2 => ∃ v, r = .returned v ∧ (∀ e', (∀ m, m ≠ 5 → e' m = e m) → e' 5 = v → StR base X x #[.int .i64 x.kind, .int .i64 x.node, .string x.text, .int .i64 x.s.val.a.node, .string x.s.val.a.id, .string x.s.val.a.name, .slice x.s.val.A x.s.val.n x.s.val.c, .int .i64 x.s.val.a.port, .int .u64 (x.s.made : Int), .int .u64 (x.s.ix : Int), .int .i64 x.c.val.node, .string x.c.val.id, .string x.c.val.svc, .string x.c.val.note, .int .i64 x.c.val.status, .int .u64 (x.c.made : Int), .int .u64 (x.c.ix : Int), .int .u64 (x.ix : Int)] 5 11 B B1 B2 B3 m D md d d' d2 d2' (.int .i64 (er1 : Int)) (.int .i64 (er2 : Int)) (Go.Rel.upd f 5) e' w2) ∧ But (Ch4 B1 B2 B3 D) w' w2) := Lib.hid fun f e w' hI hf =>
    hI.left (by decide) hf fun S h ht => by
      have h9 := rdropnode_any x.node x.ix h HOk.out.node HOk.out.ix
      rw [show d.dropN x.node x.ix = (er1, d') from HE1.out] at h9
      exact h9
  have HCd : Hid (∀ (f : Nat → Bool) (e : Nat → Value) (w' : World), StR base X x #[.int .i64 x.kind, .int .i64 x.node, .string x.text, .int .i64 x.s.val.a.node, .string x.s.val.a.id, .string x.s.val.a.name, .slice x.s.val.A x.s.val.n x.s.val.c, .int .i64 x.s.val.a.port, .int .u64 (x.s.made : Int), .int .u64 (x.s.ix : Int), .int .i64 x.c.val.node, .string x.c.val.id, .string x.c.val.svc, .string x.c.val.note, .int .i64 x.c.val.status, .int .u64 (x.c.made : Int), .int .u64 (x.c.ix : Int), .int .u64 (x.ix : Int)] 5 11 B B1 B2 B3 m D md d d' d2 d2' (.int .i64 (er1 : Int)) (.int .i64 (er2 : Int)) f e w' → f 11 = false → Calls Tryz.prog 37 #[.pointer (some ⟨D, 0, none⟩), .int .i64 x.node, .int .u64 (x.ix : Int)] w' fun r w2 => ∃ v, r = .returned v ∧ (∀ e', (∀ m, m ≠ 11 → e' m = e m) → e' 11 = v → StR base X x #[.int .i64 x.kind, .int .i64 x.node, .string x.text, .int .i64 x.s.val.a.node, .string x.s.val.a.id, .string x.s.val.a.name, .slice x.s.val.A x.s.val.n x.s.val.c, .int .i64 x.s.val.a.port, .int .u64 (x.s.made : Int), .int .u64 (x.s.ix : Int), .int .i64 x.c.val.node, .string x.c.val.id, .string x.c.val.svc, .string x.c.val.note, .int .i64 x.c.val.status, .int .u64 (x.c.made : Int), .int .u64 (x.c.ix : Int), .int .u64 (x.ix : Int)] 5 11 B B1 B2 B3 m D md d d' d2 d2' (.int .i64 (er1 : Int)) (.int .i64 (er2 : Int)) (Go.Rel.upd f 11) e' w2) ∧ But (Ch4 B1 B2 B3 D) w' w2) := Lib.hid fun f e w' hI hf =>
    hI.right (by decide) hf fun S h ht => by
      have h9 := rddropnode_any x.node x.ix h HOk.out.ix
      rw [show d2.dropN x.node x.ix = (er2, d2') from HE2.out] at h9
      exact h9
  unfold stV
  rw [hk]
  have HKd := Lib.hid hk
  clear h hx ht ha1 ha2 he1 he2 b0 k0 hW1 hX hbq hk
  go_enter Tryz.func11, Tryz.ntmps11
  go_wp2_with fail
  rw [← HKd.out]
  rw [HW1.out, HX.out]
  have hre : ∀ w : World, (But (Ch4 B1 B2 B3 D)) w w := (fun w => But.refl _ w)
  have hrd : ∀ (ops9 : Array Oper) (f9 : Nat → Bool) (e9 : Nat → Value) (w9 : World) (i9 : Nat) (v9 : Value) (e8 : Nat → Value), [5, 11].contains i9 = false → (fun (f : Nat → Bool) (e : Nat → Value) (w : World) => StR base X x #[.int .i64 x.kind, .int .i64 x.node, .string x.text, .int .i64 x.s.val.a.node, .string x.s.val.a.id, .string x.s.val.a.name, .slice x.s.val.A x.s.val.n x.s.val.c, .int .i64 x.s.val.a.port, .int .u64 (x.s.made : Int), .int .u64 (x.s.ix : Int), .int .i64 x.c.val.node, .string x.c.val.id, .string x.c.val.svc, .string x.c.val.note, .int .i64 x.c.val.status, .int .u64 (x.c.made : Int), .int .u64 (x.c.ix : Int), .int .u64 (x.ix : Int)] 5 11 B B1 B2 B3 m D md d d' d2 d2' (.int .i64 (er1 : Int)) (.int .i64 (er2 : Int)) f e w) f9 e9 w9 → Go.Rel.Put ops9 i9 e9 v9 e8 → (fun (f : Nat → Bool) (e : Nat → Value) (w : World) => StR base X x #[.int .i64 x.kind, .int .i64 x.node, .string x.text, .int .i64 x.s.val.a.node, .string x.s.val.a.id, .string x.s.val.a.name, .slice x.s.val.A x.s.val.n x.s.val.c, .int .i64 x.s.val.a.port, .int .u64 (x.s.made : Int), .int .u64 (x.s.ix : Int), .int .i64 x.c.val.node, .string x.c.val.id, .string x.c.val.svc, .string x.c.val.note, .int .i64 x.c.val.status, .int .u64 (x.c.made : Int), .int .u64 (x.c.ix : Int), .int .u64 (x.ix : Int)] 5 11 B B1 B2 B3 m D md d d' d2 d2' (.int .i64 (er1 : Int)) (.int .i64 (er2 : Int)) f e w) (Go.Rel.upd f9 i9) e8 w9 := (fun _ _ _ _ _ _ _ hj h hp => StR.keep hj h hp)
  refine Go.Rel.wp_tabe (by kernel_rfl) (by kernel_rfl) (fun (f : Nat → Bool) (e : Nat → Value) (w : World) => StR base X x #[.int .i64 x.kind, .int .i64 x.node, .string x.text, .int .i64 x.s.val.a.node, .string x.s.val.a.id, .string x.s.val.a.name, .slice x.s.val.A x.s.val.n x.s.val.c, .int .i64 x.s.val.a.port, .int .u64 (x.s.made : Int), .int .u64 (x.s.ix : Int), .int .i64 x.c.val.node, .string x.c.val.id, .string x.c.val.svc, .string x.c.val.note, .int .i64 x.c.val.status, .int .u64 (x.c.made : Int), .int .u64 (x.c.ix : Int), .int .u64 (x.ix : Int)] 5 11 B B1 B2 B3 m D md d d' d2 d2' (.int .i64 (er1 : Int)) (.int .i64 (er2 : Int)) f e w) (But (Ch4 B1 B2 B3 D)) hre ((fun _ _ _ h k => h.trans k)) ((But.refl _ _).drew) (fun e => StR.start HBo.out HK1.out HOut.out HTg.out e) (rst1 B D X x bq) (fun | 5, v, w => True | 11, v, w => True | _, _, _ => True) (fun i => ([5, 11] : List Nat).contains i) (fun i => ([2, 4, 5, 8, 10, 11, 12] : List Nat).contains i) (by kernel_rfl) (fun i v w w' h g => by revert h; split <;> exact id) [5, 11] (by decide) (hrd _) ?_ (Go.Rel.AllOf.get ?_) ?_
  · repeat (refine .cons (by first | exact Go.Rel.pure_sp rfl | exact Go.Rel.pure_yes (by kernel_rfl) (fun _ => by kernel_rfl) | exact Go.Rel.pure_no (by kernel_rfl) rfl) ?_)
    exact .nil
  · refine ⟨?_, ?_, ?_, ?_, ?_, ?_, ?_, trivial⟩
    · exact SpecE.ld (hrd _) hre (q := .pointer (some ⟨X, 1, none⟩)) (h := fun _ w' _ hI _ _ _ _ => by obtain ⟨y0, y1, y2, y3, y4, y5, y6, y7, y8, y9, y10, y11, y12, y13, y14, y15, y16, y17⟩ := st_blk (x := x) hI.blk; go_simp; rfl)
    · exact SpecE.ld (hrd _) hre (q := .pointer (some ⟨X, 17, none⟩)) (h := fun _ w' _ hI _ _ _ _ => by obtain ⟨y0, y1, y2, y3, y4, y5, y6, y7, y8, y9, y10, y11, y12, y13, y14, y15, y16, y17⟩ := st_blk (x := x) hI.blk; go_simp; rfl)
    · refine SpecE.gen (fun e => [(31, .pointer (some ⟨B, 0, none⟩)), (33, .int .i64 x.node), (35, .int .u64 (x.ix : Int))]) rfl rfl (fun _ => by kernel_rfl) fun f w' e hI hf hdesc hanc hle hX K hK => ?_
      go_simp
      refine (HCp.out f e w' hI hf).mono ?_
      rintro e9 w9 ⟨v9, rfl, h9, hb9⟩
      exact hK _ _ hb9 (fun e' hp => h9 e' (fun m hm => hp.1 m hm) (hp.2 rfl)) trivial
    · exact SpecE.ld (hrd _) hre (q := .pointer (some ⟨X, 1, none⟩)) (h := fun _ w' _ hI _ _ _ _ => by obtain ⟨y0, y1, y2, y3, y4, y5, y6, y7, y8, y9, y10, y11, y12, y13, y14, y15, y16, y17⟩ := st_blk (x := x) hI.blk; go_simp; rfl)
    · exact SpecE.ld (hrd _) hre (q := .pointer (some ⟨X, 17, none⟩)) (h := fun _ w' _ hI _ _ _ _ => by obtain ⟨y0, y1, y2, y3, y4, y5, y6, y7, y8, y9, y10, y11, y12, y13, y14, y15, y16, y17⟩ := st_blk (x := x) hI.blk; go_simp; rfl)
    · refine SpecE.gen (fun e => [(37, .pointer (some ⟨D, 0, none⟩)), (39, .int .i64 x.node), (41, .int .u64 (x.ix : Int))]) rfl rfl (fun _ => by kernel_rfl) fun f w' e hI hf hdesc hanc hle hX K hK => ?_
      go_simp
      refine (HCd.out f e w' hI hf).mono ?_
      rintro e9 w9 ⟨v9, rfl, h9, hb9⟩
      exact hK _ _ hb9 (fun e' hp => h9 e' (fun m hm => hp.1 m hm) (hp.2 rfl)) trivial
    · refine SpecE.gen (fun e => [(36, e 5), (42, e 11)]) rfl rfl (fun _ => by kernel_rfl) fun f w' e hI hf hdesc hanc hle hX K hK => ?_
      have q1 := hI.k1 (hanc 60 5 (by kernel_rfl))
      have q2 := hI.k2 (hanc 60 11 (by kernel_rfl))
      have qq := HBq.out
      simp only [q1, q2]
      go_simp
      exact hK _ _ (hre _) (fun e' hp => hrd _ f e w' 12 _ e' rfl hI hp) rfl
  · intro f w2 e hall hJ hle hv
    have hb2 := hJ.both
    rw [hall 5 (by decide), hall 11 (by decide)] at hb2
    have HB2 := Lib.hid hb2
    have HL2 := Lib.hid hle
    have v9 := hv 13 rfl
    simp only [Go.Rel.finL, List.setIfInBounds_toArray, List.set_cons_succ, List.set_cons_zero]
    rw [show e 13 = .bool bq from v9]
    clear hv hall hJ hle hb2 v9
    go_wp2
    go_ret
    exact ⟨bq, rfl, HB2.out, (But.of_below HB0.out).trans HL2.out, HBq2.out⟩
def rst2 (B : Nat) (D : Nat) (X : Nat) (x : RSt) (bq : Bool) : Nat → Value
  | 0 => .pointer (some ⟨B, 0, none⟩)
  | 1 | 7 => .pointer (some ⟨X, 3, none⟩)
  | 2 | 8 => .agg #[.int .i64 x.s.val.a.node, .string x.s.val.a.id, .string x.s.val.a.name, .slice x.s.val.A x.s.val.n x.s.val.c, .int .i64 x.s.val.a.port, .int .u64 (x.s.made : Int), .int .u64 (x.s.ix : Int)]
  | 3 | 9 => .pointer (some ⟨X, 17, none⟩)
  | 4 | 10 => .int .u64 (x.ix : Int)
  | 6 => .pointer (some ⟨D, 0, none⟩)
  | 12 | 13 => .bool bq
  | _ => undef
set_option maxHeartbeats 4000000 in
set_option maxRecDepth 100000 in
theorem step2_any {base : Nat} {w : World} {B B1 B2 B3 m D md : Nat} {d d2 : Ro} (x : RSt) (h : Both base w B B1 B2 B3 m d D md d2) (hx : x.Ok w) (ht : TgAt (fun k => k < base) w x.s.val) (hk : x.kind = 2) : Calls Tryz.prog 11 #[.pointer (some ⟨B, 0, none⟩), .pointer (some ⟨D, 0, none⟩), stV x] w fun e w' => StepPost base w B B1 B2 B3 m (x.after d).2 D md (x.after d2).2 ((x.after d).1 = (x.after d2).1) e w' := by
  have ha1 : x.after d = d.service x.s.val.a x.ix := by unfold RSt.after; simp only [hk]; rfl
  have ha2 : x.after d2 = d2.service x.s.val.a x.ix := by unfold RSt.after; simp only [hk]; rfl
  rw [ha1, ha2]
  obtain ⟨⟨er1, d'⟩, he1⟩ : ∃ r, d.service x.s.val.a x.ix = r := ⟨_, rfl⟩
  obtain ⟨⟨er2, d2'⟩, he2⟩ : ∃ r, d2.service x.s.val.a x.ix = r := ⟨_, rfl⟩
  rw [he1, he2]
  have HE1 := Lib.hid he1
  have HE2 := Lib.hid he2
  have HOk := Lib.hid hx
  have HSi := Lib.hid (fun (W : World) (ht : TgAt (fun k => k < base) W x.s.val) => (⟨hx.s.node, hx.s.port, hx.s.id, hx.s.name, ht.tx, hx.s.small⟩ : SvIn W x.s))
  have b0 := below1 w #[.int .i64 x.kind, .int .i64 x.node, .string x.text, .int .i64 x.s.val.a.node, .string x.s.val.a.id, .string x.s.val.a.name, .slice x.s.val.A x.s.val.n x.s.val.c, .int .i64 x.s.val.a.port, .int .u64 (x.s.made : Int), .int .u64 (x.s.ix : Int), .int .i64 x.c.val.node, .string x.c.val.id, .string x.c.val.svc, .string x.c.val.note, .int .i64 x.c.val.status, .int .u64 (x.c.made : Int), .int .u64 (x.c.ix : Int), .int .u64 (x.ix : Int)] TRs
  have k0 := heap_alloc_new w (.cells #[.int .i64 x.kind, .int .i64 x.node, .string x.text, .int .i64 x.s.val.a.node, .string x.s.val.a.id, .string x.s.val.a.name, .slice x.s.val.A x.s.val.n x.s.val.c, .int .i64 x.s.val.a.port, .int .u64 (x.s.made : Int), .int .u64 (x.s.ix : Int), .int .i64 x.c.val.node, .string x.c.val.id, .string x.c.val.svc, .string x.c.val.note, .int .i64 x.c.val.status, .int .u64 (x.c.made : Int), .int .u64 (x.c.ix : Int), .int .u64 (x.ix : Int)] TRs)
  obtain ⟨X, hX⟩ : ∃ X, w.heap.size = X := ⟨_, rfl⟩
  obtain ⟨W1, hW1⟩ : ∃ W1, w.alloc (.cells #[.int .i64 x.kind, .int .i64 x.node, .string x.text, .int .i64 x.s.val.a.node, .string x.s.val.a.id, .string x.s.val.a.name, .slice x.s.val.A x.s.val.n x.s.val.c, .int .i64 x.s.val.a.port, .int .u64 (x.s.made : Int), .int .u64 (x.s.ix : Int), .int .i64 x.c.val.node, .string x.c.val.id, .string x.c.val.svc, .string x.c.val.note, .int .i64 x.c.val.status, .int .u64 (x.c.made : Int), .int .u64 (x.c.ix : Int), .int .u64 (x.ix : Int)] TRs) = W1 := ⟨_, rfl⟩
  rw [hW1] at b0 k0
  rw [hX] at k0
  have HBo := Lib.hid (h.below b0)
  have HOut : Hid (¬ Ch4 B1 B2 B3 D X) := Lib.hid (by
    have := h.lt
    rintro ((z | z | z) | z) <;> omega)
  have HTg := Lib.hid (ht.below b0)
  have HB0 := Lib.hid b0
  have HK1 := Lib.hid k0
  have HW1 := Lib.hid hW1
  have HX := Lib.hid hX
  obtain ⟨bq, hbq⟩ : ∃ bq, ((er1 : Int) == (er2 : Int)) = bq := ⟨_, rfl⟩
  have HBq := Lib.hid hbq
  have HBq2 : Hid (er1 = er2 → bq = true) := Lib.hid (fun e => by rw [← hbq, e]; simp)
  have HCp : Hid (∀ (f : Nat → Bool) (e : Nat → Value) (w' : World), StR base X x #[.int .i64 x.kind, .int .i64 x.node, .string x.text, .int .i64 x.s.val.a.node, .string x.s.val.a.id, .string x.s.val.a.name, .slice x.s.val.A x.s.val.n x.s.val.c, .int .i64 x.s.val.a.port, .int .u64 (x.s.made : Int), .int .u64 (x.s.ix : Int), .int .i64 x.c.val.node, .string x.c.val.id, .string x.c.val.svc, .string x.c.val.note, .int .i64 x.c.val.status, .int .u64 (x.c.made : Int), .int .u64 (x.c.ix : Int), .int .u64 (x.ix : Int)] 5 11 B B1 B2 B3 m D md d d' d2 d2' (.int .i64 (er1 : Int)) (.int .i64 (er2 : Int)) f e w' → f 5 = false → Calls Tryz.prog 30 #[.pointer (some ⟨B, 0, none⟩), .agg #[.int .i64 x.s.val.a.node, .string x.s.val.a.id, .string x.s.val.a.name, .slice x.s.val.A x.s.val.n x.s.val.c, .int .i64 x.s.val.a.port, .int .u64 (x.s.made : Int), .int .u64 (x.s.ix : Int)], .int .u64 (x.ix : Int)] w' fun r w2 => ∃ v, r = .returned v ∧ (∀ e', (∀ m, m ≠ 5 → e' m = e m) → e' 5 = v → StR base X x #[.int .i64 x.kind, .int .i64 x.node, .string x.text, .int .i64 x.s.val.a.node, .string x.s.val.a.id, .string x.s.val.a.name, .slice x.s.val.A x.s.val.n x.s.val.c, .int .i64 x.s.val.a.port, .int .u64 (x.s.made : Int), .int .u64 (x.s.ix : Int), .int .i64 x.c.val.node, .string x.c.val.id, .string x.c.val.svc, .string x.c.val.note, .int .i64 x.c.val.status, .int .u64 (x.c.made : Int), .int .u64 (x.c.ix : Int), .int .u64 (x.ix : Int)] 5 11 B B1 B2 B3 m D md d d' d2 d2' (.int .i64 (er1 : Int)) (.int .i64 (er2 : Int)) (Go.Rel.upd f 5) e' w2) ∧ But (Ch4 B1 B2 B3 D) w' w2) := Lib.hid fun f e w' hI hf =>
    hI.left (by decide) hf fun S h ht => by
      have h9 := rservice_any x.s x.ix h (HSi.out _ ht) HOk.out.ix
      rw [show d.service x.s.val.a x.ix = (er1, d') from HE1.out] at h9
      exact h9
  have HCd : Hid (∀ (f : Nat → Bool) (e : Nat → Value) (w' : World), StR base X x #[.int .i64 x.kind, .int .i64 x.node, .string x.text, .int .i64 x.s.val.a.node, .string x.s.val.a.id, .string x.s.val.a.name, .slice x.s.val.A x.s.val.n x.s.val.c, .int .i64 x.s.val.a.port, .int .u64 (x.s.made : Int), .int .u64 (x.s.ix : Int), .int .i64 x.c.val.node, .string x.c.val.id, .string x.c.val.svc, .string x.c.val.note, .int .i64 x.c.val.status, .int .u64 (x.c.made : Int), .int .u64 (x.c.ix : Int), .int .u64 (x.ix : Int)] 5 11 B B1 B2 B3 m D md d d' d2 d2' (.int .i64 (er1 : Int)) (.int .i64 (er2 : Int)) f e w' → f 11 = false → Calls Tryz.prog 38 #[.pointer (some ⟨D, 0, none⟩), .agg #[.int .i64 x.s.val.a.node, .string x.s.val.a.id, .string x.s.val.a.name, .slice x.s.val.A x.s.val.n x.s.val.c, .int .i64 x.s.val.a.port, .int .u64 (x.s.made : Int), .int .u64 (x.s.ix : Int)], .int .u64 (x.ix : Int)] w' fun r w2 => ∃ v, r = .returned v ∧ (∀ e', (∀ m, m ≠ 11 → e' m = e m) → e' 11 = v → StR base X x #[.int .i64 x.kind, .int .i64 x.node, .string x.text, .int .i64 x.s.val.a.node, .string x.s.val.a.id, .string x.s.val.a.name, .slice x.s.val.A x.s.val.n x.s.val.c, .int .i64 x.s.val.a.port, .int .u64 (x.s.made : Int), .int .u64 (x.s.ix : Int), .int .i64 x.c.val.node, .string x.c.val.id, .string x.c.val.svc, .string x.c.val.note, .int .i64 x.c.val.status, .int .u64 (x.c.made : Int), .int .u64 (x.c.ix : Int), .int .u64 (x.ix : Int)] 5 11 B B1 B2 B3 m D md d d' d2 d2' (.int .i64 (er1 : Int)) (.int .i64 (er2 : Int)) (Go.Rel.upd f 11) e' w2) ∧ But (Ch4 B1 B2 B3 D) w' w2) := Lib.hid fun f e w' hI hf =>
    hI.right (by decide) hf fun S h ht => by
      have h9 := rdservice_any x.s x.ix h (HSi.out _ ht) ht HOk.out.ix
      rw [show d2.service x.s.val.a x.ix = (er2, d2') from HE2.out] at h9
      exact h9
  unfold stV
  rw [hk]
  have HKd := Lib.hid hk
  clear h hx ht ha1 ha2 he1 he2 b0 k0 hW1 hX hbq hk
  go_enter Tryz.func11, Tryz.ntmps11
  go_wp2_with fail
  rw [← HKd.out]
  rw [HW1.out, HX.out]
  have hre : ∀ w : World, (But (Ch4 B1 B2 B3 D)) w w := (fun w => But.refl _ w)
  have hrd : ∀ (ops9 : Array Oper) (f9 : Nat → Bool) (e9 : Nat → Value) (w9 : World) (i9 : Nat) (v9 : Value) (e8 : Nat → Value), [5, 11].contains i9 = false → (fun (f : Nat → Bool) (e : Nat → Value) (w : World) => StR base X x #[.int .i64 x.kind, .int .i64 x.node, .string x.text, .int .i64 x.s.val.a.node, .string x.s.val.a.id, .string x.s.val.a.name, .slice x.s.val.A x.s.val.n x.s.val.c, .int .i64 x.s.val.a.port, .int .u64 (x.s.made : Int), .int .u64 (x.s.ix : Int), .int .i64 x.c.val.node, .string x.c.val.id, .string x.c.val.svc, .string x.c.val.note, .int .i64 x.c.val.status, .int .u64 (x.c.made : Int), .int .u64 (x.c.ix : Int), .int .u64 (x.ix : Int)] 5 11 B B1 B2 B3 m D md d d' d2 d2' (.int .i64 (er1 : Int)) (.int .i64 (er2 : Int)) f e w) f9 e9 w9 → Go.Rel.Put ops9 i9 e9 v9 e8 → (fun (f : Nat → Bool) (e : Nat → Value) (w : World) => StR base X x #[.int .i64 x.kind, .int .i64 x.node, .string x.text, .int .i64 x.s.val.a.node, .string x.s.val.a.id, .string x.s.val.a.name, .slice x.s.val.A x.s.val.n x.s.val.c, .int .i64 x.s.val.a.port, .int .u64 (x.s.made : Int), .int .u64 (x.s.ix : Int), .int .i64 x.c.val.node, .string x.c.val.id, .string x.c.val.svc, .string x.c.val.note, .int .i64 x.c.val.status, .int .u64 (x.c.made : Int), .int .u64 (x.c.ix : Int), .int .u64 (x.ix : Int)] 5 11 B B1 B2 B3 m D md d d' d2 d2' (.int .i64 (er1 : Int)) (.int .i64 (er2 : Int)) f e w) (Go.Rel.upd f9 i9) e8 w9 := (fun _ _ _ _ _ _ _ hj h hp => StR.keep hj h hp)
  refine Go.Rel.wp_tabe (by kernel_rfl) (by kernel_rfl) (fun (f : Nat → Bool) (e : Nat → Value) (w : World) => StR base X x #[.int .i64 x.kind, .int .i64 x.node, .string x.text, .int .i64 x.s.val.a.node, .string x.s.val.a.id, .string x.s.val.a.name, .slice x.s.val.A x.s.val.n x.s.val.c, .int .i64 x.s.val.a.port, .int .u64 (x.s.made : Int), .int .u64 (x.s.ix : Int), .int .i64 x.c.val.node, .string x.c.val.id, .string x.c.val.svc, .string x.c.val.note, .int .i64 x.c.val.status, .int .u64 (x.c.made : Int), .int .u64 (x.c.ix : Int), .int .u64 (x.ix : Int)] 5 11 B B1 B2 B3 m D md d d' d2 d2' (.int .i64 (er1 : Int)) (.int .i64 (er2 : Int)) f e w) (But (Ch4 B1 B2 B3 D)) hre ((fun _ _ _ h k => h.trans k)) ((But.refl _ _).drew) (fun e => StR.start HBo.out HK1.out HOut.out HTg.out e) (rst2 B D X x bq) (fun | 5, v, w => True | 11, v, w => True | _, _, _ => True) (fun i => ([5, 11] : List Nat).contains i) (fun i => ([2, 4, 5, 8, 10, 11, 12] : List Nat).contains i) (by kernel_rfl) (fun i v w w' h g => by revert h; split <;> exact id) [5, 11] (by decide) (hrd _) ?_ (Go.Rel.AllOf.get ?_) ?_
  · repeat (refine .cons (by first | exact Go.Rel.pure_sp rfl | exact Go.Rel.pure_yes (by kernel_rfl) (fun _ => by kernel_rfl) | exact Go.Rel.pure_no (by kernel_rfl) rfl) ?_)
    exact .nil
  · refine ⟨?_, ?_, ?_, ?_, ?_, ?_, ?_, trivial⟩
    · exact SpecE.ld (hrd _) hre (q := .pointer (some ⟨X, 3, none⟩)) (h := fun _ w' _ hI _ _ _ _ => by obtain ⟨y0, y1, y2, y3, y4, y5, y6, y7, y8, y9, y10, y11, y12, y13, y14, y15, y16, y17⟩ := st_blk (x := x) hI.blk; go_simp; rfl)
    · exact SpecE.ld (hrd _) hre (q := .pointer (some ⟨X, 17, none⟩)) (h := fun _ w' _ hI _ _ _ _ => by obtain ⟨y0, y1, y2, y3, y4, y5, y6, y7, y8, y9, y10, y11, y12, y13, y14, y15, y16, y17⟩ := st_blk (x := x) hI.blk; go_simp; rfl)
    · refine SpecE.gen (fun e => [(46, .pointer (some ⟨B, 0, none⟩)), (48, .agg #[.int .i64 x.s.val.a.node, .string x.s.val.a.id, .string x.s.val.a.name, .slice x.s.val.A x.s.val.n x.s.val.c, .int .i64 x.s.val.a.port, .int .u64 (x.s.made : Int), .int .u64 (x.s.ix : Int)]), (50, .int .u64 (x.ix : Int))]) rfl rfl (fun _ => by kernel_rfl) fun f w' e hI hf hdesc hanc hle hX K hK => ?_
      go_simp
      refine (HCp.out f e w' hI hf).mono ?_
      rintro e9 w9 ⟨v9, rfl, h9, hb9⟩
      exact hK _ _ hb9 (fun e' hp => h9 e' (fun m hm => hp.1 m hm) (hp.2 rfl)) trivial
    · exact SpecE.ld (hrd _) hre (q := .pointer (some ⟨X, 3, none⟩)) (h := fun _ w' _ hI _ _ _ _ => by obtain ⟨y0, y1, y2, y3, y4, y5, y6, y7, y8, y9, y10, y11, y12, y13, y14, y15, y16, y17⟩ := st_blk (x := x) hI.blk; go_simp; rfl)
    · exact SpecE.ld (hrd _) hre (q := .pointer (some ⟨X, 17, none⟩)) (h := fun _ w' _ hI _ _ _ _ => by obtain ⟨y0, y1, y2, y3, y4, y5, y6, y7, y8, y9, y10, y11, y12, y13, y14, y15, y16, y17⟩ := st_blk (x := x) hI.blk; go_simp; rfl)
    · refine SpecE.gen (fun e => [(52, .pointer (some ⟨D, 0, none⟩)), (54, .agg #[.int .i64 x.s.val.a.node, .string x.s.val.a.id, .string x.s.val.a.name, .slice x.s.val.A x.s.val.n x.s.val.c, .int .i64 x.s.val.a.port, .int .u64 (x.s.made : Int), .int .u64 (x.s.ix : Int)]), (56, .int .u64 (x.ix : Int))]) rfl rfl (fun _ => by kernel_rfl) fun f w' e hI hf hdesc hanc hle hX K hK => ?_
      go_simp
      refine (HCd.out f e w' hI hf).mono ?_
      rintro e9 w9 ⟨v9, rfl, h9, hb9⟩
      exact hK _ _ hb9 (fun e' hp => h9 e' (fun m hm => hp.1 m hm) (hp.2 rfl)) trivial
    · refine SpecE.gen (fun e => [(51, e 5), (57, e 11)]) rfl rfl (fun _ => by kernel_rfl) fun f w' e hI hf hdesc hanc hle hX K hK => ?_
      have q1 := hI.k1 (hanc 60 5 (by kernel_rfl))
      have q2 := hI.k2 (hanc 60 11 (by kernel_rfl))
      have qq := HBq.out
      simp only [q1, q2]
      go_simp
      exact hK _ _ (hre _) (fun e' hp => hrd _ f e w' 12 _ e' rfl hI hp) rfl
  · intro f w2 e hall hJ hle hv
    have hb2 := hJ.both
    rw [hall 5 (by decide), hall 11 (by decide)] at hb2
    have HB2 := Lib.hid hb2
    have HL2 := Lib.hid hle
    have v9 := hv 13 rfl
    simp only [Go.Rel.finL, List.setIfInBounds_toArray, List.set_cons_succ, List.set_cons_zero]
    rw [show e 13 = .bool bq from v9]
    clear hv hall hJ hle hb2 v9
    go_wp2
    go_ret
    exact ⟨bq, rfl, HB2.out, (But.of_below HB0.out).trans HL2.out, HBq2.out⟩
def rst3 (B : Nat) (D : Nat) (X : Nat) (x : RSt) (bq : Bool) : Nat → Value
  | 0 => .pointer (some ⟨B, 0, none⟩)
  | 1 | 9 => .pointer (some ⟨X, 1, none⟩)
  | 2 | 10 => .int .i64 x.node
  | 3 | 11 => .pointer (some ⟨X, 2, none⟩)
  | 4 | 12 => .string x.text
  | 5 | 13 => .pointer (some ⟨X, 17, none⟩)
  | 6 | 14 => .int .u64 (x.ix : Int)
  | 8 => .pointer (some ⟨D, 0, none⟩)
  | 16 | 17 => .bool bq
  | _ => undef
set_option maxHeartbeats 4000000 in
set_option maxRecDepth 100000 in
theorem step3_any {base : Nat} {w : World} {B B1 B2 B3 m D md : Nat} {d d2 : Ro} (x : RSt) (h : Both base w B B1 B2 B3 m d D md d2) (hx : x.Ok w) (ht : TgAt (fun k => k < base) w x.s.val) (hk : x.kind = 3) : Calls Tryz.prog 11 #[.pointer (some ⟨B, 0, none⟩), .pointer (some ⟨D, 0, none⟩), stV x] w fun e w' => StepPost base w B B1 B2 B3 m (x.after d).2 D md (x.after d2).2 ((x.after d).1 = (x.after d2).1) e w' := by
  have ha1 : x.after d = d.dropS x.node x.text x.ix := by unfold RSt.after; simp only [hk]; rfl
  have ha2 : x.after d2 = d2.dropS x.node x.text x.ix := by unfold RSt.after; simp only [hk]; rfl
  rw [ha1, ha2]
  obtain ⟨⟨er1, d'⟩, he1⟩ : ∃ r, d.dropS x.node x.text x.ix = r := ⟨_, rfl⟩
  obtain ⟨⟨er2, d2'⟩, he2⟩ : ∃ r, d2.dropS x.node x.text x.ix = r := ⟨_, rfl⟩
  rw [he1, he2]
  have HE1 := Lib.hid he1
  have HE2 := Lib.hid he2
  have HOk := Lib.hid hx
  have HSi := Lib.hid (fun (W : World) (ht : TgAt (fun k => k < base) W x.s.val) => (⟨hx.s.node, hx.s.port, hx.s.id, hx.s.name, ht.tx, hx.s.small⟩ : SvIn W x.s))
  have b0 := below1 w #[.int .i64 x.kind, .int .i64 x.node, .string x.text, .int .i64 x.s.val.a.node, .string x.s.val.a.id, .string x.s.val.a.name, .slice x.s.val.A x.s.val.n x.s.val.c, .int .i64 x.s.val.a.port, .int .u64 (x.s.made : Int), .int .u64 (x.s.ix : Int), .int .i64 x.c.val.node, .string x.c.val.id, .string x.c.val.svc, .string x.c.val.note, .int .i64 x.c.val.status, .int .u64 (x.c.made : Int), .int .u64 (x.c.ix : Int), .int .u64 (x.ix : Int)] TRs
  have k0 := heap_alloc_new w (.cells #[.int .i64 x.kind, .int .i64 x.node, .string x.text, .int .i64 x.s.val.a.node, .string x.s.val.a.id, .string x.s.val.a.name, .slice x.s.val.A x.s.val.n x.s.val.c, .int .i64 x.s.val.a.port, .int .u64 (x.s.made : Int), .int .u64 (x.s.ix : Int), .int .i64 x.c.val.node, .string x.c.val.id, .string x.c.val.svc, .string x.c.val.note, .int .i64 x.c.val.status, .int .u64 (x.c.made : Int), .int .u64 (x.c.ix : Int), .int .u64 (x.ix : Int)] TRs)
  obtain ⟨X, hX⟩ : ∃ X, w.heap.size = X := ⟨_, rfl⟩
  obtain ⟨W1, hW1⟩ : ∃ W1, w.alloc (.cells #[.int .i64 x.kind, .int .i64 x.node, .string x.text, .int .i64 x.s.val.a.node, .string x.s.val.a.id, .string x.s.val.a.name, .slice x.s.val.A x.s.val.n x.s.val.c, .int .i64 x.s.val.a.port, .int .u64 (x.s.made : Int), .int .u64 (x.s.ix : Int), .int .i64 x.c.val.node, .string x.c.val.id, .string x.c.val.svc, .string x.c.val.note, .int .i64 x.c.val.status, .int .u64 (x.c.made : Int), .int .u64 (x.c.ix : Int), .int .u64 (x.ix : Int)] TRs) = W1 := ⟨_, rfl⟩
  rw [hW1] at b0 k0
  rw [hX] at k0
  have HBo := Lib.hid (h.below b0)
  have HOut : Hid (¬ Ch4 B1 B2 B3 D X) := Lib.hid (by
    have := h.lt
    rintro ((z | z | z) | z) <;> omega)
  have HTg := Lib.hid (ht.below b0)
  have HB0 := Lib.hid b0
  have HK1 := Lib.hid k0
  have HW1 := Lib.hid hW1
  have HX := Lib.hid hX
  obtain ⟨bq, hbq⟩ : ∃ bq, ((er1 : Int) == (er2 : Int)) = bq := ⟨_, rfl⟩
  have HBq := Lib.hid hbq
  have HBq2 : Hid (er1 = er2 → bq = true) := Lib.hid (fun e => by rw [← hbq, e]; simp)
  have HCp : Hid (∀ (f : Nat → Bool) (e : Nat → Value) (w' : World), StR base X x #[.int .i64 x.kind, .int .i64 x.node, .string x.text, .int .i64 x.s.val.a.node, .string x.s.val.a.id, .string x.s.val.a.name, .slice x.s.val.A x.s.val.n x.s.val.c, .int .i64 x.s.val.a.port, .int .u64 (x.s.made : Int), .int .u64 (x.s.ix : Int), .int .i64 x.c.val.node, .string x.c.val.id, .string x.c.val.svc, .string x.c.val.note, .int .i64 x.c.val.status, .int .u64 (x.c.made : Int), .int .u64 (x.c.ix : Int), .int .u64 (x.ix : Int)] 7 15 B B1 B2 B3 m D md d d' d2 d2' (.int .i64 (er1 : Int)) (.int .i64 (er2 : Int)) f e w' → f 7 = false → Calls Tryz.prog 31 #[.pointer (some ⟨B, 0, none⟩), .int .i64 x.node, .string x.text, .int .u64 (x.ix : Int)] w' fun r w2 => ∃ v, r = .returned v ∧ (∀ e', (∀ m, m ≠ 7 → e' m = e m) → e' 7 = v → StR base X x #[.int .i64 x.kind, .int .i64 x.node, .string x.text, .int .i64 x.s.val.a.node, .string x.s.val.a.id, .string x.s.val.a.name, .slice x.s.val.A x.s.val.n x.s.val.c, .int .i64 x.s.val.a.port, .int .u64 (x.s.made : Int), .int .u64 (x.s.ix : Int), .int .i64 x.c.val.node, .string x.c.val.id, .string x.c.val.svc, .string x.c.val.note, .int .i64 x.c.val.status, .int .u64 (x.c.made : Int), .int .u64 (x.c.ix : Int), .int .u64 (x.ix : Int)] 7 15 B B1 B2 B3 m D md d d' d2 d2' (.int .i64 (er1 : Int)) (.int .i64 (er2 : Int)) (Go.Rel.upd f 7) e' w2) ∧ But (Ch4 B1 B2 B3 D) w' w2) := Lib.hid fun f e w' hI hf =>
    hI.left (by decide) hf fun S h ht => by
      have h9 := rdropservice_any x.node x.text x.ix h HOk.out.node HOk.out.text HOk.out.ix
      rw [show d.dropS x.node x.text x.ix = (er1, d') from HE1.out] at h9
      exact h9
  have HCd : Hid (∀ (f : Nat → Bool) (e : Nat → Value) (w' : World), StR base X x #[.int .i64 x.kind, .int .i64 x.node, .string x.text, .int .i64 x.s.val.a.node, .string x.s.val.a.id, .string x.s.val.a.name, .slice x.s.val.A x.s.val.n x.s.val.c, .int .i64 x.s.val.a.port, .int .u64 (x.s.made : Int), .int .u64 (x.s.ix : Int), .int .i64 x.c.val.node, .string x.c.val.id, .string x.c.val.svc, .string x.c.val.note, .int .i64 x.c.val.status, .int .u64 (x.c.made : Int), .int .u64 (x.c.ix : Int), .int .u64 (x.ix : Int)] 7 15 B B1 B2 B3 m D md d d' d2 d2' (.int .i64 (er1 : Int)) (.int .i64 (er2 : Int)) f e w' → f 15 = false → Calls Tryz.prog 39 #[.pointer (some ⟨D, 0, none⟩), .int .i64 x.node, .string x.text, .int .u64 (x.ix : Int)] w' fun r w2 => ∃ v, r = .returned v ∧ (∀ e', (∀ m, m ≠ 15 → e' m = e m) → e' 15 = v → StR base X x #[.int .i64 x.kind, .int .i64 x.node, .string x.text, .int .i64 x.s.val.a.node, .string x.s.val.a.id, .string x.s.val.a.name, .slice x.s.val.A x.s.val.n x.s.val.c, .int .i64 x.s.val.a.port, .int .u64 (x.s.made : Int), .int .u64 (x.s.ix : Int), .int .i64 x.c.val.node, .string x.c.val.id, .string x.c.val.svc, .string x.c.val.note, .int .i64 x.c.val.status, .int .u64 (x.c.made : Int), .int .u64 (x.c.ix : Int), .int .u64 (x.ix : Int)] 7 15 B B1 B2 B3 m D md d d' d2 d2' (.int .i64 (er1 : Int)) (.int .i64 (er2 : Int)) (Go.Rel.upd f 15) e' w2) ∧ But (Ch4 B1 B2 B3 D) w' w2) := Lib.hid fun f e w' hI hf =>
    hI.right (by decide) hf fun S h ht => by
      have h9 := rddropservice_any x.node x.text x.ix h HOk.out.ix
      rw [show d2.dropS x.node x.text x.ix = (er2, d2') from HE2.out] at h9
      exact h9
  unfold stV
  rw [hk]
  have HKd := Lib.hid hk
  clear h hx ht ha1 ha2 he1 he2 b0 k0 hW1 hX hbq hk
  go_enter Tryz.func11, Tryz.ntmps11
  go_wp2_with fail
  rw [← HKd.out]
  rw [HW1.out, HX.out]
  have hre : ∀ w : World, (But (Ch4 B1 B2 B3 D)) w w := (fun w => But.refl _ w)
  have hrd : ∀ (ops9 : Array Oper) (f9 : Nat → Bool) (e9 : Nat → Value) (w9 : World) (i9 : Nat) (v9 : Value) (e8 : Nat → Value), [7, 15].contains i9 = false → (fun (f : Nat → Bool) (e : Nat → Value) (w : World) => StR base X x #[.int .i64 x.kind, .int .i64 x.node, .string x.text, .int .i64 x.s.val.a.node, .string x.s.val.a.id, .string x.s.val.a.name, .slice x.s.val.A x.s.val.n x.s.val.c, .int .i64 x.s.val.a.port, .int .u64 (x.s.made : Int), .int .u64 (x.s.ix : Int), .int .i64 x.c.val.node, .string x.c.val.id, .string x.c.val.svc, .string x.c.val.note, .int .i64 x.c.val.status, .int .u64 (x.c.made : Int), .int .u64 (x.c.ix : Int), .int .u64 (x.ix : Int)] 7 15 B B1 B2 B3 m D md d d' d2 d2' (.int .i64 (er1 : Int)) (.int .i64 (er2 : Int)) f e w) f9 e9 w9 → Go.Rel.Put ops9 i9 e9 v9 e8 → (fun (f : Nat → Bool) (e : Nat → Value) (w : World) => StR base X x #[.int .i64 x.kind, .int .i64 x.node, .string x.text, .int .i64 x.s.val.a.node, .string x.s.val.a.id, .string x.s.val.a.name, .slice x.s.val.A x.s.val.n x.s.val.c, .int .i64 x.s.val.a.port, .int .u64 (x.s.made : Int), .int .u64 (x.s.ix : Int), .int .i64 x.c.val.node, .string x.c.val.id, .string x.c.val.svc, .string x.c.val.note, .int .i64 x.c.val.status, .int .u64 (x.c.made : Int), .int .u64 (x.c.ix : Int), .int .u64 (x.ix : Int)] 7 15 B B1 B2 B3 m D md d d' d2 d2' (.int .i64 (er1 : Int)) (.int .i64 (er2 : Int)) f e w) (Go.Rel.upd f9 i9) e8 w9 := (fun _ _ _ _ _ _ _ hj h hp => StR.keep hj h hp)
  refine Go.Rel.wp_tabe (by kernel_rfl) (by kernel_rfl) (fun (f : Nat → Bool) (e : Nat → Value) (w : World) => StR base X x #[.int .i64 x.kind, .int .i64 x.node, .string x.text, .int .i64 x.s.val.a.node, .string x.s.val.a.id, .string x.s.val.a.name, .slice x.s.val.A x.s.val.n x.s.val.c, .int .i64 x.s.val.a.port, .int .u64 (x.s.made : Int), .int .u64 (x.s.ix : Int), .int .i64 x.c.val.node, .string x.c.val.id, .string x.c.val.svc, .string x.c.val.note, .int .i64 x.c.val.status, .int .u64 (x.c.made : Int), .int .u64 (x.c.ix : Int), .int .u64 (x.ix : Int)] 7 15 B B1 B2 B3 m D md d d' d2 d2' (.int .i64 (er1 : Int)) (.int .i64 (er2 : Int)) f e w) (But (Ch4 B1 B2 B3 D)) hre ((fun _ _ _ h k => h.trans k)) ((But.refl _ _).drew) (fun e => StR.start HBo.out HK1.out HOut.out HTg.out e) (rst3 B D X x bq) (fun | 7, v, w => True | 15, v, w => True | _, _, _ => True) (fun i => ([7, 15] : List Nat).contains i) (fun i => ([2, 4, 6, 7, 10, 12, 14, 15, 16] : List Nat).contains i) (by kernel_rfl) (fun i v w w' h g => by revert h; split <;> exact id) [7, 15] (by decide) (hrd _) ?_ (Go.Rel.AllOf.get ?_) ?_
  · repeat (refine .cons (by first | exact Go.Rel.pure_sp rfl | exact Go.Rel.pure_yes (by kernel_rfl) (fun _ => by kernel_rfl) | exact Go.Rel.pure_no (by kernel_rfl) rfl) ?_)
    exact .nil
  · refine ⟨?_, ?_, ?_, ?_, ?_, ?_, ?_, ?_, ?_, trivial⟩
    · exact SpecE.ld (hrd _) hre (q := .pointer (some ⟨X, 1, none⟩)) (h := fun _ w' _ hI _ _ _ _ => by obtain ⟨y0, y1, y2, y3, y4, y5, y6, y7, y8, y9, y10, y11, y12, y13, y14, y15, y16, y17⟩ := st_blk (x := x) hI.blk; go_simp; rfl)
    · exact SpecE.ld (hrd _) hre (q := .pointer (some ⟨X, 2, none⟩)) (h := fun _ w' _ hI _ _ _ _ => by obtain ⟨y0, y1, y2, y3, y4, y5, y6, y7, y8, y9, y10, y11, y12, y13, y14, y15, y16, y17⟩ := st_blk (x := x) hI.blk; go_simp; rfl)
    · exact SpecE.ld (hrd _) hre (q := .pointer (some ⟨X, 17, none⟩)) (h := fun _ w' _ hI _ _ _ _ => by obtain ⟨y0, y1, y2, y3, y4, y5, y6, y7, y8, y9, y10, y11, y12, y13, y14, y15, y16, y17⟩ := st_blk (x := x) hI.blk; go_simp; rfl)
    · refine SpecE.gen (fun e => [(61, .pointer (some ⟨B, 0, none⟩)), (63, .int .i64 x.node), (65, .string x.text), (67, .int .u64 (x.ix : Int))]) rfl rfl (fun _ => by kernel_rfl) fun f w' e hI hf hdesc hanc hle hX K hK => ?_
      go_simp
      refine (HCp.out f e w' hI hf).mono ?_
      rintro e9 w9 ⟨v9, rfl, h9, hb9⟩
      exact hK _ _ hb9 (fun e' hp => h9 e' (fun m hm => hp.1 m hm) (hp.2 rfl)) trivial
    · exact SpecE.ld (hrd _) hre (q := .pointer (some ⟨X, 1, none⟩)) (h := fun _ w' _ hI _ _ _ _ => by obtain ⟨y0, y1, y2, y3, y4, y5, y6, y7, y8, y9, y10, y11, y12, y13, y14, y15, y16, y17⟩ := st_blk (x := x) hI.blk; go_simp; rfl)
    · exact SpecE.ld (hrd _) hre (q := .pointer (some ⟨X, 2, none⟩)) (h := fun _ w' _ hI _ _ _ _ => by obtain ⟨y0, y1, y2, y3, y4, y5, y6, y7, y8, y9, y10, y11, y12, y13, y14, y15, y16, y17⟩ := st_blk (x := x) hI.blk; go_simp; rfl)
    · exact SpecE.ld (hrd _) hre (q := .pointer (some ⟨X, 17, none⟩)) (h := fun _ w' _ hI _ _ _ _ => by obtain ⟨y0, y1, y2, y3, y4, y5, y6, y7, y8, y9, y10, y11, y12, y13, y14, y15, y16, y17⟩ := st_blk (x := x) hI.blk; go_simp; rfl)
    · refine SpecE.gen (fun e => [(69, .pointer (some ⟨D, 0, none⟩)), (71, .int .i64 x.node), (73, .string x.text), (75, .int .u64 (x.ix : Int))]) rfl rfl (fun _ => by kernel_rfl) fun f w' e hI hf hdesc hanc hle hX K hK => ?_
      go_simp
      refine (HCd.out f e w' hI hf).mono ?_
      rintro e9 w9 ⟨v9, rfl, h9, hb9⟩
      exact hK _ _ hb9 (fun e' hp => h9 e' (fun m hm => hp.1 m hm) (hp.2 rfl)) trivial
    · refine SpecE.gen (fun e => [(68, e 7), (76, e 15)]) rfl rfl (fun _ => by kernel_rfl) fun f w' e hI hf hdesc hanc hle hX K hK => ?_
      have q1 := hI.k1 (hanc 60 7 (by kernel_rfl))
      have q2 := hI.k2 (hanc 60 15 (by kernel_rfl))
      have qq := HBq.out
      simp only [q1, q2]
      go_simp
      exact hK _ _ (hre _) (fun e' hp => hrd _ f e w' 16 _ e' rfl hI hp) rfl
  · intro f w2 e hall hJ hle hv
    have hb2 := hJ.both
    rw [hall 7 (by decide), hall 15 (by decide)] at hb2
    have HB2 := Lib.hid hb2
    have HL2 := Lib.hid hle
    have v9 := hv 17 rfl
    simp only [Go.Rel.finL, List.setIfInBounds_toArray, List.set_cons_succ, List.set_cons_zero]
    rw [show e 17 = .bool bq from v9]
    clear hv hall hJ hle hb2 v9
    go_wp2
    go_ret
    exact ⟨bq, rfl, HB2.out, (But.of_below HB0.out).trans HL2.out, HBq2.out⟩
def rst4 (B : Nat) (D : Nat) (X : Nat) (x : RSt) (bq : Bool) : Nat → Value
  | 0 => .pointer (some ⟨B, 0, none⟩)
  | 1 | 7 => .pointer (some ⟨X, 10, none⟩)
  | 2 | 8 => .agg #[.int .i64 x.c.val.node, .string x.c.val.id, .string x.c.val.svc, .string x.c.val.note, .int .i64 x.c.val.status, .int .u64 (x.c.made : Int), .int .u64 (x.c.ix : Int)]
  | 3 | 9 => .pointer (some ⟨X, 17, none⟩)
  | 4 | 10 => .int .u64 (x.ix : Int)
  | 6 => .pointer (some ⟨D, 0, none⟩)
  | 12 | 13 => .bool bq
  | _ => undef
set_option maxHeartbeats 4000000 in
set_option maxRecDepth 100000 in
theorem step4_any {base : Nat} {w : World} {B B1 B2 B3 m D md : Nat} {d d2 : Ro} (x : RSt) (h : Both base w B B1 B2 B3 m d D md d2) (hx : x.Ok w) (ht : TgAt (fun k => k < base) w x.s.val) (hk : x.kind = 4) : Calls Tryz.prog 11 #[.pointer (some ⟨B, 0, none⟩), .pointer (some ⟨D, 0, none⟩), stV x] w fun e w' => StepPost base w B B1 B2 B3 m (x.after d).2 D md (x.after d2).2 ((x.after d).1 = (x.after d2).1) e w' := by
  have ha1 : x.after d = d.check x.c.val x.ix := by unfold RSt.after; simp only [hk]; rfl
  have ha2 : x.after d2 = d2.check x.c.val x.ix := by unfold RSt.after; simp only [hk]; rfl
  rw [ha1, ha2]
  obtain ⟨⟨er1, d'⟩, he1⟩ : ∃ r, d.check x.c.val x.ix = r := ⟨_, rfl⟩
  obtain ⟨⟨er2, d2'⟩, he2⟩ : ∃ r, d2.check x.c.val x.ix = r := ⟨_, rfl⟩
  rw [he1, he2]
  have HE1 := Lib.hid he1
  have HE2 := Lib.hid he2
  have HOk := Lib.hid hx
  have HSi := Lib.hid (fun (W : World) (ht : TgAt (fun k => k < base) W x.s.val) => (⟨hx.s.node, hx.s.port, hx.s.id, hx.s.name, ht.tx, hx.s.small⟩ : SvIn W x.s))
  have b0 := below1 w #[.int .i64 x.kind, .int .i64 x.node, .string x.text, .int .i64 x.s.val.a.node, .string x.s.val.a.id, .string x.s.val.a.name, .slice x.s.val.A x.s.val.n x.s.val.c, .int .i64 x.s.val.a.port, .int .u64 (x.s.made : Int), .int .u64 (x.s.ix : Int), .int .i64 x.c.val.node, .string x.c.val.id, .string x.c.val.svc, .string x.c.val.note, .int .i64 x.c.val.status, .int .u64 (x.c.made : Int), .int .u64 (x.c.ix : Int), .int .u64 (x.ix : Int)] TRs
  have k0 := heap_alloc_new w (.cells #[.int .i64 x.kind, .int .i64 x.node, .string x.text, .int .i64 x.s.val.a.node, .string x.s.val.a.id, .string x.s.val.a.name, .slice x.s.val.A x.s.val.n x.s.val.c, .int .i64 x.s.val.a.port, .int .u64 (x.s.made : Int), .int .u64 (x.s.ix : Int), .int .i64 x.c.val.node, .string x.c.val.id, .string x.c.val.svc, .string x.c.val.note, .int .i64 x.c.val.status, .int .u64 (x.c.made : Int), .int .u64 (x.c.ix : Int), .int .u64 (x.ix : Int)] TRs)
  obtain ⟨X, hX⟩ : ∃ X, w.heap.size = X := ⟨_, rfl⟩
  obtain ⟨W1, hW1⟩ : ∃ W1, w.alloc (.cells #[.int .i64 x.kind, .int .i64 x.node, .string x.text, .int .i64 x.s.val.a.node, .string x.s.val.a.id, .string x.s.val.a.name, .slice x.s.val.A x.s.val.n x.s.val.c, .int .i64 x.s.val.a.port, .int .u64 (x.s.made : Int), .int .u64 (x.s.ix : Int), .int .i64 x.c.val.node, .string x.c.val.id, .string x.c.val.svc, .string x.c.val.note, .int .i64 x.c.val.status, .int .u64 (x.c.made : Int), .int .u64 (x.c.ix : Int), .int .u64 (x.ix : Int)] TRs) = W1 := ⟨_, rfl⟩
  rw [hW1] at b0 k0
  rw [hX] at k0
  have HBo := Lib.hid (h.below b0)
  have HOut : Hid (¬ Ch4 B1 B2 B3 D X) := Lib.hid (by
    have := h.lt
    rintro ((z | z | z) | z) <;> omega)
  have HTg := Lib.hid (ht.below b0)
  have HB0 := Lib.hid b0
  have HK1 := Lib.hid k0
  have HW1 := Lib.hid hW1
  have HX := Lib.hid hX
  obtain ⟨bq, hbq⟩ : ∃ bq, ((er1 : Int) == (er2 : Int)) = bq := ⟨_, rfl⟩
  have HBq := Lib.hid hbq
  have HBq2 : Hid (er1 = er2 → bq = true) := Lib.hid (fun e => by rw [← hbq, e]; simp)
  have HCp : Hid (∀ (f : Nat → Bool) (e : Nat → Value) (w' : World), StR base X x #[.int .i64 x.kind, .int .i64 x.node, .string x.text, .int .i64 x.s.val.a.node, .string x.s.val.a.id, .string x.s.val.a.name, .slice x.s.val.A x.s.val.n x.s.val.c, .int .i64 x.s.val.a.port, .int .u64 (x.s.made : Int), .int .u64 (x.s.ix : Int), .int .i64 x.c.val.node, .string x.c.val.id, .string x.c.val.svc, .string x.c.val.note, .int .i64 x.c.val.status, .int .u64 (x.c.made : Int), .int .u64 (x.c.ix : Int), .int .u64 (x.ix : Int)] 5 11 B B1 B2 B3 m D md d d' d2 d2' (.int .i64 (er1 : Int)) (.int .i64 (er2 : Int)) f e w' → f 5 = false → Calls Tryz.prog 20 #[.pointer (some ⟨B, 0, none⟩), .agg #[.int .i64 x.c.val.node, .string x.c.val.id, .string x.c.val.svc, .string x.c.val.note, .int .i64 x.c.val.status, .int .u64 (x.c.made : Int), .int .u64 (x.c.ix : Int)], .int .u64 (x.ix : Int)] w' fun r w2 => ∃ v, r = .returned v ∧ (∀ e', (∀ m, m ≠ 5 → e' m = e m) → e' 5 = v → StR base X x #[.int .i64 x.kind, .int .i64 x.node, .string x.text, .int .i64 x.s.val.a.node, .string x.s.val.a.id, .string x.s.val.a.name, .slice x.s.val.A x.s.val.n x.s.val.c, .int .i64 x.s.val.a.port, .int .u64 (x.s.made : Int), .int .u64 (x.s.ix : Int), .int .i64 x.c.val.node, .string x.c.val.id, .string x.c.val.svc, .string x.c.val.note, .int .i64 x.c.val.status, .int .u64 (x.c.made : Int), .int .u64 (x.c.ix : Int), .int .u64 (x.ix : Int)] 5 11 B B1 B2 B3 m D md d d' d2 d2' (.int .i64 (er1 : Int)) (.int .i64 (er2 : Int)) (Go.Rel.upd f 5) e' w2) ∧ But (Ch4 B1 B2 B3 D) w' w2) := Lib.hid fun f e w' hI hf =>
    hI.left (by decide) hf fun S h ht => by
      have h9 := rcheck_any x.c x.ix h HOk.out.c HOk.out.ix
      rw [show d.check x.c.val x.ix = (er1, d') from HE1.out] at h9
      exact h9
  have HCd : Hid (∀ (f : Nat → Bool) (e : Nat → Value) (w' : World), StR base X x #[.int .i64 x.kind, .int .i64 x.node, .string x.text, .int .i64 x.s.val.a.node, .string x.s.val.a.id, .string x.s.val.a.name, .slice x.s.val.A x.s.val.n x.s.val.c, .int .i64 x.s.val.a.port, .int .u64 (x.s.made : Int), .int .u64 (x.s.ix : Int), .int .i64 x.c.val.node, .string x.c.val.id, .string x.c.val.svc, .string x.c.val.note, .int .i64 x.c.val.status, .int .u64 (x.c.made : Int), .int .u64 (x.c.ix : Int), .int .u64 (x.ix : Int)] 5 11 B B1 B2 B3 m D md d d' d2 d2' (.int .i64 (er1 : Int)) (.int .i64 (er2 : Int)) f e w' → f 11 = false → Calls Tryz.prog 40 #[.pointer (some ⟨D, 0, none⟩), .agg #[.int .i64 x.c.val.node, .string x.c.val.id, .string x.c.val.svc, .string x.c.val.note, .int .i64 x.c.val.status, .int .u64 (x.c.made : Int), .int .u64 (x.c.ix : Int)], .int .u64 (x.ix : Int)] w' fun r w2 => ∃ v, r = .returned v ∧ (∀ e', (∀ m, m ≠ 11 → e' m = e m) → e' 11 = v → StR base X x #[.int .i64 x.kind, .int .i64 x.node, .string x.text, .int .i64 x.s.val.a.node, .string x.s.val.a.id, .string x.s.val.a.name, .slice x.s.val.A x.s.val.n x.s.val.c, .int .i64 x.s.val.a.port, .int .u64 (x.s.made : Int), .int .u64 (x.s.ix : Int), .int .i64 x.c.val.node, .string x.c.val.id, .string x.c.val.svc, .string x.c.val.note, .int .i64 x.c.val.status, .int .u64 (x.c.made : Int), .int .u64 (x.c.ix : Int), .int .u64 (x.ix : Int)] 5 11 B B1 B2 B3 m D md d d' d2 d2' (.int .i64 (er1 : Int)) (.int .i64 (er2 : Int)) (Go.Rel.upd f 11) e' w2) ∧ But (Ch4 B1 B2 B3 D) w' w2) := Lib.hid fun f e w' hI hf =>
    hI.right (by decide) hf fun S h ht => by
      have h9 := rdcheck_any x.c x.ix h HOk.out.c HOk.out.ix
      rw [show d2.check x.c.val x.ix = (er2, d2') from HE2.out] at h9
      exact h9
  unfold stV
  rw [hk]
  have HKd := Lib.hid hk
  clear h hx ht ha1 ha2 he1 he2 b0 k0 hW1 hX hbq hk
  go_enter Tryz.func11, Tryz.ntmps11
  go_wp2_with fail
  rw [← HKd.out]
  rw [HW1.out, HX.out]
  have hre : ∀ w : World, (But (Ch4 B1 B2 B3 D)) w w := (fun w => But.refl _ w)
  have hrd : ∀ (ops9 : Array Oper) (f9 : Nat → Bool) (e9 : Nat → Value) (w9 : World) (i9 : Nat) (v9 : Value) (e8 : Nat → Value), [5, 11].contains i9 = false → (fun (f : Nat → Bool) (e : Nat → Value) (w : World) => StR base X x #[.int .i64 x.kind, .int .i64 x.node, .string x.text, .int .i64 x.s.val.a.node, .string x.s.val.a.id, .string x.s.val.a.name, .slice x.s.val.A x.s.val.n x.s.val.c, .int .i64 x.s.val.a.port, .int .u64 (x.s.made : Int), .int .u64 (x.s.ix : Int), .int .i64 x.c.val.node, .string x.c.val.id, .string x.c.val.svc, .string x.c.val.note, .int .i64 x.c.val.status, .int .u64 (x.c.made : Int), .int .u64 (x.c.ix : Int), .int .u64 (x.ix : Int)] 5 11 B B1 B2 B3 m D md d d' d2 d2' (.int .i64 (er1 : Int)) (.int .i64 (er2 : Int)) f e w) f9 e9 w9 → Go.Rel.Put ops9 i9 e9 v9 e8 → (fun (f : Nat → Bool) (e : Nat → Value) (w : World) => StR base X x #[.int .i64 x.kind, .int .i64 x.node, .string x.text, .int .i64 x.s.val.a.node, .string x.s.val.a.id, .string x.s.val.a.name, .slice x.s.val.A x.s.val.n x.s.val.c, .int .i64 x.s.val.a.port, .int .u64 (x.s.made : Int), .int .u64 (x.s.ix : Int), .int .i64 x.c.val.node, .string x.c.val.id, .string x.c.val.svc, .string x.c.val.note, .int .i64 x.c.val.status, .int .u64 (x.c.made : Int), .int .u64 (x.c.ix : Int), .int .u64 (x.ix : Int)] 5 11 B B1 B2 B3 m D md d d' d2 d2' (.int .i64 (er1 : Int)) (.int .i64 (er2 : Int)) f e w) (Go.Rel.upd f9 i9) e8 w9 := (fun _ _ _ _ _ _ _ hj h hp => StR.keep hj h hp)
  refine Go.Rel.wp_tabe (by kernel_rfl) (by kernel_rfl) (fun (f : Nat → Bool) (e : Nat → Value) (w : World) => StR base X x #[.int .i64 x.kind, .int .i64 x.node, .string x.text, .int .i64 x.s.val.a.node, .string x.s.val.a.id, .string x.s.val.a.name, .slice x.s.val.A x.s.val.n x.s.val.c, .int .i64 x.s.val.a.port, .int .u64 (x.s.made : Int), .int .u64 (x.s.ix : Int), .int .i64 x.c.val.node, .string x.c.val.id, .string x.c.val.svc, .string x.c.val.note, .int .i64 x.c.val.status, .int .u64 (x.c.made : Int), .int .u64 (x.c.ix : Int), .int .u64 (x.ix : Int)] 5 11 B B1 B2 B3 m D md d d' d2 d2' (.int .i64 (er1 : Int)) (.int .i64 (er2 : Int)) f e w) (But (Ch4 B1 B2 B3 D)) hre ((fun _ _ _ h k => h.trans k)) ((But.refl _ _).drew) (fun e => StR.start HBo.out HK1.out HOut.out HTg.out e) (rst4 B D X x bq) (fun | 5, v, w => True | 11, v, w => True | _, _, _ => True) (fun i => ([5, 11] : List Nat).contains i) (fun i => ([2, 4, 5, 8, 10, 11, 12] : List Nat).contains i) (by kernel_rfl) (fun i v w w' h g => by revert h; split <;> exact id) [5, 11] (by decide) (hrd _) ?_ (Go.Rel.AllOf.get ?_) ?_
  · repeat (refine .cons (by first | exact Go.Rel.pure_sp rfl | exact Go.Rel.pure_yes (by kernel_rfl) (fun _ => by kernel_rfl) | exact Go.Rel.pure_no (by kernel_rfl) rfl) ?_)
    exact .nil
  · refine ⟨?_, ?_, ?_, ?_, ?_, ?_, ?_, trivial⟩
    · exact SpecE.ld (hrd _) hre (q := .pointer (some ⟨X, 10, none⟩)) (h := fun _ w' _ hI _ _ _ _ => by obtain ⟨y0, y1, y2, y3, y4, y5, y6, y7, y8, y9, y10, y11, y12, y13, y14, y15, y16, y17⟩ := st_blk (x := x) hI.blk; go_simp; rfl)
    · exact SpecE.ld (hrd _) hre (q := .pointer (some ⟨X, 17, none⟩)) (h := fun _ w' _ hI _ _ _ _ => by obtain ⟨y0, y1, y2, y3, y4, y5, y6, y7, y8, y9, y10, y11, y12, y13, y14, y15, y16, y17⟩ := st_blk (x := x) hI.blk; go_simp; rfl)
    · refine SpecE.gen (fun e => [(80, .pointer (some ⟨B, 0, none⟩)), (82, .agg #[.int .i64 x.c.val.node, .string x.c.val.id, .string x.c.val.svc, .string x.c.val.note, .int .i64 x.c.val.status, .int .u64 (x.c.made : Int), .int .u64 (x.c.ix : Int)]), (84, .int .u64 (x.ix : Int))]) rfl rfl (fun _ => by kernel_rfl) fun f w' e hI hf hdesc hanc hle hX K hK => ?_
      go_simp
      refine (HCp.out f e w' hI hf).mono ?_
      rintro e9 w9 ⟨v9, rfl, h9, hb9⟩
      exact hK _ _ hb9 (fun e' hp => h9 e' (fun m hm => hp.1 m hm) (hp.2 rfl)) trivial
    · exact SpecE.ld (hrd _) hre (q := .pointer (some ⟨X, 10, none⟩)) (h := fun _ w' _ hI _ _ _ _ => by obtain ⟨y0, y1, y2, y3, y4, y5, y6, y7, y8, y9, y10, y11, y12, y13, y14, y15, y16, y17⟩ := st_blk (x := x) hI.blk; go_simp; rfl)
    · exact SpecE.ld (hrd _) hre (q := .pointer (some ⟨X, 17, none⟩)) (h := fun _ w' _ hI _ _ _ _ => by obtain ⟨y0, y1, y2, y3, y4, y5, y6, y7, y8, y9, y10, y11, y12, y13, y14, y15, y16, y17⟩ := st_blk (x := x) hI.blk; go_simp; rfl)
    · refine SpecE.gen (fun e => [(86, .pointer (some ⟨D, 0, none⟩)), (88, .agg #[.int .i64 x.c.val.node, .string x.c.val.id, .string x.c.val.svc, .string x.c.val.note, .int .i64 x.c.val.status, .int .u64 (x.c.made : Int), .int .u64 (x.c.ix : Int)]), (90, .int .u64 (x.ix : Int))]) rfl rfl (fun _ => by kernel_rfl) fun f w' e hI hf hdesc hanc hle hX K hK => ?_
      go_simp
      refine (HCd.out f e w' hI hf).mono ?_
      rintro e9 w9 ⟨v9, rfl, h9, hb9⟩
      exact hK _ _ hb9 (fun e' hp => h9 e' (fun m hm => hp.1 m hm) (hp.2 rfl)) trivial
    · refine SpecE.gen (fun e => [(85, e 5), (91, e 11)]) rfl rfl (fun _ => by kernel_rfl) fun f w' e hI hf hdesc hanc hle hX K hK => ?_
      have q1 := hI.k1 (hanc 60 5 (by kernel_rfl))
      have q2 := hI.k2 (hanc 60 11 (by kernel_rfl))
      have qq := HBq.out
      simp only [q1, q2]
      go_simp
      exact hK _ _ (hre _) (fun e' hp => hrd _ f e w' 12 _ e' rfl hI hp) rfl
  · intro f w2 e hall hJ hle hv
    have hb2 := hJ.both
    rw [hall 5 (by decide), hall 11 (by decide)] at hb2
    have HB2 := Lib.hid hb2
    have HL2 := Lib.hid hle
    have v9 := hv 13 rfl
    simp only [Go.Rel.finL, List.setIfInBounds_toArray, List.set_cons_succ, List.set_cons_zero]
    rw [show e 13 = .bool bq from v9]
    clear hv hall hJ hle hb2 v9
    go_wp2
    go_ret
    exact ⟨bq, rfl, HB2.out, (But.of_below HB0.out).trans HL2.out, HBq2.out⟩
def rst5 (B : Nat) (D : Nat) (X : Nat) (x : RSt) (bq : Bool) : Nat → Value
  | 0 => .pointer (some ⟨B, 0, none⟩)
  | 1 | 9 => .pointer (some ⟨X, 1, none⟩)
  | 2 | 10 => .int .i64 x.node
  | 3 | 11 => .pointer (some ⟨X, 2, none⟩)
  | 4 | 12 => .string x.text
  | 5 | 13 => .pointer (some ⟨X, 17, none⟩)
  | 6 | 14 => .int .u64 (x.ix : Int)
  | 8 => .pointer (some ⟨D, 0, none⟩)
  | 16 | 17 => .bool bq
  | _ => undef
set_option maxHeartbeats 4000000 in
set_option maxRecDepth 100000 in
theorem step5_any {base : Nat} {w : World} {B B1 B2 B3 m D md : Nat} {d d2 : Ro} (x : RSt) (h : Both base w B B1 B2 B3 m d D md d2) (hx : x.Ok w) (ht : TgAt (fun k => k < base) w x.s.val) (hk : x.kind = 5) : Calls Tryz.prog 11 #[.pointer (some ⟨B, 0, none⟩), .pointer (some ⟨D, 0, none⟩), stV x] w fun e w' => StepPost base w B B1 B2 B3 m (x.after d).2 D md (x.after d2).2 ((x.after d).1 = (x.after d2).1) e w' := by
  have ha1 : x.after d = d.dropC x.node x.text x.ix := by unfold RSt.after; simp only [hk]; rfl
  have ha2 : x.after d2 = d2.dropC x.node x.text x.ix := by unfold RSt.after; simp only [hk]; rfl
  rw [ha1, ha2]
  obtain ⟨⟨er1, d'⟩, he1⟩ : ∃ r, d.dropC x.node x.text x.ix = r := ⟨_, rfl⟩
  obtain ⟨⟨er2, d2'⟩, he2⟩ : ∃ r, d2.dropC x.node x.text x.ix = r := ⟨_, rfl⟩
  rw [he1, he2]
  have HE1 := Lib.hid he1
  have HE2 := Lib.hid he2
  have HOk := Lib.hid hx
  have HSi := Lib.hid (fun (W : World) (ht : TgAt (fun k => k < base) W x.s.val) => (⟨hx.s.node, hx.s.port, hx.s.id, hx.s.name, ht.tx, hx.s.small⟩ : SvIn W x.s))
  have b0 := below1 w #[.int .i64 x.kind, .int .i64 x.node, .string x.text, .int .i64 x.s.val.a.node, .string x.s.val.a.id, .string x.s.val.a.name, .slice x.s.val.A x.s.val.n x.s.val.c, .int .i64 x.s.val.a.port, .int .u64 (x.s.made : Int), .int .u64 (x.s.ix : Int), .int .i64 x.c.val.node, .string x.c.val.id, .string x.c.val.svc, .string x.c.val.note, .int .i64 x.c.val.status, .int .u64 (x.c.made : Int), .int .u64 (x.c.ix : Int), .int .u64 (x.ix : Int)] TRs
  have k0 := heap_alloc_new w (.cells #[.int .i64 x.kind, .int .i64 x.node, .string x.text, .int .i64 x.s.val.a.node, .string x.s.val.a.id, .string x.s.val.a.name, .slice x.s.val.A x.s.val.n x.s.val.c, .int .i64 x.s.val.a.port, .int .u64 (x.s.made : Int), .int .u64 (x.s.ix : Int), .int .i64 x.c.val.node, .string x.c.val.id, .string x.c.val.svc, .string x.c.val.note, .int .i64 x.c.val.status, .int .u64 (x.c.made : Int), .int .u64 (x.c.ix : Int), .int .u64 (x.ix : Int)] TRs)
  obtain ⟨X, hX⟩ : ∃ X, w.heap.size = X := ⟨_, rfl⟩
  obtain ⟨W1, hW1⟩ : ∃ W1, w.alloc (.cells #[.int .i64 x.kind, .int .i64 x.node, .string x.text, .int .i64 x.s.val.a.node, .string x.s.val.a.id, .string x.s.val.a.name, .slice x.s.val.A x.s.val.n x.s.val.c, .int .i64 x.s.val.a.port, .int .u64 (x.s.made : Int), .int .u64 (x.s.ix : Int), .int .i64 x.c.val.node, .string x.c.val.id, .string x.c.val.svc, .string x.c.val.note, .int .i64 x.c.val.status, .int .u64 (x.c.made : Int), .int .u64 (x.c.ix : Int), .int .u64 (x.ix : Int)] TRs) = W1 := ⟨_, rfl⟩
  rw [hW1] at b0 k0
  rw [hX] at k0
  have HBo := Lib.hid (h.below b0)
  have HOut : Hid (¬ Ch4 B1 B2 B3 D X) := Lib.hid (by
    have := h.lt
    rintro ((z | z | z) | z) <;> omega)
  have HTg := Lib.hid (ht.below b0)
  have HB0 := Lib.hid b0
  have HK1 := Lib.hid k0
  have HW1 := Lib.hid hW1
  have HX := Lib.hid hX
  obtain ⟨bq, hbq⟩ : ∃ bq, ((er1 : Int) == (er2 : Int)) = bq := ⟨_, rfl⟩
  have HBq := Lib.hid hbq
  have HBq2 : Hid (er1 = er2 → bq = true) := Lib.hid (fun e => by rw [← hbq, e]; simp)
  have HCp : Hid (∀ (f : Nat → Bool) (e : Nat → Value) (w' : World), StR base X x #[.int .i64 x.kind, .int .i64 x.node, .string x.text, .int .i64 x.s.val.a.node, .string x.s.val.a.id, .string x.s.val.a.name, .slice x.s.val.A x.s.val.n x.s.val.c, .int .i64 x.s.val.a.port, .int .u64 (x.s.made : Int), .int .u64 (x.s.ix : Int), .int .i64 x.c.val.node, .string x.c.val.id, .string x.c.val.svc, .string x.c.val.note, .int .i64 x.c.val.status, .int .u64 (x.c.made : Int), .int .u64 (x.c.ix : Int), .int .u64 (x.ix : Int)] 7 15 B B1 B2 B3 m D md d d' d2 d2' (.int .i64 (er1 : Int)) (.int .i64 (er2 : Int)) f e w' → f 7 = false → Calls Tryz.prog 21 #[.pointer (some ⟨B, 0, none⟩), .int .i64 x.node, .string x.text, .int .u64 (x.ix : Int)] w' fun r w2 => ∃ v, r = .returned v ∧ (∀ e', (∀ m, m ≠ 7 → e' m = e m) → e' 7 = v → StR base X x #[.int .i64 x.kind, .int .i64 x.node, .string x.text, .int .i64 x.s.val.a.node, .string x.s.val.a.id, .string x.s.val.a.name, .slice x.s.val.A x.s.val.n x.s.val.c, .int .i64 x.s.val.a.port, .int .u64 (x.s.made : Int), .int .u64 (x.s.ix : Int), .int .i64 x.c.val.node, .string x.c.val.id, .string x.c.val.svc, .string x.c.val.note, .int .i64 x.c.val.status, .int .u64 (x.c.made : Int), .int .u64 (x.c.ix : Int), .int .u64 (x.ix : Int)] 7 15 B B1 B2 B3 m D md d d' d2 d2' (.int .i64 (er1 : Int)) (.int .i64 (er2 : Int)) (Go.Rel.upd f 7) e' w2) ∧ But (Ch4 B1 B2 B3 D) w' w2) := Lib.hid fun f e w' hI hf =>
    hI.left (by decide) hf fun S h ht => by
      have h9 := rdropcheck_any x.node x.text x.ix h HOk.out.node HOk.out.text HOk.out.ix
      rw [show d.dropC x.node x.text x.ix = (er1, d') from HE1.out] at h9
      exact h9
  have HCd : Hid (∀ (f : Nat → Bool) (e : Nat → Value) (w' : World), StR base X x #[.int .i64 x.kind, .int .i64 x.node, .string x.text, .int .i64 x.s.val.a.node, .string x.s.val.a.id, .string x.s.val.a.name, .slice x.s.val.A x.s.val.n x.s.val.c, .int .i64 x.s.val.a.port, .int .u64 (x.s.made : Int), .int .u64 (x.s.ix : Int), .int .i64 x.c.val.node, .string x.c.val.id, .string x.c.val.svc, .string x.c.val.note, .int .i64 x.c.val.status, .int .u64 (x.c.made : Int), .int .u64 (x.c.ix : Int), .int .u64 (x.ix : Int)] 7 15 B B1 B2 B3 m D md d d' d2 d2' (.int .i64 (er1 : Int)) (.int .i64 (er2 : Int)) f e w' → f 15 = false → Calls Tryz.prog 41 #[.pointer (some ⟨D, 0, none⟩), .int .i64 x.node, .string x.text, .int .u64 (x.ix : Int)] w' fun r w2 => ∃ v, r = .returned v ∧ (∀ e', (∀ m, m ≠ 15 → e' m = e m) → e' 15 = v → StR base X x #[.int .i64 x.kind, .int .i64 x.node, .string x.text, .int .i64 x.s.val.a.node, .string x.s.val.a.id, .string x.s.val.a.name, .slice x.s.val.A x.s.val.n x.s.val.c, .int .i64 x.s.val.a.port, .int .u64 (x.s.made : Int), .int .u64 (x.s.ix : Int), .int .i64 x.c.val.node, .string x.c.val.id, .string x.c.val.svc, .string x.c.val.note, .int .i64 x.c.val.status, .int .u64 (x.c.made : Int), .int .u64 (x.c.ix : Int), .int .u64 (x.ix : Int)] 7 15 B B1 B2 B3 m D md d d' d2 d2' (.int .i64 (er1 : Int)) (.int .i64 (er2 : Int)) (Go.Rel.upd f 15) e' w2) ∧ But (Ch4 B1 B2 B3 D) w' w2) := Lib.hid fun f e w' hI hf =>
    hI.right (by decide) hf fun S h ht => by
      have h9 := rddropcheck_any x.node x.text x.ix h HOk.out.ix
      rw [show d2.dropC x.node x.text x.ix = (er2, d2') from HE2.out] at h9
      exact h9
  unfold stV
  rw [hk]
  have HKd := Lib.hid hk
  clear h hx ht ha1 ha2 he1 he2 b0 k0 hW1 hX hbq hk
  go_enter Tryz.func11, Tryz.ntmps11
  go_wp2_with fail
  rw [← HKd.out]
  rw [HW1.out, HX.out]
  have hre : ∀ w : World, (But (Ch4 B1 B2 B3 D)) w w := (fun w => But.refl _ w)
  have hrd : ∀ (ops9 : Array Oper) (f9 : Nat → Bool) (e9 : Nat → Value) (w9 : World) (i9 : Nat) (v9 : Value) (e8 : Nat → Value), [7, 15].contains i9 = false → (fun (f : Nat → Bool) (e : Nat → Value) (w : World) => StR base X x #[.int .i64 x.kind, .int .i64 x.node, .string x.text, .int .i64 x.s.val.a.node, .string x.s.val.a.id, .string x.s.val.a.name, .slice x.s.val.A x.s.val.n x.s.val.c, .int .i64 x.s.val.a.port, .int .u64 (x.s.made : Int), .int .u64 (x.s.ix : Int), .int .i64 x.c.val.node, .string x.c.val.id, .string x.c.val.svc, .string x.c.val.note, .int .i64 x.c.val.status, .int .u64 (x.c.made : Int), .int .u64 (x.c.ix : Int), .int .u64 (x.ix : Int)] 7 15 B B1 B2 B3 m D md d d' d2 d2' (.int .i64 (er1 : Int)) (.int .i64 (er2 : Int)) f e w) f9 e9 w9 → Go.Rel.Put ops9 i9 e9 v9 e8 → (fun (f : Nat → Bool) (e : Nat → Value) (w : World) => StR base X x #[.int .i64 x.kind, .int .i64 x.node, .string x.text, .int .i64 x.s.val.a.node, .string x.s.val.a.id, .string x.s.val.a.name, .slice x.s.val.A x.s.val.n x.s.val.c, .int .i64 x.s.val.a.port, .int .u64 (x.s.made : Int), .int .u64 (x.s.ix : Int), .int .i64 x.c.val.node, .string x.c.val.id, .string x.c.val.svc, .string x.c.val.note, .int .i64 x.c.val.status, .int .u64 (x.c.made : Int), .int .u64 (x.c.ix : Int), .int .u64 (x.ix : Int)] 7 15 B B1 B2 B3 m D md d d' d2 d2' (.int .i64 (er1 : Int)) (.int .i64 (er2 : Int)) f e w) (Go.Rel.upd f9 i9) e8 w9 := (fun _ _ _ _ _ _ _ hj h hp => StR.keep hj h hp)
  refine Go.Rel.wp_tabe (by kernel_rfl) (by kernel_rfl) (fun (f : Nat → Bool) (e : Nat → Value) (w : World) => StR base X x #[.int .i64 x.kind, .int .i64 x.node, .string x.text, .int .i64 x.s.val.a.node, .string x.s.val.a.id, .string x.s.val.a.name, .slice x.s.val.A x.s.val.n x.s.val.c, .int .i64 x.s.val.a.port, .int .u64 (x.s.made : Int), .int .u64 (x.s.ix : Int), .int .i64 x.c.val.node, .string x.c.val.id, .string x.c.val.svc, .string x.c.val.note, .int .i64 x.c.val.status, .int .u64 (x.c.made : Int), .int .u64 (x.c.ix : Int), .int .u64 (x.ix : Int)] 7 15 B B1 B2 B3 m D md d d' d2 d2' (.int .i64 (er1 : Int)) (.int .i64 (er2 : Int)) f e w) (But (Ch4 B1 B2 B3 D)) hre ((fun _ _ _ h k => h.trans k)) ((But.refl _ _).drew) (fun e => StR.start HBo.out HK1.out HOut.out HTg.out e) (rst5 B D X x bq) (fun | 7, v, w => True | 15, v, w => True | _, _, _ => True) (fun i => ([7, 15] : List Nat).contains i) (fun i => ([2, 4, 6, 7, 10, 12, 14, 15, 16] : List Nat).contains i) (by kernel_rfl) (fun i v w w' h g => by revert h; split <;> exact id) [7, 15] (by decide) (hrd _) ?_ (Go.Rel.AllOf.get ?_) ?_
  · repeat (refine .cons (by first | exact Go.Rel.pure_sp rfl | exact Go.Rel.pure_yes (by kernel_rfl) (fun _ => by kernel_rfl) | exact Go.Rel.pure_no (by kernel_rfl) rfl) ?_)
    exact .nil
  · refine ⟨?_, ?_, ?_, ?_, ?_, ?_, ?_, ?_, ?_, trivial⟩
    · exact SpecE.ld (hrd _) hre (q := .pointer (some ⟨X, 1, none⟩)) (h := fun _ w' _ hI _ _ _ _ => by obtain ⟨y0, y1, y2, y3, y4, y5, y6, y7, y8, y9, y10, y11, y12, y13, y14, y15, y16, y17⟩ := st_blk (x := x) hI.blk; go_simp; rfl)
    · exact SpecE.ld (hrd _) hre (q := .pointer (some ⟨X, 2, none⟩)) (h := fun _ w' _ hI _ _ _ _ => by obtain ⟨y0, y1, y2, y3, y4, y5, y6, y7, y8, y9, y10, y11, y12, y13, y14, y15, y16, y17⟩ := st_blk (x := x) hI.blk; go_simp; rfl)
    · exact SpecE.ld (hrd _) hre (q := .pointer (some ⟨X, 17, none⟩)) (h := fun _ w' _ hI _ _ _ _ => by obtain ⟨y0, y1, y2, y3, y4, y5, y6, y7, y8, y9, y10, y11, y12, y13, y14, y15, y16, y17⟩ := st_blk (x := x) hI.blk; go_simp; rfl)
    · refine SpecE.gen (fun e => [(95, .pointer (some ⟨B, 0, none⟩)), (97, .int .i64 x.node), (99, .string x.text), (101, .int .u64 (x.ix : Int))]) rfl rfl (fun _ => by kernel_rfl) fun f w' e hI hf hdesc hanc hle hX K hK => ?_
      go_simp
      refine (HCp.out f e w' hI hf).mono ?_
      rintro e9 w9 ⟨v9, rfl, h9, hb9⟩
      exact hK _ _ hb9 (fun e' hp => h9 e' (fun m hm => hp.1 m hm) (hp.2 rfl)) trivial
    · exact SpecE.ld (hrd _) hre (q := .pointer (some ⟨X, 1, none⟩)) (h := fun _ w' _ hI _ _ _ _ => by obtain ⟨y0, y1, y2, y3, y4, y5, y6, y7, y8, y9, y10, y11, y12, y13, y14, y15, y16, y17⟩ := st_blk (x := x) hI.blk; go_simp; rfl)
    · exact SpecE.ld (hrd _) hre (q := .pointer (some ⟨X, 2, none⟩)) (h := fun _ w' _ hI _ _ _ _ => by obtain ⟨y0, y1, y2, y3, y4, y5, y6, y7, y8, y9, y10, y11, y12, y13, y14, y15, y16, y17⟩ := st_blk (x := x) hI.blk; go_simp; rfl)
    · exact SpecE.ld (hrd _) hre (q := .pointer (some ⟨X, 17, none⟩)) (h := fun _ w' _ hI _ _ _ _ => by obtain ⟨y0, y1, y2, y3, y4, y5, y6, y7, y8, y9, y10, y11, y12, y13, y14, y15, y16, y17⟩ := st_blk (x := x) hI.blk; go_simp; rfl)
    · refine SpecE.gen (fun e => [(103, .pointer (some ⟨D, 0, none⟩)), (105, .int .i64 x.node), (107, .string x.text), (109, .int .u64 (x.ix : Int))]) rfl rfl (fun _ => by kernel_rfl) fun f w' e hI hf hdesc hanc hle hX K hK => ?_
      go_simp
      refine (HCd.out f e w' hI hf).mono ?_
      rintro e9 w9 ⟨v9, rfl, h9, hb9⟩
      exact hK _ _ hb9 (fun e' hp => h9 e' (fun m hm => hp.1 m hm) (hp.2 rfl)) trivial
    · refine SpecE.gen (fun e => [(102, e 7), (110, e 15)]) rfl rfl (fun _ => by kernel_rfl) fun f w' e hI hf hdesc hanc hle hX K hK => ?_
      have q1 := hI.k1 (hanc 60 7 (by kernel_rfl))
      have q2 := hI.k2 (hanc 60 15 (by kernel_rfl))
      have qq := HBq.out
      simp only [q1, q2]
      go_simp
      exact hK _ _ (hre _) (fun e' hp => hrd _ f e w' 16 _ e' rfl hI hp) rfl
  · intro f w2 e hall hJ hle hv
    have hb2 := hJ.both
    rw [hall 7 (by decide), hall 15 (by decide)] at hb2
    have HB2 := Lib.hid hb2
    have HL2 := Lib.hid hle
    have v9 := hv 17 rfl
    simp only [Go.Rel.finL, List.setIfInBounds_toArray, List.set_cons_succ, List.set_cons_zero]
    rw [show e 17 = .bool bq from v9]
    clear hv hall hJ hle hb2 v9
    go_wp2
    go_ret
    exact ⟨bq, rfl, HB2.out, (But.of_below HB0.out).trans HL2.out, HBq2.out⟩
end Go.Proofs.YtilkbfmaofmjoaaGreatDoor
