/-
  Both rosters, the program's and the document's, each with what is its own (layer 19).
-/
import Derived.Test.YtilkbfmaofmjoaaGreatDoorZj45
import Derived.Test.YtilkbfmaofmjoaaGreatDoorZj46
import Derived.Test.YtilkbfmaofmjoaaGreatDoorZj42
import Derived.Deep.MidRow
import Derived.BigQuiet
namespace Go.Proofs.YtilkbfmaofmjoaaGreatDoor
open Go.RowKit Go.Rel
set_option linter.unusedSimpArgs false
set_option linter.unusedVariables false

/-- What a step may change. -/
def Ch4 (B1 B2 B3 D : Nat) (k : Nat) : Prop := Ch3 B1 B2 B3 k ∨ k = D
/-- Both rosters; neither has anything of the other's; what was there before base is neither's, but for the table of powers. -/
def Both (base : Nat) (w : World) (B B1 B2 B3 m : Nat) (d : Ro) (D md : Nat) (d2 : Ro) : Prop :=
  ∃ Sp Sd : Nat → Prop, RoAt Sp w B B1 B2 B3 m d ∧ RdAt base Sd w D md d2 ∧ (∀ k, Sp k → k < w.heap.size ∧ ¬ Sd k ∧ (base ≤ k ∨ k = gPw)) ∧ ∀ k, Sd k → k < w.heap.size
theorem RdAt.top {base : Nat} {S : Nat → Prop} {w : World} {B m : Nat} {d : Ro} (h : RdAt base S w B m d) : base ≤ w.heap.size := by
  obtain ⟨_, _, _, _, _, _, _, _, h1⟩ := h
  exact h1.top
section
variable {base : Nat} {w w' : World} {B B1 B2 B3 m D md : Nat} {d d2 : Ro}
theorem Both.below (h : Both base w B B1 B2 B3 m d D md d2) (hb : Below w.heap.size w w') : Both base w' B B1 B2 B3 m d D md d2 := by
  obtain ⟨Sp, Sd, h1, h2, h3, h4⟩ := h
  have hz := hb.size
  exact ⟨Sp, Sd, h1.below hb, h2.below hb, fun k hk => ⟨by have := (h3 k hk).1; omega, (h3 k hk).2⟩, fun k hk => by have := h4 k hk; omega⟩
theorem Both.top (h : Both base w B B1 B2 B3 m d D md d2) : base ≤ w.heap.size := by
  obtain ⟨Sp, Sd, h1, h2, h3, h4⟩ := h
  exact h2.top
theorem Both.lt (h : Both base w B B1 B2 B3 m d D md d2) : (B < w.heap.size ∧ B1 < w.heap.size ∧ B2 < w.heap.size ∧ B3 < w.heap.size) ∧ D < w.heap.size := by
  obtain ⟨Sp, Sd, h1, h2, h3, h4⟩ := h
  exact ⟨h1.lt, h2.lt⟩
/-- What a step changes lies behind base. -/
theorem Both.ch (h : Both base w B B1 B2 B3 m d D md d2) : ∀ k, Ch4 B1 B2 B3 D k → base ≤ k := by
  obtain ⟨Sp, Sd, h1, h2, h3, h4⟩ := h
  rintro k (hk | rfl)
  · have := h1.ch k hk
    exact (h3 k this.1).2.2.resolve_right this.2.2.1
  · exact h2.lo _ h2.mine
/-- A call of the program's. -/
theorem Both.left (h : Both base w B B1 B2 B3 m d D md d2) : ∃ Sp, RoAt Sp w B B1 B2 B3 m d ∧ ∀ w' d', RoAt (fun k => Sp k ∨ w.heap.size ≤ k) w' B B1 B2 B3 m d' → But (Ch3 B1 B2 B3) w w' → Both base w' B B1 B2 B3 m d' D md d2 := by
  obtain ⟨Sp, Sd, h1, h2, h3, h4⟩ := h
  have ht := h2.top
  refine ⟨Sp, h1, fun w' d' k1 kb => ?_⟩
  have hz := kb.size
  refine ⟨fun k => (Sp k ∨ w.heap.size ≤ k) ∧ k < w'.heap.size, Sd, k1.narrow fun k hk hs => ⟨hs, hk⟩, h2.but kb fun k e => ?_, fun k hk => ⟨hk.2, ?_, ?_⟩, fun k hk => by have := h4 k hk; omega⟩
  · have hc := h1.ch k e
    exact ⟨(h3 k hc.1).2.1, (h3 k hc.1).2.2.resolve_right hc.2.2.1⟩
  · rcases hk.1 with hs | hs
    · exact (h3 k hs).2.1
    · intro e
      have := h4 k e
      omega
  · rcases hk.1 with hs | hs
    · exact (h3 k hs).2.2
    · exact .inl (Nat.le_trans ht hs)
/-- A call of the document's. -/
theorem Both.right (h : Both base w B B1 B2 B3 m d D md d2) : ∃ Sd, RdAt base Sd w D md d2 ∧ ∀ w' d', RdAt base (fun k => Sd k ∨ w.heap.size ≤ k) w' D md d' → But (· = D) w w' → Both base w' B B1 B2 B3 m d D md d' := by
  obtain ⟨Sp, Sd, h1, h2, h3, h4⟩ := h
  have hD := h2.mine
  refine ⟨Sd, h2, fun w' d' k1 kb => ?_⟩
  have hz := kb.size
  refine ⟨Sp, fun k => (Sd k ∨ w.heap.size ≤ k) ∧ k < w'.heap.size, h1.but kb (fun k e hs => (h3 k hs).2.1 (by rw [show k = D from e]; exact hD)), k1.narrow (fun k hk hs => ⟨hs, hk⟩) (fun k hk => k1.lo k hk.1), fun k hk => ⟨by have := (h3 k hk).1; omega, fun e => ?_, (h3 k hk).2.2⟩, fun k hk => hk.2⟩
  rcases e.1 with z | z
  · exact (h3 k hk).2.1 z
  · have := (h3 k hk).1; omega
theorem Both.read (h : Both base w B B1 B2 B3 m d D md d2) : ∃ Sp, RoAt Sp w B B1 B2 B3 m d := by
  obtain ⟨Sp, Sd, h1, _⟩ := h
  exact ⟨Sp, h1⟩
theorem Both.ref (h : Both base w B B1 B2 B3 m d D md d2) : ∃ Sd A1 A2 A3 c1 c2 c3 l2, RoOk md d2 ∧ RdIs base Sd w D A1 A2 A3 c1 c2 c3 md l2 d2 := by
  obtain ⟨Sp, Sd, _, ⟨h0, A1, A2, A3, c1, c2, c3, l2, h1⟩, _⟩ := h
  exact ⟨Sd, A1, A2, A3, c1, c2, c3, l2, h0, h1⟩
/-- A copy is changed, in blocks that neither has. -/
theorem Both.aside {b1 b2 b3 : Nat} (h : Both base w B B1 B2 B3 m d D md d2) {w1 : World} (hb : Below w.heap.size w w1) (hz : w.heap.size ≤ b1 ∧ w.heap.size ≤ b2 ∧ w.heap.size ≤ b3) (hc : But (Ch3 b1 b2 b3) w1 w') : Both base w' B B1 B2 B3 m d D md d2 := by
  obtain ⟨Sp, Sd, h1, h2, h3, h4⟩ := h
  have ht := h2.top
  have hs1 := hb.size
  have hs2 := hc.size
  have key : ∀ k, Ch3 b1 b2 b3 k → w.heap.size ≤ k := by
    rintro k (rfl | rfl | rfl)
    · exact hz.1
    · exact hz.2.1
    · exact hz.2.2
  exact ⟨Sp, Sd, (h1.below hb).but hc fun k e hs => by have := key k e; have := (h3 k hs).1; omega, (h2.below hb).but hc fun k e => ⟨fun hs => by have := key k e; have := h4 k hs; omega, by have := key k e; omega⟩, fun k hk => ⟨by have := (h3 k hk).1; omega, (h3 k hk).2⟩, fun k hk => by have := h4 k hk; omega⟩
end
/-- Both, new. -/
theorem both_new {w w1 w2 : World} {base B B1 B2 B3 D m md : Nat} (hbase : base ≤ w.heap.size) (hg : gPw < base) (hp : RoAt (fun k => w.heap.size ≤ k ∨ k = gPw) w1 B B1 B2 B3 m (Ro.new m)) (hd : RdAt base (· = D) w2 D md (Ro.new md)) (hD : w1.heap.size = D) (hb1 : w.heap.size ≤ w1.heap.size) (hb2 : Below w1.heap.size w1 w2) : Both base w2 B B1 B2 B3 m (Ro.new m) D md (Ro.new md) := by
  have h2 := hb2.size
  have h3 := hd.lt
  refine ⟨fun k => k < w1.heap.size ∧ (w.heap.size ≤ k ∨ k = gPw), (· = D), (hp.narrow fun k hk z => ⟨hk, z⟩).below hb2, hd, fun k hk => ⟨by omega, fun e => by omega, ?_⟩, fun k hk => by omega⟩
  rcases hk.2 with z | z
  · exact .inl (by omega)
  · exact .inr z
end Go.Proofs.YtilkbfmaofmjoaaGreatDoor
/-
  A step of layer 19's laws, in memory; what it makes of a roster.
-/
namespace Go.Proofs.YtilkbfmaofmjoaaGreatDoor
open Go.RowKit
set_option linter.unusedSimpArgs false
set_option linter.unusedVariables false

structure RSt where
  kind : Int
  node : Int
  text : ByteArray
  s : Rw SvW
  c : Rw CkA
  ix : Nat
structure RSt.Ok (W : World) (x : RSt) : Prop where
  node : -9223372036854775808 ≤ x.node ∧ x.node ≤ 9223372036854775807
  text : x.text.size ≤ 140737488355328
  s : SvIn W x.s
  c : CkIn x.c
  ix : x.ix < 18446744073709551616
theorem RSt.Ok.below {W W' : World} {x : RSt} (h : x.Ok W) (hb : Below W.heap.size W W') : x.Ok W' := ⟨h.node, h.text, h.s.below hb, h.c, h.ix⟩
abbrev TRs : TypeId := 35
def stC (x : RSt) : List Value := [.int .i64 x.kind, .int .i64 x.node, .string x.text, .int .i64 x.s.val.a.node, .string x.s.val.a.id, .string x.s.val.a.name, .slice x.s.val.A x.s.val.n x.s.val.c, .int .i64 x.s.val.a.port, .int .u64 (x.s.made : Int), .int .u64 (x.s.ix : Int), .int .i64 x.c.val.node, .string x.c.val.id, .string x.c.val.svc, .string x.c.val.note, .int .i64 x.c.val.status, .int .u64 (x.c.made : Int), .int .u64 (x.c.ix : Int), .int .u64 (x.ix : Int)]
def stV (x : RSt) : Value := .agg #[.int .i64 x.kind, .int .i64 x.node, .string x.text, .int .i64 x.s.val.a.node, .string x.s.val.a.id, .string x.s.val.a.name, .slice x.s.val.A x.s.val.n x.s.val.c, .int .i64 x.s.val.a.port, .int .u64 (x.s.made : Int), .int .u64 (x.s.ix : Int), .int .i64 x.c.val.node, .string x.c.val.id, .string x.c.val.svc, .string x.c.val.note, .int .i64 x.c.val.status, .int .u64 (x.c.made : Int), .int .u64 (x.c.ix : Int), .int .u64 (x.ix : Int)]
theorem stC_len (x : RSt) : (stC x).length = 18 := rfl
theorem st_cells {w : World} {b o : Nat} {x : RSt} (h : ItAt stC w b o x) : w.cell? ⟨b, o, none⟩ = some (.int .i64 x.kind) ∧ w.cell? ⟨b, o + 1, none⟩ = some (.int .i64 x.node) ∧ w.cell? ⟨b, o + 2, none⟩ = some (.string x.text) ∧ w.cell? ⟨b, o + 3, none⟩ = some (.int .i64 x.s.val.a.node) ∧ w.cell? ⟨b, o + 4, none⟩ = some (.string x.s.val.a.id) ∧ w.cell? ⟨b, o + 5, none⟩ = some (.string x.s.val.a.name) ∧ w.cell? ⟨b, o + 6, none⟩ = some (.slice x.s.val.A x.s.val.n x.s.val.c) ∧ w.cell? ⟨b, o + 7, none⟩ = some (.int .i64 x.s.val.a.port) ∧ w.cell? ⟨b, o + 8, none⟩ = some (.int .u64 (x.s.made : Int)) ∧ w.cell? ⟨b, o + 9, none⟩ = some (.int .u64 (x.s.ix : Int)) ∧ w.cell? ⟨b, o + 10, none⟩ = some (.int .i64 x.c.val.node) ∧ w.cell? ⟨b, o + 11, none⟩ = some (.string x.c.val.id) ∧ w.cell? ⟨b, o + 12, none⟩ = some (.string x.c.val.svc) ∧ w.cell? ⟨b, o + 13, none⟩ = some (.string x.c.val.note) ∧ w.cell? ⟨b, o + 14, none⟩ = some (.int .i64 x.c.val.status) ∧ w.cell? ⟨b, o + 15, none⟩ = some (.int .u64 (x.c.made : Int)) ∧ w.cell? ⟨b, o + 16, none⟩ = some (.int .u64 (x.c.ix : Int)) ∧ w.cell? ⟨b, o + 17, none⟩ = some (.int .u64 (x.ix : Int)) :=
  ⟨h 0 _ rfl, h 1 _ rfl, h 2 _ rfl, h 3 _ rfl, h 4 _ rfl, h 5 _ rfl, h 6 _ rfl, h 7 _ rfl, h 8 _ rfl, h 9 _ rfl, h 10 _ rfl, h 11 _ rfl, h 12 _ rfl, h 13 _ rfl, h 14 _ rfl, h 15 _ rfl, h 16 _ rfl, h 17 _ rfl⟩
theorem st_blk {w : World} {b : Nat} {x : RSt} {t : TypeId} (h : w.heap[b]? = some (.cells #[.int .i64 x.kind, .int .i64 x.node, .string x.text, .int .i64 x.s.val.a.node, .string x.s.val.a.id, .string x.s.val.a.name, .slice x.s.val.A x.s.val.n x.s.val.c, .int .i64 x.s.val.a.port, .int .u64 (x.s.made : Int), .int .u64 (x.s.ix : Int), .int .i64 x.c.val.node, .string x.c.val.id, .string x.c.val.svc, .string x.c.val.note, .int .i64 x.c.val.status, .int .u64 (x.c.made : Int), .int .u64 (x.c.ix : Int), .int .u64 (x.ix : Int)] t (0, 0))) : w.cell? ⟨b, 0, none⟩ = some (.int .i64 x.kind) ∧ w.cell? ⟨b, 1, none⟩ = some (.int .i64 x.node) ∧ w.cell? ⟨b, 2, none⟩ = some (.string x.text) ∧ w.cell? ⟨b, 3, none⟩ = some (.int .i64 x.s.val.a.node) ∧ w.cell? ⟨b, 4, none⟩ = some (.string x.s.val.a.id) ∧ w.cell? ⟨b, 5, none⟩ = some (.string x.s.val.a.name) ∧ w.cell? ⟨b, 6, none⟩ = some (.slice x.s.val.A x.s.val.n x.s.val.c) ∧ w.cell? ⟨b, 7, none⟩ = some (.int .i64 x.s.val.a.port) ∧ w.cell? ⟨b, 8, none⟩ = some (.int .u64 (x.s.made : Int)) ∧ w.cell? ⟨b, 9, none⟩ = some (.int .u64 (x.s.ix : Int)) ∧ w.cell? ⟨b, 10, none⟩ = some (.int .i64 x.c.val.node) ∧ w.cell? ⟨b, 11, none⟩ = some (.string x.c.val.id) ∧ w.cell? ⟨b, 12, none⟩ = some (.string x.c.val.svc) ∧ w.cell? ⟨b, 13, none⟩ = some (.string x.c.val.note) ∧ w.cell? ⟨b, 14, none⟩ = some (.int .i64 x.c.val.status) ∧ w.cell? ⟨b, 15, none⟩ = some (.int .u64 (x.c.made : Int)) ∧ w.cell? ⟨b, 16, none⟩ = some (.int .u64 (x.c.ix : Int)) ∧ w.cell? ⟨b, 17, none⟩ = some (.int .u64 (x.ix : Int)) :=
  ⟨cellsN h 0 _ rfl, cellsN h 1 _ rfl, cellsN h 2 _ rfl, cellsN h 3 _ rfl, cellsN h 4 _ rfl, cellsN h 5 _ rfl, cellsN h 6 _ rfl, cellsN h 7 _ rfl, cellsN h 8 _ rfl, cellsN h 9 _ rfl, cellsN h 10 _ rfl, cellsN h 11 _ rfl, cellsN h 12 _ rfl, cellsN h 13 _ rfl, cellsN h 14 _ rfl, cellsN h 15 _ rfl, cellsN h 16 _ rfl, cellsN h 17 _ rfl⟩
/-- What a step makes of a roster. -/
def RSt.after (x : RSt) (d : Ro) : Nat × Ro :=
  if x.kind = 0 then d.node ⟨x.node, x.text⟩ x.ix else if x.kind = 1 then d.dropN x.node x.ix else if x.kind = 2 then d.service x.s.val.a x.ix else if x.kind = 3 then d.dropS x.node x.text x.ix
  else if x.kind = 4 then d.check x.c.val x.ix else if x.kind = 5 then d.dropC x.node x.text x.ix else (0, d)
theorem RSt.after_ok {m : Nat} {d : Ro} (x : RSt) (h : RoOk m d) (hi : x.ix < 18446744073709551616) : RoOk m (x.after d).2 := by
  unfold RSt.after
  split
  · exact h.node hi
  · split
    · exact h.dropN hi
    · split
      · exact h.service hi
      · split
        · exact h.dropS hi
        · split
          · exact h.check hi
          · split
            · exact h.dropC hi
            · exact h
end Go.Proofs.YtilkbfmaofmjoaaGreatDoor
/-
  A region that turns both rosters (layer 19).
-/
namespace Go.Proofs.YtilkbfmaofmjoaaGreatDoor
open Go.RowKit Go.Rel
set_option linter.unusedSimpArgs false
set_option linter.unusedVariables false

/-- Within a region that turns both: j1 is the program's call, j2 the document's; X holds the step, the tags of its service lie before base; they tell v1, v2. -/
structure StR (base X : Nat) (x : RSt) (cs : Array Value) (j1 j2 B B1 B2 B3 m D md : Nat) (d d' d2 d2' : Ro) (v1 v2 : Value) (f : Nat → Bool) (e : Nat → Value) (w : World) : Prop where
  both : Both base w B B1 B2 B3 m (if f j1 then d' else d) D md (if f j2 then d2' else d2)
  blk : w.heap[X]? = some (.cells cs TRs (0, 0))
  out : ¬ Ch4 B1 B2 B3 D X
  tg : TgAt (fun k => k < base) w x.s.val
  k1 : f j1 = true → e j1 = v1
  k2 : f j2 = true → e j2 = v2
section
variable {base X : Nat} {x : RSt} {cs : Array Value} {j1 j2 B B1 B2 B3 m D md : Nat} {d d' d2 d2' : Ro} {v1 v2 : Value} {f : Nat → Bool} {e e' : Nat → Value} {w w' : World} {v : Value} {ops : Array Oper}
theorem StR.start (h : Both base w B B1 B2 B3 m d D md d2) (hx : w.heap[X]? = some (.cells cs TRs (0, 0))) (ho : ¬ Ch4 B1 B2 B3 D X) (ht : TgAt (fun k => k < base) w x.s.val) (e : Nat → Value) : StR base X x cs j1 j2 B B1 B2 B3 m D md d d' d2 d2' v1 v2 (fun _ => false) e { w with drawn := w.drawn + 1 } :=
  ⟨h.below ⟨rfl, rfl, rfl, Nat.le_refl _, fun _ _ => rfl⟩, hx, ho, ht.below ⟨rfl, rfl, rfl, Nat.le_refl _, fun _ _ => rfl⟩, (fun z => by cases z), (fun z => by cases z)⟩
theorem StR.keep {j : Nat} (hj : [j1, j2].contains j = false) (h : StR base X x cs j1 j2 B B1 B2 B3 m D md d d' d2 d2' v1 v2 f e w) (hp : Go.Rel.Put ops j e v e') : StR base X x cs j1 j2 B B1 B2 B3 m D md d d' d2 d2' v1 v2 (Go.Rel.upd f j) e' w := by
  simp only [List.contains_cons, List.contains_nil, Bool.or_false, Bool.or_eq_false_iff, beq_eq_false_iff_ne] at hj
  have e1 := hp.1 j1 (Ne.symm hj.1)
  have e2 := hp.1 j2 (Ne.symm hj.2)
  refine ⟨?_, h.blk, h.out, h.tg, ?_, ?_⟩
  · rw [ale_off hj.1, ale_off hj.2]; exact h.both
  · rw [ale_off hj.1, e1]; exact h.k1
  · rw [ale_off hj.2, e2]; exact h.k2
theorem StR.left (h : StR base X x cs j1 j2 B B1 B2 B3 m D md d d' d2 d2' v1 v2 f e w) (hj : j1 ≠ j2) (hf : f j1 = false) {fn : Nat} {args : Array Value}
    (C : ∀ S, RoAt S w B B1 B2 B3 m d → TgAt (fun k => k < base) w x.s.val → Calls Tryz.prog fn args w fun r w' => r = .returned v1 ∧ RoAt (fun k => S k ∨ w.heap.size ≤ k) w' B B1 B2 B3 m d' ∧ But (Ch3 B1 B2 B3) w w') :
    Calls Tryz.prog fn args w fun r w' => ∃ v, r = .returned v ∧ (∀ e', (∀ m, m ≠ j1 → e' m = e m) → e' j1 = v → StR base X x cs j1 j2 B B1 B2 B3 m D md d d' d2 d2' v1 v2 (Go.Rel.upd f j1) e' w') ∧ But (Ch4 B1 B2 B3 D) w w' := by
  have hb := h.both
  rw [hf] at hb
  have hch := hb.ch
  obtain ⟨Sp, k1, k4⟩ := hb.left
  refine (C Sp k1 h.tg).mono ?_
  rintro r w' ⟨rfl, q1, q2⟩
  have g2 : But (Ch4 B1 B2 B3 D) w w' := q2.mono fun k z => .inl z
  refine ⟨_, rfl, fun e' he hv => ⟨?_, (g2.block X (block_lt h.blk) h.out).trans h.blk, h.out, h.tg.but g2 (fun k z q => by have := hch k z; omega), fun _ => hv, fun z => ?_⟩, g2⟩
  · rw [ale_on, ale_off hj]
    exact k4 w' d' q1 q2
  · rw [ale_off hj] at z
    rw [he j2 (Ne.symm hj)]
    exact h.k2 z
theorem StR.right (h : StR base X x cs j1 j2 B B1 B2 B3 m D md d d' d2 d2' v1 v2 f e w) (hj : j2 ≠ j1) (hf : f j2 = false) {fn : Nat} {args : Array Value}
    (C : ∀ S, RdAt base S w D md d2 → TgAt (fun k => k < base) w x.s.val → Calls Tryz.prog fn args w fun r w' => r = .returned v2 ∧ RdAt base (fun k => S k ∨ w.heap.size ≤ k) w' D md d2' ∧ But (· = D) w w') :
    Calls Tryz.prog fn args w fun r w' => ∃ v, r = .returned v ∧ (∀ e', (∀ m, m ≠ j2 → e' m = e m) → e' j2 = v → StR base X x cs j1 j2 B B1 B2 B3 m D md d d' d2 d2' v1 v2 (Go.Rel.upd f j2) e' w') ∧ But (Ch4 B1 B2 B3 D) w w' := by
  have hb := h.both
  rw [hf] at hb
  have hch := hb.ch
  obtain ⟨Sd, k1, k4⟩ := hb.right
  refine (C Sd k1 h.tg).mono ?_
  rintro r w' ⟨rfl, q1, q2⟩
  have g2 : But (Ch4 B1 B2 B3 D) w w' := q2.mono fun k z => .inr z
  refine ⟨_, rfl, fun e' he hv => ⟨?_, (g2.block X (block_lt h.blk) h.out).trans h.blk, h.out, h.tg.but g2 (fun k z q => by have := hch k z; omega), fun z => ?_, fun _ => hv⟩, g2⟩
  · rw [ale_on, ale_off hj]
    exact k4 w' d2' q1 q2
  · rw [ale_off hj] at z
    rw [he j1 (Ne.symm hj)]
    exact h.k1 z
end
/-- What a step makes of both. -/
def StepPost (base : Nat) (w : World) (B B1 B2 B3 m : Nat) (d' : Ro) (D md : Nat) (d2' : Ro) (P : Prop) (e : Ending) (w' : World) : Prop :=
  ∃ b, e = .returned (.bool b) ∧ Both base w' B B1 B2 B3 m d' D md d2' ∧ But (Ch4 B1 B2 B3 D) w w' ∧ (P → b = true)
end Go.Proofs.YtilkbfmaofmjoaaGreatDoor
/-
  The law's step: its six calls, walked (layer 19).
-/
namespace Go.Proofs.YtilkbfmaofmjoaaGreatDoor
open Go.RowKit Go.Rel
set_option linter.unusedSimpArgs false
set_option linter.unusedVariables false

def rst0 (B : Nat) (D : Nat) (X : Nat) (x : RSt) (bq : Bool) : Nat → Value
  | 0 => .pointer (some ⟨B, 0, none⟩)
  | 1 | 9 => .pointer (some ⟨X, 1, none⟩)
  | 2 | 10 => .int .i64 x.node
  | 3 | 11 => .pointer (some ⟨X, 2, none⟩)
  | 4 | 12 => .string x.text
  | 5 | 13 => .pointer (some ⟨X, 17, none⟩)
  | 6 | 14 => .int .u64 (x.ix : Int)
  | 8 => .pointer (some ⟨D, 0, none⟩)
  | 16 | 17 => .bool bq
  | _ => undef
set_option maxHeartbeats 4000000 in
set_option maxRecDepth 100000 in
theorem step0_any {base : Nat} {w : World} {B B1 B2 B3 m D md : Nat} {d d2 : Ro} (x : RSt) (h : Both base w B B1 B2 B3 m d D md d2) (hx : x.Ok w) (ht : TgAt (fun k => k < base) w x.s.val) (hk : x.kind = 0) : Calls Tryz.prog 11 #[.pointer (some ⟨B, 0, none⟩), .pointer (some ⟨D, 0, none⟩), stV x] w fun e w' => StepPost base w B B1 B2 B3 m (x.after d).2 D md (x.after d2).2 ((x.after d).1 = (x.after d2).1) e w' := by
  have ha1 : x.after d = d.node ⟨x.node, x.text⟩ x.ix := by unfold RSt.after; simp only [hk]; rfl
  have ha2 : x.after d2 = d2.node ⟨x.node, x.text⟩ x.ix := by unfold RSt.after; simp only [hk]; rfl
  rw [ha1, ha2]
  obtain ⟨⟨er1, d'⟩, he1⟩ : ∃ r, d.node ⟨x.node, x.text⟩ x.ix = r := ⟨_, rfl⟩
  obtain ⟨⟨er2, d2'⟩, he2⟩ : ∃ r, d2.node ⟨x.node, x.text⟩ x.ix = r := ⟨_, rfl⟩
  rw [he1, he2]
  have HE1 := Lib.hid he1
  have HE2 := Lib.hid he2
  have HOk := Lib.hid hx
  have HSi := Lib.hid (fun (W : World) (ht : TgAt (fun k => k < base) W x.s.val) => (⟨hx.s.node, hx.s.port, hx.s.id, hx.s.name, ht.tx, hx.s.small⟩ : SvIn W x.s))
  have b0 := below1 w #[.int .i64 x.kind, .int .i64 x.node, .string x.text, .int .i64 x.s.val.a.node, .string x.s.val.a.id, .string x.s.val.a.name, .slice x.s.val.A x.s.val.n x.s.val.c, .int .i64 x.s.val.a.port, .int .u64 (x.s.made : Int), .int .u64 (x.s.ix : Int), .int .i64 x.c.val.node, .string x.c.val.id, .string x.c.val.svc, .string x.c.val.note, .int .i64 x.c.val.status, .int .u64 (x.c.made : Int), .int .u64 (x.c.ix : Int), .int .u64 (x.ix : Int)] TRs
  have k0 := heap_alloc_new w (.cells #[.int .i64 x.kind, .int .i64 x.node, .string x.text, .int .i64 x.s.val.a.node, .string x.s.val.a.id, .string x.s.val.a.name, .slice x.s.val.A x.s.val.n x.s.val.c, .int .i64 x.s.val.a.port, .int .u64 (x.s.made : Int), .int .u64 (x.s.ix : Int), .int .i64 x.c.val.node, .string x.c.val.id, .string x.c.val.svc, .string x.c.val.note, .int .i64 x.c.val.status, .int .u64 (x.c.made : Int), .int .u64 (x.c.ix : Int), .int .u64 (x.ix : Int)] TRs)
  obtain ⟨X, hX⟩ : ∃ X, w.heap.size = X := ⟨_, rfl⟩
  obtain ⟨W1, hW1⟩ : ∃ W1, w.alloc (.cells #[.int .i64 x.kind, .int .i64 x.node, .string x.text, .int .i64 x.s.val.a.node, .string x.s.val.a.id, .string x.s.val.a.name, .slice x.s.val.A x.s.val.n x.s.val.c, .int .i64 x.s.val.a.port, .int .u64 (x.s.made : Int), .int .u64 (x.s.ix : Int), .int .i64 x.c.val.node, .string x.c.val.id, .string x.c.val.svc, .string x.c.val.note, .int .i64 x.c.val.status, .int .u64 (x.c.made : Int), .int .u64 (x.c.ix : Int), .int .u64 (x.ix : Int)] TRs) = W1 := ⟨_, rfl⟩
  rw [hW1] at b0 k0
  rw [hX] at k0
  have HBo := Lib.hid (h.below b0)
  have HOut : Hid (¬ Ch4 B1 B2 B3 D X) := Lib.hid (by
    have := h.lt
    rintro ((z | z | z) | z) <;> omega)
  have HTg := Lib.hid (ht.below b0)
  have HB0 := Lib.hid b0
  have HK1 := Lib.hid k0
  have HW1 := Lib.hid hW1
  have HX := Lib.hid hX
  obtain ⟨bq, hbq⟩ : ∃ bq, ((er1 : Int) == (er2 : Int)) = bq := ⟨_, rfl⟩
  have HBq := Lib.hid hbq
  have HBq2 : Hid (er1 = er2 → bq = true) := Lib.hid (fun e => by rw [← hbq, e]; simp)
  have HCp : Hid (∀ (f : Nat → Bool) (e : Nat → Value) (w' : World), StR base X x #[.int .i64 x.kind, .int .i64 x.node, .string x.text, .int .i64 x.s.val.a.node, .string x.s.val.a.id, .string x.s.val.a.name, .slice x.s.val.A x.s.val.n x.s.val.c, .int .i64 x.s.val.a.port, .int .u64 (x.s.made : Int), .int .u64 (x.s.ix : Int), .int .i64 x.c.val.node, .string x.c.val.id, .string x.c.val.svc, .string x.c.val.note, .int .i64 x.c.val.status, .int .u64 (x.c.made : Int), .int .u64 (x.c.ix : Int), .int .u64 (x.ix : Int)] 7 15 B B1 B2 B3 m D md d d' d2 d2' (.int .i64 (er1 : Int)) (.int .i64 (er2 : Int)) f e w' → f 7 = false → Calls Tryz.prog 28 #[.pointer (some ⟨B, 0, none⟩), .int .i64 x.node, .string x.text, .int .u64 (x.ix : Int)] w' fun r w2 => ∃ v, r = .returned v ∧ (∀ e', (∀ m, m ≠ 7 → e' m = e m) → e' 7 = v → StR base X x #[.int .i64 x.kind, .int .i64 x.node, .string x.text, .int .i64 x.s.val.a.node, .string x.s.val.a.id, .string x.s.val.a.name, .slice x.s.val.A x.s.val.n x.s.val.c, .int .i64 x.s.val.a.port, .int .u64 (x.s.made : Int), .int .u64 (x.s.ix : Int), .int .i64 x.c.val.node, .string x.c.val.id, .string x.c.val.svc, .string x.c.val.note, .int .i64 x.c.val.status, .int .u64 (x.c.made : Int), .int .u64 (x.c.ix : Int), .int .u64 (x.ix : Int)] 7 15 B B1 B2 B3 m D md d d' d2 d2' (.int .i64 (er1 : Int)) (.int .i64 (er2 : Int)) (Go.Rel.upd f 7) e' w2) ∧ But (Ch4 B1 B2 B3 D) w' w2) := Lib.hid fun f e w' hI hf =>
    hI.left (by decide) hf fun S h ht => by
      have h9 := rnode_any x.node x.text x.ix h HOk.out.node (Nat.le_trans HOk.out.text (by decide)) HOk.out.ix
      rw [show d.node ⟨x.node, x.text⟩ x.ix = (er1, d') from HE1.out] at h9
      exact h9
  have HCd : Hid (∀ (f : Nat → Bool) (e : Nat → Value) (w' : World), StR base X x #[.int .i64 x.kind, .int .i64 x.node, .string x.text, .int .i64 x.s.val.a.node, .string x.s.val.a.id, .string x.s.val.a.name, .slice x.s.val.A x.s.val.n x.s.val.c, .int .i64 x.s.val.a.port, .int .u64 (x.s.made : Int), .int .u64 (x.s.ix : Int), .int .i64 x.c.val.node, .string x.c.val.id, .string x.c.val.svc, .string x.c.val.note, .int .i64 x.c.val.status, .int .u64 (x.c.made : Int), .int .u64 (x.c.ix : Int), .int .u64 (x.ix : Int)] 7 15 B B1 B2 B3 m D md d d' d2 d2' (.int .i64 (er1 : Int)) (.int .i64 (er2 : Int)) f e w' → f 15 = false → Calls Tryz.prog 36 #[.pointer (some ⟨D, 0, none⟩), .int .i64 x.node, .string x.text, .int .u64 (x.ix : Int)] w' fun r w2 => ∃ v, r = .returned v ∧ (∀ e', (∀ m, m ≠ 15 → e' m = e m) → e' 15 = v → StR base X x #[.int .i64 x.kind, .int .i64 x.node, .string x.text, .int .i64 x.s.val.a.node, .string x.s.val.a.id, .string x.s.val.a.name, .slice x.s.val.A x.s.val.n x.s.val.c, .int .i64 x.s.val.a.port, .int .u64 (x.s.made : Int), .int .u64 (x.s.ix : Int), .int .i64 x.c.val.node, .string x.c.val.id, .string x.c.val.svc, .string x.c.val.note, .int .i64 x.c.val.status, .int .u64 (x.c.made : Int), .int .u64 (x.c.ix : Int), .int .u64 (x.ix : Int)] 7 15 B B1 B2 B3 m D md d d' d2 d2' (.int .i64 (er1 : Int)) (.int .i64 (er2 : Int)) (Go.Rel.upd f 15) e' w2) ∧ But (Ch4 B1 B2 B3 D) w' w2) := Lib.hid fun f e w' hI hf =>
    hI.right (by decide) hf fun S h ht => by
      have h9 := rdnode_any x.node x.text x.ix h (Nat.le_trans HOk.out.text (by decide)) HOk.out.ix
      rw [show d2.node ⟨x.node, x.text⟩ x.ix = (er2, d2') from HE2.out] at h9
      exact h9
  unfold stV
  rw [hk]
  have HKd := Lib.hid hk
  clear h hx ht ha1 ha2 he1 he2 b0 k0 hW1 hX hbq hk
  go_enter Tryz.func11, Tryz.ntmps11
  go_wp2_with fail
  rw [← HKd.out]
  rw [HW1.out, HX.out]
  have hre : ∀ w : World, (But (Ch4 B1 B2 B3 D)) w w := (fun w => But.refl _ w)
  have hrd : ∀ (ops9 : Array Oper) (f9 : Nat → Bool) (e9 : Nat → Value) (w9 : World) (i9 : Nat) (v9 : Value) (e8 : Nat → Value), [7, 15].contains i9 = false → (fun (f : Nat → Bool) (e : Nat → Value) (w : World) => StR base X x #[.int .i64 x.kind, .int .i64 x.node, .string x.text, .int .i64 x.s.val.a.node, .string x.s.val.a.id, .string x.s.val.a.name, .slice x.s.val.A x.s.val.n x.s.val.c, .int .i64 x.s.val.a.port, .int .u64 (x.s.made : Int), .int .u64 (x.s.ix : Int), .int .i64 x.c.val.node, .string x.c.val.id, .string x.c.val.svc, .string x.c.val.note, .int .i64 x.c.val.status, .int .u64 (x.c.made : Int), .int .u64 (x.c.ix : Int), .int .u64 (x.ix : Int)] 7 15 B B1 B2 B3 m D md d d' d2 d2' (.int .i64 (er1 : Int)) (.int .i64 (er2 : Int)) f e w) f9 e9 w9 → Go.Rel.Put ops9 i9 e9 v9 e8 → (fun (f : Nat → Bool) (e : Nat → Value) (w : World) => StR base X x #[.int .i64 x.kind, .int .i64 x.node, .string x.text, .int .i64 x.s.val.a.node, .string x.s.val.a.id, .string x.s.val.a.name, .slice x.s.val.A x.s.val.n x.s.val.c, .int .i64 x.s.val.a.port, .int .u64 (x.s.made : Int), .int .u64 (x.s.ix : Int), .int .i64 x.c.val.node, .string x.c.val.id, .string x.c.val.svc, .string x.c.val.note, .int .i64 x.c.val.status, .int .u64 (x.c.made : Int), .int .u64 (x.c.ix : Int), .int .u64 (x.ix : Int)] 7 15 B B1 B2 B3 m D md d d' d2 d2' (.int .i64 (er1 : Int)) (.int .i64 (er2 : Int)) f e w) (Go.Rel.upd f9 i9) e8 w9 := (fun _ _ _ _ _ _ _ hj h hp => StR.keep hj h hp)
  refine Go.Rel.wp_tabe (by kernel_rfl) (by kernel_rfl) (fun (f : Nat → Bool) (e : Nat → Value) (w : World) => StR base X x #[.int .i64 x.kind, .int .i64 x.node, .string x.text, .int .i64 x.s.val.a.node, .string x.s.val.a.id, .string x.s.val.a.name, .slice x.s.val.A x.s.val.n x.s.val.c, .int .i64 x.s.val.a.port, .int .u64 (x.s.made : Int), .int .u64 (x.s.ix : Int), .int .i64 x.c.val.node, .string x.c.val.id, .string x.c.val.svc, .string x.c.val.note, .int .i64 x.c.val.status, .int .u64 (x.c.made : Int), .int .u64 (x.c.ix : Int), .int .u64 (x.ix : Int)] 7 15 B B1 B2 B3 m D md d d' d2 d2' (.int .i64 (er1 : Int)) (.int .i64 (er2 : Int)) f e w) (But (Ch4 B1 B2 B3 D)) hre ((fun _ _ _ h k => h.trans k)) ((But.refl _ _).drew) (fun e => StR.start HBo.out HK1.out HOut.out HTg.out e) (rst0 B D X x bq) (fun | 7, v, w => True | 15, v, w => True | _, _, _ => True) (fun i => ([7, 15] : List Nat).contains i) (fun i => ([2, 4, 6, 7, 10, 12, 14, 15, 16] : List Nat).contains i) (by kernel_rfl) (fun i v w w' h g => by revert h; split <;> exact id) [7, 15] (by decide) (hrd _) ?_ (Go.Rel.AllOf.get ?_) ?_
  · repeat (refine .cons (by first | exact Go.Rel.pure_sp rfl | exact Go.Rel.pure_yes (by kernel_rfl) (fun _ => by kernel_rfl) | exact Go.Rel.pure_no (by kernel_rfl) rfl) ?_)
    exact .nil
  · refine ⟨?_, ?_, ?_, ?_, ?_, ?_, ?_, ?_, ?_, trivial⟩
    · exact SpecE.ld (hrd _) hre (q := .pointer (some ⟨X, 1, none⟩)) (h := fun _ w' _ hI _ _ _ _ => by obtain ⟨y0, y1, y2, y3, y4, y5, y6, y7, y8, y9, y10, y11, y12, y13, y14, y15, y16, y17⟩ := st_blk (x := x) hI.blk; go_simp; rfl)
    · exact SpecE.ld (hrd _) hre (q := .pointer (some ⟨X, 2, none⟩)) (h := fun _ w' _ hI _ _ _ _ => by obtain ⟨y0, y1, y2, y3, y4, y5, y6, y7, y8, y9, y10, y11, y12, y13, y14, y15, y16, y17⟩ := st_blk (x := x) hI.blk; go_simp; rfl)
    · exact SpecE.ld (hrd _) hre (q := .pointer (some ⟨X, 17, none⟩)) (h := fun _ w' _ hI _ _ _ _ => by obtain ⟨y0, y1, y2, y3, y4, y5, y6, y7, y8, y9, y10, y11, y12, y13, y14, y15, y16, y17⟩ := st_blk (x := x) hI.blk; go_simp; rfl)
    · refine SpecE.gen (fun e => [(12, .pointer (some ⟨B, 0, none⟩)), (14, .int .i64 x.node), (16, .string x.text), (18, .int .u64 (x.ix : Int))]) rfl rfl (fun _ => by kernel_rfl) fun f w' e hI hf hdesc hanc hle hX K hK => ?_
      go_simp
      refine (HCp.out f e w' hI hf).mono ?_
      rintro e9 w9 ⟨v9, rfl, h9, hb9⟩
      exact hK _ _ hb9 (fun e' hp => h9 e' (fun m hm => hp.1 m hm) (hp.2 rfl)) trivial
    · exact SpecE.ld (hrd _) hre (q := .pointer (some ⟨X, 1, none⟩)) (h := fun _ w' _ hI _ _ _ _ => by obtain ⟨y0, y1, y2, y3, y4, y5, y6, y7, y8, y9, y10, y11, y12, y13, y14, y15, y16, y17⟩ := st_blk (x := x) hI.blk; go_simp; rfl)
    · exact SpecE.ld (hrd _) hre (q := .pointer (some ⟨X, 2, none⟩)) (h := fun _ w' _ hI _ _ _ _ => by obtain ⟨y0, y1, y2, y3, y4, y5, y6, y7, y8, y9, y10, y11, y12, y13, y14, y15, y16, y17⟩ := st_blk (x := x) hI.blk; go_simp; rfl)
    · exact SpecE.ld (hrd _) hre (q := .pointer (some ⟨X, 17, none⟩)) (h := fun _ w' _ hI _ _ _ _ => by obtain ⟨y0, y1, y2, y3, y4, y5, y6, y7, y8, y9, y10, y11, y12, y13, y14, y15, y16, y17⟩ := st_blk (x := x) hI.blk; go_simp; rfl)
    · refine SpecE.gen (fun e => [(20, .pointer (some ⟨D, 0, none⟩)), (22, .int .i64 x.node), (24, .string x.text), (26, .int .u64 (x.ix : Int))]) rfl rfl (fun _ => by kernel_rfl) fun f w' e hI hf hdesc hanc hle hX K hK => ?_
      go_simp
      refine (HCd.out f e w' hI hf).mono ?_
      rintro e9 w9 ⟨v9, rfl, h9, hb9⟩
      exact hK _ _ hb9 (fun e' hp => h9 e' (fun m hm => hp.1 m hm) (hp.2 rfl)) trivial
    · refine SpecE.gen (fun e => [(19, e 7), (27, e 15)]) rfl rfl (fun _ => by kernel_rfl) fun f w' e hI hf hdesc hanc hle hX K hK => ?_
      have q1 := hI.k1 (hanc 60 7 (by kernel_rfl))
      have q2 := hI.k2 (hanc 60 15 (by kernel_rfl))
      have qq := HBq.out
      simp only [q1, q2]
      go_simp
      exact hK _ _ (hre _) (fun e' hp => hrd _ f e w' 16 _ e' rfl hI hp) rfl
  · intro f w2 e hall hJ hle hv
    have hb2 := hJ.both
    rw [hall 7 (by decide), hall 15 (by decide)] at hb2
    have HB2 := Lib.hid hb2
    have HL2 := Lib.hid hle
    have v9 := hv 17 rfl
    simp only [Go.Rel.finL, List.setIfInBounds_toArray, List.set_cons_succ, List.set_cons_zero]
    rw [show e 17 = .bool bq from v9]
    clear hv hall hJ hle hb2 v9
    go_wp2
    go_ret
    exact ⟨bq, rfl, HB2.out, (But.of_below HB0.out).trans HL2.out, HBq2.out⟩
def rst1 (B : Nat) (D : Nat) (X : Nat) (x : RSt) (bq : Bool) : Nat → Value
  | 0 => .pointer (some ⟨B, 0, none⟩)
  | 1 | 7 => .pointer (some ⟨X, 1, none⟩)
  | 2 | 8 => .int .i64 x.node
  | 3 | 9 => .pointer (some ⟨X, 17, none⟩)
  | 4 | 10 => .int .u64 (x.ix : Int)
  | 6 => .pointer (some ⟨D, 0, none⟩)
  | 12 | 13 => .bool bq
  | _ => undef
set_option maxHeartbeats 4000000 in
set_option maxRecDepth 100000 in
theorem step1_any {base : Nat} {w : World} {B B1 B2 B3 m D md : Nat} {d d2 : Ro} (x : RSt) (h : Both base w B B1 B2 B3 m d D md d2) (hx : x.Ok w) (ht : TgAt (fun k => k < base) w x.s.val) (hk : x.kind = 1) : Calls Tryz.prog 11 #[.pointer (some ⟨B, 0, none⟩), .pointer (some ⟨D, 0, none⟩), stV x] w fun e w' => StepPost base w B B1 B2 B3 m (x.after d).2 D md (x.after d2).2 ((x.after d).1 = (x.after d2).1) e w' := by
  have ha1 : x.after d = d.dropN x.node x.ix := by unfold RSt.after; simp only [hk]; rfl
  have ha2 : x.after d2 = d2.dropN x.node x.ix := by unfold RSt.after; simp only [hk]; rfl
  rw [ha1, ha2]
  obtain ⟨⟨er1, d'⟩, he1⟩ : ∃ r, d.dropN x.node x.ix = r := ⟨_, rfl⟩
  obtain ⟨⟨er2, d2'⟩, he2⟩ : ∃ r, d2.dropN x.node x.ix = r := ⟨_, rfl⟩
  rw [he1, he2]
  have HE1 := Lib.hid he1
  have HE2 := Lib.hid he2
  have HOk := Lib.hid hx
  have HSi := Lib.hid (fun (W : World) (ht : TgAt (fun k => k < base) W x.s.val) => (⟨hx.s.node, hx.s.port, hx.s.id, hx.s.name, ht.tx, hx.s.small⟩ : SvIn W x.s))
  have b0 := below1 w #[.int .i64 x.kind, .int .i64 x.node, .string x.text, .int .i64 x.s.val.a.node, .string x.s.val.a.id, .string x.s.val.a.name, .slice x.s.val.A x.s.val.n x.s.val.c, .int .i64 x.s.val.a.port, .int .u64 (x.s.made : Int), .int .u64 (x.s.ix : Int), .int .i64 x.c.val.node, .string x.c.val.id, .string x.c.val.svc, .string x.c.val.note, .int .i64 x.c.val.status, .int .u64 (x.c.made : Int), .int .u64 (x.c.ix : Int), .int .u64 (x.ix : Int)] TRs
  have k0 := heap_alloc_new w (.cells #[.int .i64 x.kind, .int .i64 x.node, .string x.text, .int .i64 x.s.val.a.node, .string x.s.val.a.id, .string x.s.val.a.name, .slice x.s.val.A x.s.val.n x.s.val.c, .int .i64 x.s.val.a.port, .int .u64 (x.s.made : Int), .int .u64 (x.s.ix : Int), .int .i64 x.c.val.node, .string x.c.val.id, .string x.c.val.svc, .string x.c.val.note, .int .i64 x.c.val.status, .int .u64 (x.c.made : Int), .int .u64 (x.c.ix : Int), .int .u64 (x.ix : Int)] TRs)
  obtain ⟨X, hX⟩ : ∃ X, w.heap.size = X := ⟨_, rfl⟩
  obtain ⟨W1, hW1⟩ : ∃ W1, w.alloc (.cells #[.int .i64 x.kind, .int .i64 x.node, .string x.text, .int .i64 x.s.val.a.node, .string x.s.val.a.id, .string x.s.val.a.name, .slice x.s.val.A x.s.val.n x.s.val.c, .int .i64 x.s.val.a.port, .int .u64 (x.s.made : Int), .int .u64 (x.s.ix : Int), .int .i64 x.c.val.node, .string x.c.val.id, .string x.c.val.svc, .string x.c.val.note, .int .i64 x.c.val.status, .int .u64 (x.c.made : Int), .int .u64 (x.c.ix : Int), .int .u64 (x.ix : Int)] TRs) = W1 := ⟨_, rfl⟩
  rw [hW1] at b0 k0
  rw [hX] at k0
  have HBo := Lib.hid (h.below b0)
  have HOut : Hid (¬ Ch4 B1 B2 B3 D X) := Lib.hid (by
    have := h.lt
    rintro ((z | z | z) | z) <;> omega)
  have HTg := Lib.hid (ht.below b0)
  have HB0 := Lib.hid b0
  have HK1 := Lib.hid k0
  have HW1 := Lib.hid hW1
  have HX := Lib.hid hX
  obtain ⟨bq, hbq⟩ : ∃ bq, ((er1 : Int) == (er2 : Int)) = bq := ⟨_, rfl⟩
  have HBq := Lib.hid hbq
  have HBq2 : Hid (er1 = er2 → bq = true) := Lib.hid (fun e => by rw [← hbq, e]; simp)
  have HCp : Hid (∀ (f : Nat → Bool) (e : Nat → Value) (w' : World), StR base X x #[.int .i64 x.kind, .int .i64 x.node, .string x.text, .int .i64 x.s.val.a.node, .string x.s.val.a.id, .string x.s.val.a.name, .slice x.s.val.A x.s.val.n x.s.val.c, .int .i64 x.s.val.a.port, .int .u64 (x.s.made : Int), .int .u64 (x.s.ix : Int), .int .i64 x.c.val.node, .string x.c.val.id, .string x.c.val.svc, .string x.c.val.note, .int .i64 x.c.val.status, .int .u64 (x.c.made : Int), .int .u64 (x.c.ix : Int), .int .u64 (x.ix : Int)] 5 11 B B1 B2 B3 m D md d d' d2 d2' (.int .i64 (er1 : Int)) (.int .i64 (er2 : Int)) f e w' → f 5 = false → Calls Tryz.prog 29 #[.pointer (some ⟨B, 0, none⟩), .int .i64 x.node, .int .u64 (x.ix : Int)] w' fun r w2 => ∃ v, r = .returned v ∧ (∀ e', (∀ m, m ≠ 5 → e' m = e m) → e' 5 = v → StR base X x #[.int .i64 x.kind, .int .i64 x.node, .string x.text, .int .i64 x.s.val.a.node, .string x.s.val.a.id, .string x.s.val.a.name, .slice x.s.val.A x.s.val.n x.s.val.c, .int .i64 x.s.val.a.port, .int .u64 (x.s.made : Int), .int .u64 (x.s.ix : Int), .int .i64 x.c.val.node, .string x.c.val.id, .string x.c.val.svc, .string x.c.val.note, .int .i64 x.c.val.status, .int .u64 (x.c.made : Int), .int .u64 (x.c.ix : Int), .int .u64 (x.ix : Int)] 5 11 B B1 B2 B3 m D md d d' d2 d2' (.int .i64 (er1 : Int)) (.int .i64 (er2 : Int)) (Go.Rel.upd f 5) e' w2) ∧ But (Ch4 B1 B2 B3 D) w' w2) := Lib.hid fun f e w' hI hf =>
    hI.left (by decide) hf fun S h ht => by
      have h9 := rdropnode_any x.node x.ix h HOk.out.node HOk.out.ix
      rw [show d.dropN x.node x.ix = (er1, d') from HE1.out] at h9
      exact h9
  have HCd : Hid (∀ (f : Nat → Bool) (e : Nat → Value) (w' : World), StR base X x #[.int .i64 x.kind, .int .i64 x.node, .string x.text, .int .i64 x.s.val.a.node, .string x.s.val.a.id, .string x.s.val.a.name, .slice x.s.val.A x.s.val.n x.s.val.c, .int .i64 x.s.val.a.port, .int .u64 (x.s.made : Int), .int .u64 (x.s.ix : Int), .int .i64 x.c.val.node, .string x.c.val.id, .string x.c.val.svc, .string x.c.val.note, .int .i64 x.c.val.status, .int .u64 (x.c.made : Int), .int .u64 (x.c.ix : Int), .int .u64 (x.ix : Int)] 5 11 B B1 B2 B3 m D md d d' d2 d2' (.int .i64 (er1 : Int)) (.int .i64 (er2 : Int)) f e w' → f 11 = false → Calls Tryz.prog 37 #[.pointer (some ⟨D, 0, none⟩), .int .i64 x.node, .int .u64 (x.ix : Int)] w' fun r w2 => ∃ v, r = .returned v ∧ (∀ e', (∀ m, m ≠ 11 → e' m = e m) → e' 11 = v → StR base X x #[.int .i64 x.kind, .int .i64 x.node, .string x.text, .int .i64 x.s.val.a.node, .string x.s.val.a.id, .string x.s.val.a.name, .slice x.s.val.A x.s.val.n x.s.val.c, .int .i64 x.s.val.a.port, .int .u64 (x.s.made : Int), .int .u64 (x.s.ix : Int), .int .i64 x.c.val.node, .string x.c.val.id, .string x.c.val.svc, .string x.c.val.note, .int .i64 x.c.val.status, .int .u64 (x.c.made : Int), .int .u64 (x.c.ix : Int), .int .u64 (x.ix : Int)] 5 11 B B1 B2 B3 m D md d d' d2 d2' (.int .i64 (er1 : Int)) (.int .i64 (er2 : Int)) (Go.Rel.upd f 11) e' w2) ∧ But (Ch4 B1 B2 B3 D) w' w2) := Lib.hid fun f e w' hI hf =>
    hI.right (by decide) hf fun S h ht => by
      have h9 := rddropnode_any x.node x.ix h HOk.out.ix
      rw [show d2.dropN x.node x.ix = (er2, d2') from HE2.out] at h9
      exact h9
  unfold stV
  rw [hk]
  have HKd := Lib.hid hk
  clear h hx ht ha1 ha2 he1 he2 b0 k0 hW1 hX hbq hk
  go_enter Tryz.func11, Tryz.ntmps11
  go_wp2_with fail
  rw [← HKd.out]
  rw [HW1.out, HX.out]
  have hre : ∀ w : World, (But (Ch4 B1 B2 B3 D)) w w := (fun w => But.refl _ w)
  have hrd : ∀ (ops9 : Array Oper) (f9 : Nat → Bool) (e9 : Nat → Value) (w9 : World) (i9 : Nat) (v9 : Value) (e8 : Nat → Value), [5, 11].contains i9 = false → (fun (f : Nat → Bool) (e : Nat → Value) (w : World) => StR base X x #[.int .i64 x.kind, .int .i64 x.node, .string x.text, .int .i64 x.s.val.a.node, .string x.s.val.a.id, .string x.s.val.a.name, .slice x.s.val.A x.s.val.n x.s.val.c, .int .i64 x.s.val.a.port, .int .u64 (x.s.made : Int), .int .u64 (x.s.ix : Int), .int .i64 x.c.val.node, .string x.c.val.id, .string x.c.val.svc, .string x.c.val.note, .int .i64 x.c.val.status, .int .u64 (x.c.made : Int), .int .u64 (x.c.ix : Int), .int .u64 (x.ix : Int)] 5 11 B B1 B2 B3 m D md d d' d2 d2' (.int .i64 (er1 : Int)) (.int .i64 (er2 : Int)) f e w) f9 e9 w9 → Go.Rel.Put ops9 i9 e9 v9 e8 → (fun (f : Nat → Bool) (e : Nat → Value) (w : World) => StR base X x #[.int .i64 x.kind, .int .i64 x.node, .string x.text, .int .i64 x.s.val.a.node, .string x.s.val.a.id, .string x.s.val.a.name, .slice x.s.val.A x.s.val.n x.s.val.c, .int .i64 x.s.val.a.port, .int .u64 (x.s.made : Int), .int .u64 (x.s.ix : Int), .int .i64 x.c.val.node, .string x.c.val.id, .string x.c.val.svc, .string x.c.val.note, .int .i64 x.c.val.status, .int .u64 (x.c.made : Int), .int .u64 (x.c.ix : Int), .int .u64 (x.ix : Int)] 5 11 B B1 B2 B3 m D md d d' d2 d2' (.int .i64 (er1 : Int)) (.int .i64 (er2 : Int)) f e w) (Go.Rel.upd f9 i9) e8 w9 := (fun _ _ _ _ _ _ _ hj h hp => StR.keep hj h hp)
  refine Go.Rel.wp_tabe (by kernel_rfl) (by kernel_rfl) (fun (f : Nat → Bool) (e : Nat → Value) (w : World) => StR base X x #[.int .i64 x.kind, .int .i64 x.node, .string x.text, .int .i64 x.s.val.a.node, .string x.s.val.a.id, .string x.s.val.a.name, .slice x.s.val.A x.s.val.n x.s.val.c, .int .i64 x.s.val.a.port, .int .u64 (x.s.made : Int), .int .u64 (x.s.ix : Int), .int .i64 x.c.val.node, .string x.c.val.id, .string x.c.val.svc, .string x.c.val.note, .int .i64 x.c.val.status, .int .u64 (x.c.made : Int), .int .u64 (x.c.ix : Int), .int .u64 (x.ix : Int)] 5 11 B B1 B2 B3 m D md d d' d2 d2' (.int .i64 (er1 : Int)) (.int .i64 (er2 : Int)) f e w) (But (Ch4 B1 B2 B3 D)) hre ((fun _ _ _ h k => h.trans k)) ((But.refl _ _).drew) (fun e => StR.start HBo.out HK1.out HOut.out HTg.out e) (rst1 B D X x bq) (fun | 5, v, w => True | 11, v, w => True | _, _, _ => True) (fun i => ([5, 11] : List Nat).contains i) (fun i => ([2, 4, 5, 8, 10, 11, 12] : List Nat).contains i) (by kernel_rfl) (fun i v w w' h g => by revert h; split <;> exact id) [5, 11] (by decide) (hrd _) ?_ (Go.Rel.AllOf.get ?_) ?_
  · repeat (refine .cons (by first | exact Go.Rel.pure_sp rfl | exact Go.Rel.pure_yes (by kernel_rfl) (fun _ => by kernel_rfl) | exact Go.Rel.pure_no (by kernel_rfl) rfl) ?_)
    exact .nil
  · refine ⟨?_, ?_, ?_, ?_, ?_, ?_, ?_, trivial⟩
    · exact SpecE.ld (hrd _) hre (q := .pointer (some ⟨X, 1, none⟩)) (h := fun _ w' _ hI _ _ _ _ => by obtain ⟨y0, y1, y2, y3, y4, y5, y6, y7, y8, y9, y10, y11, y12, y13, y14, y15, y16, y17⟩ := st_blk (x := x) hI.blk; go_simp; rfl)
    · exact SpecE.ld (hrd _) hre (q := .pointer (some ⟨X, 17, none⟩)) (h := fun _ w' _ hI _ _ _ _ => by obtain ⟨y0, y1, y2, y3, y4, y5, y6, y7, y8, y9, y10, y11, y12, y13, y14, y15, y16, y17⟩ := st_blk (x := x) hI.blk; go_simp; rfl)
    · refine SpecE.gen (fun e => [(31, .pointer (some ⟨B, 0, none⟩)), (33, .int .i64 x.node), (35, .int .u64 (x.ix : Int))]) rfl rfl (fun _ => by kernel_rfl) fun f w' e hI hf hdesc hanc hle hX K hK => ?_
      go_simp
      refine (HCp.out f e w' hI hf).mono ?_
      rintro e9 w9 ⟨v9, rfl, h9, hb9⟩
      exact hK _ _ hb9 (fun e' hp => h9 e' (fun m hm => hp.1 m hm) (hp.2 rfl)) trivial
    · exact SpecE.ld (hrd _) hre (q := .pointer (some ⟨X, 1, none⟩)) (h := fun _ w' _ hI _ _ _ _ => by obtain ⟨y0, y1, y2, y3, y4, y5, y6, y7, y8, y9, y10, y11, y12, y13, y14, y15, y16, y17⟩ := st_blk (x := x) hI.blk; go_simp; rfl)
    · exact SpecE.ld (hrd _) hre (q := .pointer (some ⟨X, 17, none⟩)) (h := fun _ w' _ hI _ _ _ _ => by obtain ⟨y0, y1, y2, y3, y4, y5, y6, y7, y8, y9, y10, y11, y12, y13, y14, y15, y16, y17⟩ := st_blk (x := x) hI.blk; go_simp; rfl)
    · refine SpecE.gen (fun e => [(37, .pointer (some ⟨D, 0, none⟩)), (39, .int .i64 x.node), (41, .int .u64 (x.ix : Int))]) rfl rfl (fun _ => by kernel_rfl) fun f w' e hI hf hdesc hanc hle hX K hK => ?_
      go_simp
      refine (HCd.out f e w' hI hf).mono ?_
      rintro e9 w9 ⟨v9, rfl, h9, hb9⟩
      exact hK _ _ hb9 (fun e' hp => h9 e' (fun m hm => hp.1 m hm) (hp.2 rfl)) trivial
    · refine SpecE.gen (fun e => [(36, e 5), (42, e 11)]) rfl rfl (fun _ => by kernel_rfl) fun f w' e hI hf hdesc hanc hle hX K hK => ?_
      have q1 := hI.k1 (hanc 60 5 (by kernel_rfl))
      have q2 := hI.k2 (hanc 60 11 (by kernel_rfl))
      have qq := HBq.out
      simp only [q1, q2]
      go_simp
      exact hK _ _ (hre _) (fun e' hp => hrd _ f e w' 12 _ e' rfl hI hp) rfl
  · intro f w2 e hall hJ hle hv
    have hb2 := hJ.both
    rw [hall 5 (by decide), hall 11 (by decide)] at hb2
    have HB2 := Lib.hid hb2
    have HL2 := Lib.hid hle
    have v9 := hv 13 rfl
    simp only [Go.Rel.finL, List.setIfInBounds_toArray, List.set_cons_succ, List.set_cons_zero]
    rw [show e 13 = .bool bq from v9]
    clear hv hall hJ hle hb2 v9
    go_wp2
    go_ret
    exact ⟨bq, rfl, HB2.out, (But.of_below HB0.out).trans HL2.out, HBq2.out⟩
def rst2 (B : Nat) (D : Nat) (X : Nat) (x : RSt) (bq : Bool) : Nat → Value
  | 0 => .pointer (some ⟨B, 0, none⟩)
  | 1 | 7 => .pointer (some ⟨X, 3, none⟩)
  | 2 | 8 => .agg #[.int .i64 x.s.val.a.node, .string x.s.val.a.id, .string x.s.val.a.name, .slice x.s.val.A x.s.val.n x.s.val.c, .int .i64 x.s.val.a.port, .int .u64 (x.s.made : Int), .int .u64 (x.s.ix : Int)]
  | 3 | 9 => .pointer (some ⟨X, 17, none⟩)
  | 4 | 10 => .int .u64 (x.ix : Int)
  | 6 => .pointer (some ⟨D, 0, none⟩)
  | 12 | 13 => .bool bq
  | _ => undef
set_option maxHeartbeats 4000000 in
set_option maxRecDepth 100000 in
theorem step2_any {base : Nat} {w : World} {B B1 B2 B3 m D md : Nat} {d d2 : Ro} (x : RSt) (h : Both base w B B1 B2 B3 m d D md d2) (hx : x.Ok w) (ht : TgAt (fun k => k < base) w x.s.val) (hk : x.kind = 2) : Calls Tryz.prog 11 #[.pointer (some ⟨B, 0, none⟩), .pointer (some ⟨D, 0, none⟩), stV x] w fun e w' => StepPost base w B B1 B2 B3 m (x.after d).2 D md (x.after d2).2 ((x.after d).1 = (x.after d2).1) e w' := by
  have ha1 : x.after d = d.service x.s.val.a x.ix := by unfold RSt.after; simp only [hk]; rfl
  have ha2 : x.after d2 = d2.service x.s.val.a x.ix := by unfold RSt.after; simp only [hk]; rfl
  rw [ha1, ha2]
  obtain ⟨⟨er1, d'⟩, he1⟩ : ∃ r, d.service x.s.val.a x.ix = r := ⟨_, rfl⟩
  obtain ⟨⟨er2, d2'⟩, he2⟩ : ∃ r, d2.service x.s.val.a x.ix = r := ⟨_, rfl⟩
  rw [he1, he2]
  have HE1 := Lib.hid he1
  have HE2 := Lib.hid he2
  have HOk := Lib.hid hx
  have HSi := Lib.hid (fun (W : World) (ht : TgAt (fun k => k < base) W x.s.val) => (⟨hx.s.node, hx.s.port, hx.s.id, hx.s.name, ht.tx, hx.s.small⟩ : SvIn W x.s))
  have b0 := below1 w #[.int .i64 x.kind, .int .i64 x.node, .string x.text, .int .i64 x.s.val.a.node, .string x.s.val.a.id, .string x.s.val.a.name, .slice x.s.val.A x.s.val.n x.s.val.c, .int .i64 x.s.val.a.port, .int .u64 (x.s.made : Int), .int .u64 (x.s.ix : Int), .int .i64 x.c.val.node, .string x.c.val.id, .string x.c.val.svc, .string x.c.val.note, .int .i64 x.c.val.status, .int .u64 (x.c.made : Int), .int .u64 (x.c.ix : Int), .int .u64 (x.ix : Int)] TRs
  have k0 := heap_alloc_new w (.cells #[.int .i64 x.kind, .int .i64 x.node, .string x.text, .int .i64 x.s.val.a.node, .string x.s.val.a.id, .string x.s.val.a.name, .slice x.s.val.A x.s.val.n x.s.val.c, .int .i64 x.s.val.a.port, .int .u64 (x.s.made : Int), .int .u64 (x.s.ix : Int), .int .i64 x.c.val.node, .string x.c.val.id, .string x.c.val.svc, .string x.c.val.note, .int .i64 x.c.val.status, .int .u64 (x.c.made : Int), .int .u64 (x.c.ix : Int), .int .u64 (x.ix : Int)] TRs)
  obtain ⟨X, hX⟩ : ∃ X, w.heap.size = X := ⟨_, rfl⟩
  obtain ⟨W1, hW1⟩ : ∃ W1, w.alloc (.cells #[.int .i64 x.kind, .int .i64 x.node, .string x.text, .int .i64 x.s.val.a.node, .string x.s.val.a.id, .string x.s.val.a.name, .slice x.s.val.A x.s.val.n x.s.val.c, .int .i64 x.s.val.a.port, .int .u64 (x.s.made : Int), .int .u64 (x.s.ix : Int), .int .i64 x.c.val.node, .string x.c.val.id, .string x.c.val.svc, .string x.c.val.note, .int .i64 x.c.val.status, .int .u64 (x.c.made : Int), .int .u64 (x.c.ix : Int), .int .u64 (x.ix : Int)] TRs) = W1 := ⟨_, rfl⟩
  rw [hW1] at b0 k0
  rw [hX] at k0
  have HBo := Lib.hid (h.below b0)
  have HOut : Hid (¬ Ch4 B1 B2 B3 D X) := Lib.hid (by
    have := h.lt
    rintro ((z | z | z) | z) <;> omega)
  have HTg := Lib.hid (ht.below b0)
  have HB0 := Lib.hid b0
  have HK1 := Lib.hid k0
  have HW1 := Lib.hid hW1
  have HX := Lib.hid hX
  obtain ⟨bq, hbq⟩ : ∃ bq, ((er1 : Int) == (er2 : Int)) = bq := ⟨_, rfl⟩
  have HBq := Lib.hid hbq
  have HBq2 : Hid (er1 = er2 → bq = true) := Lib.hid (fun e => by rw [← hbq, e]; simp)
  have HCp : Hid (∀ (f : Nat → Bool) (e : Nat → Value) (w' : World), StR base X x #[.int .i64 x.kind, .int .i64 x.node, .string x.text, .int .i64 x.s.val.a.node, .string x.s.val.a.id, .string x.s.val.a.name, .slice x.s.val.A x.s.val.n x.s.val.c, .int .i64 x.s.val.a.port, .int .u64 (x.s.made : Int), .int .u64 (x.s.ix : Int), .int .i64 x.c.val.node, .string x.c.val.id, .string x.c.val.svc, .string x.c.val.note, .int .i64 x.c.val.status, .int .u64 (x.c.made : Int), .int .u64 (x.c.ix : Int), .int .u64 (x.ix : Int)] 5 11 B B1 B2 B3 m D md d d' d2 d2' (.int .i64 (er1 : Int)) (.int .i64 (er2 : Int)) f e w' → f 5 = false → Calls Tryz.prog 30 #[.pointer (some ⟨B, 0, none⟩), .agg #[.int .i64 x.s.val.a.node, .string x.s.val.a.id, .string x.s.val.a.name, .slice x.s.val.A x.s.val.n x.s.val.c, .int .i64 x.s.val.a.port, .int .u64 (x.s.made : Int), .int .u64 (x.s.ix : Int)], .int .u64 (x.ix : Int)] w' fun r w2 => ∃ v, r = .returned v ∧ (∀ e', (∀ m, m ≠ 5 → e' m = e m) → e' 5 = v → StR base X x #[.int .i64 x.kind, .int .i64 x.node, .string x.text, .int .i64 x.s.val.a.node, .string x.s.val.a.id, .string x.s.val.a.name, .slice x.s.val.A x.s.val.n x.s.val.c, .int .i64 x.s.val.a.port, .int .u64 (x.s.made : Int), .int .u64 (x.s.ix : Int), .int .i64 x.c.val.node, .string x.c.val.id, .string x.c.val.svc, .string x.c.val.note, .int .i64 x.c.val.status, .int .u64 (x.c.made : Int), .int .u64 (x.c.ix : Int), .int .u64 (x.ix : Int)] 5 11 B B1 B2 B3 m D md d d' d2 d2' (.int .i64 (er1 : Int)) (.int .i64 (er2 : Int)) (Go.Rel.upd f 5) e' w2) ∧ But (Ch4 B1 B2 B3 D) w' w2) := Lib.hid fun f e w' hI hf =>
    hI.left (by decide) hf fun S h ht => by
      have h9 := rservice_any x.s x.ix h (HSi.out _ ht) HOk.out.ix
      rw [show d.service x.s.val.a x.ix = (er1, d') from HE1.out] at h9
      exact h9
  have HCd : Hid (∀ (f : Nat → Bool) (e : Nat → Value) (w' : World), StR base X x #[.int .i64 x.kind, .int .i64 x.node, .string x.text, .int .i64 x.s.val.a.node, .string x.s.val.a.id, .string x.s.val.a.name, .slice x.s.val.A x.s.val.n x.s.val.c, .int .i64 x.s.val.a.port, .int .u64 (x.s.made : Int), .int .u64 (x.s.ix : Int), .int .i64 x.c.val.node, .string x.c.val.id, .string x.c.val.svc, .string x.c.val.note, .int .i64 x.c.val.status, .int .u64 (x.c.made : Int), .int .u64 (x.c.ix : Int), .int .u64 (x.ix : Int)] 5 11 B B1 B2 B3 m D md d d' d2 d2' (.int .i64 (er1 : Int)) (.int .i64 (er2 : Int)) f e w' → f 11 = false → Calls Tryz.prog 38 #[.pointer (some ⟨D, 0, none⟩), .agg #[.int .i64 x.s.val.a.node, .string x.s.val.a.id, .string x.s.val.a.name, .slice x.s.val.A x.s.val.n x.s.val.c, .int .i64 x.s.val.a.port, .int .u64 (x.s.made : Int), .int .u64 (x.s.ix : Int)], .int .u64 (x.ix : Int)] w' fun r w2 => ∃ v, r = .returned v ∧ (∀ e', (∀ m, m ≠ 11 → e' m = e m) → e' 11 = v → StR base X x #[.int .i64 x.kind, .int .i64 x.node, .string x.text, .int .i64 x.s.val.a.node, .string x.s.val.a.id, .string x.s.val.a.name, .slice x.s.val.A x.s.val.n x.s.val.c, .int .i64 x.s.val.a.port, .int .u64 (x.s.made : Int), .int .u64 (x.s.ix : Int), .int .i64 x.c.val.node, .string x.c.val.id, .string x.c.val.svc, .string x.c.val.note, .int .i64 x.c.val.status, .int .u64 (x.c.made : Int), .int .u64 (x.c.ix : Int), .int .u64 (x.ix : Int)] 5 11 B B1 B2 B3 m D md d d' d2 d2' (.int .i64 (er1 : Int)) (.int .i64 (er2 : Int)) (Go.Rel.upd f 11) e' w2) ∧ But (Ch4 B1 B2 B3 D) w' w2) := Lib.hid fun f e w' hI hf =>
    hI.right (by decide) hf fun S h ht => by
      have h9 := rdservice_any x.s x.ix h (HSi.out _ ht) ht HOk.out.ix
      rw [show d2.service x.s.val.a x.ix = (er2, d2') from HE2.out] at h9
      exact h9
  unfold stV
  rw [hk]
  have HKd := Lib.hid hk
  clear h hx ht ha1 ha2 he1 he2 b0 k0 hW1 hX hbq hk
  go_enter Tryz.func11, Tryz.ntmps11
  go_wp2_with fail
  rw [← HKd.out]
  rw [HW1.out, HX.out]
  have hre : ∀ w : World, (But (Ch4 B1 B2 B3 D)) w w := (fun w => But.refl _ w)
  have hrd : ∀ (ops9 : Array Oper) (f9 : Nat → Bool) (e9 : Nat → Value) (w9 : World) (i9 : Nat) (v9 : Value) (e8 : Nat → Value), [5, 11].contains i9 = false → (fun (f : Nat → Bool) (e : Nat → Value) (w : World) => StR base X x #[.int .i64 x.kind, .int .i64 x.node, .string x.text, .int .i64 x.s.val.a.node, .string x.s.val.a.id, .string x.s.val.a.name, .slice x.s.val.A x.s.val.n x.s.val.c, .int .i64 x.s.val.a.port, .int .u64 (x.s.made : Int), .int .u64 (x.s.ix : Int), .int .i64 x.c.val.node, .string x.c.val.id, .string x.c.val.svc, .string x.c.val.note, .int .i64 x.c.val.status, .int .u64 (x.c.made : Int), .int .u64 (x.c.ix : Int), .int .u64 (x.ix : Int)] 5 11 B B1 B2 B3 m D md d d' d2 d2' (.int .i64 (er1 : Int)) (.int .i64 (er2 : Int)) f e w) f9 e9 w9 → Go.Rel.Put ops9 i9 e9 v9 e8 → (fun (f : Nat → Bool) (e : Nat → Value) (w : World) => StR base X x #[.int .i64 x.kind, .int .i64 x.node, .string x.text, .int .i64 x.s.val.a.node, .string x.s.val.a.id, .string x.s.val.a.name, .slice x.s.val.A x.s.val.n x.s.val.c, .int .i64 x.s.val.a.port, .int .u64 (x.s.made : Int), .int .u64 (x.s.ix : Int), .int .i64 x.c.val.node, .string x.c.val.id, .string x.c.val.svc, .string x.c.val.note, .int .i64 x.c.val.status, .int .u64 (x.c.made : Int), .int .u64 (x.c.ix : Int), .int .u64 (x.ix : Int)] 5 11 B B1 B2 B3 m D md d d' d2 d2' (.int .i64 (er1 : Int)) (.int .i64 (er2 : Int)) f e w) (Go.Rel.upd f9 i9) e8 w9 := (fun _ _ _ _ _ _ _ hj h hp => StR.keep hj h hp)
  refine Go.Rel.wp_tabe (by kernel_rfl) (by kernel_rfl) (fun (f : Nat → Bool) (e : Nat → Value) (w : World) => StR base X x #[.int .i64 x.kind, .int .i64 x.node, .string x.text, .int .i64 x.s.val.a.node, .string x.s.val.a.id, .string x.s.val.a.name, .slice x.s.val.A x.s.val.n x.s.val.c, .int .i64 x.s.val.a.port, .int .u64 (x.s.made : Int), .int .u64 (x.s.ix : Int), .int .i64 x.c.val.node, .string x.c.val.id, .string x.c.val.svc, .string x.c.val.note, .int .i64 x.c.val.status, .int .u64 (x.c.made : Int), .int .u64 (x.c.ix : Int), .int .u64 (x.ix : Int)] 5 11 B B1 B2 B3 m D md d d' d2 d2' (.int .i64 (er1 : Int)) (.int .i64 (er2 : Int)) f e w) (But (Ch4 B1 B2 B3 D)) hre ((fun _ _ _ h k => h.trans k)) ((But.refl _ _).drew) (fun e => StR.start HBo.out HK1.out HOut.out HTg.out e) (rst2 B D X x bq) (fun | 5, v, w => True | 11, v, w => True | _, _, _ => True) (fun i => ([5, 11] : List Nat).contains i) (fun i => ([2, 4, 5, 8, 10, 11, 12] : List Nat).contains i) (by kernel_rfl) (fun i v w w' h g => by revert h; split <;> exact id) [5, 11] (by decide) (hrd _) ?_ (Go.Rel.AllOf.get ?_) ?_
  · repeat (refine .cons (by first | exact Go.Rel.pure_sp rfl | exact Go.Rel.pure_yes (by kernel_rfl) (fun _ => by kernel_rfl) | exact Go.Rel.pure_no (by kernel_rfl) rfl) ?_)
    exact .nil
  · refine ⟨?_, ?_, ?_, ?_, ?_, ?_, ?_, trivial⟩
    · exact SpecE.ld (hrd _) hre (q := .pointer (some ⟨X, 3, none⟩)) (h := fun _ w' _ hI _ _ _ _ => by obtain ⟨y0, y1, y2, y3, y4, y5, y6, y7, y8, y9, y10, y11, y12, y13, y14, y15, y16, y17⟩ := st_blk (x := x) hI.blk; go_simp; rfl)
    · exact SpecE.ld (hrd _) hre (q := .pointer (some ⟨X, 17, none⟩)) (h := fun _ w' _ hI _ _ _ _ => by obtain ⟨y0, y1, y2, y3, y4, y5, y6, y7, y8, y9, y10, y11, y12, y13, y14, y15, y16, y17⟩ := st_blk (x := x) hI.blk; go_simp; rfl)
    · refine SpecE.gen (fun e => [(46, .pointer (some ⟨B, 0, none⟩)), (48, .agg #[.int .i64 x.s.val.a.node, .string x.s.val.a.id, .string x.s.val.a.name, .slice x.s.val.A x.s.val.n x.s.val.c, .int .i64 x.s.val.a.port, .int .u64 (x.s.made : Int), .int .u64 (x.s.ix : Int)]), (50, .int .u64 (x.ix : Int))]) rfl rfl (fun _ => by kernel_rfl) fun f w' e hI hf hdesc hanc hle hX K hK => ?_
      go_simp
      refine (HCp.out f e w' hI hf).mono ?_
      rintro e9 w9 ⟨v9, rfl, h9, hb9⟩
      exact hK _ _ hb9 (fun e' hp => h9 e' (fun m hm => hp.1 m hm) (hp.2 rfl)) trivial
    · exact SpecE.ld (hrd _) hre (q := .pointer (some ⟨X, 3, none⟩)) (h := fun _ w' _ hI _ _ _ _ => by obtain ⟨y0, y1, y2, y3, y4, y5, y6, y7, y8, y9, y10, y11, y12, y13, y14, y15, y16, y17⟩ := st_blk (x := x) hI.blk; go_simp; rfl)
    · exact SpecE.ld (hrd _) hre (q := .pointer (some ⟨X, 17, none⟩)) (h := fun _ w' _ hI _ _ _ _ => by obtain ⟨y0, y1, y2, y3, y4, y5, y6, y7, y8, y9, y10, y11, y12, y13, y14, y15, y16, y17⟩ := st_blk (x := x) hI.blk; go_simp; rfl)
    · refine SpecE.gen (fun e => [(52, .pointer (some ⟨D, 0, none⟩)), (54, .agg #[.int .i64 x.s.val.a.node, .string x.s.val.a.id, .string x.s.val.a.name, .slice x.s.val.A x.s.val.n x.s.val.c, .int .i64 x.s.val.a.port, .int .u64 (x.s.made : Int), .int .u64 (x.s.ix : Int)]), (56, .int .u64 (x.ix : Int))]) rfl rfl (fun _ => by kernel_rfl) fun f w' e hI hf hdesc hanc hle hX K hK => ?_
      go_simp
      refine (HCd.out f e w' hI hf).mono ?_
      rintro e9 w9 ⟨v9, rfl, h9, hb9⟩
      exact hK _ _ hb9 (fun e' hp => h9 e' (fun m hm => hp.1 m hm) (hp.2 rfl)) trivial
    · refine SpecE.gen (fun e => [(51, e 5), (57, e 11)]) rfl rfl (fun _ => by kernel_rfl) fun f w' e hI hf hdesc hanc hle hX K hK => ?_
      have q1 := hI.k1 (hanc 60 5 (by kernel_rfl))
      have q2 := hI.k2 (hanc 60 11 (by kernel_rfl))
      have qq := HBq.out
      simp only [q1, q2]
      go_simp
      exact hK _ _ (hre _) (fun e' hp => hrd _ f e w' 12 _ e' rfl hI hp) rfl
  · intro f w2 e hall hJ hle hv
    have hb2 := hJ.both
    rw [hall 5 (by decide), hall 11 (by decide)] at hb2
    have HB2 := Lib.hid hb2
    have HL2 := Lib.hid hle
    have v9 := hv 13 rfl
    simp only [Go.Rel.finL, List.setIfInBounds_toArray, List.set_cons_succ, List.set_cons_zero]
    rw [show e 13 = .bool bq from v9]
    clear hv hall hJ hle hb2 v9
    go_wp2
    go_ret
    exact ⟨bq, rfl, HB2.out, (But.of_below HB0.out).trans HL2.out, HBq2.out⟩
def rst3 (B : Nat) (D : Nat) (X : Nat) (x : RSt) (bq : Bool) : Nat → Value
  | 0 => .pointer (some ⟨B, 0, none⟩)
  | 1 | 9 => .pointer (some ⟨X, 1, none⟩)
  | 2 | 10 => .int .i64 x.node
  | 3 | 11 => .pointer (some ⟨X, 2, none⟩)
  | 4 | 12 => .string x.text
  | 5 | 13 => .pointer (some ⟨X, 17, none⟩)
  | 6 | 14 => .int .u64 (x.ix : Int)
  | 8 => .pointer (some ⟨D, 0, none⟩)
  | 16 | 17 => .bool bq
  | _ => undef
set_option maxHeartbeats 4000000 in
set_option maxRecDepth 100000 in
theorem step3_any {base : Nat} {w : World} {B B1 B2 B3 m D md : Nat} {d d2 : Ro} (x : RSt) (h : Both base w B B1 B2 B3 m d D md d2) (hx : x.Ok w) (ht : TgAt (fun k => k < base) w x.s.val) (hk : x.kind = 3) : Calls Tryz.prog 11 #[.pointer (some ⟨B, 0, none⟩), .pointer (some ⟨D, 0, none⟩), stV x] w fun e w' => StepPost base w B B1 B2 B3 m (x.after d).2 D md (x.after d2).2 ((x.after d).1 = (x.after d2).1) e w' := by
  have ha1 : x.after d = d.dropS x.node x.text x.ix := by unfold RSt.after; simp only [hk]; rfl
  have ha2 : x.after d2 = d2.dropS x.node x.text x.ix := by unfold RSt.after; simp only [hk]; rfl
  rw [ha1, ha2]
  obtain ⟨⟨er1, d'⟩, he1⟩ : ∃ r, d.dropS x.node x.text x.ix = r := ⟨_, rfl⟩
  obtain ⟨⟨er2, d2'⟩, he2⟩ : ∃ r, d2.dropS x.node x.text x.ix = r := ⟨_, rfl⟩
  rw [he1, he2]
  have HE1 := Lib.hid he1
  have HE2 := Lib.hid he2
  have HOk := Lib.hid hx
  have HSi := Lib.hid (fun (W : World) (ht : TgAt (fun k => k < base) W x.s.val) => (⟨hx.s.node, hx.s.port, hx.s.id, hx.s.name, ht.tx, hx.s.small⟩ : SvIn W x.s))
  have b0 := below1 w #[.int .i64 x.kind, .int .i64 x.node, .string x.text, .int .i64 x.s.val.a.node, .string x.s.val.a.id, .string x.s.val.a.name, .slice x.s.val.A x.s.val.n x.s.val.c, .int .i64 x.s.val.a.port, .int .u64 (x.s.made : Int), .int .u64 (x.s.ix : Int), .int .i64 x.c.val.node, .string x.c.val.id, .string x.c.val.svc, .string x.c.val.note, .int .i64 x.c.val.status, .int .u64 (x.c.made : Int), .int .u64 (x.c.ix : Int), .int .u64 (x.ix : Int)] TRs
  have k0 := heap_alloc_new w (.cells #[.int .i64 x.kind, .int .i64 x.node, .string x.text, .int .i64 x.s.val.a.node, .string x.s.val.a.id, .string x.s.val.a.name, .slice x.s.val.A x.s.val.n x.s.val.c, .int .i64 x.s.val.a.port, .int .u64 (x.s.made : Int), .int .u64 (x.s.ix : Int), .int .i64 x.c.val.node, .string x.c.val.id, .string x.c.val.svc, .string x.c.val.note, .int .i64 x.c.val.status, .int .u64 (x.c.made : Int), .int .u64 (x.c.ix : Int), .int .u64 (x.ix : Int)] TRs)
  obtain ⟨X, hX⟩ : ∃ X, w.heap.size = X := ⟨_, rfl⟩
  obtain ⟨W1, hW1⟩ : ∃ W1, w.alloc (.cells #[.int .i64 x.kind, .int .i64 x.node, .string x.text, .int .i64 x.s.val.a.node, .string x.s.val.a.id, .string x.s.val.a.name, .slice x.s.val.A x.s.val.n x.s.val.c, .int .i64 x.s.val.a.port, .int .u64 (x.s.made : Int), .int .u64 (x.s.ix : Int), .int .i64 x.c.val.node, .string x.c.val.id, .string x.c.val.svc, .string x.c.val.note, .int .i64 x.c.val.status, .int .u64 (x.c.made : Int), .int .u64 (x.c.ix : Int), .int .u64 (x.ix : Int)] TRs) = W1 := ⟨_, rfl⟩
  rw [hW1] at b0 k0
  rw [hX] at k0
  have HBo := Lib.hid (h.below b0)
  have HOut : Hid (¬ Ch4 B1 B2 B3 D X) := Lib.hid (by
    have := h.lt
    rintro ((z | z | z) | z) <;> omega)
  have HTg := Lib.hid (ht.below b0)
  have HB0 := Lib.hid b0
  have HK1 := Lib.hid k0
  have HW1 := Lib.hid hW1
  have HX := Lib.hid hX
  obtain ⟨bq, hbq⟩ : ∃ bq, ((er1 : Int) == (er2 : Int)) = bq := ⟨_, rfl⟩
  have HBq := Lib.hid hbq
  have HBq2 : Hid (er1 = er2 → bq = true) := Lib.hid (fun e => by rw [← hbq, e]; simp)
  have HCp : Hid (∀ (f : Nat → Bool) (e : Nat → Value) (w' : World), StR base X x #[.int .i64 x.kind, .int .i64 x.node, .string x.text, .int .i64 x.s.val.a.node, .string x.s.val.a.id, .string x.s.val.a.name, .slice x.s.val.A x.s.val.n x.s.val.c, .int .i64 x.s.val.a.port, .int .u64 (x.s.made : Int), .int .u64 (x.s.ix : Int), .int .i64 x.c.val.node, .string x.c.val.id, .string x.c.val.svc, .string x.c.val.note, .int .i64 x.c.val.status, .int .u64 (x.c.made : Int), .int .u64 (x.c.ix : Int), .int .u64 (x.ix : Int)] 7 15 B B1 B2 B3 m D md d d' d2 d2' (.int .i64 (er1 : Int)) (.int .i64 (er2 : Int)) f e w' → f 7 = false → Calls Tryz.prog 31 #[.pointer (some ⟨B, 0, none⟩), .int .i64 x.node, .string x.text, .int .u64 (x.ix : Int)] w' fun r w2 => ∃ v, r = .returned v ∧ (∀ e', (∀ m, m ≠ 7 → e' m = e m) → e' 7 = v → StR base X x #[.int .i64 x.kind, .int .i64 x.node, .string x.text, .int .i64 x.s.val.a.node, .string x.s.val.a.id, .string x.s.val.a.name, .slice x.s.val.A x.s.val.n x.s.val.c, .int .i64 x.s.val.a.port, .int .u64 (x.s.made : Int), .int .u64 (x.s.ix : Int), .int .i64 x.c.val.node, .string x.c.val.id, .string x.c.val.svc, .string x.c.val.note, .int .i64 x.c.val.status, .int .u64 (x.c.made : Int), .int .u64 (x.c.ix : Int), .int .u64 (x.ix : Int)] 7 15 B B1 B2 B3 m D md d d' d2 d2' (.int .i64 (er1 : Int)) (.int .i64 (er2 : Int)) (Go.Rel.upd f 7) e' w2) ∧ But (Ch4 B1 B2 B3 D) w' w2) := Lib.hid fun f e w' hI hf =>
    hI.left (by decide) hf fun S h ht => by
      have h9 := rdropservice_any x.node x.text x.ix h HOk.out.node HOk.out.text HOk.out.ix
      rw [show d.dropS x.node x.text x.ix = (er1, d') from HE1.out] at h9
      exact h9
  have HCd : Hid (∀ (f : Nat → Bool) (e : Nat → Value) (w' : World), StR base X x #[.int .i64 x.kind, .int .i64 x.node, .string x.text, .int .i64 x.s.val.a.node, .string x.s.val.a.id, .string x.s.val.a.name, .slice x.s.val.A x.s.val.n x.s.val.c, .int .i64 x.s.val.a.port, .int .u64 (x.s.made : Int), .int .u64 (x.s.ix : Int), .int .i64 x.c.val.node, .string x.c.val.id, .string x.c.val.svc, .string x.c.val.note, .int .i64 x.c.val.status, .int .u64 (x.c.made : Int), .int .u64 (x.c.ix : Int), .int .u64 (x.ix : Int)] 7 15 B B1 B2 B3 m D md d d' d2 d2' (.int .i64 (er1 : Int)) (.int .i64 (er2 : Int)) f e w' → f 15 = false → Calls Tryz.prog 39 #[.pointer (some ⟨D, 0, none⟩), .int .i64 x.node, .string x.text, .int .u64 (x.ix : Int)] w' fun r w2 => ∃ v, r = .returned v ∧ (∀ e', (∀ m, m ≠ 15 → e' m = e m) → e' 15 = v → StR base X x #[.int .i64 x.kind, .int .i64 x.node, .string x.text, .int .i64 x.s.val.a.node, .string x.s.val.a.id, .string x.s.val.a.name, .slice x.s.val.A x.s.val.n x.s.val.c, .int .i64 x.s.val.a.port, .int .u64 (x.s.made : Int), .int .u64 (x.s.ix : Int), .int .i64 x.c.val.node, .string x.c.val.id, .string x.c.val.svc, .string x.c.val.note, .int .i64 x.c.val.status, .int .u64 (x.c.made : Int), .int .u64 (x.c.ix : Int), .int .u64 (x.ix : Int)] 7 15 B B1 B2 B3 m D md d d' d2 d2' (.int .i64 (er1 : Int)) (.int .i64 (er2 : Int)) (Go.Rel.upd f 15) e' w2) ∧ But (Ch4 B1 B2 B3 D) w' w2) := Lib.hid fun f e w' hI hf =>
    hI.right (by decide) hf fun S h ht => by
      have h9 := rddropservice_any x.node x.text x.ix h HOk.out.ix
      rw [show d2.dropS x.node x.text x.ix = (er2, d2') from HE2.out] at h9
      exact h9
  unfold stV
  rw [hk]
  have HKd := Lib.hid hk
  clear h hx ht ha1 ha2 he1 he2 b0 k0 hW1 hX hbq hk
  go_enter Tryz.func11, Tryz.ntmps11
  go_wp2_with fail
  rw [← HKd.out]
  rw [HW1.out, HX.out]
  have hre : ∀ w : World, (But (Ch4 B1 B2 B3 D)) w w := (fun w => But.refl _ w)
  have hrd : ∀ (ops9 : Array Oper) (f9 : Nat → Bool) (e9 : Nat → Value) (w9 : World) (i9 : Nat) (v9 : Value) (e8 : Nat → Value), [7, 15].contains i9 = false → (fun (f : Nat → Bool) (e : Nat → Value) (w : World) => StR base X x #[.int .i64 x.kind, .int .i64 x.node, .string x.text, .int .i64 x.s.val.a.node, .string x.s.val.a.id, .string x.s.val.a.name, .slice x.s.val.A x.s.val.n x.s.val.c, .int .i64 x.s.val.a.port, .int .u64 (x.s.made : Int), .int .u64 (x.s.ix : Int), .int .i64 x.c.val.node, .string x.c.val.id, .string x.c.val.svc, .string x.c.val.note, .int .i64 x.c.val.status, .int .u64 (x.c.made : Int), .int .u64 (x.c.ix : Int), .int .u64 (x.ix : Int)] 7 15 B B1 B2 B3 m D md d d' d2 d2' (.int .i64 (er1 : Int)) (.int .i64 (er2 : Int)) f e w) f9 e9 w9 → Go.Rel.Put ops9 i9 e9 v9 e8 → (fun (f : Nat → Bool) (e : Nat → Value) (w : World) => StR base X x #[.int .i64 x.kind, .int .i64 x.node, .string x.text, .int .i64 x.s.val.a.node, .string x.s.val.a.id, .string x.s.val.a.name, .slice x.s.val.A x.s.val.n x.s.val.c, .int .i64 x.s.val.a.port, .int .u64 (x.s.made : Int), .int .u64 (x.s.ix : Int), .int .i64 x.c.val.node, .string x.c.val.id, .string x.c.val.svc, .string x.c.val.note, .int .i64 x.c.val.status, .int .u64 (x.c.made : Int), .int .u64 (x.c.ix : Int), .int .u64 (x.ix : Int)] 7 15 B B1 B2 B3 m D md d d' d2 d2' (.int .i64 (er1 : Int)) (.int .i64 (er2 : Int)) f e w) (Go.Rel.upd f9 i9) e8 w9 := (fun _ _ _ _ _ _ _ hj h hp => StR.keep hj h hp)
  refine Go.Rel.wp_tabe (by kernel_rfl) (by kernel_rfl) (fun (f : Nat → Bool) (e : Nat → Value) (w : World) => StR base X x #[.int .i64 x.kind, .int .i64 x.node, .string x.text, .int .i64 x.s.val.a.node, .string x.s.val.a.id, .string x.s.val.a.name, .slice x.s.val.A x.s.val.n x.s.val.c, .int .i64 x.s.val.a.port, .int .u64 (x.s.made : Int), .int .u64 (x.s.ix : Int), .int .i64 x.c.val.node, .string x.c.val.id, .string x.c.val.svc, .string x.c.val.note, .int .i64 x.c.val.status, .int .u64 (x.c.made : Int), .int .u64 (x.c.ix : Int), .int .u64 (x.ix : Int)] 7 15 B B1 B2 B3 m D md d d' d2 d2' (.int .i64 (er1 : Int)) (.int .i64 (er2 : Int)) f e w) (But (Ch4 B1 B2 B3 D)) hre ((fun _ _ _ h k => h.trans k)) ((But.refl _ _).drew) (fun e => StR.start HBo.out HK1.out HOut.out HTg.out e) (rst3 B D X x bq) (fun | 7, v, w => True | 15, v, w => True | _, _, _ => True) (fun i => ([7, 15] : List Nat).contains i) (fun i => ([2, 4, 6, 7, 10, 12, 14, 15, 16] : List Nat).contains i) (by kernel_rfl) (fun i v w w' h g => by revert h; split <;> exact id) [7, 15] (by decide) (hrd _) ?_ (Go.Rel.AllOf.get ?_) ?_
  · repeat (refine .cons (by first | exact Go.Rel.pure_sp rfl | exact Go.Rel.pure_yes (by kernel_rfl) (fun _ => by kernel_rfl) | exact Go.Rel.pure_no (by kernel_rfl) rfl) ?_)
    exact .nil
  · refine ⟨?_, ?_, ?_, ?_, ?_, ?_, ?_, ?_, ?_, trivial⟩
    · exact SpecE.ld (hrd _) hre (q := .pointer (some ⟨X, 1, none⟩)) (h := fun _ w' _ hI _ _ _ _ => by obtain ⟨y0, y1, y2, y3, y4, y5, y6, y7, y8, y9, y10, y11, y12, y13, y14, y15, y16, y17⟩ := st_blk (x := x) hI.blk; go_simp; rfl)
    · exact SpecE.ld (hrd _) hre (q := .pointer (some ⟨X, 2, none⟩)) (h := fun _ w' _ hI _ _ _ _ => by obtain ⟨y0, y1, y2, y3, y4, y5, y6, y7, y8, y9, y10, y11, y12, y13, y14, y15, y16, y17⟩ := st_blk (x := x) hI.blk; go_simp; rfl)
    · exact SpecE.ld (hrd _) hre (q := .pointer (some ⟨X, 17, none⟩)) (h := fun _ w' _ hI _ _ _ _ => by obtain ⟨y0, y1, y2, y3, y4, y5, y6, y7, y8, y9, y10, y11, y12, y13, y14, y15, y16, y17⟩ := st_blk (x := x) hI.blk; go_simp; rfl)
    · refine SpecE.gen (fun e => [(61, .pointer (some ⟨B, 0, none⟩)), (63, .int .i64 x.node), (65, .string x.text), (67, .int .u64 (x.ix : Int))]) rfl rfl (fun _ => by kernel_rfl) fun f w' e hI hf hdesc hanc hle hX K hK => ?_
      go_simp
      refine (HCp.out f e w' hI hf).mono ?_
      rintro e9 w9 ⟨v9, rfl, h9, hb9⟩
      exact hK _ _ hb9 (fun e' hp => h9 e' (fun m hm => hp.1 m hm) (hp.2 rfl)) trivial
    · exact SpecE.ld (hrd _) hre (q := .pointer (some ⟨X, 1, none⟩)) (h := fun _ w' _ hI _ _ _ _ => by obtain ⟨y0, y1, y2, y3, y4, y5, y6, y7, y8, y9, y10, y11, y12, y13, y14, y15, y16, y17⟩ := st_blk (x := x) hI.blk; go_simp; rfl)
    · exact SpecE.ld (hrd _) hre (q := .pointer (some ⟨X, 2, none⟩)) (h := fun _ w' _ hI _ _ _ _ => by obtain ⟨y0, y1, y2, y3, y4, y5, y6, y7, y8, y9, y10, y11, y12, y13, y14, y15, y16, y17⟩ := st_blk (x := x) hI.blk; go_simp; rfl)
    · exact SpecE.ld (hrd _) hre (q := .pointer (some ⟨X, 17, none⟩)) (h := fun _ w' _ hI _ _ _ _ => by obtain ⟨y0, y1, y2, y3, y4, y5, y6, y7, y8, y9, y10, y11, y12, y13, y14, y15, y16, y17⟩ := st_blk (x := x) hI.blk; go_simp; rfl)
    · refine SpecE.gen (fun e => [(69, .pointer (some ⟨D, 0, none⟩)), (71, .int .i64 x.node), (73, .string x.text), (75, .int .u64 (x.ix : Int))]) rfl rfl (fun _ => by kernel_rfl) fun f w' e hI hf hdesc hanc hle hX K hK => ?_
      go_simp
      refine (HCd.out f e w' hI hf).mono ?_
      rintro e9 w9 ⟨v9, rfl, h9, hb9⟩
      exact hK _ _ hb9 (fun e' hp => h9 e' (fun m hm => hp.1 m hm) (hp.2 rfl)) trivial
    · refine SpecE.gen (fun e => [(68, e 7), (76, e 15)]) rfl rfl (fun _ => by kernel_rfl) fun f w' e hI hf hdesc hanc hle hX K hK => ?_
      have q1 := hI.k1 (hanc 60 7 (by kernel_rfl))
      have q2 := hI.k2 (hanc 60 15 (by kernel_rfl))
      have qq := HBq.out
      simp only [q1, q2]
      go_simp
      exact hK _ _ (hre _) (fun e' hp => hrd _ f e w' 16 _ e' rfl hI hp) rfl
  · intro f w2 e hall hJ hle hv
    have hb2 := hJ.both
    rw [hall 7 (by decide), hall 15 (by decide)] at hb2
    have HB2 := Lib.hid hb2
    have HL2 := Lib.hid hle
    have v9 := hv 17 rfl
    simp only [Go.Rel.finL, List.setIfInBounds_toArray, List.set_cons_succ, List.set_cons_zero]
    rw [show e 17 = .bool bq from v9]
    clear hv hall hJ hle hb2 v9
    go_wp2
    go_ret
    exact ⟨bq, rfl, HB2.out, (But.of_below HB0.out).trans HL2.out, HBq2.out⟩
def rst4 (B : Nat) (D : Nat) (X : Nat) (x : RSt) (bq : Bool) : Nat → Value
  | 0 => .pointer (some ⟨B, 0, none⟩)
  | 1 | 7 => .pointer (some ⟨X, 10, none⟩)
  | 2 | 8 => .agg #[.int .i64 x.c.val.node, .string x.c.val.id, .string x.c.val.svc, .string x.c.val.note, .int .i64 x.c.val.status, .int .u64 (x.c.made : Int), .int .u64 (x.c.ix : Int)]
  | 3 | 9 => .pointer (some ⟨X, 17, none⟩)
  | 4 | 10 => .int .u64 (x.ix : Int)
  | 6 => .pointer (some ⟨D, 0, none⟩)
  | 12 | 13 => .bool bq
  | _ => undef
set_option maxHeartbeats 4000000 in
set_option maxRecDepth 100000 in
theorem step4_any {base : Nat} {w : World} {B B1 B2 B3 m D md : Nat} {d d2 : Ro} (x : RSt) (h : Both base w B B1 B2 B3 m d D md d2) (hx : x.Ok w) (ht : TgAt (fun k => k < base) w x.s.val) (hk : x.kind = 4) : Calls Tryz.prog 11 #[.pointer (some ⟨B, 0, none⟩), .pointer (some ⟨D, 0, none⟩), stV x] w fun e w' => StepPost base w B B1 B2 B3 m (x.after d).2 D md (x.after d2).2 ((x.after d).1 = (x.after d2).1) e w' := by
  have ha1 : x.after d = d.check x.c.val x.ix := by unfold RSt.after; simp only [hk]; rfl
  have ha2 : x.after d2 = d2.check x.c.val x.ix := by unfold RSt.after; simp only [hk]; rfl
  rw [ha1, ha2]
  obtain ⟨⟨er1, d'⟩, he1⟩ : ∃ r, d.check x.c.val x.ix = r := ⟨_, rfl⟩
  obtain ⟨⟨er2, d2'⟩, he2⟩ : ∃ r, d2.check x.c.val x.ix = r := ⟨_, rfl⟩
  rw [he1, he2]
  have HE1 := Lib.hid he1
  have HE2 := Lib.hid he2
  have HOk := Lib.hid hx
  have HSi := Lib.hid (fun (W : World) (ht : TgAt (fun k => k < base) W x.s.val) => (⟨hx.s.node, hx.s.port, hx.s.id, hx.s.name, ht.tx, hx.s.small⟩ : SvIn W x.s))
  have b0 := below1 w #[.int .i64 x.kind, .int .i64 x.node, .string x.text, .int .i64 x.s.val.a.node, .string x.s.val.a.id, .string x.s.val.a.name, .slice x.s.val.A x.s.val.n x.s.val.c, .int .i64 x.s.val.a.port, .int .u64 (x.s.made : Int), .int .u64 (x.s.ix : Int), .int .i64 x.c.val.node, .string x.c.val.id, .string x.c.val.svc, .string x.c.val.note, .int .i64 x.c.val.status, .int .u64 (x.c.made : Int), .int .u64 (x.c.ix : Int), .int .u64 (x.ix : Int)] TRs
  have k0 := heap_alloc_new w (.cells #[.int .i64 x.kind, .int .i64 x.node, .string x.text, .int .i64 x.s.val.a.node, .string x.s.val.a.id, .string x.s.val.a.name, .slice x.s.val.A x.s.val.n x.s.val.c, .int .i64 x.s.val.a.port, .int .u64 (x.s.made : Int), .int .u64 (x.s.ix : Int), .int .i64 x.c.val.node, .string x.c.val.id, .string x.c.val.svc, .string x.c.val.note, .int .i64 x.c.val.status, .int .u64 (x.c.made : Int), .int .u64 (x.c.ix : Int), .int .u64 (x.ix : Int)] TRs)
  obtain ⟨X, hX⟩ : ∃ X, w.heap.size = X := ⟨_, rfl⟩
  obtain ⟨W1, hW1⟩ : ∃ W1, w.alloc (.cells #[.int .i64 x.kind, .int .i64 x.node, .string x.text, .int .i64 x.s.val.a.node, .string x.s.val.a.id, .string x.s.val.a.name, .slice x.s.val.A x.s.val.n x.s.val.c, .int .i64 x.s.val.a.port, .int .u64 (x.s.made : Int), .int .u64 (x.s.ix : Int), .int .i64 x.c.val.node, .string x.c.val.id, .string x.c.val.svc, .string x.c.val.note, .int .i64 x.c.val.status, .int .u64 (x.c.made : Int), .int .u64 (x.c.ix : Int), .int .u64 (x.ix : Int)] TRs) = W1 := ⟨_, rfl⟩
  rw [hW1] at b0 k0
  rw [hX] at k0
  have HBo := Lib.hid (h.below b0)
  have HOut : Hid (¬ Ch4 B1 B2 B3 D X) := Lib.hid (by
    have := h.lt
    rintro ((z | z | z) | z) <;> omega)
  have HTg := Lib.hid (ht.below b0)
  have HB0 := Lib.hid b0
  have HK1 := Lib.hid k0
  have HW1 := Lib.hid hW1
  have HX := Lib.hid hX
  obtain ⟨bq, hbq⟩ : ∃ bq, ((er1 : Int) == (er2 : Int)) = bq := ⟨_, rfl⟩
  have HBq := Lib.hid hbq
  have HBq2 : Hid (er1 = er2 → bq = true) := Lib.hid (fun e => by rw [← hbq, e]; simp)
  have HCp : Hid (∀ (f : Nat → Bool) (e : Nat → Value) (w' : World), StR base X x #[.int .i64 x.kind, .int .i64 x.node, .string x.text, .int .i64 x.s.val.a.node, .string x.s.val.a.id, .string x.s.val.a.name, .slice x.s.val.A x.s.val.n x.s.val.c, .int .i64 x.s.val.a.port, .int .u64 (x.s.made : Int), .int .u64 (x.s.ix : Int), .int .i64 x.c.val.node, .string x.c.val.id, .string x.c.val.svc, .string x.c.val.note, .int .i64 x.c.val.status, .int .u64 (x.c.made : Int), .int .u64 (x.c.ix : Int), .int .u64 (x.ix : Int)] 5 11 B B1 B2 B3 m D md d d' d2 d2' (.int .i64 (er1 : Int)) (.int .i64 (er2 : Int)) f e w' → f 5 = false → Calls Tryz.prog 20 #[.pointer (some ⟨B, 0, none⟩), .agg #[.int .i64 x.c.val.node, .string x.c.val.id, .string x.c.val.svc, .string x.c.val.note, .int .i64 x.c.val.status, .int .u64 (x.c.made : Int), .int .u64 (x.c.ix : Int)], .int .u64 (x.ix : Int)] w' fun r w2 => ∃ v, r = .returned v ∧ (∀ e', (∀ m, m ≠ 5 → e' m = e m) → e' 5 = v → StR base X x #[.int .i64 x.kind, .int .i64 x.node, .string x.text, .int .i64 x.s.val.a.node, .string x.s.val.a.id, .string x.s.val.a.name, .slice x.s.val.A x.s.val.n x.s.val.c, .int .i64 x.s.val.a.port, .int .u64 (x.s.made : Int), .int .u64 (x.s.ix : Int), .int .i64 x.c.val.node, .string x.c.val.id, .string x.c.val.svc, .string x.c.val.note, .int .i64 x.c.val.status, .int .u64 (x.c.made : Int), .int .u64 (x.c.ix : Int), .int .u64 (x.ix : Int)] 5 11 B B1 B2 B3 m D md d d' d2 d2' (.int .i64 (er1 : Int)) (.int .i64 (er2 : Int)) (Go.Rel.upd f 5) e' w2) ∧ But (Ch4 B1 B2 B3 D) w' w2) := Lib.hid fun f e w' hI hf =>
    hI.left (by decide) hf fun S h ht => by
      have h9 := rcheck_any x.c x.ix h HOk.out.c HOk.out.ix
      rw [show d.check x.c.val x.ix = (er1, d') from HE1.out] at h9
      exact h9
  have HCd : Hid (∀ (f : Nat → Bool) (e : Nat → Value) (w' : World), StR base X x #[.int .i64 x.kind, .int .i64 x.node, .string x.text, .int .i64 x.s.val.a.node, .string x.s.val.a.id, .string x.s.val.a.name, .slice x.s.val.A x.s.val.n x.s.val.c, .int .i64 x.s.val.a.port, .int .u64 (x.s.made : Int), .int .u64 (x.s.ix : Int), .int .i64 x.c.val.node, .string x.c.val.id, .string x.c.val.svc, .string x.c.val.note, .int .i64 x.c.val.status, .int .u64 (x.c.made : Int), .int .u64 (x.c.ix : Int), .int .u64 (x.ix : Int)] 5 11 B B1 B2 B3 m D md d d' d2 d2' (.int .i64 (er1 : Int)) (.int .i64 (er2 : Int)) f e w' → f 11 = false → Calls Tryz.prog 40 #[.pointer (some ⟨D, 0, none⟩), .agg #[.int .i64 x.c.val.node, .string x.c.val.id, .string x.c.val.svc, .string x.c.val.note, .int .i64 x.c.val.status, .int .u64 (x.c.made : Int), .int .u64 (x.c.ix : Int)], .int .u64 (x.ix : Int)] w' fun r w2 => ∃ v, r = .returned v ∧ (∀ e', (∀ m, m ≠ 11 → e' m = e m) → e' 11 = v → StR base X x #[.int .i64 x.kind, .int .i64 x.node, .string x.text, .int .i64 x.s.val.a.node, .string x.s.val.a.id, .string x.s.val.a.name, .slice x.s.val.A x.s.val.n x.s.val.c, .int .i64 x.s.val.a.port, .int .u64 (x.s.made : Int), .int .u64 (x.s.ix : Int), .int .i64 x.c.val.node, .string x.c.val.id, .string x.c.val.svc, .string x.c.val.note, .int .i64 x.c.val.status, .int .u64 (x.c.made : Int), .int .u64 (x.c.ix : Int), .int .u64 (x.ix : Int)] 5 11 B B1 B2 B3 m D md d d' d2 d2' (.int .i64 (er1 : Int)) (.int .i64 (er2 : Int)) (Go.Rel.upd f 11) e' w2) ∧ But (Ch4 B1 B2 B3 D) w' w2) := Lib.hid fun f e w' hI hf =>
    hI.right (by decide) hf fun S h ht => by
      have h9 := rdcheck_any x.c x.ix h HOk.out.c HOk.out.ix
      rw [show d2.check x.c.val x.ix = (er2, d2') from HE2.out] at h9
      exact h9
  unfold stV
  rw [hk]
  have HKd := Lib.hid hk
  clear h hx ht ha1 ha2 he1 he2 b0 k0 hW1 hX hbq hk
  go_enter Tryz.func11, Tryz.ntmps11
  go_wp2_with fail
  rw [← HKd.out]
  rw [HW1.out, HX.out]
  have hre : ∀ w : World, (But (Ch4 B1 B2 B3 D)) w w := (fun w => But.refl _ w)
  have hrd : ∀ (ops9 : Array Oper) (f9 : Nat → Bool) (e9 : Nat → Value) (w9 : World) (i9 : Nat) (v9 : Value) (e8 : Nat → Value), [5, 11].contains i9 = false → (fun (f : Nat → Bool) (e : Nat → Value) (w : World) => StR base X x #[.int .i64 x.kind, .int .i64 x.node, .string x.text, .int .i64 x.s.val.a.node, .string x.s.val.a.id, .string x.s.val.a.name, .slice x.s.val.A x.s.val.n x.s.val.c, .int .i64 x.s.val.a.port, .int .u64 (x.s.made : Int), .int .u64 (x.s.ix : Int), .int .i64 x.c.val.node, .string x.c.val.id, .string x.c.val.svc, .string x.c.val.note, .int .i64 x.c.val.status, .int .u64 (x.c.made : Int), .int .u64 (x.c.ix : Int), .int .u64 (x.ix : Int)] 5 11 B B1 B2 B3 m D md d d' d2 d2' (.int .i64 (er1 : Int)) (.int .i64 (er2 : Int)) f e w) f9 e9 w9 → Go.Rel.Put ops9 i9 e9 v9 e8 → (fun (f : Nat → Bool) (e : Nat → Value) (w : World) => StR base X x #[.int .i64 x.kind, .int .i64 x.node, .string x.text, .int .i64 x.s.val.a.node, .string x.s.val.a.id, .string x.s.val.a.name, .slice x.s.val.A x.s.val.n x.s.val.c, .int .i64 x.s.val.a.port, .int .u64 (x.s.made : Int), .int .u64 (x.s.ix : Int), .int .i64 x.c.val.node, .string x.c.val.id, .string x.c.val.svc, .string x.c.val.note, .int .i64 x.c.val.status, .int .u64 (x.c.made : Int), .int .u64 (x.c.ix : Int), .int .u64 (x.ix : Int)] 5 11 B B1 B2 B3 m D md d d' d2 d2' (.int .i64 (er1 : Int)) (.int .i64 (er2 : Int)) f e w) (Go.Rel.upd f9 i9) e8 w9 := (fun _ _ _ _ _ _ _ hj h hp => StR.keep hj h hp)
  refine Go.Rel.wp_tabe (by kernel_rfl) (by kernel_rfl) (fun (f : Nat → Bool) (e : Nat → Value) (w : World) => StR base X x #[.int .i64 x.kind, .int .i64 x.node, .string x.text, .int .i64 x.s.val.a.node, .string x.s.val.a.id, .string x.s.val.a.name, .slice x.s.val.A x.s.val.n x.s.val.c, .int .i64 x.s.val.a.port, .int .u64 (x.s.made : Int), .int .u64 (x.s.ix : Int), .int .i64 x.c.val.node, .string x.c.val.id, .string x.c.val.svc, .string x.c.val.note, .int .i64 x.c.val.status, .int .u64 (x.c.made : Int), .int .u64 (x.c.ix : Int), .int .u64 (x.ix : Int)] 5 11 B B1 B2 B3 m D md d d' d2 d2' (.int .i64 (er1 : Int)) (.int .i64 (er2 : Int)) f e w) (But (Ch4 B1 B2 B3 D)) hre ((fun _ _ _ h k => h.trans k)) ((But.refl _ _).drew) (fun e => StR.start HBo.out HK1.out HOut.out HTg.out e) (rst4 B D X x bq) (fun | 5, v, w => True | 11, v, w => True | _, _, _ => True) (fun i => ([5, 11] : List Nat).contains i) (fun i => ([2, 4, 5, 8, 10, 11, 12] : List Nat).contains i) (by kernel_rfl) (fun i v w w' h g => by revert h; split <;> exact id) [5, 11] (by decide) (hrd _) ?_ (Go.Rel.AllOf.get ?_) ?_
  · repeat (refine .cons (by first | exact Go.Rel.pure_sp rfl | exact Go.Rel.pure_yes (by kernel_rfl) (fun _ => by kernel_rfl) | exact Go.Rel.pure_no (by kernel_rfl) rfl) ?_)
    exact .nil
  · refine ⟨?_, ?_, ?_, ?_, ?_, ?_, ?_, trivial⟩
    · exact SpecE.ld (hrd _) hre (q := .pointer (some ⟨X, 10, none⟩)) (h := fun _ w' _ hI _ _ _ _ => by obtain ⟨y0, y1, y2, y3, y4, y5, y6, y7, y8, y9, y10, y11, y12, y13, y14, y15, y16, y17⟩ := st_blk (x := x) hI.blk; go_simp; rfl)
    · exact SpecE.ld (hrd _) hre (q := .pointer (some ⟨X, 17, none⟩)) (h := fun _ w' _ hI _ _ _ _ => by obtain ⟨y0, y1, y2, y3, y4, y5, y6, y7, y8, y9, y10, y11, y12, y13, y14, y15, y16, y17⟩ := st_blk (x := x) hI.blk; go_simp; rfl)
    · refine SpecE.gen (fun e => [(80, .pointer (some ⟨B, 0, none⟩)), (82, .agg #[.int .i64 x.c.val.node, .string x.c.val.id, .string x.c.val.svc, .string x.c.val.note, .int .i64 x.c.val.status, .int .u64 (x.c.made : Int), .int .u64 (x.c.ix : Int)]), (84, .int .u64 (x.ix : Int))]) rfl rfl (fun _ => by kernel_rfl) fun f w' e hI hf hdesc hanc hle hX K hK => ?_
      go_simp
      refine (HCp.out f e w' hI hf).mono ?_
      rintro e9 w9 ⟨v9, rfl, h9, hb9⟩
      exact hK _ _ hb9 (fun e' hp => h9 e' (fun m hm => hp.1 m hm) (hp.2 rfl)) trivial
    · exact SpecE.ld (hrd _) hre (q := .pointer (some ⟨X, 10, none⟩)) (h := fun _ w' _ hI _ _ _ _ => by obtain ⟨y0, y1, y2, y3, y4, y5, y6, y7, y8, y9, y10, y11, y12, y13, y14, y15, y16, y17⟩ := st_blk (x := x) hI.blk; go_simp; rfl)
    · exact SpecE.ld (hrd _) hre (q := .pointer (some ⟨X, 17, none⟩)) (h := fun _ w' _ hI _ _ _ _ => by obtain ⟨y0, y1, y2, y3, y4, y5, y6, y7, y8, y9, y10, y11, y12, y13, y14, y15, y16, y17⟩ := st_blk (x := x) hI.blk; go_simp; rfl)
    · refine SpecE.gen (fun e => [(86, .pointer (some ⟨D, 0, none⟩)), (88, .agg #[.int .i64 x.c.val.node, .string x.c.val.id, .string x.c.val.svc, .string x.c.val.note, .int .i64 x.c.val.status, .int .u64 (x.c.made : Int), .int .u64 (x.c.ix : Int)]), (90, .int .u64 (x.ix : Int))]) rfl rfl (fun _ => by kernel_rfl) fun f w' e hI hf hdesc hanc hle hX K hK => ?_
      go_simp
      refine (HCd.out f e w' hI hf).mono ?_
      rintro e9 w9 ⟨v9, rfl, h9, hb9⟩
      exact hK _ _ hb9 (fun e' hp => h9 e' (fun m hm => hp.1 m hm) (hp.2 rfl)) trivial
    · refine SpecE.gen (fun e => [(85, e 5), (91, e 11)]) rfl rfl (fun _ => by kernel_rfl) fun f w' e hI hf hdesc hanc hle hX K hK => ?_
      have q1 := hI.k1 (hanc 60 5 (by kernel_rfl))
      have q2 := hI.k2 (hanc 60 11 (by kernel_rfl))
      have qq := HBq.out
      simp only [q1, q2]
      go_simp
      exact hK _ _ (hre _) (fun e' hp => hrd _ f e w' 12 _ e' rfl hI hp) rfl
  · intro f w2 e hall hJ hle hv
    have hb2 := hJ.both
    rw [hall 5 (by decide), hall 11 (by decide)] at hb2
    have HB2 := Lib.hid hb2
    have HL2 := Lib.hid hle
    have v9 := hv 13 rfl
    simp only [Go.Rel.finL, List.setIfInBounds_toArray, List.set_cons_succ, List.set_cons_zero]
    rw [show e 13 = .bool bq from v9]
    clear hv hall hJ hle hb2 v9
    go_wp2
    go_ret
    exact ⟨bq, rfl, HB2.out, (But.of_below HB0.out).trans HL2.out, HBq2.out⟩
def rst5 (B : Nat) (D : Nat) (X : Nat) (x : RSt) (bq : Bool) : Nat → Value
  | 0 => .pointer (some ⟨B, 0, none⟩)
  | 1 | 9 => .pointer (some ⟨X, 1, none⟩)
  | 2 | 10 => .int .i64 x.node
  | 3 | 11 => .pointer (some ⟨X, 2, none⟩)
  | 4 | 12 => .string x.text
  | 5 | 13 => .pointer (some ⟨X, 17, none⟩)
  | 6 | 14 => .int .u64 (x.ix : Int)
  | 8 => .pointer (some ⟨D, 0, none⟩)
  | 16 | 17 => .bool bq
  | _ => undef
set_option maxHeartbeats 4000000 in
set_option maxRecDepth 100000 in
theorem step5_any {base : Nat} {w : World} {B B1 B2 B3 m D md : Nat} {d d2 : Ro} (x : RSt) (h : Both base w B B1 B2 B3 m d D md d2) (hx : x.Ok w) (ht : TgAt (fun k => k < base) w x.s.val) (hk : x.kind = 5) : Calls Tryz.prog 11 #[.pointer (some ⟨B, 0, none⟩), .pointer (some ⟨D, 0, none⟩), stV x] w fun e w' => StepPost base w B B1 B2 B3 m (x.after d).2 D md (x.after d2).2 ((x.after d).1 = (x.after d2).1) e w' := by
  have ha1 : x.after d = d.dropC x.node x.text x.ix := by unfold RSt.after; simp only [hk]; rfl
  have ha2 : x.after d2 = d2.dropC x.node x.text x.ix := by unfold RSt.after; simp only [hk]; rfl
  rw [ha1, ha2]
  obtain ⟨⟨er1, d'⟩, he1⟩ : ∃ r, d.dropC x.node x.text x.ix = r := ⟨_, rfl⟩
  obtain ⟨⟨er2, d2'⟩, he2⟩ : ∃ r, d2.dropC x.node x.text x.ix = r := ⟨_, rfl⟩
  rw [he1, he2]
  have HE1 := Lib.hid he1
  have HE2 := Lib.hid he2
  have HOk := Lib.hid hx
  have HSi := Lib.hid (fun (W : World) (ht : TgAt (fun k => k < base) W x.s.val) => (⟨hx.s.node, hx.s.port, hx.s.id, hx.s.name, ht.tx, hx.s.small⟩ : SvIn W x.s))
  have b0 := below1 w #[.int .i64 x.kind, .int .i64 x.node, .string x.text, .int .i64 x.s.val.a.node, .string x.s.val.a.id, .string x.s.val.a.name, .slice x.s.val.A x.s.val.n x.s.val.c, .int .i64 x.s.val.a.port, .int .u64 (x.s.made : Int), .int .u64 (x.s.ix : Int), .int .i64 x.c.val.node, .string x.c.val.id, .string x.c.val.svc, .string x.c.val.note, .int .i64 x.c.val.status, .int .u64 (x.c.made : Int), .int .u64 (x.c.ix : Int), .int .u64 (x.ix : Int)] TRs
  have k0 := heap_alloc_new w (.cells #[.int .i64 x.kind, .int .i64 x.node, .string x.text, .int .i64 x.s.val.a.node, .string x.s.val.a.id, .string x.s.val.a.name, .slice x.s.val.A x.s.val.n x.s.val.c, .int .i64 x.s.val.a.port, .int .u64 (x.s.made : Int), .int .u64 (x.s.ix : Int), .int .i64 x.c.val.node, .string x.c.val.id, .string x.c.val.svc, .string x.c.val.note, .int .i64 x.c.val.status, .int .u64 (x.c.made : Int), .int .u64 (x.c.ix : Int), .int .u64 (x.ix : Int)] TRs)
  obtain ⟨X, hX⟩ : ∃ X, w.heap.size = X := ⟨_, rfl⟩
  obtain ⟨W1, hW1⟩ : ∃ W1, w.alloc (.cells #[.int .i64 x.kind, .int .i64 x.node, .string x.text, .int .i64 x.s.val.a.node, .string x.s.val.a.id, .string x.s.val.a.name, .slice x.s.val.A x.s.val.n x.s.val.c, .int .i64 x.s.val.a.port, .int .u64 (x.s.made : Int), .int .u64 (x.s.ix : Int), .int .i64 x.c.val.node, .string x.c.val.id, .string x.c.val.svc, .string x.c.val.note, .int .i64 x.c.val.status, .int .u64 (x.c.made : Int), .int .u64 (x.c.ix : Int), .int .u64 (x.ix : Int)] TRs) = W1 := ⟨_, rfl⟩
  rw [hW1] at b0 k0
  rw [hX] at k0
  have HBo := Lib.hid (h.below b0)
  have HOut : Hid (¬ Ch4 B1 B2 B3 D X) := Lib.hid (by
    have := h.lt
    rintro ((z | z | z) | z) <;> omega)
  have HTg := Lib.hid (ht.below b0)
  have HB0 := Lib.hid b0
  have HK1 := Lib.hid k0
  have HW1 := Lib.hid hW1
  have HX := Lib.hid hX
  obtain ⟨bq, hbq⟩ : ∃ bq, ((er1 : Int) == (er2 : Int)) = bq := ⟨_, rfl⟩
  have HBq := Lib.hid hbq
  have HBq2 : Hid (er1 = er2 → bq = true) := Lib.hid (fun e => by rw [← hbq, e]; simp)
  have HCp : Hid (∀ (f : Nat → Bool) (e : Nat → Value) (w' : World), StR base X x #[.int .i64 x.kind, .int .i64 x.node, .string x.text, .int .i64 x.s.val.a.node, .string x.s.val.a.id, .string x.s.val.a.name, .slice x.s.val.A x.s.val.n x.s.val.c, .int .i64 x.s.val.a.port, .int .u64 (x.s.made : Int), .int .u64 (x.s.ix : Int), .int .i64 x.c.val.node, .string x.c.val.id, .string x.c.val.svc, .string x.c.val.note, .int .i64 x.c.val.status, .int .u64 (x.c.made : Int), .int .u64 (x.c.ix : Int), .int .u64 (x.ix : Int)] 7 15 B B1 B2 B3 m D md d d' d2 d2' (.int .i64 (er1 : Int)) (.int .i64 (er2 : Int)) f e w' → f 7 = false → Calls Tryz.prog 21 #[.pointer (some ⟨B, 0, none⟩), .int .i64 x.node, .string x.text, .int .u64 (x.ix : Int)] w' fun r w2 => ∃ v, r = .returned v ∧ (∀ e', (∀ m, m ≠ 7 → e' m = e m) → e' 7 = v → StR base X x #[.int .i64 x.kind, .int .i64 x.node, .string x.text, .int .i64 x.s.val.a.node, .string x.s.val.a.id, .string x.s.val.a.name, .slice x.s.val.A x.s.val.n x.s.val.c, .int .i64 x.s.val.a.port, .int .u64 (x.s.made : Int), .int .u64 (x.s.ix : Int), .int .i64 x.c.val.node, .string x.c.val.id, .string x.c.val.svc, .string x.c.val.note, .int .i64 x.c.val.status, .int .u64 (x.c.made : Int), .int .u64 (x.c.ix : Int), .int .u64 (x.ix : Int)] 7 15 B B1 B2 B3 m D md d d' d2 d2' (.int .i64 (er1 : Int)) (.int .i64 (er2 : Int)) (Go.Rel.upd f 7) e' w2) ∧ But (Ch4 B1 B2 B3 D) w' w2) := Lib.hid fun f e w' hI hf =>
    hI.left (by decide) hf fun S h ht => by
      have h9 := rdropcheck_any x.node x.text x.ix h HOk.out.node HOk.out.text HOk.out.ix
      rw [show d.dropC x.node x.text x.ix = (er1, d') from HE1.out] at h9
      exact h9
  have HCd : Hid (∀ (f : Nat → Bool) (e : Nat → Value) (w' : World), StR base X x #[.int .i64 x.kind, .int .i64 x.node, .string x.text, .int .i64 x.s.val.a.node, .string x.s.val.a.id, .string x.s.val.a.name, .slice x.s.val.A x.s.val.n x.s.val.c, .int .i64 x.s.val.a.port, .int .u64 (x.s.made : Int), .int .u64 (x.s.ix : Int), .int .i64 x.c.val.node, .string x.c.val.id, .string x.c.val.svc, .string x.c.val.note, .int .i64 x.c.val.status, .int .u64 (x.c.made : Int), .int .u64 (x.c.ix : Int), .int .u64 (x.ix : Int)] 7 15 B B1 B2 B3 m D md d d' d2 d2' (.int .i64 (er1 : Int)) (.int .i64 (er2 : Int)) f e w' → f 15 = false → Calls Tryz.prog 41 #[.pointer (some ⟨D, 0, none⟩), .int .i64 x.node, .string x.text, .int .u64 (x.ix : Int)] w' fun r w2 => ∃ v, r = .returned v ∧ (∀ e', (∀ m, m ≠ 15 → e' m = e m) → e' 15 = v → StR base X x #[.int .i64 x.kind, .int .i64 x.node, .string x.text, .int .i64 x.s.val.a.node, .string x.s.val.a.id, .string x.s.val.a.name, .slice x.s.val.A x.s.val.n x.s.val.c, .int .i64 x.s.val.a.port, .int .u64 (x.s.made : Int), .int .u64 (x.s.ix : Int), .int .i64 x.c.val.node, .string x.c.val.id, .string x.c.val.svc, .string x.c.val.note, .int .i64 x.c.val.status, .int .u64 (x.c.made : Int), .int .u64 (x.c.ix : Int), .int .u64 (x.ix : Int)] 7 15 B B1 B2 B3 m D md d d' d2 d2' (.int .i64 (er1 : Int)) (.int .i64 (er2 : Int)) (Go.Rel.upd f 15) e' w2) ∧ But (Ch4 B1 B2 B3 D) w' w2) := Lib.hid fun f e w' hI hf =>
    hI.right (by decide) hf fun S h ht => by
      have h9 := rddropcheck_any x.node x.text x.ix h HOk.out.ix
      rw [show d2.dropC x.node x.text x.ix = (er2, d2') from HE2.out] at h9
      exact h9
  unfold stV
  rw [hk]
  have HKd := Lib.hid hk
  clear h hx ht ha1 ha2 he1 he2 b0 k0 hW1 hX hbq hk
  go_enter Tryz.func11, Tryz.ntmps11
  go_wp2_with fail
  rw [← HKd.out]
  rw [HW1.out, HX.out]
  have hre : ∀ w : World, (But (Ch4 B1 B2 B3 D)) w w := (fun w => But.refl _ w)
  have hrd : ∀ (ops9 : Array Oper) (f9 : Nat → Bool) (e9 : Nat → Value) (w9 : World) (i9 : Nat) (v9 : Value) (e8 : Nat → Value), [7, 15].contains i9 = false → (fun (f : Nat → Bool) (e : Nat → Value) (w : World) => StR base X x #[.int .i64 x.kind, .int .i64 x.node, .string x.text, .int .i64 x.s.val.a.node, .string x.s.val.a.id, .string x.s.val.a.name, .slice x.s.val.A x.s.val.n x.s.val.c, .int .i64 x.s.val.a.port, .int .u64 (x.s.made : Int), .int .u64 (x.s.ix : Int), .int .i64 x.c.val.node, .string x.c.val.id, .string x.c.val.svc, .string x.c.val.note, .int .i64 x.c.val.status, .int .u64 (x.c.made : Int), .int .u64 (x.c.ix : Int), .int .u64 (x.ix : Int)] 7 15 B B1 B2 B3 m D md d d' d2 d2' (.int .i64 (er1 : Int)) (.int .i64 (er2 : Int)) f e w) f9 e9 w9 → Go.Rel.Put ops9 i9 e9 v9 e8 → (fun (f : Nat → Bool) (e : Nat → Value) (w : World) => StR base X x #[.int .i64 x.kind, .int .i64 x.node, .string x.text, .int .i64 x.s.val.a.node, .string x.s.val.a.id, .string x.s.val.a.name, .slice x.s.val.A x.s.val.n x.s.val.c, .int .i64 x.s.val.a.port, .int .u64 (x.s.made : Int), .int .u64 (x.s.ix : Int), .int .i64 x.c.val.node, .string x.c.val.id, .string x.c.val.svc, .string x.c.val.note, .int .i64 x.c.val.status, .int .u64 (x.c.made : Int), .int .u64 (x.c.ix : Int), .int .u64 (x.ix : Int)] 7 15 B B1 B2 B3 m D md d d' d2 d2' (.int .i64 (er1 : Int)) (.int .i64 (er2 : Int)) f e w) (Go.Rel.upd f9 i9) e8 w9 := (fun _ _ _ _ _ _ _ hj h hp => StR.keep hj h hp)
  refine Go.Rel.wp_tabe (by kernel_rfl) (by kernel_rfl) (fun (f : Nat → Bool) (e : Nat → Value) (w : World) => StR base X x #[.int .i64 x.kind, .int .i64 x.node, .string x.text, .int .i64 x.s.val.a.node, .string x.s.val.a.id, .string x.s.val.a.name, .slice x.s.val.A x.s.val.n x.s.val.c, .int .i64 x.s.val.a.port, .int .u64 (x.s.made : Int), .int .u64 (x.s.ix : Int), .int .i64 x.c.val.node, .string x.c.val.id, .string x.c.val.svc, .string x.c.val.note, .int .i64 x.c.val.status, .int .u64 (x.c.made : Int), .int .u64 (x.c.ix : Int), .int .u64 (x.ix : Int)] 7 15 B B1 B2 B3 m D md d d' d2 d2' (.int .i64 (er1 : Int)) (.int .i64 (er2 : Int)) f e w) (But (Ch4 B1 B2 B3 D)) hre ((fun _ _ _ h k => h.trans k)) ((But.refl _ _).drew) (fun e => StR.start HBo.out HK1.out HOut.out HTg.out e) (rst5 B D X x bq) (fun | 7, v, w => True | 15, v, w => True | _, _, _ => True) (fun i => ([7, 15] : List Nat).contains i) (fun i => ([2, 4, 6, 7, 10, 12, 14, 15, 16] : List Nat).contains i) (by kernel_rfl) (fun i v w w' h g => by revert h; split <;> exact id) [7, 15] (by decide) (hrd _) ?_ (Go.Rel.AllOf.get ?_) ?_
  · repeat (refine .cons (by first | exact Go.Rel.pure_sp rfl | exact Go.Rel.pure_yes (by kernel_rfl) (fun _ => by kernel_rfl) | exact Go.Rel.pure_no (by kernel_rfl) rfl) ?_)
    exact .nil
  · refine ⟨?_, ?_, ?_, ?_, ?_, ?_, ?_, ?_, ?_, trivial⟩
    · exact SpecE.ld (hrd _) hre (q := .pointer (some ⟨X, 1, none⟩)) (h := fun _ w' _ hI _ _ _ _ => by obtain ⟨y0, y1, y2, y3, y4, y5, y6, y7, y8, y9, y10, y11, y12, y13, y14, y15, y16, y17⟩ := st_blk (x := x) hI.blk; go_simp; rfl)
    · exact SpecE.ld (hrd _) hre (q := .pointer (some ⟨X, 2, none⟩)) (h := fun _ w' _ hI _ _ _ _ => by obtain ⟨y0, y1, y2, y3, y4, y5, y6, y7, y8, y9, y10, y11, y12, y13, y14, y15, y16, y17⟩ := st_blk (x := x) hI.blk; go_simp; rfl)
    · exact SpecE.ld (hrd _) hre (q := .pointer (some ⟨X, 17, none⟩)) (h := fun _ w' _ hI _ _ _ _ => by obtain ⟨y0, y1, y2, y3, y4, y5, y6, y7, y8, y9, y10, y11, y12, y13, y14, y15, y16, y17⟩ := st_blk (x := x) hI.blk; go_simp; rfl)
    · refine SpecE.gen (fun e => [(95, .pointer (some ⟨B, 0, none⟩)), (97, .int .i64 x.node), (99, .string x.text), (101, .int .u64 (x.ix : Int))]) rfl rfl (fun _ => by kernel_rfl) fun f w' e hI hf hdesc hanc hle hX K hK => ?_
      go_simp
      refine (HCp.out f e w' hI hf).mono ?_
      rintro e9 w9 ⟨v9, rfl, h9, hb9⟩
      exact hK _ _ hb9 (fun e' hp => h9 e' (fun m hm => hp.1 m hm) (hp.2 rfl)) trivial
    · exact SpecE.ld (hrd _) hre (q := .pointer (some ⟨X, 1, none⟩)) (h := fun _ w' _ hI _ _ _ _ => by obtain ⟨y0, y1, y2, y3, y4, y5, y6, y7, y8, y9, y10, y11, y12, y13, y14, y15, y16, y17⟩ := st_blk (x := x) hI.blk; go_simp; rfl)
    · exact SpecE.ld (hrd _) hre (q := .pointer (some ⟨X, 2, none⟩)) (h := fun _ w' _ hI _ _ _ _ => by obtain ⟨y0, y1, y2, y3, y4, y5, y6, y7, y8, y9, y10, y11, y12, y13, y14, y15, y16, y17⟩ := st_blk (x := x) hI.blk; go_simp; rfl)
    · exact SpecE.ld (hrd _) hre (q := .pointer (some ⟨X, 17, none⟩)) (h := fun _ w' _ hI _ _ _ _ => by obtain ⟨y0, y1, y2, y3, y4, y5, y6, y7, y8, y9, y10, y11, y12, y13, y14, y15, y16, y17⟩ := st_blk (x := x) hI.blk; go_simp; rfl)
    · refine SpecE.gen (fun e => [(103, .pointer (some ⟨D, 0, none⟩)), (105, .int .i64 x.node), (107, .string x.text), (109, .int .u64 (x.ix : Int))]) rfl rfl (fun _ => by kernel_rfl) fun f w' e hI hf hdesc hanc hle hX K hK => ?_
      go_simp
      refine (HCd.out f e w' hI hf).mono ?_
      rintro e9 w9 ⟨v9, rfl, h9, hb9⟩
      exact hK _ _ hb9 (fun e' hp => h9 e' (fun m hm => hp.1 m hm) (hp.2 rfl)) trivial
    · refine SpecE.gen (fun e => [(102, e 7), (110, e 15)]) rfl rfl (fun _ => by kernel_rfl) fun f w' e hI hf hdesc hanc hle hX K hK => ?_
      have q1 := hI.k1 (hanc 60 7 (by kernel_rfl))
      have q2 := hI.k2 (hanc 60 15 (by kernel_rfl))
      have qq := HBq.out
      simp only [q1, q2]
      go_simp
      exact hK _ _ (hre _) (fun e' hp => hrd _ f e w' 16 _ e' rfl hI hp) rfl
  · intro f w2 e hall hJ hle hv
    have hb2 := hJ.both
    rw [hall 7 (by decide), hall 15 (by decide)] at hb2
    have HB2 := Lib.hid hb2
    have HL2 := Lib.hid hle
    have v9 := hv 17 rfl
    simp only [Go.Rel.finL, List.setIfInBounds_toArray, List.set_cons_succ, List.set_cons_zero]
    rw [show e 17 = .bool bq from v9]
    clear hv hall hJ hle hb2 v9
    go_wp2
    go_ret
    exact ⟨bq, rfl, HB2.out, (But.of_below HB0.out).trans HL2.out, HBq2.out⟩
end Go.Proofs.YtilkbfmaofmjoaaGreatDoor
/-
  The law's step: Copy, and what is no call (layer 19).
-/
namespace Go.Proofs.YtilkbfmaofmjoaaGreatDoor
open Go.RowKit
set_option linter.unusedSimpArgs false
set_option linter.unusedVariables false

set_option maxHeartbeats 4000000 in
set_option maxRecDepth 100000 in
theorem step6_any {base : Nat} {w : World} {B B1 B2 B3 m D md : Nat} {d : Ro} (x : RSt) (h : Both base w B B1 B2 B3 m d D md d) (hx : x.Ok w) (ht : TgAt (fun k => k < base) w x.s.val) (hk : x.kind = 6) : Calls Tryz.prog 11 #[.pointer (some ⟨B, 0, none⟩), .pointer (some ⟨D, 0, none⟩), stV x] w fun e w' => StepPost base w B B1 B2 B3 m d D md d True e w' := by
  have HOk := Lib.hid hx
  have b0 := below1 w #[.int .i64 x.kind, .int .i64 x.node, .string x.text, .int .i64 x.s.val.a.node, .string x.s.val.a.id, .string x.s.val.a.name, .slice x.s.val.A x.s.val.n x.s.val.c, .int .i64 x.s.val.a.port, .int .u64 (x.s.made : Int), .int .u64 (x.s.ix : Int), .int .i64 x.c.val.node, .string x.c.val.id, .string x.c.val.svc, .string x.c.val.note, .int .i64 x.c.val.status, .int .u64 (x.c.made : Int), .int .u64 (x.c.ix : Int), .int .u64 (x.ix : Int)] TRs
  have k0 := heap_alloc_new w (.cells #[.int .i64 x.kind, .int .i64 x.node, .string x.text, .int .i64 x.s.val.a.node, .string x.s.val.a.id, .string x.s.val.a.name, .slice x.s.val.A x.s.val.n x.s.val.c, .int .i64 x.s.val.a.port, .int .u64 (x.s.made : Int), .int .u64 (x.s.ix : Int), .int .i64 x.c.val.node, .string x.c.val.id, .string x.c.val.svc, .string x.c.val.note, .int .i64 x.c.val.status, .int .u64 (x.c.made : Int), .int .u64 (x.c.ix : Int), .int .u64 (x.ix : Int)] TRs)
  obtain ⟨X, hX⟩ : ∃ X, w.heap.size = X := ⟨_, rfl⟩
  obtain ⟨W1, hW1⟩ : ∃ W1, w.alloc (.cells #[.int .i64 x.kind, .int .i64 x.node, .string x.text, .int .i64 x.s.val.a.node, .string x.s.val.a.id, .string x.s.val.a.name, .slice x.s.val.A x.s.val.n x.s.val.c, .int .i64 x.s.val.a.port, .int .u64 (x.s.made : Int), .int .u64 (x.s.ix : Int), .int .i64 x.c.val.node, .string x.c.val.id, .string x.c.val.svc, .string x.c.val.note, .int .i64 x.c.val.status, .int .u64 (x.c.made : Int), .int .u64 (x.c.ix : Int), .int .u64 (x.ix : Int)] TRs) = W1 := ⟨_, rfl⟩
  have s0 : W1.heap.size = X + 1 := by rw [← hW1, ← hX]; simp
  rw [hW1] at b0 k0
  rw [hX] at k0
  have HB0 := Lib.hid b0
  have HK1 := Lib.hid k0
  have HW1 := Lib.hid hW1
  have HX := Lib.hid hX
  have HS0 := Lib.hid s0
  obtain ⟨Sp, h1⟩ := h.read
  have HCp := Lib.hid (rcopy_any (h1.below b0))
  have HBo := Lib.hid h
  unfold stV
  rw [hk]
  have HKd := Lib.hid hk
  clear h hx ht b0 k0 hW1 hX s0 hk h1
  go_enter Tryz.func11, Tryz.ntmps11
  go_wp2_with fail
  rw [← HKd.out]
  rw [HW1.out, HX.out]
  refine HCp.out.mono ?_
  rintro e W2 ⟨c0, c1, c2, c3, rfl, hc, hz, hb⟩
  have HC2 := Lib.hid hc
  have HZ := Lib.hid (show X < c1 ∧ X < c2 ∧ X < c3 by have := HS0.out; omega)
  have HB2 := Lib.hid (HB0.out.trans (hb.mono HB0.out.size))
  have HK2 := Lib.hid ((hb.block X (by have := HS0.out; omega)).trans HK1.out)
  have HSm := Lib.hid (by
    obtain ⟨Sd, A1, A2, A3, e1, e2, e3, l2, hok, hd⟩ := (HBo.out.below (HB0.out.trans (hb.mono HB0.out.size))).ref
    exact same_yes hc hd : Calls Tryz.prog 12 #[.pointer (some ⟨c0, 0, none⟩), .pointer (some ⟨D, 0, none⟩)] W2 fun e w' => e = .returned (.bool true) ∧ Below W2.heap.size W2 w')
  clear hc hz hb HCp
  go_wp2_with fail
  refine HSm.out.mono ?_
  rintro e W3 ⟨rfl, hb⟩
  have HB3 := Lib.hid (HB2.out.trans (hb.mono HB2.out.size))
  have HK3 := Lib.hid ((hb.block X (block_lt HK2.out)).trans HK2.out)
  have HC3 := Lib.hid (HC2.out.below hb)
  obtain ⟨y0, y1, y2, y3, y4, y5, y6, y7, y8, y9, y10, y11, y12, y13, y14, y15, y16, y17⟩ := st_blk (x := x) HK3.out
  have HDn := Lib.hid (rdropnode_any x.node 18446744073709551615 HC3.out HOk.out.node (by decide))
  clear hb HSm
  go_wp2_with fail
  refine HDn.out.mono ?_
  rintro e W4 ⟨rfl, hc, hb⟩
  have HC4 := Lib.hid hc
  have HB4 := Lib.hid hb
  have HK4 := Lib.hid ((hb.block X (block_lt HK3.out) (by have := HZ.out; rintro (z | z | z) <;> omega)).trans HK3.out)
  clear y0 y1 y2 y3 y4 y5 y6 y7 y8 y9 y10 y11 y12 y13 y14 y15 y16 y17 hc hb HDn
  obtain ⟨y0, y1, y2, y3, y4, y5, y6, y7, y8, y9, y10, y11, y12, y13, y14, y15, y16, y17⟩ := st_blk (x := x) HK4.out
  have HNo := Lib.hid (rnode_any x.node (⟨#[111, 116, 104, 101, 114]⟩ : ByteArray) x.ix HC4.out HOk.out.node (by decide) HOk.out.ix)
  go_wp2_with fail
  refine HNo.out.mono ?_
  rintro e W5 ⟨rfl, hc, hb⟩
  have HB5 := Lib.hid (HB4.out.trans hb)
  clear y0 y1 y2 y3 y4 y5 y6 y7 y8 y9 y10 y11 y12 y13 y14 y15 y16 y17 hc hb HNo
  go_wp2
  go_ret
  refine ⟨true, rfl, HBo.out.aside HB3.out (b1 := c1) (b2 := c2) (b3 := c3) (by have := HZ.out; have := HX.out; omega) HB5.out, ?_, fun _ => rfl⟩
  exact (But.of_below HB3.out).then_ HB5.out fun k hk e => absurd e (by have := HZ.out; have := HX.out; rcases hk with z | z | z <;> omega)
set_option maxRecDepth 100000 in
theorem step7_any {base : Nat} {w : World} {B B1 B2 B3 m D md : Nat} {d d2 : Ro} (x : RSt) (h : Both base w B B1 B2 B3 m d D md d2) (hx : x.Ok w) (ht : TgAt (fun k => k < base) w x.s.val) (hk : x.kind < 0 ∨ 6 < x.kind) : Calls Tryz.prog 11 #[.pointer (some ⟨B, 0, none⟩), .pointer (some ⟨D, 0, none⟩), stV x] w fun e w' => StepPost base w B B1 B2 B3 m d D md d2 True e w' := by
  have b0 := below1 w #[.int .i64 x.kind, .int .i64 x.node, .string x.text, .int .i64 x.s.val.a.node, .string x.s.val.a.id, .string x.s.val.a.name, .slice x.s.val.A x.s.val.n x.s.val.c, .int .i64 x.s.val.a.port, .int .u64 (x.s.made : Int), .int .u64 (x.s.ix : Int), .int .i64 x.c.val.node, .string x.c.val.id, .string x.c.val.svc, .string x.c.val.note, .int .i64 x.c.val.status, .int .u64 (x.c.made : Int), .int .u64 (x.c.ix : Int), .int .u64 (x.ix : Int)] TRs
  have k0 := heap_alloc_new w (.cells #[.int .i64 x.kind, .int .i64 x.node, .string x.text, .int .i64 x.s.val.a.node, .string x.s.val.a.id, .string x.s.val.a.name, .slice x.s.val.A x.s.val.n x.s.val.c, .int .i64 x.s.val.a.port, .int .u64 (x.s.made : Int), .int .u64 (x.s.ix : Int), .int .i64 x.c.val.node, .string x.c.val.id, .string x.c.val.svc, .string x.c.val.note, .int .i64 x.c.val.status, .int .u64 (x.c.made : Int), .int .u64 (x.c.ix : Int), .int .u64 (x.ix : Int)] TRs)
  obtain ⟨X, hX⟩ : ∃ X, w.heap.size = X := ⟨_, rfl⟩
  obtain ⟨W1, hW1⟩ : ∃ W1, w.alloc (.cells #[.int .i64 x.kind, .int .i64 x.node, .string x.text, .int .i64 x.s.val.a.node, .string x.s.val.a.id, .string x.s.val.a.name, .slice x.s.val.A x.s.val.n x.s.val.c, .int .i64 x.s.val.a.port, .int .u64 (x.s.made : Int), .int .u64 (x.s.ix : Int), .int .i64 x.c.val.node, .string x.c.val.id, .string x.c.val.svc, .string x.c.val.note, .int .i64 x.c.val.status, .int .u64 (x.c.made : Int), .int .u64 (x.c.ix : Int), .int .u64 (x.ix : Int)] TRs) = W1 := ⟨_, rfl⟩
  have s0 : W1.heap.size = X + 1 := by rw [← hW1, ← hX]; simp
  rw [hW1] at b0 k0
  rw [hX] at k0
  have HB0 := Lib.hid b0
  have HK1 := Lib.hid k0
  have HW1 := Lib.hid hW1
  have HX := Lib.hid hX
  have HS0 := Lib.hid s0
  have HBo := Lib.hid (h.below b0)
  have n0 : ¬ x.kind = 0 := by omega
  have n1 : ¬ x.kind = 1 := by omega
  have n2 : ¬ x.kind = 2 := by omega
  have n3 : ¬ x.kind = 3 := by omega
  have n4 : ¬ x.kind = 4 := by omega
  have n5 : ¬ x.kind = 5 := by omega
  have n6 : ¬ x.kind = 6 := by omega
  unfold stV
  clear h hx ht b0 k0 s0 hX hW1 hk
  go_enter Tryz.func11, Tryz.ntmps11
  go_wp2
  go_ret
  rw [HW1.out]
  exact ⟨true, rfl, HBo.out, But.of_below HB0.out, fun _ => rfl⟩
/-- Both make of a step the same, and it is told so. -/
theorem step_same {base : Nat} {w : World} {B B1 B2 B3 m D md : Nat} {d : Ro} (x : RSt) (h : Both base w B B1 B2 B3 m d D md d) (hx : x.Ok w) (ht : TgAt (fun k => k < base) w x.s.val) : Calls Tryz.prog 11 #[.pointer (some ⟨B, 0, none⟩), .pointer (some ⟨D, 0, none⟩), stV x] w fun e w' => e = .returned (.bool true) ∧ Both base w' B B1 B2 B3 m (x.after d).2 D md (x.after d).2 ∧ But (Ch4 B1 B2 B3 D) w w' := by
  have fin : ∀ {d' : Ro} {P : Prop}, P → (x.after d).2 = d' → Calls Tryz.prog 11 #[.pointer (some ⟨B, 0, none⟩), .pointer (some ⟨D, 0, none⟩), stV x] w (StepPost base w B B1 B2 B3 m d' D md d' P) → Calls Tryz.prog 11 #[.pointer (some ⟨B, 0, none⟩), .pointer (some ⟨D, 0, none⟩), stV x] w fun e w' => e = .returned (.bool true) ∧ Both base w' B B1 B2 B3 m (x.after d).2 D md (x.after d).2 ∧ But (Ch4 B1 B2 B3 D) w w' := fun hp hd hc => hc.mono fun e w' ⟨b, q1, q2, q3, q4⟩ => ⟨by rw [q1, q4 hp], by rw [hd]; exact q2, q3⟩
  rcases (show x.kind = 0 ∨ x.kind = 1 ∨ x.kind = 2 ∨ x.kind = 3 ∨ x.kind = 4 ∨ x.kind = 5 ∨ x.kind = 6 ∨ (x.kind < 0 ∨ 6 < x.kind) by omega) with k | k | k | k | k | k | k | k
  · exact fin rfl rfl (step0_any x h hx ht k)
  · exact fin rfl rfl (step1_any x h hx ht k)
  · exact fin rfl rfl (step2_any x h hx ht k)
  · exact fin rfl rfl (step3_any x h hx ht k)
  · exact fin rfl rfl (step4_any x h hx ht k)
  · exact fin rfl rfl (step5_any x h hx ht k)
  · exact fin trivial (by unfold RSt.after; simp [k]) (step6_any x h hx ht k)
  · exact fin trivial (by
      unfold RSt.after
      rw [if_neg (by omega), if_neg (by omega), if_neg (by omega), if_neg (by omega), if_neg (by omega), if_neg (by omega)]) (step7_any x h hx ht k)
end Go.Proofs.YtilkbfmaofmjoaaGreatDoor
/-
  The law's same (layer 19).
-/
namespace Go.Proofs.YtilkbfmaofmjoaaGreatDoor
open Go.RowKit Go.Rel
set_option linter.unusedSimpArgs false
set_option linter.unusedVariables false

def rsnE (B : Nat) (D : Nat) (A1 : Option Addr) (A2 : Option Addr) (A3 : Option Addr) (n1 : Nat) (n2 : Nat) (n3 : Nat) (c1 : Nat) (c2 : Nat) (c3 : Nat) (a1 : Nat) (a2 : Nat) (a3 : Nat) (b1 : Nat) (b2 : Nat) (b3 : Nat) (bq : Bool) : Nat → Value
  | 0 | 8 | 17 | 26 => .pointer (some ⟨B, 0, none⟩)
  | 2 | 3 | 10 | 11 | 19 | 20 | 28 | 29 => .pointer (some ⟨D, 0, none⟩)
  | 4 => .pointer (some ⟨D, 1, none⟩)
  | 5 => .slice A1 n1 c1
  | 6 | 7 | 14 | 15 | 16 | 23 | 24 | 25 => .bool true
  | 12 => .pointer (some ⟨D, 2, none⟩)
  | 13 => .slice A2 n2 c2
  | 21 => .pointer (some ⟨D, 3, none⟩)
  | 22 => .slice A3 n3 c3
  | 27 => .agg #[.int .u64 (a1 : Int), .int .u64 (a2 : Int), .int .u64 (a3 : Int)]
  | 30 => .pointer (some ⟨D, 4, none⟩)
  | 31 => .agg #[.int .u64 (b1 : Int), .int .u64 (b2 : Int), .int .u64 (b3 : Int)]
  | 32 | 33 | 34 => .bool bq
  | _ => undef
set_option maxHeartbeats 8000000 in
set_option maxRecDepth 100000 in
theorem same_lists {S : Nat → Prop} {w : World} {B B1 B2 B3 m : Nat} {d d2 : Ro} {base : Nat} {Sd : Nat → Prop} {D md : Nat} {A1 A2 A3 : Option Addr} {c1 c2 c3 : Nat} {l2 : List (Rw SvW)} (h : RoAt S w B B1 B2 B3 m d) (hd0 : RdIs base Sd w D A1 A2 A3 c1 c2 c3 md l2 d2) (g1 : d2.n.l = d.n.l) (g2 : d2.s.l = d.s.l) (g3 : d2.c.l = d.c.l) : Calls Tryz.prog 12 #[.pointer (some ⟨B, 0, none⟩), .pointer (some ⟨D, 0, none⟩)] w fun e w' => e = .returned (.bool (decide (d.n.last = d2.n.last) && (decide (d.s.last = d2.s.last) && decide (d.c.last = d2.c.last)))) ∧ Below w.heap.size w w' := by
  have hdr1 : ∀ W, Below w.heap.size w W → SK ndC 4 W A1 d.n.l.length d.n.l := fun W hW => by have := (hd0.below hW).r1.row; rw [g1] at this; exact this
  have hdr3 : ∀ W, Below w.heap.size w W → SK ckC 7 W A3 d.c.l.length d.c.l := fun W hW => by have := (hd0.below hW).r3.row; rw [g3] at this; exact this
  have hl2 : l2.length = d.s.l.length := by rw [hd0.len2, g2]
  have hleq : l2.map (rwMap (·.a)) = d.s.l := hd0.eq.trans g2
  have hok : RoOk m d := by obtain ⟨h1, _⟩ := h; exact h1
  have hln : d.n.l.length ≤ maxLen := Nat.le_trans (Nat.le_trans hok.nok.len hok.nok.most.2) (by decide)
  have hlc : d.c.l.length ≤ maxLen := Nat.le_trans (Nat.le_trans hok.cok.len hok.cok.most.2) (by decide)
  have hls : d.s.l.length ≤ maxLen := Nat.le_trans (Nat.le_trans hok.sok.len hok.sok.most.2) (by decide)
  have htg : ∀ (W : World) (l' : List (Rw SvW)), SvL W l' d.s.l → ∀ r ∈ l', Tx W r.val.A r.val.n r.val.c r.val.a.tags ∧ r.val.n ≤ 1000 := fun W l' hl r hr => ⟨hl.tx r hr, by
    have h1 : rwMap (fun v : SvW => v.a) r ∈ d.s.l := by rw [← hl.eq]; exact List.mem_map_of_mem hr
    have h2 := tags_len ((hok.sr _ h1).2.1.tags)
    have h3 := (hl.tx r hr).len
    have : (rwMap (fun v : SvW => v.a) r).val.tags = r.val.a.tags := rfl
    rw [this] at h2
    omega⟩
  have HNd := Lib.hid (fun W (hW : Below w.heap.size w W) => ((rnodes_any (h.below hW)).mono fun e w' ⟨A, c, q1, q2, _, _, _, q3⟩ => ⟨A, c, q1, q2, q3⟩ : Calls Tryz.prog 16 #[.pointer (some ⟨B, 0, none⟩)] W fun e w' => ∃ A c, e = .returned (.slice A d.n.l.length c) ∧ SK ndC 4 w' A d.n.l.length d.n.l ∧ Below W.heap.size W w'))
  have HCk := Lib.hid (fun W (hW : Below w.heap.size w W) => ((rchecks_any (h.below hW)).mono fun e w' ⟨A, c, q1, q2, _, _, _, q3⟩ => ⟨A, c, q1, q2, q3⟩ : Calls Tryz.prog 18 #[.pointer (some ⟨B, 0, none⟩)] W fun e w' => ∃ A c, e = .returned (.slice A d.c.l.length c) ∧ SK ckC 7 w' A d.c.l.length d.c.l ∧ Below W.heap.size W w'))
  have HSv := Lib.hid (fun W (hW : Below w.heap.size w W) => ((rservices_any (h.below hW)).mono fun e w' ⟨l', ⟨A, c, q1, q2, _, _, _, q3⟩, q4⟩ => ⟨A, c, l', by rw [q1, q4.len], by rw [q4.len] at q2; exact q2, q4, q3⟩ : Calls Tryz.prog 17 #[.pointer (some ⟨B, 0, none⟩)] W fun e w' => ∃ A c l', e = .returned (.slice A d.s.l.length c) ∧ SK svC 7 w' A d.s.l.length l' ∧ SvL w' l' d.s.l ∧ Below W.heap.size W w'))
  have HLs := Lib.hid (fun W (hW : Below w.heap.size w W) => rlast_any (h.below hW))
  have HDc := Lib.hid (fun W (hW : Below w.heap.size w W) => (hd0.below hW).cells)
  rw [g1, g3] at HDc
  have HSn := Lib.hid (fun W (hW : Below w.heap.size w W) A c (hs : SK ndC 4 W A d.n.l.length d.n.l) => ((rdsamenodes_any A _ c d.n.l A1 _ c1 d.n.l W hs (hdr1 W hW) hln hln).mono fun e w' ⟨b, q1, q2, q3⟩ => ⟨by rw [q1, q2 rfl], q3⟩ : Calls Tryz.prog 24 #[.slice A d.n.l.length c, .slice A1 d.n.l.length c1] W fun e w' => e = .returned (.bool true) ∧ Below W.heap.size W w'))
  have HSc := Lib.hid (fun W (hW : Below w.heap.size w W) A c (hs : SK ckC 7 W A d.c.l.length d.c.l) => ((rdsamechecks_any A _ c d.c.l A3 _ c3 d.c.l W hs (hdr3 W hW) hlc hlc).mono fun e w' ⟨b, q1, q2, q3⟩ => ⟨by rw [q1, q2 rfl], q3⟩ : Calls Tryz.prog 26 #[.slice A d.c.l.length c, .slice A3 d.c.l.length c3] W fun e w' => e = .returned (.bool true) ∧ Below W.heap.size W w'))
  have HSs := Lib.hid (fun W (hW : Below w.heap.size w W) A c l' (hs : SK svC 7 W A d.s.l.length l') (ht : SvL W l' d.s.l) => (by
    have h2 := (hd0.below hW).r2.row
    rw [hl2] at h2
    exact (rdsameservices_any A _ c l' A2 _ c2 l2 W hs h2 hls hls (htg W l' ht) (htg W l2 ⟨hleq, fun r hr => ((hd0.below hW).tg r hr).tx⟩)).mono fun e w' ⟨b, q1, q2, q3⟩ => ⟨by rw [q1, q2 (ht.eq.trans hleq.symm)], q3⟩ : Calls Tryz.prog 25 #[.slice A d.s.l.length c, .slice A2 d.s.l.length c2] W fun e w' => e = .returned (.bool true) ∧ Below W.heap.size W w'))
  rw [hl2] at HDc
  obtain ⟨n1, hn1⟩ : ∃ n, d.n.l.length = n := ⟨_, rfl⟩
  obtain ⟨n2, hn2⟩ : ∃ n, d.s.l.length = n := ⟨_, rfl⟩
  obtain ⟨n3, hn3⟩ : ∃ n, d.c.l.length = n := ⟨_, rfl⟩
  obtain ⟨a1, ha1⟩ : ∃ n, d.n.last = n := ⟨_, rfl⟩
  obtain ⟨a2, ha2⟩ : ∃ n, d.s.last = n := ⟨_, rfl⟩
  obtain ⟨a3, ha3⟩ : ∃ n, d.c.last = n := ⟨_, rfl⟩
  rw [hn1] at HNd HSn HDc
  rw [hn2] at HSv HSs HDc
  rw [hn3] at HCk HSc HDc
  obtain ⟨b1, hb1⟩ : ∃ n, d2.n.last = n := ⟨_, rfl⟩
  obtain ⟨b2, hb2⟩ : ∃ n, d2.s.last = n := ⟨_, rfl⟩
  obtain ⟨b3, hb3⟩ : ∃ n, d2.c.last = n := ⟨_, rfl⟩
  rw [ha1, ha2, ha3] at HLs ⊢
  rw [hb1, hb2, hb3] at HDc ⊢
  obtain ⟨bq, hbq⟩ : ∃ b, (decide (a1 = b1) && (decide (a2 = b2) && decide (a3 = b3))) = b := ⟨_, rfl⟩
  rw [hbq]
  have HLa := Lib.hid (fun w => hbq ▸ la_eq a1 a2 a3 b1 b2 b3 w)
  have HLg := Lib.hid la_guard
  clear hn1 hn2 hn3 ha1 ha2 ha3 hln hlc hls htg hl2 h hd0 hok hb1 hb2 hb3 hbq hdr1 hdr3 hleq g1 g2 g3
  go_enter Tryz.func12, Tryz.ntmps12
  rename World => W0
  go_wp2_with fail
  have hre : ∀ w : World, ((fun a b : World => Below a.heap.size a b)) w w := (fun w => Below.refl _ w)
  have hrd : ∀ (f : Nat → Bool) w i, i ≠ 1 → (fun (_ : Nat → Bool) (w2 : World) => Below W0.heap.size W0 w2) f w → (fun (_ : Nat → Bool) (w2 : World) => Below W0.heap.size W0 w2) (Go.Rel.upd f i) w := (fun _ _ _ _ h => h)
  refine Go.Rel.wp_tab (by kernel_rfl) (by kernel_rfl) (fun (_ : Nat → Bool) (w2 : World) => Below W0.heap.size W0 w2) ((fun a b : World => Below a.heap.size a b)) hre ((fun _ _ _ h k => h.trans (k.mono h.size))) ((⟨rfl, rfl, rfl, Nat.le_refl _, fun _ _ => rfl⟩)) ⟨rfl, rfl, rfl, Nat.le_refl _, fun _ _ => rfl⟩ (rsnE B D A1 A2 A3 n1 n2 n3 c1 c2 c3 a1 a2 a3 b1 b2 b3 bq) (fun | 1, v, w => ∃ A c, v = .slice A n1 c ∧ SK ndC 4 w A n1 d.n.l | 9, v, w => ∃ A c l', v = .slice A n2 c ∧ SK svC 7 w A n2 l' ∧ SvL w l' d.s.l | 18, v, w => ∃ A c, v = .slice A n3 c ∧ SK ckC 7 w A n3 d.c.l | _, _, _ => True) (fun i => ([1, 9, 18] : List Nat).contains i) (fun i => ([1, 5, 6, 9, 13, 14, 18, 22, 23, 27, 31, 32] : List Nat).contains i) (by kernel_rfl) (fun i v w w' h g => by revert h; split <;> intro h <;> first | exact h | trivial | (obtain ⟨A, c, e, k⟩ := h; exact ⟨A, c, e, k.below g⟩) | (obtain ⟨A, c, l', e, k, t⟩ := h; exact ⟨A, c, l', e, k.below g, t.below g⟩)) 1 rfl hrd ?_ (Go.Rel.AllOf.get ?_) ?_
  · repeat (refine .cons (by first | exact Go.Rel.pure_sp rfl | exact Go.Rel.pure_yes (by kernel_rfl) (fun _ => by kernel_rfl) | exact Go.Rel.pure_no (by kernel_rfl) rfl) ?_)
    exact .nil
  · refine ⟨?_, ?_, ?_, ?_, ?_, ?_, ?_, ?_, ?_, ?_, ?_, ?_, trivial⟩
    · refine SpecOk.call 16 #[.pointer (some ⟨B, 0, none⟩)] rfl (by kernel_rfl) (fun _ => by kernel_rfl) fun _ w' hI _ _ _ _ => ?_
      refine (HNd.out w' hI).mono ?_
      rintro e9 w9 ⟨A9, c9, rfl, s9, hb9⟩
      exact ⟨_, rfl, hb9, (hI.trans (hb9.mono hI.size)), ⟨A9, c9, rfl, s9⟩⟩
    · exact SpecOk.ld hrd hre (q := .pointer (some ⟨D, 1, none⟩)) (h := fun _ w' hI _ _ _ _ => by obtain ⟨hz0, hz1, hz2, hz3, hz4, hz5, hz6⟩ := HDc.out _ hI; go_simp; rfl)
    · refine SpecOk.gen (fun e => [(6, e 1), (10, .slice A1 n1 c1)]) rfl rfl (fun _ => by kernel_rfl) fun f w' e hI hf hdesc hanc hle hX K hK => ?_
      obtain ⟨A1, c1, e1, s1⟩ := hX 1 rfl rfl
      simp only [e1]
      go_simp
      refine (HSn.out w' hI A1 c1 s1).mono ?_
      rintro e9 w9 ⟨rfl, hb9⟩
      exact hK _ _ hb9 (hI.trans (hb9.mono hI.size)) rfl
    · refine SpecOk.call 17 #[.pointer (some ⟨B, 0, none⟩)] rfl (by kernel_rfl) (fun _ => by kernel_rfl) fun _ w' hI _ _ _ _ => ?_
      refine (HSv.out w' hI).mono ?_
      rintro e9 w9 ⟨A9, c9, l9, rfl, s9, t9, hb9⟩
      exact ⟨_, rfl, hb9, (hI.trans (hb9.mono hI.size)), ⟨A9, c9, l9, rfl, s9, t9⟩⟩
    · exact SpecOk.ld hrd hre (q := .pointer (some ⟨D, 2, none⟩)) (h := fun _ w' hI _ _ _ _ => by obtain ⟨hz0, hz1, hz2, hz3, hz4, hz5, hz6⟩ := HDc.out _ hI; go_simp; rfl)
    · refine SpecOk.gen (fun e => [(14, e 9), (18, .slice A2 n2 c2)]) rfl rfl (fun _ => by kernel_rfl) fun f w' e hI hf hdesc hanc hle hX K hK => ?_
      obtain ⟨A9, c9, l9, e9, s9, t9⟩ := hX 9 rfl rfl
      simp only [e9]
      go_simp
      refine (HSs.out w' hI A9 c9 l9 s9 t9).mono ?_
      rintro e9 w9 ⟨rfl, hb9⟩
      exact hK _ _ hb9 (hI.trans (hb9.mono hI.size)) rfl
    · refine SpecOk.call 18 #[.pointer (some ⟨B, 0, none⟩)] rfl (by kernel_rfl) (fun _ => by kernel_rfl) fun _ w' hI _ _ _ _ => ?_
      refine (HCk.out w' hI).mono ?_
      rintro e9 w9 ⟨A9, c9, rfl, s9, hb9⟩
      exact ⟨_, rfl, hb9, (hI.trans (hb9.mono hI.size)), ⟨A9, c9, rfl, s9⟩⟩
    · exact SpecOk.ld hrd hre (q := .pointer (some ⟨D, 3, none⟩)) (h := fun _ w' hI _ _ _ _ => by obtain ⟨hz0, hz1, hz2, hz3, hz4, hz5, hz6⟩ := HDc.out _ hI; go_simp; rfl)
    · refine SpecOk.gen (fun e => [(23, e 18), (27, .slice A3 n3 c3)]) rfl rfl (fun _ => by kernel_rfl) fun f w' e hI hf hdesc hanc hle hX K hK => ?_
      obtain ⟨A18, c18, e18, s18⟩ := hX 18 rfl rfl
      simp only [e18]
      go_simp
      refine (HSc.out w' hI A18 c18 s18).mono ?_
      rintro e9 w9 ⟨rfl, hb9⟩
      exact hK _ _ hb9 (hI.trans (hb9.mono hI.size)) rfl
    · refine SpecOk.call 27 #[.pointer (some ⟨B, 0, none⟩)] rfl (by kernel_rfl) (fun _ => by kernel_rfl) fun _ w' hI _ _ _ _ => ?_
      refine (HLs.out w' hI).mono ?_
      rintro e9 w9 ⟨rfl, hb9⟩
      exact ⟨_, rfl, hb9, (hI.trans (hb9.mono hI.size)), rfl⟩
    · exact SpecOk.ld hrd hre (q := .pointer (some ⟨D, 4, none⟩)) (h := fun _ w' hI _ _ _ _ => by obtain ⟨hz0, hz1, hz2, hz3, hz4, hz5, hz6⟩ := HDc.out _ hI; go_simp; rfl)
    · refine SpecOk.gen (fun e => [(32, .agg #[.int .u64 (a1 : Int), .int .u64 (a2 : Int), .int .u64 (a3 : Int)]), (36, .agg #[.int .u64 (b1 : Int), .int .u64 (b2 : Int), .int .u64 (b3 : Int)])]) rfl rfl (fun _ => by kernel_rfl) fun f w' e hI hf hdesc hanc hle hX K hK => ?_
      have ue := HLa.out
      have ug := HLg.out
      go_simp
      exact hK _ _ (hre _) (hrd f w' 32 (by decide) hI) rfl
  · intro f w3 e hall hJ hle hv
    have v9 := hv 34 rfl
    simp only [Go.Rel.finL, List.setIfInBounds_toArray, List.set_cons_succ, List.set_cons_zero]
    rw [show e 34 = .bool bq from v9]
    have HJ := Lib.hid hJ
    clear hv hall hle hJ v9
    go_wp2
    go_ret
    exact ⟨rfl, HJ.out⟩
end Go.Proofs.YtilkbfmaofmjoaaGreatDoor
/-
  The law's same where the nodes are not as many (layer 19).
-/
namespace Go.Proofs.YtilkbfmaofmjoaaGreatDoor
open Go.RowKit Go.Rel
set_option linter.unusedSimpArgs false
set_option linter.unusedVariables false

def rsoE (B : Nat) (D : Nat) (A1 : Option Addr) (n1 : Nat) (n2 : Nat) (c1 : Nat) : Nat → Value
  | 0 => .pointer (some ⟨B, 0, none⟩)
  | 2 | 3 => .pointer (some ⟨D, 0, none⟩)
  | 4 => .pointer (some ⟨D, 1, none⟩)
  | 5 => .slice A1 n2 c1
  | 6 | 7 | 15 | 16 | 24 | 25 | 33 | 34 => .bool false
  | _ => undef
theorem rdsamenodes_ne (A A2 : Option Addr) (n c n2 c2 : Nat) (w : World) (hn : n ≤ maxLen) (hn2 : n2 ≤ maxLen) (hne : n ≠ n2) : Calls Tryz.prog 24 #[.slice A n c, .slice A2 n2 c2] w fun e w' => e = .returned (.bool false) ∧ w = w' := by
  unfold maxLen at hn hn2
  have hm : n ≤ 9223372036854775807 := by omega
  have hm2 : n2 ≤ 9223372036854775807 := by omega
  have zz : ((n : Int) != (n2 : Int)) = true := by rw [bne_iff_ne]; omega
  go_enter Tryz.func24, Tryz.ntmps24
  go_wp2
  go_ret
  exact ⟨rfl, rfl⟩
set_option maxHeartbeats 4000000 in
set_option maxRecDepth 100000 in
theorem same_no {S : Nat → Prop} {W0 : World} {B B1 B2 B3 m : Nat} {d d2 : Ro} {base : Nat} {Sd : Nat → Prop} {D md : Nat} {A1 A2 A3 : Option Addr} {c1 c2 c3 : Nat} {l2 : List (Rw SvW)} (h : RoAt S W0 B B1 B2 B3 m d) (hok2 : RoOk md d2) (hd : RdIs base Sd W0 D A1 A2 A3 c1 c2 c3 md l2 d2) (hne : d.n.l.length ≠ d2.n.l.length) : Calls Tryz.prog 12 #[.pointer (some ⟨B, 0, none⟩), .pointer (some ⟨D, 0, none⟩)] W0 fun e w' => e = .returned (.bool false) ∧ Below W0.heap.size W0 w' := by
  have hok : RoOk m d := by obtain ⟨h1, _⟩ := h; exact h1
  have hln : d.n.l.length ≤ maxLen := Nat.le_trans (Nat.le_trans hok.nok.len hok.nok.most.2) (by decide)
  have hln2 : d2.n.l.length ≤ maxLen := Nat.le_trans (Nat.le_trans hok2.nok.len hok2.nok.most.2) (by decide)
  have HNd := Lib.hid (fun W (hW : Below W0.heap.size W0 W) => ((rnodes_any (h.below hW)).mono fun e w' ⟨A, c, q1, q2, _, _, _, q3⟩ => ⟨A, c, q1, q3⟩ : Calls Tryz.prog 16 #[.pointer (some ⟨B, 0, none⟩)] W fun e w' => ∃ A c, e = .returned (.slice A d.n.l.length c) ∧ Below W.heap.size W w'))
  have HDc := Lib.hid (fun W (hW : Below W0.heap.size W0 W) => (hd.below hW).cells)
  have HSn := Lib.hid (fun W A c => rdsamenodes_ne A A1 d.n.l.length c d2.n.l.length c1 W hln hln2 hne)
  obtain ⟨n1, hn1⟩ : ∃ n, d.n.l.length = n := ⟨_, rfl⟩
  obtain ⟨n2, hn2⟩ : ∃ n, d2.n.l.length = n := ⟨_, rfl⟩
  rw [hn1] at HNd HSn
  rw [hn2] at HDc HSn
  clear hn1 hn2 hln hln2 h hd hok hok2 hne
  go_enter Tryz.func12, Tryz.ntmps12
  go_wp2_with fail
  have hre : ∀ w : World, ((fun a b : World => Below a.heap.size a b)) w w := (fun w => Below.refl _ w)
  have hrd : ∀ (f : Nat → Bool) w i, i ≠ 1 → (fun (_ : Nat → Bool) (w2 : World) => Below W0.heap.size W0 w2) f w → (fun (_ : Nat → Bool) (w2 : World) => Below W0.heap.size W0 w2) (Go.Rel.upd f i) w := (fun _ _ _ _ h => h)
  refine Go.Rel.wp_tab (by kernel_rfl) (by kernel_rfl) (fun (_ : Nat → Bool) (w2 : World) => Below W0.heap.size W0 w2) ((fun a b : World => Below a.heap.size a b)) hre ((fun _ _ _ h k => h.trans (k.mono h.size))) ((⟨rfl, rfl, rfl, Nat.le_refl _, fun _ _ => rfl⟩)) ⟨rfl, rfl, rfl, Nat.le_refl _, fun _ _ => rfl⟩ (rsoE B D A1 n1 n2 c1) (fun | 1, v, w => ∃ A c, v = .slice A n1 c | _, _, _ => True) (fun i => ([1] : List Nat).contains i) (fun i => ([1, 5, 6] : List Nat).contains i) (by kernel_rfl) (fun i v w w' h g => by revert h; split <;> intro h <;> first | exact h | trivial | exact exact h) 1 rfl hrd ?_ (Go.Rel.AllOf.get ?_) ?_
  · iterate 1 refine .cons (Go.Rel.pure_yes (by kernel_rfl) (fun _ => by kernel_rfl)) ?_
    iterate 1 refine .cons (Go.Rel.pure_sp rfl) ?_
    iterate 3 refine .cons (Go.Rel.pure_yes (by kernel_rfl) (fun _ => by kernel_rfl)) ?_
    iterate 2 refine .cons (Go.Rel.pure_sp rfl) ?_
    iterate 1 refine .cons (Go.Rel.pure_yes (by kernel_rfl) (fun _ => by kernel_rfl)) ?_
    iterate 7 refine .cons (Go.Rel.pure_no (by kernel_rfl) rfl) ?_
    iterate 2 refine .cons (Go.Rel.pure_yes (by kernel_rfl) (fun _ => by kernel_rfl)) ?_
    iterate 7 refine .cons (Go.Rel.pure_no (by kernel_rfl) rfl) ?_
    iterate 2 refine .cons (Go.Rel.pure_yes (by kernel_rfl) (fun _ => by kernel_rfl)) ?_
    iterate 7 refine .cons (Go.Rel.pure_no (by kernel_rfl) rfl) ?_
    iterate 2 refine .cons (Go.Rel.pure_yes (by kernel_rfl) (fun _ => by kernel_rfl)) ?_
    exact .nil
  · refine ⟨?_, ?_, ?_, trivial⟩
    · refine SpecOk.call 16 #[.pointer (some ⟨B, 0, none⟩)] rfl (by kernel_rfl) (fun _ => by kernel_rfl) fun _ w' hI _ _ _ _ => ?_
      refine (HNd.out w' hI).mono ?_
      rintro e9 w9 ⟨A9, c9, rfl, hb9⟩
      exact ⟨_, rfl, hb9, (hI.trans (hb9.mono hI.size)), ⟨A9, c9, rfl⟩⟩
    · exact SpecOk.ld hrd hre (q := .pointer (some ⟨D, 1, none⟩)) (h := fun _ w' hI _ _ _ _ => by obtain ⟨hz0, hz1, hz2, hz3, hz4, hz5, hz6⟩ := HDc.out _ hI; go_simp; rfl)
    · refine SpecOk.gen (fun e => [(6, e 1), (10, .slice A1 n2 c1)]) rfl rfl (fun _ => by kernel_rfl) fun f w' e hI hf hdesc hanc hle hX K hK => ?_
      obtain ⟨A1, c1, e1⟩ := hX 1 rfl rfl
      simp only [e1]
      go_simp
      refine (HSn.out w' A1 c1).mono ?_
      rintro e9 w9 ⟨rfl, rfl⟩
      exact hK _ _ (Below.refl _ _) hI rfl
  · intro f w3 e hall hJ hle hv
    have v9 := hv 34 rfl
    simp only [Go.Rel.finL, List.setIfInBounds_toArray, List.set_cons_succ, List.set_cons_zero]
    rw [show e 34 = .bool false from v9]
    have HJ := Lib.hid hJ
    clear hv hall hle hJ v9
    go_wp2
    go_ret
    exact ⟨rfl, HJ.out⟩
end Go.Proofs.YtilkbfmaofmjoaaGreatDoor
/-
  The law's step: Copy, at a document's roster that is new (layer 19).
-/
namespace Go.Proofs.YtilkbfmaofmjoaaGreatDoor
open Go.RowKit
set_option linter.unusedSimpArgs false
set_option linter.unusedVariables false

set_option maxHeartbeats 4000000 in
set_option maxRecDepth 100000 in
theorem step6_new {base : Nat} {w : World} {B B1 B2 B3 m D md : Nat} {d : Ro} (x : RSt) (h : Both base w B B1 B2 B3 m d D md (Ro.new md)) (hx : x.Ok w) (ht : TgAt (fun k => k < base) w x.s.val) (hk : x.kind = 6) : Calls Tryz.prog 11 #[.pointer (some ⟨B, 0, none⟩), .pointer (some ⟨D, 0, none⟩), stV x] w fun e w' => StepPost base w B B1 B2 B3 m d D md (Ro.new md) False e w' := by
  have HOk := Lib.hid hx
  have b0 := below1 w #[.int .i64 x.kind, .int .i64 x.node, .string x.text, .int .i64 x.s.val.a.node, .string x.s.val.a.id, .string x.s.val.a.name, .slice x.s.val.A x.s.val.n x.s.val.c, .int .i64 x.s.val.a.port, .int .u64 (x.s.made : Int), .int .u64 (x.s.ix : Int), .int .i64 x.c.val.node, .string x.c.val.id, .string x.c.val.svc, .string x.c.val.note, .int .i64 x.c.val.status, .int .u64 (x.c.made : Int), .int .u64 (x.c.ix : Int), .int .u64 (x.ix : Int)] TRs
  have k0 := heap_alloc_new w (.cells #[.int .i64 x.kind, .int .i64 x.node, .string x.text, .int .i64 x.s.val.a.node, .string x.s.val.a.id, .string x.s.val.a.name, .slice x.s.val.A x.s.val.n x.s.val.c, .int .i64 x.s.val.a.port, .int .u64 (x.s.made : Int), .int .u64 (x.s.ix : Int), .int .i64 x.c.val.node, .string x.c.val.id, .string x.c.val.svc, .string x.c.val.note, .int .i64 x.c.val.status, .int .u64 (x.c.made : Int), .int .u64 (x.c.ix : Int), .int .u64 (x.ix : Int)] TRs)
  obtain ⟨X, hX⟩ : ∃ X, w.heap.size = X := ⟨_, rfl⟩
  obtain ⟨W1, hW1⟩ : ∃ W1, w.alloc (.cells #[.int .i64 x.kind, .int .i64 x.node, .string x.text, .int .i64 x.s.val.a.node, .string x.s.val.a.id, .string x.s.val.a.name, .slice x.s.val.A x.s.val.n x.s.val.c, .int .i64 x.s.val.a.port, .int .u64 (x.s.made : Int), .int .u64 (x.s.ix : Int), .int .i64 x.c.val.node, .string x.c.val.id, .string x.c.val.svc, .string x.c.val.note, .int .i64 x.c.val.status, .int .u64 (x.c.made : Int), .int .u64 (x.c.ix : Int), .int .u64 (x.ix : Int)] TRs) = W1 := ⟨_, rfl⟩
  have s0 : W1.heap.size = X + 1 := by rw [← hW1, ← hX]; simp
  rw [hW1] at b0 k0
  rw [hX] at k0
  have HB0 := Lib.hid b0
  have HK1 := Lib.hid k0
  have HW1 := Lib.hid hW1
  have HX := Lib.hid hX
  have HS0 := Lib.hid s0
  obtain ⟨Sp, h1⟩ := h.read
  have HCp := Lib.hid (rcopy_any (h1.below b0))
  have HBo := Lib.hid h
  unfold stV
  rw [hk]
  have HKd := Lib.hid hk
  clear h hx ht b0 k0 hW1 hX s0 hk h1
  go_enter Tryz.func11, Tryz.ntmps11
  go_wp2_with fail
  rw [← HKd.out]
  rw [HW1.out, HX.out]
  refine HCp.out.mono ?_
  rintro e W2 ⟨c0, c1, c2, c3, rfl, hc, hz, hb⟩
  have HC2 := Lib.hid hc
  have HZ := Lib.hid (show X < c1 ∧ X < c2 ∧ X < c3 by have := HS0.out; omega)
  have HB2 := Lib.hid (HB0.out.trans (hb.mono HB0.out.size))
  have HK2 := Lib.hid ((hb.block X (by have := HS0.out; omega)).trans HK1.out)
  obtain ⟨bq, hsm⟩ : ∃ bq, Calls Tryz.prog 12 #[.pointer (some ⟨c0, 0, none⟩), .pointer (some ⟨D, 0, none⟩)] W2 fun e w' => e = .returned (.bool bq) ∧ Below W2.heap.size W2 w' := by
    obtain ⟨Sd, A1, A2, A3, e1, e2, e3, l2, hok2, hd⟩ := (HBo.out.below (HB0.out.trans (hb.mono HB0.out.size))).ref
    by_cases hz9 : d.n.l = []
    · have hok : RoOk m d := by obtain ⟨h9, _⟩ := hc; exact h9
      have nt : ∀ nd, d.there nd = true → False := fun nd e => by unfold Ro.there at e; rw [hz9] at e; cases e
      have hs : d.s.l = [] := List.eq_nil_iff_forall_not_mem.2 fun r hr => nt _ (hok.sr r hr).2.2
      have hc2 : d.c.l = [] := List.eq_nil_iff_forall_not_mem.2 fun r hr => nt _ (hok.cr r hr).2.2.1
      exact ⟨_, same_lists hc hd hz9.symm hs.symm hc2.symm⟩
    · exact ⟨_, same_no hc hok2 hd (fun e => hz9 (List.eq_nil_of_length_eq_zero e))⟩
  have HSm := Lib.hid hsm
  clear hc hz hb HCp hsm
  go_wp2_with fail
  refine HSm.out.mono ?_
  rintro e W3 ⟨rfl, hb⟩
  have HB3 := Lib.hid (HB2.out.trans (hb.mono HB2.out.size))
  have HK3 := Lib.hid ((hb.block X (block_lt HK2.out)).trans HK2.out)
  have HC3 := Lib.hid (HC2.out.below hb)
  obtain ⟨y0, y1, y2, y3, y4, y5, y6, y7, y8, y9, y10, y11, y12, y13, y14, y15, y16, y17⟩ := st_blk (x := x) HK3.out
  have HDn := Lib.hid (rdropnode_any x.node 18446744073709551615 HC3.out HOk.out.node (by decide))
  clear hb HSm
  cases bq with
  | false =>
    clear y0 y1 y2 y3 y4 y5 y6 y7 y8 y9 y10 y11 y12 y13 y14 y15 y16 y17 HDn
    go_wp2
    go_ret
    exact ⟨false, rfl, HBo.out.below HB3.out, But.of_below HB3.out, fun h => h.elim⟩
  | true =>
    go_wp2_with fail
    refine HDn.out.mono ?_
    rintro e W4 ⟨rfl, hc, hb⟩
    have HC4 := Lib.hid hc
    have HB4 := Lib.hid hb
    have HK4 := Lib.hid ((hb.block X (block_lt HK3.out) (by have := HZ.out; rintro (z | z | z) <;> omega)).trans HK3.out)
    clear y0 y1 y2 y3 y4 y5 y6 y7 y8 y9 y10 y11 y12 y13 y14 y15 y16 y17 hc hb HDn
    obtain ⟨y0, y1, y2, y3, y4, y5, y6, y7, y8, y9, y10, y11, y12, y13, y14, y15, y16, y17⟩ := st_blk (x := x) HK4.out
    have HNo := Lib.hid (rnode_any x.node (⟨#[111, 116, 104, 101, 114]⟩ : ByteArray) x.ix HC4.out HOk.out.node (by decide) HOk.out.ix)
    go_wp2_with fail
    refine HNo.out.mono ?_
    rintro e W5 ⟨rfl, hc, hb⟩
    have HB5 := Lib.hid (HB4.out.trans hb)
    clear y0 y1 y2 y3 y4 y5 y6 y7 y8 y9 y10 y11 y12 y13 y14 y15 y16 y17 hc hb HNo
    go_wp2
    go_ret
    refine ⟨true, rfl, HBo.out.aside HB3.out (b1 := c1) (b2 := c2) (b3 := c3) (by have := HZ.out; have := HX.out; omega) HB5.out, ?_, fun h => h.elim⟩
    exact (But.of_below HB3.out).then_ HB5.out fun k hk e => absurd e (by have := HZ.out; have := HX.out; rcases hk with z | z | z <;> omega)
/-- A step at a document's roster that is new. -/
theorem step_new {base : Nat} {w : World} {B B1 B2 B3 m D md : Nat} {d : Ro} (x : RSt) (h : Both base w B B1 B2 B3 m d D md (Ro.new md)) (hx : x.Ok w) (ht : TgAt (fun k => k < base) w x.s.val) : Calls Tryz.prog 11 #[.pointer (some ⟨B, 0, none⟩), .pointer (some ⟨D, 0, none⟩), stV x] w fun e w' => StepPost base w B B1 B2 B3 m (x.after d).2 D md (x.after (Ro.new md)).2 False e w' := by
  have fin : ∀ {d' d2' : Ro} {P : Prop}, (x.after d).2 = d' → (x.after (Ro.new md)).2 = d2' → Calls Tryz.prog 11 #[.pointer (some ⟨B, 0, none⟩), .pointer (some ⟨D, 0, none⟩), stV x] w (StepPost base w B B1 B2 B3 m d' D md d2' P) → Calls Tryz.prog 11 #[.pointer (some ⟨B, 0, none⟩), .pointer (some ⟨D, 0, none⟩), stV x] w (StepPost base w B B1 B2 B3 m (x.after d).2 D md (x.after (Ro.new md)).2 False) := fun hd hd2 hc => hc.mono fun e w' ⟨b, q1, q2, q3, q4⟩ => ⟨b, q1, by rw [hd, hd2]; exact q2, q3, fun z => z.elim⟩
  rcases (show x.kind = 0 ∨ x.kind = 1 ∨ x.kind = 2 ∨ x.kind = 3 ∨ x.kind = 4 ∨ x.kind = 5 ∨ x.kind = 6 ∨ (x.kind < 0 ∨ 6 < x.kind) by omega) with k | k | k | k | k | k | k | k
  · exact fin rfl rfl (step0_any x h hx ht k)
  · exact fin rfl rfl (step1_any x h hx ht k)
  · exact fin rfl rfl (step2_any x h hx ht k)
  · exact fin rfl rfl (step3_any x h hx ht k)
  · exact fin rfl rfl (step4_any x h hx ht k)
  · exact fin rfl rfl (step5_any x h hx ht k)
  · exact fin (by unfold RSt.after; simp [k]) (by unfold RSt.after; simp [k]) (step6_new x h hx ht k)
  · have z : ∀ d0 : Ro, (x.after d0).2 = d0 := fun d0 => by
      unfold RSt.after
      rw [if_neg (by omega), if_neg (by omega), if_neg (by omega), if_neg (by omega), if_neg (by omega), if_neg (by omega)]
    exact fin (z _) (z _) (step7_any x h hx ht k)
end Go.Proofs.YtilkbfmaofmjoaaGreatDoor
/-
  The document's half of both, anew (layer 19).
-/
namespace Go.Proofs.YtilkbfmaofmjoaaGreatDoor
open Go.RowKit
set_option linter.unusedSimpArgs false
set_option linter.unusedVariables false

/-- The program's roster stays; the document's is another, just made. -/
theorem Both.fresh {base : Nat} {w w1 : World} {B B1 B2 B3 m D D' md md' : Nat} {d d2 : Ro} (h : Both base w B B1 B2 B3 m d D md d2) (hD : w.heap.size = D') (hd : RdAt base (· = D') w1 D' md' (Ro.new md')) (hb : Below w.heap.size w w1) : Both base w1 B B1 B2 B3 m d D' md' (Ro.new md') := by
  obtain ⟨Sp, Sd, h1, h2, h3, h4⟩ := h
  have hz := hb.size
  have hl := hd.lt
  exact ⟨Sp, (· = D'), h1.below hb, hd, fun k hk => ⟨by have := (h3 k hk).1; omega, fun e => by have := (h3 k hk).1; omega, (h3 k hk).2.2⟩, fun k hk => by omega⟩
end Go.Proofs.YtilkbfmaofmjoaaGreatDoor
/-
  The program's roster alone, behind base (layer 19).
-/
namespace Go.Proofs.YtilkbfmaofmjoaaGreatDoor
open Go.RowKit Go.Rel
set_option linter.unusedSimpArgs false
set_option linter.unusedVariables false

def Solo (base : Nat) (w : World) (B B1 B2 B3 m : Nat) (d : Ro) : Prop := base ≤ w.heap.size ∧ ∃ Sp : Nat → Prop, RoAt Sp w B B1 B2 B3 m d ∧ ∀ k, Sp k → k < w.heap.size ∧ (base ≤ k ∨ k = gPw)
section
variable {base : Nat} {w w' : World} {B B1 B2 B3 m D md : Nat} {d d2 : Ro}
theorem Both.solo (h : Both base w B B1 B2 B3 m d D md d2) : Solo base w B B1 B2 B3 m d := by
  have ht := h.top
  obtain ⟨Sp, Sd, h1, h2, h3, h4⟩ := h
  exact ⟨ht, Sp, h1, fun k hk => ⟨(h3 k hk).1, (h3 k hk).2.2⟩⟩
theorem Solo.below (h : Solo base w B B1 B2 B3 m d) (hb : Below w.heap.size w w') : Solo base w' B B1 B2 B3 m d := by
  obtain ⟨ht, Sp, h1, h2⟩ := h
  have hz := hb.size
  exact ⟨by omega, Sp, h1.below hb, fun k hk => ⟨by have := (h2 k hk).1; omega, (h2 k hk).2⟩⟩
theorem Solo.read (h : Solo base w B B1 B2 B3 m d) : ∃ Sp, RoAt Sp w B B1 B2 B3 m d := by
  obtain ⟨ht, Sp, h1, h2⟩ := h
  exact ⟨Sp, h1⟩
theorem Solo.ok (h : Solo base w B B1 B2 B3 m d) : RoOk m d := by
  obtain ⟨Sp, h1⟩ := h.read
  exact h1.ok
theorem Solo.pw (h : Solo base w B B1 B2 B3 m d) : PwIs w := by
  obtain ⟨Sp, h1⟩ := h.read
  exact h1.pw
/-- A document's roster beside it, just made. -/
theorem Solo.with_ {w1 : World} {D' md' : Nat} (h : Solo base w B B1 B2 B3 m d) (hD : w.heap.size = D') (hd : RdAt base (· = D') w1 D' md' (Ro.new md')) (hb : Below w.heap.size w w1) : Both base w1 B B1 B2 B3 m d D' md' (Ro.new md') := by
  obtain ⟨ht, Sp, h1, h3⟩ := h
  have hz := hb.size
  have hl := hd.lt
  exact ⟨Sp, (· = D'), h1.below hb, hd, fun k hk => ⟨by have := (h3 k hk).1; omega, fun e => by have := (h3 k hk).1; omega, (h3 k hk).2⟩, fun k hk => by omega⟩
end
theorem solo_new {w w1 : World} {base B B1 B2 B3 m : Nat} (hbase : base ≤ w.heap.size) (hp : RoAt (fun k => w.heap.size ≤ k ∨ k = gPw) w1 B B1 B2 B3 m (Ro.new m)) (hb1 : w.heap.size ≤ w1.heap.size) : Solo base w1 B B1 B2 B3 m (Ro.new m) := by
  refine ⟨by omega, fun k => k < w1.heap.size ∧ (w.heap.size ≤ k ∨ k = gPw), hp.narrow fun k hk z => ⟨hk, z⟩, fun k hk => ⟨hk.1, ?_⟩⟩
  rcases hk.2 with z | z
  · exact .inl (by omega)
  · exact .inr z
/-- Within a region that makes a document's roster (operation 1) and takes a step with it (operation 6). -/
structure StW (base B B1 B2 B3 m md : Nat) (d d' : Ro) (W0 : World) (f : Nat → Bool) (e : Nat → Value) (w : World) : Prop where
  solo : f 1 = false → Solo base w B B1 B2 B3 m d ∧ w.heap.size = W0.heap.size ∧ Below W0.heap.size W0 w
  both : f 1 = true → f 6 = false → Both base w B B1 B2 B3 m d W0.heap.size md (Ro.new md) ∧ Below W0.heap.size W0 w ∧ e 1 = .pointer (some ⟨W0.heap.size, 0, none⟩)
  done : f 6 = true → ∃ d2, Both base w B B1 B2 B3 m d' W0.heap.size md d2
section
variable {base B B1 B2 B3 m md : Nat} {d d' : Ro} {W0 w w' : World} {f : Nat → Bool} {e e' : Nat → Value} {v : Value} {ops : Array Oper}
theorem StW.start (h : Solo base W0 B B1 B2 B3 m d) (e : Nat → Value) : StW base B B1 B2 B3 m md d d' W0 (fun _ => false) e { W0 with drawn := W0.drawn + 1 } :=
  ⟨fun _ => ⟨h.below ⟨rfl, rfl, rfl, Nat.le_refl _, fun _ _ => rfl⟩, rfl, ⟨rfl, rfl, rfl, Nat.le_refl _, fun _ _ => rfl⟩⟩, (fun z => by cases z), (fun z => by cases z)⟩
theorem StW.keep {j : Nat} (hj : [1, 6].contains j = false) (h : StW base B B1 B2 B3 m md d d' W0 f e w) (hp : Go.Rel.Put ops j e v e') : StW base B B1 B2 B3 m md d d' W0 (Go.Rel.upd f j) e' w := by
  simp only [List.contains_cons, List.contains_nil, Bool.or_false, Bool.or_eq_false_iff, beq_eq_false_iff_ne] at hj
  have e1 := hp.1 1 (Ne.symm hj.1)
  refine ⟨?_, ?_, ?_⟩
  · rw [ale_off hj.1]; exact h.solo
  · rw [ale_off hj.1, ale_off hj.2, e1]; exact h.both
  · rw [ale_off hj.2]; exact h.done
theorem StW.bel (h : StW base B B1 B2 B3 m md d d' W0 f e w) (z6 : f 6 = false) : Below W0.heap.size W0 w := by
  cases z : f 1 with
  | false => exact (h.solo z).2.2
  | true => exact (h.both z z6).2.1
theorem StW.made (h : StW base B B1 B2 B3 m md d d' W0 f e w) (z1 : f 1 = false) (z6 : f 6 = false) (hd : RdAt base (· = w.heap.size) w' w.heap.size md (Ro.new md)) (hb : Below w.heap.size w w') (hp : Go.Rel.Put ops 1 e (.pointer (some ⟨w.heap.size, 0, none⟩)) e') (ho : ((ops[1]?).bind (·.dst)).isSome = true) : StW base B B1 B2 B3 m md d d' W0 (Go.Rel.upd f 1) e' w' := by
  obtain ⟨h1, h2, h3⟩ := h.solo z1
  refine ⟨fun z => (by rw [ale_on] at z; cases z), fun _ _ => ⟨?_, h3.trans (hb.mono h3.size), ?_⟩, fun z => ?_⟩
  · rw [h2] at hd
    exact h1.with_ h2 hd hb
  · rw [hp.2 ho, h2]
  · rw [ale_off (by decide), z6] at z; cases z
theorem StW.step (h : StW base B B1 B2 B3 m md d d' W0 f e w) (z1 : f 1 = true) (hb : ∃ d2, Both base w' B B1 B2 B3 m d' W0.heap.size md d2) : StW base B B1 B2 B3 m md d d' W0 (Go.Rel.upd f 6) e' w' := by
  refine ⟨fun z => ?_, fun _ z => ?_, fun _ => hb⟩
  · rw [ale_off (by decide), z1] at z; cases z
  · rw [ale_on] at z; cases z
end
end Go.Proofs.YtilkbfmaofmjoaaGreatDoor
/-
  What is told of each node, together, is all (layer 19), in plain words.
-/
namespace Go.Proofs.YtilkbfmaofmjoaaGreatDoor
open Go.RowKit
set_option linter.unusedSimpArgs false
set_option linter.unusedVariables false

/-- Parts by a number are the whole. -/
theorem parts_len {β : Type} (f : β → Int) : ∀ (ks : List Int) (l : List β), ks.Nodup → (∀ x ∈ l, f x ∈ ks) → (ks.map fun k => (l.filter fun x => decide (f x = k)).length).sum = l.length
  | [], l, _, h => by
    have : l = [] := List.eq_nil_iff_forall_not_mem.2 fun x hx => by simpa using h x hx
    subst this
    rfl
  | k :: ks, l, hn, h => by
    rw [List.nodup_cons] at hn
    rw [List.map_cons, List.sum_cons]
    have ih := parts_len f ks (l.filter fun x => !decide (f x = k)) hn.2 (fun x hx => by
      obtain ⟨h1, h2⟩ := List.mem_filter.1 hx
      rcases List.mem_cons.1 (h x h1) with e | e
      · simp [e] at h2
      · exact e)
    have e : (ks.map fun k2 => ((l.filter fun x => !decide (f x = k)).filter fun x => decide (f x = k2)).length) = ks.map fun k2 => (l.filter fun x => decide (f x = k2)).length := by
      apply List.map_congr_left
      intro k2 hk2
      rw [List.filter_filter]
      congr 1
      apply List.filter_congr
      intro x _
      by_cases e2 : f x = k2
      · have e3 : f x ≠ k := fun e3 => hn.1 (by rw [← e3, e2]; exact hk2)
        rw [decide_eq_true e2, decide_eq_false e3]
        rfl
      · rw [decide_eq_false e2]
        rfl
    rw [e] at ih
    rw [ih]
    have cnt : ∀ l2 : List β, (l2.filter fun x => decide (f x = k)).length + (l2.filter fun x => !decide (f x = k)).length = l2.length := fun l2 => by
      induction l2 with
      | nil => rfl
      | cons y l2 ih => by_cases e2 : f y = k <;> simp [e2] <;> omega
    exact cnt l
/-- Of the first k nodes, added up. -/
def Ro.upto (d : Ro) (g : Int → Nat) (k : Nat) : Nat := ((d.n.l.take k).map fun r => g r.val.node).sum
theorem Ro.upto_step (d : Ro) (g : Int → Nat) {k : Nat} (h : k < d.n.l.length) : d.upto g (k + 1) = d.upto g k + g d.n.l[k].val.node := by
  unfold Ro.upto
  rw [List.take_succ_eq_append_getElem h, List.map_append, List.sum_append]
  simp
theorem Ro.upto_le (d : Ro) (g : Int → Nat) (hg : ∀ n, g n ≤ 64) : ∀ k, k ≤ d.n.l.length → d.upto g k ≤ 64 * k
  | 0, _ => by simp [Ro.upto]
  | k + 1, h => by
    rw [d.upto_step g (by omega)]
    have := Ro.upto_le d g hg k (by omega)
    have := hg (d.n.l[k]'(by omega)).val.node
    omega
section
variable {m : Nat} {d : Ro}
theorem RoOk.nodes_nodup (h : RoOk m d) : (d.n.l.map fun r => r.val.node).Nodup := by
  have h1 := h.nok.rise.keys
  unfold List.Nodup at h1 ⊢
  rw [List.pairwise_map] at h1 ⊢
  refine h1.imp_of_mem fun {a b} ha hb hne e => hne ?_
  rw [(h.nr a ha).1, (h.nr b hb).1]
  unfold NdA.key
  rw [show a.val.node = b.val.node from e]
theorem RoOk.there_in (h : RoOk m d) {n : Int} (ht : d.there n = true) : n ∈ d.n.l.map fun r => r.val.node := by
  obtain ⟨r, hr, e⟩ := getR_iff.1 ht
  obtain ⟨ek, ho⟩ := h.nr r hr
  unfold NdA.key at ek
  exact List.mem_map.2 ⟨r, hr, (keyO_inj ho.node (ek.symm.trans e)).1⟩
theorem RoOk.all_s (h : RoOk m d) : d.upto (fun n => (d.svcOf n).length) d.n.l.length = d.s.l.length := by
  have := parts_len (fun r : Rw SvA => r.val.node) _ d.s.l h.nodes_nodup fun x hx => h.there_in (h.sr x hx).2.2
  rw [List.map_map] at this
  unfold Ro.upto Ro.svcOf
  rw [List.take_length]
  exact this
theorem RoOk.all_c (h : RoOk m d) : d.upto (fun n => (d.chkOf n).length) d.n.l.length = d.c.l.length := by
  have := parts_len (fun r : Rw CkA => r.val.node) _ d.c.l h.nodes_nodup fun x hx => h.there_in (h.cr x hx).2.2.1
  rw [List.map_map] at this
  unfold Ro.upto Ro.chkOf
  rw [List.take_length]
  exact this
theorem RoOk.few_s (h : RoOk m d) (n : Int) : (d.svcOf n).length ≤ 64 := by
  have h1 : (d.svcOf n).length ≤ d.s.l.length := List.length_filter_le _ _
  have := h.sok.len
  have := h.sok.most.2
  omega
theorem RoOk.few_c (h : RoOk m d) (n : Int) : (d.chkOf n).length ≤ 64 := by
  have h1 : (d.chkOf n).length ≤ d.c.l.length := List.length_filter_le _ _
  have := h.cok.len
  have := h.cok.most.2
  omega
/-- What is told of a node is its own; its checks' services are there. -/
theorem RoOk.own (h : RoOk m d) {n : Int} {r : Rw CkA} (hr : r ∈ d.chkOf n) : r.val.node = n ∧ (r.val.svc = noT ∨ ∃ s ∈ d.svcOf n, s.val.id = r.val.svc) := by
  obtain ⟨h1, h2⟩ := List.mem_filter.1 hr
  have h2 : r.val.node = n := by simpa using h2
  refine ⟨h2, (h.cr r h1).2.2.2.imp (fun z => z) fun hs => ?_⟩
  obtain ⟨s, hs1, e⟩ := getR_iff.1 hs
  obtain ⟨ek, ho, _⟩ := h.sr s hs1
  unfold SvA.key at ek
  obtain ⟨e1, e2⟩ := keyO_inj ho.node (ek.symm.trans e)
  exact ⟨s, List.mem_filter.2 ⟨hs1, by rw [e1, h2]; simp⟩, e2⟩
end
end Go.Proofs.YtilkbfmaofmjoaaGreatDoor
/-
  A step of layer 19's laws, loaded whole: by cells, not one after the other (that took the kernel 77 s and 10 GB).
-/
namespace Go.Proofs.YtilkbfmaofmjoaaGreatDoor
open Go.RowKit
set_option linter.unusedSimpArgs false
set_option linter.unusedVariables false

theorem st_load {w : World} {b o : Nat} {x : RSt} (h : ItAt stC w b o x) : (Instr.loadAt TRs (.pointer (some ⟨b, o, none⟩))).run Tryz.prog w = .ok (stV x) w :=
  run_loadAt_mid w b o TRs (stC x) _ h Tryz.underlying35 rfl (by kernel_rfl)
end Go.Proofs.YtilkbfmaofmjoaaGreatDoor
/-
  The law's own check that a roster works, walked (layer 19).
-/
namespace Go.Proofs.YtilkbfmaofmjoaaGreatDoor
open Go.RowKit
set_option linter.unusedSimpArgs false
set_option linter.unusedVariables false

theorem forSvc_eq (s : ByteArray) (v : CkA) : forSvc s v = (decide (v.svc = noT) || decide (v.svc = s)) := by
  unfold forSvc
  rw [Bool.eq_iff_iff]
  simp only [Bool.or_eq_true, text_same, decide_eq_true_eq]
def wkN : NdA := ⟨1, ⟨#[120]⟩⟩
def wkS : Rw SvW := (⟨noT, ⟨⟨1, ⟨#[119, 101, 98, 45, 49]⟩, ⟨#[119, 101, 98]⟩, [], 0⟩, none, 0, 0, 0, 0⟩, 0, 0⟩ : Rw SvW)
def wkC : Rw CkA := (⟨noT, ⟨1, ⟨#[99]⟩, ⟨#[119, 101, 98, 45, 49]⟩, ⟨#[]⟩, 2⟩, 0, 0⟩ : Rw CkA)
theorem wk_plain : ∃ d1 d2 d3, (Ro.new 9).node wkN 3 = (0, d1) ∧ d1.service wkS.val.a 4 = (0, d2) ∧ d2.check wkC.val 5 = (0, d3) ∧ d3.health 1 ⟨#[119, 101, 98, 45, 49]⟩ = 2 ∧ d3.health 1 ⟨#[100, 98]⟩ = 0 := by
  have hn : NdOk wkN := ⟨by decide, by decide⟩
  have hs : SvOk wkS.val.a := ⟨by decide, by decide, by decide, by decide, by decide⟩
  have hc : CkOk wkC.val := ⟨by decide, by decide, by decide, .inr (by decide), by decide⟩
  obtain ⟨k1, hk1⟩ : ∃ k, wkN.key = k := ⟨_, rfl⟩
  obtain ⟨k2, hk2⟩ : ∃ k, wkS.val.a.key = k := ⟨_, rfl⟩
  obtain ⟨k3, hk3⟩ : ∃ k, wkC.val.key = k := ⟨_, rfl⟩
  have e1 : (Ro.new 9).node wkN 3 = (0, ⟨⟨9, [⟨k1, wkN, 3, 3⟩], 3⟩, ⟨9, [], 0⟩, ⟨9, [], 0⟩⟩) := by
    unfold Ro.node
    rw [wrongN_ok.2 hn, hk1]
    rfl
  have t1 : ∀ (s : Tb SvA) (c : Tb CkA), Ro.there ⟨⟨9, [⟨k1, wkN, 3, 3⟩], 3⟩, s, c⟩ 1 = true := fun s c => getR_iff.2 ⟨_, List.mem_singleton.2 rfl, hk1.symm⟩
  have e2 : Ro.service ⟨⟨9, [⟨k1, wkN, 3, 3⟩], 3⟩, ⟨9, [], 0⟩, ⟨9, [], 0⟩⟩ wkS.val.a 4 = (0, ⟨⟨9, [⟨k1, wkN, 3, 3⟩], 3⟩, ⟨9, [⟨k2, wkS.val.a, 4, 4⟩], 4⟩, ⟨9, [], 0⟩⟩) := by
    unfold Ro.service
    rw [wrongS_ok.2 ⟨hs, t1 _ _⟩, hk2]
    rfl
  have t2 : Ro.has ⟨⟨9, [⟨k1, wkN, 3, 3⟩], 3⟩, ⟨9, [⟨k2, wkS.val.a, 4, 4⟩], 4⟩, ⟨9, [], 0⟩⟩ 1 ⟨#[119, 101, 98, 45, 49]⟩ = true := getR_iff.2 ⟨_, List.mem_singleton.2 rfl, hk2.symm⟩
  have e3 : Ro.check ⟨⟨9, [⟨k1, wkN, 3, 3⟩], 3⟩, ⟨9, [⟨k2, wkS.val.a, 4, 4⟩], 4⟩, ⟨9, [], 0⟩⟩ wkC.val 5 = (0, ⟨⟨9, [⟨k1, wkN, 3, 3⟩], 3⟩, ⟨9, [⟨k2, wkS.val.a, 4, 4⟩], 4⟩, ⟨9, [⟨k3, wkC.val, 5, 5⟩], 5⟩⟩) := by
    unfold Ro.check
    rw [wrongC_ok.2 ⟨hc, t1 _ _, .inr t2⟩, hk3]
    rfl
  exact ⟨_, _, _, e1, e2, e3, by unfold Ro.health worst; simp only [forSvc_eq]; rfl, by unfold Ro.health worst; simp only [forSvc_eq]; rfl⟩
set_option maxHeartbeats 4000000 in
set_option maxRecDepth 100000 in
theorem works_any (w : World) (hp : PwIs w) : Calls Tryz.prog 15 #[] w fun e w' => e = .returned (.bool true) ∧ Below w.heap.size w w' := by
  obtain ⟨d1, d2, d3, e1, e2, e3, e4, e5⟩ := wk_plain
  have HE1 := Lib.hid e1
  have HE2 := Lib.hid e2
  have HE3 := Lib.hid e3
  have HE4 := Lib.hid (And.intro e4 e5)
  have HN := Lib.hid (rnew_any 9 w (by decide) hp)
  clear e1 e2 e3 e4 e5 hp
  go_enter Tryz.func15, Tryz.ntmps15
  go_wp2_with fail
  refine HN.out.mono ?_
  rintro e w1 ⟨B, B1, B2, B3, rfl, h, hb⟩
  have HB : Hid (∀ w2, But (Ch3 B1 B2 B3) w1 w2 → Below w.heap.size w w2) := Lib.hid fun w2 h2 => hb.trans (h2.below hb.size fun k hk e => by have := (h.ch k e).1; have := (h.ch k e).2.2.1; omega)
  have hx := rnode_any 1 ⟨#[120]⟩ 3 h (by decide) (by decide) (by decide)
  rw [show (⟨1, ⟨#[120]⟩⟩ : NdA) = wkN from rfl, show mostT 9 = 9 from rfl, HE1.out] at hx
  have HX := Lib.hid hx
  clear h hb hx HN
  go_wp2_with fail
  refine HX.out.mono ?_
  rintro e w2 ⟨rfl, h, hb⟩
  have HB2 := Lib.hid hb
  have hx := rservice_any wkS 4 h ⟨by decide, by decide, by decide, by decide, Tx.none_ _, by simp [Small, wkS]⟩ (by decide)
  rw [HE2.out] at hx
  have HX2 := Lib.hid hx
  unfold svV wkS at HX2
  clear h hb hx HX
  go_wp2_with fail
  refine HX2.out.mono ?_
  rintro e w3 ⟨rfl, h, hb⟩
  have HB3 := Lib.hid (HB2.out.trans hb)
  have hx := rcheck_any wkC 5 h ⟨by decide, by decide, by decide, by decide, by decide⟩ (by decide)
  rw [HE3.out] at hx
  have HX3 := Lib.hid hx
  unfold ckV wkC at HX3
  clear h hb hx HX2
  go_wp2_with fail
  refine HX3.out.mono ?_
  rintro e w4 ⟨rfl, h, hb⟩
  have HB4 := Lib.hid (HB.out _ (HB3.out.trans hb))
  have HA := Lib.hid h
  have hx := rhealth_any 1 ⟨#[119, 101, 98, 45, 49]⟩ h (by decide)
  rw [HE4.out.1] at hx
  have HX4 := Lib.hid hx
  clear h hb hx HX3
  go_wp2_with fail
  refine HX4.out.mono ?_
  rintro e w5 ⟨rfl, hb⟩
  have hx := rhealth_any 1 ⟨#[100, 98]⟩ (HA.out.below hb) (by decide)
  rw [HE4.out.2] at hx
  have HX5 := Lib.hid hx
  have HB5 := Lib.hid (HB4.out.trans (hb.mono HB4.out.size))
  clear hb hx HX4
  go_wp2_with fail
  refine HX5.out.mono ?_
  rintro e w6 ⟨rfl, hb⟩
  have HB6 := Lib.hid (HB5.out.trans (hb.mono HB5.out.size))
  clear hb HX5
  go_wp2
  go_ret
  exact ⟨rfl, HB6.out⟩
end Go.Proofs.YtilkbfmaofmjoaaGreatDoor
/-
  Each service's node is there, and each check's node and service: the law RosterWhole, walked (layer 19).
-/
namespace Go.Proofs.YtilkbfmaofmjoaaGreatDoor
open Go.RowKit Go.Rel
set_option linter.unusedSimpArgs false
set_option linter.unusedVariables false

def rwhE (B : Nat) (b : Nat) (off : Nat) (k : Nat) (s : RSt) (n : Nat) (c : Nat) : Nat → Value
  | 0 => .pointer (some ⟨B, 0, none⟩)
  | 2 => .slice (some ⟨b, off, none⟩) n c
  | 3 => .int .i64 (k : Int)
  | 4 => .pointer (some ⟨b, off + k * 18, none⟩)
  | 5 => .agg #[.int .i64 s.kind, .int .i64 s.node, .string s.text, .int .i64 s.s.val.a.node, .string s.s.val.a.id, .string s.s.val.a.name, .slice s.s.val.A s.s.val.n s.s.val.c, .int .i64 s.s.val.a.port, .int .u64 (s.s.made : Int), .int .u64 (s.s.ix : Int), .int .i64 s.c.val.node, .string s.c.val.id, .string s.c.val.svc, .string s.c.val.note, .int .i64 s.c.val.status, .int .u64 (s.c.made : Int), .int .u64 (s.c.ix : Int), .int .u64 (s.ix : Int)]
  | _ => undef
set_option maxHeartbeats 8000000 in
set_option maxRecDepth 100000 in
theorem whole_walk (A : Option Addr) (n c : Nat) (ss : List RSt) (w : World) (hS : SK stC 18 w A n ss) (hok : ∀ s ∈ ss, s.Ok w) (hn : n ≤ maxLen) (hp : PwIs w) :
    Calls Tryz.prog 4 #[.slice A n c] w fun e w' => e = .returned (.bool true) ∧ Below w.heap.size w w' := by
  unfold maxLen at hn
  have hn' : (n : Int) ≤ 9223372036854775807 := by omega
  obtain ⟨base, hbase⟩ : ∃ g0, w.heap.size = g0 := ⟨_, rfl⟩
  have HN := Lib.hid (rnew_any 64 w (by decide) hp)
  have HNd := Lib.hid (fun w1 (hz : base ≤ w1.heap.size) => rdnew_any 1 w1 base (by decide) hz)
  have HG : Hid (gPw < base) := Lib.hid (hbase ▸ hp.lt)
  have hmm : mostT 64 = 64 := by decide
  have hm1 : mostT 1 = 1 := by decide
  rw [hmm] at HN
  rw [hm1] at HNd
  have HSS := Lib.hid hS
  have HSl := Lib.hid hS.1
  have HOk := Lib.hid hok
  have HTg0 := Lib.hid (fun s (hs : s ∈ ss) => (⟨(hok s hs).s.tx, fun b off e hn => by
    rw [← hbase]
    exact (hok s hs).s.tx.block e hn⟩ : TgAt (fun k => k < base) w s.s.val))
  have HG0 := Lib.hid hbase
  rw [hbase] at HN ⊢
  clear hS hok hn hbase hp hmm hm1
  go_enter Tryz.func4, Tryz.ntmps4
  go_wp2_with fail
  refine HN.out.mono ?_
  rintro e w1 ⟨B, B1, B2, B3, rfl, hp, hb1⟩
  have HSo : Hid (Solo base w1 B B1 B2 B3 64 (Ro.new 64)) := Lib.hid (solo_new (w := w) (by rw [HG0.out]; exact Nat.le_refl _) (by rw [HG0.out]; exact hp) (by rw [HG0.out]; exact (HG0.out ▸ hb1.size)))
  have HB1 := Lib.hid hb1
  clear HN hp hb1
  go_wp2
  go_loopw [4] (fun iv wr => ∃ (k : Nat) (d : Ro), k ≤ n ∧ iv = .int .i64 (k : Int) ∧ Hid (Solo base wr B B1 B2 B3 64 d) ∧ Hid (Below base w wr)) (fun iv _ => n - (intOf iv).toNat)
  case atStart => exact ⟨0, _, Nat.zero_le _, rfl, HSo, HB1⟩
  case round =>
    obtain ⟨k, d, hk, rfl, hbo, hb⟩ := hrel
    by_cases hlt : k < n ∧ k < 60
    · obtain ⟨h1, h2⟩ := hlt
      have hkl : k < ss.length := by rw [HSl.out]; exact h1
      obtain ⟨b, off, rfl, hbl, hit0⟩ := HSS.out.at_ h1 hkl
      have hmem : ss[k] ∈ ss := List.getElem_mem _
      obtain ⟨s, hs⟩ : ∃ s, ss[k] = s := ⟨_, rfl⟩
      rw [hs] at hit0 hmem
      obtain ⟨W0, hW0⟩ : ∃ W, wr = W := ⟨_, rfl⟩
      rw [hW0] at hbo hb ⊢
      have HBo0 := Lib.hid hbo.out
      have hok := HOk.out s hmem
      have hbw : Below w.heap.size w W0 := by rw [HG0.out]; exact hb.out
      obtain ⟨d', hd'⟩ : ∃ d', (s.after d).2 = d' := ⟨_, rfl⟩
      have HEl : Hid (∀ W, Below W0.heap.size W0 W → ItAt stC W b (off + k * 18) s) := Lib.hid fun W hW => by
        have h9 := (HSS.out.below (w' := W) (hbw.trans (hW.mono hbw.size)))
        obtain ⟨b', off', e', _, h8⟩ := h9.at_ h1 hkl
        cases e'
        rw [hs] at h8
        exact h8
      have HStep := Lib.hid (fun W (hB : Both base W B B1 B2 B3 64 d W0.heap.size 1 (Ro.new 1)) (hW : Below W0.heap.size W0 W) => (by
        have h9 := step_new s hB (hok.below (hbw.trans (hW.mono hbw.size))) ((HTg0.out s hmem).below (hbw.trans (hW.mono hbw.size)))
        rw [hd'] at h9
        unfold stV at h9
        exact h9 : Calls Tryz.prog 11 #[.pointer (some ⟨B, 0, none⟩), .pointer (some ⟨W0.heap.size, 0, none⟩), .agg #[.int .i64 s.kind, .int .i64 s.node, .string s.text, .int .i64 s.s.val.a.node, .string s.s.val.a.id, .string s.s.val.a.name, .slice s.s.val.A s.s.val.n s.s.val.c, .int .i64 s.s.val.a.port, .int .u64 (s.s.made : Int), .int .u64 (s.s.ix : Int), .int .i64 s.c.val.node, .string s.c.val.id, .string s.c.val.svc, .string s.c.val.note, .int .i64 s.c.val.status, .int .u64 (s.c.made : Int), .int .u64 (s.c.ix : Int), .int .u64 (s.ix : Int)]] W (StepPost base W B B1 B2 B3 64 d' W0.heap.size 1 (s.after (Ro.new 1)).2 False)))
      have HHb := Lib.hid hb.out
      have q1 : (k : Int) < (n : Int) := by omega
      have q2 : (k : Int) < 60 := by omega
      have q0 : (0 : Int) ≤ (k : Int) := by omega
      clear hit0 hs hmem hkl hok hbw hd' hW0 hbo hb
      go_wp2_with fail
      have hre : ∀ w : World, ((fun a b : World => base ≤ a.heap.size → Below base a b)) w w := (fun w _ => Below.refl _ w)
      have hrd : ∀ (ops9 : Array Oper) (f9 : Nat → Bool) (e9 : Nat → Value) (w9 : World) (i9 : Nat) (v9 : Value) (e8 : Nat → Value), [1, 6].contains i9 = false → (fun (f : Nat → Bool) (e : Nat → Value) (w : World) => StW base B B1 B2 B3 64 1 d d' W0 f e w) f9 e9 w9 → Go.Rel.Put ops9 i9 e9 v9 e8 → (fun (f : Nat → Bool) (e : Nat → Value) (w : World) => StW base B B1 B2 B3 64 1 d d' W0 f e w) (Go.Rel.upd f9 i9) e8 w9 := (fun _ _ _ _ _ _ _ hj h hp => h.keep hj hp)
      refine Go.Rel.wp_tabe (by kernel_rfl) (by kernel_rfl) (fun (f : Nat → Bool) (e : Nat → Value) (w : World) => StW base B B1 B2 B3 64 1 d d' W0 f e w) ((fun a b : World => base ≤ a.heap.size → Below base a b)) hre ((fun _ _ _ h k hz => (h hz).trans (k (Nat.le_trans hz (h hz).size)))) ((fun _ => ⟨rfl, rfl, rfl, Nat.le_refl _, fun _ _ => rfl⟩)) (fun e => StW.start HBo0.out e) (rwhE B b off k s n c) (fun | 1, v, w => True | 6, v, w => True | _, _, _ => True) (fun i => ([1, 6] : List Nat).contains i) (fun i => ([1, 4, 5, 6] : List Nat).contains i) (by kernel_rfl) (fun i v w w' h g => by revert h; split <;> exact id) [1, 6] (by decide) (hrd _) ?_ (Go.Rel.AllOf.get ?_) ?_
      · repeat (refine .cons (by first | exact Go.Rel.pure_sp rfl | exact Go.Rel.pure_yes (by kernel_rfl) (fun _ => by kernel_rfl) | exact Go.Rel.pure_no (by kernel_rfl) rfl) ?_)
        exact .nil
      · refine ⟨?_, ?_, ?_, ?_, trivial⟩
        · refine SpecE.gen (fun e => []) rfl rfl (fun _ => by kernel_rfl) fun f w' e hI hf hdesc hanc hle hX K hK => ?_
          go_simp
          have z6 : f 6 = false := hdesc 60 6 (by kernel_rfl)
          have hs := hI.solo hf
          refine (HNd.out w' hs.1.1).mono ?_
          rintro e9 w9 ⟨rfl, h9, hb9⟩
          exact hK _ _ (fun hz => hb9.mono hz) (fun e' hp => hI.made hf z6 h9 hb9 hp rfl) trivial
        · refine SpecE.gen (fun e => [(29, .slice (some ⟨b, off, none⟩) n c), (30, .int .i64 (k : Int))]) rfl rfl (fun _ => by kernel_rfl) fun f w' e hI hf hdesc hanc hle hX K hK => ?_
          have g1 := q1
          go_simp
          exact hK _ _ (hre _) (fun e' hp => hrd _ f e w' 4 _ e' rfl hI hp) rfl
        · exact SpecE.ld (hrd _) hre (q := .pointer (some ⟨b, off + k * 18, none⟩)) (h := fun _ w' _ hI _ hdesc _ _ => by exact st_load (HEl.out w' (hI.bel (hdesc 60 6 (by kernel_rfl)))))
        · refine SpecE.gen (fun e => [(27, .pointer (some ⟨B, 0, none⟩)), (28, e 1), (32, .agg #[.int .i64 s.kind, .int .i64 s.node, .string s.text, .int .i64 s.s.val.a.node, .string s.s.val.a.id, .string s.s.val.a.name, .slice s.s.val.A s.s.val.n s.s.val.c, .int .i64 s.s.val.a.port, .int .u64 (s.s.made : Int), .int .u64 (s.s.ix : Int), .int .i64 s.c.val.node, .string s.c.val.id, .string s.c.val.svc, .string s.c.val.note, .int .i64 s.c.val.status, .int .u64 (s.c.made : Int), .int .u64 (s.c.ix : Int), .int .u64 (s.ix : Int)])]) rfl rfl (fun _ => by kernel_rfl) fun f w' e hI hf hdesc hanc hle hX K hK => ?_
          have z1 : f 1 = true := hanc 60 1 (by kernel_rfl)
          have hI9 := hI.both z1 hf
          simp only [hI9.2.2]
          go_simp
          refine (HStep.out w' hI9.1 hI9.2.1).mono ?_
          rintro e9 w9 h9
          obtain ⟨b9, rfl, h9, hb9, -⟩ := h9
          have hch := hI9.1.ch
          exact hK _ _ (fun hz => hb9.below hz fun k hk e => by have := hch k e; omega) (fun e' hp => hI.step z1 ⟨_, h9⟩) trivial
      · intro f w3 e hall hJ hle hv
        obtain ⟨d2, h9⟩ := hJ.done (hall 6 (by decide))
        have HSo9 := Lib.hid h9.solo
        have HB9 := Lib.hid (HHb.out.trans (hle HBo0.out.1))
        simp only [Go.Rel.finL, List.setIfInBounds_toArray, List.set_cons_succ, List.set_cons_zero]
        clear hv hall hJ hle h9
        go_wp2
        go_roundw
        case rel => exact ⟨k + 1, d', by omega, by go_num, HSo9, HB9⟩
        case measure => simp [intOf]; omega
    · obtain ⟨W0, hW0⟩ : ∃ W, wr = W := ⟨_, rfl⟩
      rw [hW0] at hbo hb ⊢
      have HSo0 := Lib.hid hbo.out
      have HB0 := Lib.hid hb.out
      obtain ⟨Sp, hro⟩ := hbo.out.read
      have HNs := Lib.hid (rnodes_any hro)
      have HOkd := Lib.hid hbo.out.ok
      have HSe := Lib.hid hro
      clear hW0 hbo hb hro
      rcases (show ¬ k < n ∨ (k < n ∧ ¬ k < 60) by omega) with q1 | ⟨q1, q2⟩
      all_goals
        go_wp2_with fail
        refine HNs.out.mono ?_
        rintro e w3 ⟨An, cn, rfl, hs, _, _, _, hb⟩
        have HSn3 := Lib.hid hs
        have HSe3 := Lib.hid (HSe.out.below hb)
        have HSo3 := Lib.hid (HSo0.out.below hb)
        have HB3 := Lib.hid (HB0.out.trans (hb.mono HSo0.out.1))
        clear hs hb
        have HSs := Lib.hid (rservices_any HSe3.out)
        go_wp2_with fail
        refine HSs.out.mono ?_
        rintro e w4 ⟨ls9, ⟨As, cs, rfl, -, _, _, _, hb⟩, hsl⟩
        have hln := hsl.len
        rw [hln]
        have HSn4 := Lib.hid (HSn3.out.below hb)
        have HSe4 := Lib.hid (HSe3.out.below hb)
        have HSo4 := Lib.hid (HSo3.out.below hb)
        have HB4 := Lib.hid (HB3.out.trans (hb.mono HSo3.out.1))
        clear hsl hb HSs hln
        have HCs := Lib.hid (rchecks_any HSe4.out)
        go_wp2_with fail
        refine HCs.out.mono ?_
        rintro e w5 ⟨Ac, cc, rfl, -, _, _, _, hb⟩
        have HSn5 := Lib.hid (HSn4.out.below hb)
        have HSe5 := Lib.hid (HSe4.out.below hb)
        have HSo5 := Lib.hid (HSo4.out.below hb)
        have HB5 := Lib.hid (HB4.out.trans (hb.mono HSo4.out.1))
        clear hb HCs
        obtain ⟨N, hN⟩ : ∃ N, d.n.l.length = N := ⟨_, rfl⟩
        obtain ⟨Ns, hNs⟩ : ∃ N, d.s.l.length = N := ⟨_, rfl⟩
        obtain ⟨Nc, hNc⟩ : ∃ N, d.c.l.length = N := ⟨_, rfl⟩
        have h64 : N ≤ 64 := by rw [← hN]; exact Nat.le_trans HOkd.out.nok.len HOkd.out.nok.most.2
        rw [hN, hNs, hNc]
        rw [hN] at HSn5
        have HLN := Lib.hid hN
        have HAs : Hid (d.upto (fun z => (d.svcOf z).length) N = Ns) := Lib.hid (by rw [← hN, ← hNs]; exact HOkd.out.all_s)
        have HAc : Hid (d.upto (fun z => (d.chkOf z).length) N = Nc) := Lib.hid (by rw [← hN, ← hNc]; exact HOkd.out.all_c)
        clear hN hNs hNc
        go_wp2
        go_loopw [8, 9, 10] (fun sv mv iv wr => ∃ k : Nat, k ≤ N ∧ sv = .int .i64 ((d.upto (fun z => (d.svcOf z).length) k : Nat) : Int) ∧ mv = .int .i64 ((d.upto (fun z => (d.chkOf z).length) k : Nat) : Int) ∧ iv = .int .i64 (k : Int) ∧ Hid (Below w5.heap.size w5 wr)) (fun _ _ iv _ => N - (intOf iv).toNat)
        case atStart => exact ⟨0, Nat.zero_le _, by simp [Ro.upto], by simp [Ro.upto], rfl, Lib.hid (Below.refl _ _)⟩
        case round =>
          obtain ⟨k2, hk2, rfl, rfl, rfl, hb⟩ := hrel
          obtain ⟨sa, hu1⟩ : ∃ u, d.upto (fun z => (d.svcOf z).length) k2 = u := ⟨_, rfl⟩
          obtain ⟨sb, hu2⟩ : ∃ u, d.upto (fun z => (d.chkOf z).length) k2 = u := ⟨_, rfl⟩
          rw [hu1, hu2]
          by_cases hlt2 : k2 < N
          · have hkl : k2 < d.n.l.length := by rw [HLN.out]; exact hlt2
            obtain ⟨bn, offn, rfl, hbl, hit⟩ := (HSn5.out.below hb.out).at_ hlt2 hkl
            have hup1 := d.upto_step (fun z => (d.svcOf z).length) hkl
            have hup2 := d.upto_step (fun z => (d.chkOf z).length) hkl
            have hno := (HOkd.out.nr _ (List.getElem_mem hkl)).2
            obtain ⟨nd, hnd⟩ : ∃ y, d.n.l[k2] = y := ⟨_, rfl⟩
            rw [hnd] at hit hup1 hup2 hno
            have hnb := nodeB_iff.1 hno.node
            obtain ⟨nv, hnv⟩ : ∃ z, (d.svcOf nd.val.node).length = z := ⟨_, rfl⟩
            obtain ⟨nc, hnc⟩ : ∃ z, (d.chkOf nd.val.node).length = z := ⟨_, rfl⟩
            have hOf := rof_any nd.val.node (HSe5.out.below hb.out) ⟨by omega, by omega⟩
            rw [hnv, hnc] at hOf
            have HOf := Lib.hid hOf
            have g1 : sa ≤ 64 * k2 := by rw [← hu1]; exact d.upto_le _ (fun z => HOkd.out.few_s z) k2 (by omega)
            have g2 : sb ≤ 64 * k2 := by rw [← hu2]; exact d.upto_le _ (fun z => HOkd.out.few_c z) k2 (by omega)
            have g3 : nv ≤ 64 := by rw [← hnv]; exact HOkd.out.few_s _
            have g4 : nc ≤ 64 := by rw [← hnc]; exact HOkd.out.few_c _
            have HUp1 : Hid (d.upto (fun z => (d.svcOf z).length) (k2 + 1) = sa + nv) := Lib.hid (by rw [hup1, hu1, hnv])
            have HUp2 : Hid (d.upto (fun z => (d.chkOf z).length) (k2 + 1) = sb + nc) := Lib.hid (by rw [hup2, hu2, hnc])
            have HNv := Lib.hid hnv
            have HNc := Lib.hid hnc
            have qa : IntKind.i64.wrap ((sa : Int) + (nv : Int)) = ((sa + nv : Nat) : Int) := by simp [IntKind.wrap, IntKind.bits, IntKind.signed]; omega
            have qb : IntKind.i64.wrap ((sb : Int) + (nc : Int)) = ((sb + nc : Nat) : Int) := by simp [IntKind.wrap, IntKind.bits, IntKind.signed]; omega
            have HHb := Lib.hid hb.out
            have HEn : Hid (∀ W, Below w5.heap.size w5 W → ItAt ndC W bn (offn + k2 * 4) nd) := Lib.hid fun W hW => by
              obtain ⟨b9, off9, e9, _, h9⟩ := (HSn5.out.below hW).at_ hlt2 hkl
              cases e9
              rw [hnd] at h9
              exact h9
            obtain ⟨y0, y1, y2, y3⟩ := nd_cells hit
            have p1 : (k2 : Int) < (N : Int) := by omega
            have p0 : (0 : Int) ≤ (k2 : Int) := by omega
            clear hit hup1 hup2 hno hnd hnb hOf hnv hnc hu1 hu2 hb
            go_wp2_with fail
            refine HOf.out.mono ?_
            rintro e w6 ⟨A1, c1, l1, A2, c2, rfl, hs1, hsl, hs2, hb6⟩
            have HS1 := Lib.hid hs1
            have HSl1 := Lib.hid hsl
            have HS2 := Lib.hid hs2
            have HB6 := Lib.hid (HHb.out.trans (hb6.mono HHb.out.size))
            clear hs1 hsl hs2 hb6 y0 y1 y2 y3 HOf
            go_wp2
            go_loopw [13] (fun jv wr => ∃ j : Nat, j ≤ nc ∧ jv = .int .i64 (j : Int) ∧ Hid (Below w6.heap.size w6 wr)) (fun jv _ => nc - (intOf jv).toNat)
            case atStart => exact ⟨0, Nat.zero_le _, rfl, Lib.hid (Below.refl _ _)⟩
            case round =>
              obtain ⟨j, hj, rfl, hb⟩ := hrel
              by_cases hlt3 : j < nc
              · have hjl : j < (d.chkOf nd.val.node).length := by rw [HNc.out]; exact hlt3
                obtain ⟨bc, offc, rfl, hbl2, hit⟩ := (HS2.out.below hb.out).at_ hlt3 hjl
                have hown := HOkd.out.own (List.getElem_mem hjl)
                obtain ⟨cv, hcv⟩ : ∃ y, (d.chkOf nd.val.node)[j] = y := ⟨_, rfl⟩
                rw [hcv] at hit hown
                have HIt := Lib.hid hit
                have HOwn := Lib.hid hown
                have HB7 := Lib.hid hb.out
                obtain ⟨e0, e1, e2, e3, e4, e5, e6⟩ := ck_cells hit
                have p2 : (j : Int) < (nc : Int) := by omega
                have p3 : (0 : Int) ≤ (j : Int) := by omega
                have HCv := Lib.hid hcv
                clear hit hown hcv hb
                obtain ⟨z0, hz0⟩ : ∃ z, cv.val.svc.toList.isEmpty = z := ⟨_, rfl⟩
                have HZ0 := Lib.hid hz0
                clear hz0
                go_wp2
                go_loopw [14, 15] (fun bv iv wr => ∃ i : Nat, i ≤ nv ∧ iv = .int .i64 (i : Int) ∧ bv = .bool (z0 || (l1.take i).any (fun z : Rw SvW => z.val.a.id.toList == cv.val.svc.toList)) ∧ Hid (Below w6.heap.size w6 wr)) (fun _ iv _ => nv - (intOf iv).toNat)
                case atStart => exact ⟨0, Nat.zero_le _, rfl, by rw [← HZ0.out]; simp, HB7⟩
                case round =>
                  obtain ⟨i, hi, rfl, rfl, hb⟩ := hrel
                  by_cases hlt4 : i < nv
                  · have hl1 : l1.length = nv := HS1.out.1
                    have hil : i < l1.length := by omega
                    obtain ⟨ba, offa, rfl, hbl3, hit⟩ := (HS1.out.below hb.out).at_ hlt4 hil
                    have hst : (z0 || (l1.take (i + 1)).any (fun z : Rw SvW => z.val.a.id.toList == cv.val.svc.toList)) = ((z0 || (l1.take i).any (fun z : Rw SvW => z.val.a.id.toList == cv.val.svc.toList)) || (l1[i].val.a.id.toList == cv.val.svc.toList)) := by rw [List.take_succ_eq_append_getElem hil, List.any_append, List.any_cons, List.any_nil, Bool.or_false, Bool.or_assoc]
                    obtain ⟨sv, hsv⟩ : ∃ y, l1[i] = y := ⟨_, rfl⟩
                    rw [hsv] at hit hst
                    obtain ⟨pb, hpb⟩ : ∃ pb, (z0 || (l1.take i).any (fun z : Rw SvW => z.val.a.id.toList == cv.val.svc.toList)) = pb := ⟨_, rfl⟩
                    rw [hpb] at hst ⊢
                    obtain ⟨zq, hzq⟩ : ∃ z, (sv.val.a.id.toList == cv.val.svc.toList) = z := ⟨_, rfl⟩
                    rw [hzq] at hst
                    obtain ⟨f0, f1, f2, f3, f4, f5, f6⟩ := sv_cells hit
                    obtain ⟨b9, off9, k9, hbl4, hit4⟩ := (HS2.out.below hb.out).at_ hlt3 (by rw [HNc.out]; exact hlt3)
                    cases k9
                    rw [HCv.out] at hit4
                    obtain ⟨e0, e1, e2, e3, e4, e5, e6⟩ := ck_cells hit4
                    have p4 : (i : Int) < (nv : Int) := by omega
                    have p5 : (0 : Int) ≤ (i : Int) := by omega
                    have HB := hb
                    cases pb with
                    | true =>
                      have HSt : Hid ((z0 || (l1.take (i + 1)).any (fun z : Rw SvW => z.val.a.id.toList == cv.val.svc.toList)) = true) := Lib.hid (by rw [hst]; rfl)
                      clear hst hit hit4 hsv hpb hb hl1 hil
                      go_wp2
                      go_quiet (fail)
                      generalize hWq : wr.drewN _ = wq
                      have HBq : Hid (Below w6.heap.size w6 wq) := Lib.hid (by rw [← hWq]; exact below_drewN HB.out _)
                      clear hWq f0 f1 f2 f3 f4 f5 f6 e0 e1 e2 e3 e4 e5 e6
                      go_wp2
                      go_roundw
                      case rel => exact ⟨i + 1, by omega, by go_num, by rw [HSt.out], HBq⟩
                      case measure => simp [intOf]; omega
                    | false =>
                      rw [Bool.false_or] at hst
                      have HSt := Lib.hid hst
                      clear hst hit hit4 hsv hpb hb hl1 hil
                      go_wp2
                      go_quiet (fail)
                      generalize hWq : wr.drewN _ = wq
                      have HBq : Hid (Below w6.heap.size w6 wq) := Lib.hid (by rw [← hWq]; exact below_drewN HB.out _)
                      clear hWq f0 f1 f2 f3 f4 f5 f6 e0 e1 e2 e3 e4 e5 e6
                      go_wp2
                      go_roundw
                      case rel => exact ⟨i + 1, by omega, by go_num, by rw [HSt.out], HBq⟩
                      case measure => simp [intOf]; omega
                  · have hi9 : l1.take i = l1 := List.take_of_length_le (by rw [HS1.out.1]; omega)
                    have hall : (z0 || (l1.take i).any (fun z : Rw SvW => z.val.a.id.toList == cv.val.svc.toList)) = true := by
                      rw [hi9]
                      rcases HOwn.out.2 with e | ⟨s9, hs9, e⟩
                      · rw [← HZ0.out, e, noT_list]; rfl
                      · rw [← HSl1.out.eq] at hs9
                        obtain ⟨s8, hs8, rfl⟩ := List.mem_map.1 hs9
                        rw [Bool.or_eq_true, List.any_eq_true]
                        exact .inr ⟨s8, hs8, text_same.2 e⟩
                    rw [hall]
                    obtain ⟨b9, off9, k9, hbl4, hit4⟩ := (HS2.out.below hb.out).at_ hlt3 (by rw [HNc.out]; exact hlt3)
                    cases k9
                    rw [HCv.out] at hit4
                    obtain ⟨e0, e1, e2, e3, e4, e5, e6⟩ := ck_cells hit4
                    obtain ⟨y0, y1, y2, y3⟩ := nd_cells (HEn.out wr (HB6.out.trans (hb.out.mono HB6.out.size)))
                    have qn : (cv.val.node != nd.val.node) = false := by rw [HOwn.out.1]; simp
                    have HB := hb
                    clear hi9 hall hit4 hb
                    go_wp2
                    go_quiet (fail)
                    generalize hWq : wr.drewN _ = wq
                    have HBq : Hid (Below w6.heap.size w6 wq) := Lib.hid (by rw [← hWq]; exact below_drewN HB.out _)
                    clear hWq e0 e1 e2 e3 e4 e5 e6 y0 y1 y2 y3
                    go_wp2
                    go_roundw
                    case rel => exact ⟨j + 1, by omega, by go_num, HBq⟩
                    case measure => simp [intOf]; omega
              · have HBe := Lib.hid (HB6.out.trans (hb.out.mono HB6.out.size))
                clear hb
                go_wp2
                go_roundw
                case rel => exact ⟨k2 + 1, by omega, by rw [HUp1.out]; simp, by rw [HUp2.out]; simp, by go_num, HBe⟩
                case measure => simp [intOf]; omega
          · have hk9 : k2 = N := by omega
            have qx : (((sa : Nat) : Int) == (Ns : Int)) = true := by
              have := HAs.out
              rw [← hk9, hu1] at this
              simp [this]
            have qy : (((sb : Nat) : Int) == (Nc : Int)) = true := by
              have := HAc.out
              rw [← hk9, hu2] at this
              simp [this]
            have HWk := Lib.hid (works_any wr ((HSo5.out.below hb.out).pw))
            have HJ := Lib.hid (HB5.out.trans (hb.out.mono HSo5.out.1))
            have HTp := Lib.hid ((HSo5.out.below hb.out).1)
            clear hk9 hu1 hu2 hb
            go_wp2_with fail
            refine HWk.out.mono ?_
            rintro e w7 ⟨rfl, hb7⟩
            have HJ2 := Lib.hid (HJ.out.trans (hb7.mono HTp.out))
            clear hb7
            go_wp2
            go_ret
            exact ⟨rfl, HJ2.out⟩
end Go.Proofs.YtilkbfmaofmjoaaGreatDoor
