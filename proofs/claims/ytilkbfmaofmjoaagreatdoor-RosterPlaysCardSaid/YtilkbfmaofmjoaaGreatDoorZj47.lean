/-
  Both rosters, the program's and the document's, each with what is its own (layer 19).
-/
import Derived.Test.YtilkbfmaofmjoaaGreatDoorZj45
import Derived.Test.YtilkbfmaofmjoaaGreatDoorZj46
import Derived.Test.YtilkbfmaofmjoaaGreatDoorZj42
import Derived.Deep.MidRow
namespace Go.Proofs.YtilkbfmaofmjoaaGreatDoor
open Go.RowKit Go.Rel
set_option linter.unusedSimpArgs false
set_option linter.unusedVariables false

/-- What a step may change. -/
def Ch4 (B1 B2 B3 D : Nat) (k : Nat) : Prop := Ch3 B1 B2 B3 k ∨ k = D
/-- Both rosters; neither has anything of the other's; what was there before base is neither's, but for the table of powers. -/
def Both (base : Nat) (w : World) (B B1 B2 B3 m : Nat) (d : Ro) (D md : Nat) (d2 : Ro) : Prop :=
  ∃ Sp Sd : Nat → Prop, RoAt Sp w B B1 B2 B3 m d ∧ RdAt base Sd w D md d2 ∧ (∀ k, Sp k → k < w.heap.size ∧ ¬ Sd k ∧ (base ≤ k ∨ k = gPw)) ∧ ∀ k, Sd k → k < w.heap.size
theorem RdAt.top {base : Nat} {S : Nat → Prop} {w : World} {B m : Nat} {d : Ro} (h : RdAt base S w B m d) : base ≤ w.heap.size := by
  obtain ⟨_, _, _, _, _, _, _, _, h1⟩ := h
  exact h1.top
section
variable {base : Nat} {w w' : World} {B B1 B2 B3 m D md : Nat} {d d2 : Ro}
theorem Both.below (h : Both base w B B1 B2 B3 m d D md d2) (hb : Below w.heap.size w w') : Both base w' B B1 B2 B3 m d D md d2 := by
  obtain ⟨Sp, Sd, h1, h2, h3, h4⟩ := h
  have hz := hb.size
  exact ⟨Sp, Sd, h1.below hb, h2.below hb, fun k hk => ⟨by have := (h3 k hk).1; omega, (h3 k hk).2⟩, fun k hk => by have := h4 k hk; omega⟩
theorem Both.top (h : Both base w B B1 B2 B3 m d D md d2) : base ≤ w.heap.size := by
  obtain ⟨Sp, Sd, h1, h2, h3, h4⟩ := h
  exact h2.top
theorem Both.lt (h : Both base w B B1 B2 B3 m d D md d2) : (B < w.heap.size ∧ B1 < w.heap.size ∧ B2 < w.heap.size ∧ B3 < w.heap.size) ∧ D < w.heap.size := by
  obtain ⟨Sp, Sd, h1, h2, h3, h4⟩ := h
  exact ⟨h1.lt, h2.lt⟩
/-- What a step changes lies behind base. -/
theorem Both.ch (h : Both base w B B1 B2 B3 m d D md d2) : ∀ k, Ch4 B1 B2 B3 D k → base ≤ k := by
  obtain ⟨Sp, Sd, h1, h2, h3, h4⟩ := h
  rintro k (hk | rfl)
  · have := h1.ch k hk
    exact (h3 k this.1).2.2.resolve_right this.2.2.1
  · exact h2.lo _ h2.mine
/-- A call of the program's. -/
theorem Both.left (h : Both base w B B1 B2 B3 m d D md d2) : ∃ Sp, RoAt Sp w B B1 B2 B3 m d ∧ ∀ w' d', RoAt (fun k => Sp k ∨ w.heap.size ≤ k) w' B B1 B2 B3 m d' → But (Ch3 B1 B2 B3) w w' → Both base w' B B1 B2 B3 m d' D md d2 := by
  obtain ⟨Sp, Sd, h1, h2, h3, h4⟩ := h
  have ht := h2.top
  refine ⟨Sp, h1, fun w' d' k1 kb => ?_⟩
  have hz := kb.size
  refine ⟨fun k => (Sp k ∨ w.heap.size ≤ k) ∧ k < w'.heap.size, Sd, k1.narrow fun k hk hs => ⟨hs, hk⟩, h2.but kb fun k e => ?_, fun k hk => ⟨hk.2, ?_, ?_⟩, fun k hk => by have := h4 k hk; omega⟩
  · have hc := h1.ch k e
    exact ⟨(h3 k hc.1).2.1, (h3 k hc.1).2.2.resolve_right hc.2.2.1⟩
  · rcases hk.1 with hs | hs
    · exact (h3 k hs).2.1
    · intro e
      have := h4 k e
      omega
  · rcases hk.1 with hs | hs
    · exact (h3 k hs).2.2
    · exact .inl (Nat.le_trans ht hs)
/-- A call of the document's. -/
theorem Both.right (h : Both base w B B1 B2 B3 m d D md d2) : ∃ Sd, RdAt base Sd w D md d2 ∧ ∀ w' d', RdAt base (fun k => Sd k ∨ w.heap.size ≤ k) w' D md d' → But (· = D) w w' → Both base w' B B1 B2 B3 m d D md d' := by
  obtain ⟨Sp, Sd, h1, h2, h3, h4⟩ := h
  have hD := h2.mine
  refine ⟨Sd, h2, fun w' d' k1 kb => ?_⟩
  have hz := kb.size
  refine ⟨Sp, fun k => (Sd k ∨ w.heap.size ≤ k) ∧ k < w'.heap.size, h1.but kb (fun k e hs => (h3 k hs).2.1 (by rw [show k = D from e]; exact hD)), k1.narrow (fun k hk hs => ⟨hs, hk⟩) (fun k hk => k1.lo k hk.1), fun k hk => ⟨by have := (h3 k hk).1; omega, fun e => ?_, (h3 k hk).2.2⟩, fun k hk => hk.2⟩
  rcases e.1 with z | z
  · exact (h3 k hk).2.1 z
  · have := (h3 k hk).1; omega
theorem Both.read (h : Both base w B B1 B2 B3 m d D md d2) : ∃ Sp, RoAt Sp w B B1 B2 B3 m d := by
  obtain ⟨Sp, Sd, h1, _⟩ := h
  exact ⟨Sp, h1⟩
theorem Both.ref (h : Both base w B B1 B2 B3 m d D md d2) : ∃ Sd A1 A2 A3 c1 c2 c3 l2, RoOk md d2 ∧ RdIs base Sd w D A1 A2 A3 c1 c2 c3 md l2 d2 := by
  obtain ⟨Sp, Sd, _, ⟨h0, A1, A2, A3, c1, c2, c3, l2, h1⟩, _⟩ := h
  exact ⟨Sd, A1, A2, A3, c1, c2, c3, l2, h0, h1⟩
/-- A copy is changed, in blocks that neither has. -/
theorem Both.aside {b1 b2 b3 : Nat} (h : Both base w B B1 B2 B3 m d D md d2) {w1 : World} (hb : Below w.heap.size w w1) (hz : w.heap.size ≤ b1 ∧ w.heap.size ≤ b2 ∧ w.heap.size ≤ b3) (hc : But (Ch3 b1 b2 b3) w1 w') : Both base w' B B1 B2 B3 m d D md d2 := by
  obtain ⟨Sp, Sd, h1, h2, h3, h4⟩ := h
  have ht := h2.top
  have hs1 := hb.size
  have hs2 := hc.size
  have key : ∀ k, Ch3 b1 b2 b3 k → w.heap.size ≤ k := by
    rintro k (rfl | rfl | rfl)
    · exact hz.1
    · exact hz.2.1
    · exact hz.2.2
  exact ⟨Sp, Sd, (h1.below hb).but hc fun k e hs => by have := key k e; have := (h3 k hs).1; omega, (h2.below hb).but hc fun k e => ⟨fun hs => by have := key k e; have := h4 k hs; omega, by have := key k e; omega⟩, fun k hk => ⟨by have := (h3 k hk).1; omega, (h3 k hk).2⟩, fun k hk => by have := h4 k hk; omega⟩
end
/-- Both, new. -/
theorem both_new {w w1 w2 : World} {base B B1 B2 B3 D m md : Nat} (hbase : base ≤ w.heap.size) (hg : gPw < base) (hp : RoAt (fun k => w.heap.size ≤ k ∨ k = gPw) w1 B B1 B2 B3 m (Ro.new m)) (hd : RdAt base (· = D) w2 D md (Ro.new md)) (hD : w1.heap.size = D) (hb1 : w.heap.size ≤ w1.heap.size) (hb2 : Below w1.heap.size w1 w2) : Both base w2 B B1 B2 B3 m (Ro.new m) D md (Ro.new md) := by
  have h2 := hb2.size
  have h3 := hd.lt
  refine ⟨fun k => k < w1.heap.size ∧ (w.heap.size ≤ k ∨ k = gPw), (· = D), (hp.narrow fun k hk z => ⟨hk, z⟩).below hb2, hd, fun k hk => ⟨by omega, fun e => by omega, ?_⟩, fun k hk => by omega⟩
  rcases hk.2 with z | z
  · exact .inl (by omega)
  · exact .inr z
end Go.Proofs.YtilkbfmaofmjoaaGreatDoor
/-
  A step of layer 19's laws, in memory; what it makes of a roster.
-/
namespace Go.Proofs.YtilkbfmaofmjoaaGreatDoor
open Go.RowKit
set_option linter.unusedSimpArgs false
set_option linter.unusedVariables false

structure RSt where
  kind : Int
  node : Int
  text : ByteArray
  s : Rw SvW
  c : Rw CkA
  ix : Nat
structure RSt.Ok (W : World) (x : RSt) : Prop where
  node : -9223372036854775808 ≤ x.node ∧ x.node ≤ 9223372036854775807
  text : x.text.size ≤ 140737488355328
  s : SvIn W x.s
  c : CkIn x.c
  ix : x.ix < 18446744073709551616
theorem RSt.Ok.below {W W' : World} {x : RSt} (h : x.Ok W) (hb : Below W.heap.size W W') : x.Ok W' := ⟨h.node, h.text, h.s.below hb, h.c, h.ix⟩
abbrev TRs : TypeId := 35
def stC (x : RSt) : List Value := [.int .i64 x.kind, .int .i64 x.node, .string x.text, .int .i64 x.s.val.a.node, .string x.s.val.a.id, .string x.s.val.a.name, .slice x.s.val.A x.s.val.n x.s.val.c, .int .i64 x.s.val.a.port, .int .u64 (x.s.made : Int), .int .u64 (x.s.ix : Int), .int .i64 x.c.val.node, .string x.c.val.id, .string x.c.val.svc, .string x.c.val.note, .int .i64 x.c.val.status, .int .u64 (x.c.made : Int), .int .u64 (x.c.ix : Int), .int .u64 (x.ix : Int)]
def stV (x : RSt) : Value := .agg #[.int .i64 x.kind, .int .i64 x.node, .string x.text, .int .i64 x.s.val.a.node, .string x.s.val.a.id, .string x.s.val.a.name, .slice x.s.val.A x.s.val.n x.s.val.c, .int .i64 x.s.val.a.port, .int .u64 (x.s.made : Int), .int .u64 (x.s.ix : Int), .int .i64 x.c.val.node, .string x.c.val.id, .string x.c.val.svc, .string x.c.val.note, .int .i64 x.c.val.status, .int .u64 (x.c.made : Int), .int .u64 (x.c.ix : Int), .int .u64 (x.ix : Int)]
theorem stC_len (x : RSt) : (stC x).length = 18 := rfl
theorem st_cells {w : World} {b o : Nat} {x : RSt} (h : ItAt stC w b o x) : w.cell? ⟨b, o, none⟩ = some (.int .i64 x.kind) ∧ w.cell? ⟨b, o + 1, none⟩ = some (.int .i64 x.node) ∧ w.cell? ⟨b, o + 2, none⟩ = some (.string x.text) ∧ w.cell? ⟨b, o + 3, none⟩ = some (.int .i64 x.s.val.a.node) ∧ w.cell? ⟨b, o + 4, none⟩ = some (.string x.s.val.a.id) ∧ w.cell? ⟨b, o + 5, none⟩ = some (.string x.s.val.a.name) ∧ w.cell? ⟨b, o + 6, none⟩ = some (.slice x.s.val.A x.s.val.n x.s.val.c) ∧ w.cell? ⟨b, o + 7, none⟩ = some (.int .i64 x.s.val.a.port) ∧ w.cell? ⟨b, o + 8, none⟩ = some (.int .u64 (x.s.made : Int)) ∧ w.cell? ⟨b, o + 9, none⟩ = some (.int .u64 (x.s.ix : Int)) ∧ w.cell? ⟨b, o + 10, none⟩ = some (.int .i64 x.c.val.node) ∧ w.cell? ⟨b, o + 11, none⟩ = some (.string x.c.val.id) ∧ w.cell? ⟨b, o + 12, none⟩ = some (.string x.c.val.svc) ∧ w.cell? ⟨b, o + 13, none⟩ = some (.string x.c.val.note) ∧ w.cell? ⟨b, o + 14, none⟩ = some (.int .i64 x.c.val.status) ∧ w.cell? ⟨b, o + 15, none⟩ = some (.int .u64 (x.c.made : Int)) ∧ w.cell? ⟨b, o + 16, none⟩ = some (.int .u64 (x.c.ix : Int)) ∧ w.cell? ⟨b, o + 17, none⟩ = some (.int .u64 (x.ix : Int)) :=
  ⟨h 0 _ rfl, h 1 _ rfl, h 2 _ rfl, h 3 _ rfl, h 4 _ rfl, h 5 _ rfl, h 6 _ rfl, h 7 _ rfl, h 8 _ rfl, h 9 _ rfl, h 10 _ rfl, h 11 _ rfl, h 12 _ rfl, h 13 _ rfl, h 14 _ rfl, h 15 _ rfl, h 16 _ rfl, h 17 _ rfl⟩
theorem st_blk {w : World} {b : Nat} {x : RSt} {t : TypeId} (h : w.heap[b]? = some (.cells #[.int .i64 x.kind, .int .i64 x.node, .string x.text, .int .i64 x.s.val.a.node, .string x.s.val.a.id, .string x.s.val.a.name, .slice x.s.val.A x.s.val.n x.s.val.c, .int .i64 x.s.val.a.port, .int .u64 (x.s.made : Int), .int .u64 (x.s.ix : Int), .int .i64 x.c.val.node, .string x.c.val.id, .string x.c.val.svc, .string x.c.val.note, .int .i64 x.c.val.status, .int .u64 (x.c.made : Int), .int .u64 (x.c.ix : Int), .int .u64 (x.ix : Int)] t (0, 0))) : w.cell? ⟨b, 0, none⟩ = some (.int .i64 x.kind) ∧ w.cell? ⟨b, 1, none⟩ = some (.int .i64 x.node) ∧ w.cell? ⟨b, 2, none⟩ = some (.string x.text) ∧ w.cell? ⟨b, 3, none⟩ = some (.int .i64 x.s.val.a.node) ∧ w.cell? ⟨b, 4, none⟩ = some (.string x.s.val.a.id) ∧ w.cell? ⟨b, 5, none⟩ = some (.string x.s.val.a.name) ∧ w.cell? ⟨b, 6, none⟩ = some (.slice x.s.val.A x.s.val.n x.s.val.c) ∧ w.cell? ⟨b, 7, none⟩ = some (.int .i64 x.s.val.a.port) ∧ w.cell? ⟨b, 8, none⟩ = some (.int .u64 (x.s.made : Int)) ∧ w.cell? ⟨b, 9, none⟩ = some (.int .u64 (x.s.ix : Int)) ∧ w.cell? ⟨b, 10, none⟩ = some (.int .i64 x.c.val.node) ∧ w.cell? ⟨b, 11, none⟩ = some (.string x.c.val.id) ∧ w.cell? ⟨b, 12, none⟩ = some (.string x.c.val.svc) ∧ w.cell? ⟨b, 13, none⟩ = some (.string x.c.val.note) ∧ w.cell? ⟨b, 14, none⟩ = some (.int .i64 x.c.val.status) ∧ w.cell? ⟨b, 15, none⟩ = some (.int .u64 (x.c.made : Int)) ∧ w.cell? ⟨b, 16, none⟩ = some (.int .u64 (x.c.ix : Int)) ∧ w.cell? ⟨b, 17, none⟩ = some (.int .u64 (x.ix : Int)) :=
  ⟨cellsN h 0 _ rfl, cellsN h 1 _ rfl, cellsN h 2 _ rfl, cellsN h 3 _ rfl, cellsN h 4 _ rfl, cellsN h 5 _ rfl, cellsN h 6 _ rfl, cellsN h 7 _ rfl, cellsN h 8 _ rfl, cellsN h 9 _ rfl, cellsN h 10 _ rfl, cellsN h 11 _ rfl, cellsN h 12 _ rfl, cellsN h 13 _ rfl, cellsN h 14 _ rfl, cellsN h 15 _ rfl, cellsN h 16 _ rfl, cellsN h 17 _ rfl⟩
/-- What a step makes of a roster. -/
def RSt.after (x : RSt) (d : Ro) : Nat × Ro :=
  if x.kind = 0 then d.node ⟨x.node, x.text⟩ x.ix else if x.kind = 1 then d.dropN x.node x.ix else if x.kind = 2 then d.service x.s.val.a x.ix else if x.kind = 3 then d.dropS x.node x.text x.ix
  else if x.kind = 4 then d.check x.c.val x.ix else if x.kind = 5 then d.dropC x.node x.text x.ix else (0, d)
theorem RSt.after_ok {m : Nat} {d : Ro} (x : RSt) (h : RoOk m d) (hi : x.ix < 18446744073709551616) : RoOk m (x.after d).2 := by
  unfold RSt.after
  split
  · exact h.node hi
  · split
    · exact h.dropN hi
    · split
      · exact h.service hi
      · split
        · exact h.dropS hi
        · split
          · exact h.check hi
          · split
            · exact h.dropC hi
            · exact h
end Go.Proofs.YtilkbfmaofmjoaaGreatDoor
/-
  A region that turns both rosters (layer 19).
-/
namespace Go.Proofs.YtilkbfmaofmjoaaGreatDoor
open Go.RowKit Go.Rel
set_option linter.unusedSimpArgs false
set_option linter.unusedVariables false

/-- Within a region that turns both: j1 is the program's call, j2 the document's; X holds the step, the tags of its service lie before base; they tell v1, v2. -/
structure StR (base X : Nat) (x : RSt) (cs : Array Value) (j1 j2 B B1 B2 B3 m D md : Nat) (d d' d2 d2' : Ro) (v1 v2 : Value) (f : Nat → Bool) (e : Nat → Value) (w : World) : Prop where
  both : Both base w B B1 B2 B3 m (if f j1 then d' else d) D md (if f j2 then d2' else d2)
  blk : w.heap[X]? = some (.cells cs TRs (0, 0))
  out : ¬ Ch4 B1 B2 B3 D X
  tg : TgAt (fun k => k < base) w x.s.val
  k1 : f j1 = true → e j1 = v1
  k2 : f j2 = true → e j2 = v2
section
variable {base X : Nat} {x : RSt} {cs : Array Value} {j1 j2 B B1 B2 B3 m D md : Nat} {d d' d2 d2' : Ro} {v1 v2 : Value} {f : Nat → Bool} {e e' : Nat → Value} {w w' : World} {v : Value} {ops : Array Oper}
theorem StR.start (h : Both base w B B1 B2 B3 m d D md d2) (hx : w.heap[X]? = some (.cells cs TRs (0, 0))) (ho : ¬ Ch4 B1 B2 B3 D X) (ht : TgAt (fun k => k < base) w x.s.val) (e : Nat → Value) : StR base X x cs j1 j2 B B1 B2 B3 m D md d d' d2 d2' v1 v2 (fun _ => false) e { w with drawn := w.drawn + 1 } :=
  ⟨h.below ⟨rfl, rfl, rfl, Nat.le_refl _, fun _ _ => rfl⟩, hx, ho, ht.below ⟨rfl, rfl, rfl, Nat.le_refl _, fun _ _ => rfl⟩, (fun z => by cases z), (fun z => by cases z)⟩
theorem StR.keep {j : Nat} (hj : [j1, j2].contains j = false) (h : StR base X x cs j1 j2 B B1 B2 B3 m D md d d' d2 d2' v1 v2 f e w) (hp : Go.Rel.Put ops j e v e') : StR base X x cs j1 j2 B B1 B2 B3 m D md d d' d2 d2' v1 v2 (Go.Rel.upd f j) e' w := by
  simp only [List.contains_cons, List.contains_nil, Bool.or_false, Bool.or_eq_false_iff, beq_eq_false_iff_ne] at hj
  have e1 := hp.1 j1 (Ne.symm hj.1)
  have e2 := hp.1 j2 (Ne.symm hj.2)
  refine ⟨?_, h.blk, h.out, h.tg, ?_, ?_⟩
  · rw [ale_off hj.1, ale_off hj.2]; exact h.both
  · rw [ale_off hj.1, e1]; exact h.k1
  · rw [ale_off hj.2, e2]; exact h.k2
theorem StR.left (h : StR base X x cs j1 j2 B B1 B2 B3 m D md d d' d2 d2' v1 v2 f e w) (hj : j1 ≠ j2) (hf : f j1 = false) {fn : Nat} {args : Array Value}
    (C : ∀ S, RoAt S w B B1 B2 B3 m d → TgAt (fun k => k < base) w x.s.val → Calls Tryz.prog fn args w fun r w' => r = .returned v1 ∧ RoAt (fun k => S k ∨ w.heap.size ≤ k) w' B B1 B2 B3 m d' ∧ But (Ch3 B1 B2 B3) w w') :
    Calls Tryz.prog fn args w fun r w' => ∃ v, r = .returned v ∧ (∀ e', (∀ m, m ≠ j1 → e' m = e m) → e' j1 = v → StR base X x cs j1 j2 B B1 B2 B3 m D md d d' d2 d2' v1 v2 (Go.Rel.upd f j1) e' w') ∧ But (Ch4 B1 B2 B3 D) w w' := by
  have hb := h.both
  rw [hf] at hb
  have hch := hb.ch
  obtain ⟨Sp, k1, k4⟩ := hb.left
  refine (C Sp k1 h.tg).mono ?_
  rintro r w' ⟨rfl, q1, q2⟩
  have g2 : But (Ch4 B1 B2 B3 D) w w' := q2.mono fun k z => .inl z
  refine ⟨_, rfl, fun e' he hv => ⟨?_, (g2.block X (block_lt h.blk) h.out).trans h.blk, h.out, h.tg.but g2 (fun k z q => by have := hch k z; omega), fun _ => hv, fun z => ?_⟩, g2⟩
  · rw [ale_on, ale_off hj]
    exact k4 w' d' q1 q2
  · rw [ale_off hj] at z
    rw [he j2 (Ne.symm hj)]
    exact h.k2 z
theorem StR.right (h : StR base X x cs j1 j2 B B1 B2 B3 m D md d d' d2 d2' v1 v2 f e w) (hj : j2 ≠ j1) (hf : f j2 = false) {fn : Nat} {args : Array Value}
    (C : ∀ S, RdAt base S w D md d2 → TgAt (fun k => k < base) w x.s.val → Calls Tryz.prog fn args w fun r w' => r = .returned v2 ∧ RdAt base (fun k => S k ∨ w.heap.size ≤ k) w' D md d2' ∧ But (· = D) w w') :
    Calls Tryz.prog fn args w fun r w' => ∃ v, r = .returned v ∧ (∀ e', (∀ m, m ≠ j2 → e' m = e m) → e' j2 = v → StR base X x cs j1 j2 B B1 B2 B3 m D md d d' d2 d2' v1 v2 (Go.Rel.upd f j2) e' w') ∧ But (Ch4 B1 B2 B3 D) w w' := by
  have hb := h.both
  rw [hf] at hb
  have hch := hb.ch
  obtain ⟨Sd, k1, k4⟩ := hb.right
  refine (C Sd k1 h.tg).mono ?_
  rintro r w' ⟨rfl, q1, q2⟩
  have g2 : But (Ch4 B1 B2 B3 D) w w' := q2.mono fun k z => .inr z
  refine ⟨_, rfl, fun e' he hv => ⟨?_, (g2.block X (block_lt h.blk) h.out).trans h.blk, h.out, h.tg.but g2 (fun k z q => by have := hch k z; omega), fun z => ?_, fun _ => hv⟩, g2⟩
  · rw [ale_on, ale_off hj]
    exact k4 w' d2' q1 q2
  · rw [ale_off hj] at z
    rw [he j1 (Ne.symm hj)]
    exact h.k1 z
end
/-- What a step makes of both. -/
def StepPost (base : Nat) (w : World) (B B1 B2 B3 m : Nat) (d' : Ro) (D md : Nat) (d2' : Ro) (P : Prop) (e : Ending) (w' : World) : Prop :=
  ∃ b, e = .returned (.bool b) ∧ Both base w' B B1 B2 B3 m d' D md d2' ∧ But (Ch4 B1 B2 B3 D) w w' ∧ (P → b = true)
end Go.Proofs.YtilkbfmaofmjoaaGreatDoor
/-
  The law's step: its six calls, walked (layer 19).
-/
namespace Go.Proofs.YtilkbfmaofmjoaaGreatDoor
open Go.RowKit Go.Rel
set_option linter.unusedSimpArgs false
set_option linter.unusedVariables false

def rst0 (B : Nat) (D : Nat) (X : Nat) (x : RSt) (bq : Bool) : Nat → Value
  | 0 => .pointer (some ⟨B, 0, none⟩)
  | 1 | 9 => .pointer (some ⟨X, 1, none⟩)
  | 2 | 10 => .int .i64 x.node
  | 3 | 11 => .pointer (some ⟨X, 2, none⟩)
  | 4 | 12 => .string x.text
  | 5 | 13 => .pointer (some ⟨X, 17, none⟩)
  | 6 | 14 => .int .u64 (x.ix : Int)
  | 8 => .pointer (some ⟨D, 0, none⟩)
  | 16 | 17 => .bool bq
  | _ => undef
set_option maxHeartbeats 4000000 in
set_option maxRecDepth 100000 in
theorem step0_any {base : Nat} {w : World} {B B1 B2 B3 m D md : Nat} {d d2 : Ro} (x : RSt) (h : Both base w B B1 B2 B3 m d D md d2) (hx : x.Ok w) (ht : TgAt (fun k => k < base) w x.s.val) (hk : x.kind = 0) : Calls Tryz.prog 11 #[.pointer (some ⟨B, 0, none⟩), .pointer (some ⟨D, 0, none⟩), stV x] w fun e w' => StepPost base w B B1 B2 B3 m (x.after d).2 D md (x.after d2).2 ((x.after d).1 = (x.after d2).1) e w' := by
  have ha1 : x.after d = d.node ⟨x.node, x.text⟩ x.ix := by unfold RSt.after; simp only [hk]; rfl
  have ha2 : x.after d2 = d2.node ⟨x.node, x.text⟩ x.ix := by unfold RSt.after; simp only [hk]; rfl
  rw [ha1, ha2]
  obtain ⟨⟨er1, d'⟩, he1⟩ : ∃ r, d.node ⟨x.node, x.text⟩ x.ix = r := ⟨_, rfl⟩
  obtain ⟨⟨er2, d2'⟩, he2⟩ : ∃ r, d2.node ⟨x.node, x.text⟩ x.ix = r := ⟨_, rfl⟩
  rw [he1, he2]
  have HE1 := Lib.hid he1
  have HE2 := Lib.hid he2
  have HOk := Lib.hid hx
  have HSi := Lib.hid (fun (W : World) (ht : TgAt (fun k => k < base) W x.s.val) => (⟨hx.s.node, hx.s.port, hx.s.id, hx.s.name, ht.tx, hx.s.small⟩ : SvIn W x.s))
  have b0 := below1 w #[.int .i64 x.kind, .int .i64 x.node, .string x.text, .int .i64 x.s.val.a.node, .string x.s.val.a.id, .string x.s.val.a.name, .slice x.s.val.A x.s.val.n x.s.val.c, .int .i64 x.s.val.a.port, .int .u64 (x.s.made : Int), .int .u64 (x.s.ix : Int), .int .i64 x.c.val.node, .string x.c.val.id, .string x.c.val.svc, .string x.c.val.note, .int .i64 x.c.val.status, .int .u64 (x.c.made : Int), .int .u64 (x.c.ix : Int), .int .u64 (x.ix : Int)] TRs
  have k0 := heap_alloc_new w (.cells #[.int .i64 x.kind, .int .i64 x.node, .string x.text, .int .i64 x.s.val.a.node, .string x.s.val.a.id, .string x.s.val.a.name, .slice x.s.val.A x.s.val.n x.s.val.c, .int .i64 x.s.val.a.port, .int .u64 (x.s.made : Int), .int .u64 (x.s.ix : Int), .int .i64 x.c.val.node, .string x.c.val.id, .string x.c.val.svc, .string x.c.val.note, .int .i64 x.c.val.status, .int .u64 (x.c.made : Int), .int .u64 (x.c.ix : Int), .int .u64 (x.ix : Int)] TRs)
  obtain ⟨X, hX⟩ : ∃ X, w.heap.size = X := ⟨_, rfl⟩
  obtain ⟨W1, hW1⟩ : ∃ W1, w.alloc (.cells #[.int .i64 x.kind, .int .i64 x.node, .string x.text, .int .i64 x.s.val.a.node, .string x.s.val.a.id, .string x.s.val.a.name, .slice x.s.val.A x.s.val.n x.s.val.c, .int .i64 x.s.val.a.port, .int .u64 (x.s.made : Int), .int .u64 (x.s.ix : Int), .int .i64 x.c.val.node, .string x.c.val.id, .string x.c.val.svc, .string x.c.val.note, .int .i64 x.c.val.status, .int .u64 (x.c.made : Int), .int .u64 (x.c.ix : Int), .int .u64 (x.ix : Int)] TRs) = W1 := ⟨_, rfl⟩
  rw [hW1] at b0 k0
  rw [hX] at k0
  have HBo := Lib.hid (h.below b0)
  have HOut : Hid (¬ Ch4 B1 B2 B3 D X) := Lib.hid (by
    have := h.lt
    rintro ((z | z | z) | z) <;> omega)
  have HTg := Lib.hid (ht.below b0)
  have HB0 := Lib.hid b0
  have HK1 := Lib.hid k0
  have HW1 := Lib.hid hW1
  have HX := Lib.hid hX
  obtain ⟨bq, hbq⟩ : ∃ bq, ((er1 : Int) == (er2 : Int)) = bq := ⟨_, rfl⟩
  have HBq := Lib.hid hbq
  have HBq2 : Hid (er1 = er2 → bq = true) := Lib.hid (fun e => by rw [← hbq, e]; simp)
  have HCp : Hid (∀ (f : Nat → Bool) (e : Nat → Value) (w' : World), StR base X x #[.int .i64 x.kind, .int .i64 x.node, .string x.text, .int .i64 x.s.val.a.node, .string x.s.val.a.id, .string x.s.val.a.name, .slice x.s.val.A x.s.val.n x.s.val.c, .int .i64 x.s.val.a.port, .int .u64 (x.s.made : Int), .int .u64 (x.s.ix : Int), .int .i64 x.c.val.node, .string x.c.val.id, .string x.c.val.svc, .string x.c.val.note, .int .i64 x.c.val.status, .int .u64 (x.c.made : Int), .int .u64 (x.c.ix : Int), .int .u64 (x.ix : Int)] 7 15 B B1 B2 B3 m D md d d' d2 d2' (.int .i64 (er1 : Int)) (.int .i64 (er2 : Int)) f e w' → f 7 = false → Calls Tryz.prog 28 #[.pointer (some ⟨B, 0, none⟩), .int .i64 x.node, .string x.text, .int .u64 (x.ix : Int)] w' fun r w2 => ∃ v, r = .returned v ∧ (∀ e', (∀ m, m ≠ 7 → e' m = e m) → e' 7 = v → StR base X x #[.int .i64 x.kind, .int .i64 x.node, .string x.text, .int .i64 x.s.val.a.node, .string x.s.val.a.id, .string x.s.val.a.name, .slice x.s.val.A x.s.val.n x.s.val.c, .int .i64 x.s.val.a.port, .int .u64 (x.s.made : Int), .int .u64 (x.s.ix : Int), .int .i64 x.c.val.node, .string x.c.val.id, .string x.c.val.svc, .string x.c.val.note, .int .i64 x.c.val.status, .int .u64 (x.c.made : Int), .int .u64 (x.c.ix : Int), .int .u64 (x.ix : Int)] 7 15 B B1 B2 B3 m D md d d' d2 d2' (.int .i64 (er1 : Int)) (.int .i64 (er2 : Int)) (Go.Rel.upd f 7) e' w2) ∧ But (Ch4 B1 B2 B3 D) w' w2) := Lib.hid fun f e w' hI hf =>
    hI.left (by decide) hf fun S h ht => by
      have h9 := rnode_any x.node x.text x.ix h HOk.out.node (Nat.le_trans HOk.out.text (by decide)) HOk.out.ix
      rw [show d.node ⟨x.node, x.text⟩ x.ix = (er1, d') from HE1.out] at h9
      exact h9
  have HCd : Hid (∀ (f : Nat → Bool) (e : Nat → Value) (w' : World), StR base X x #[.int .i64 x.kind, .int .i64 x.node, .string x.text, .int .i64 x.s.val.a.node, .string x.s.val.a.id, .string x.s.val.a.name, .slice x.s.val.A x.s.val.n x.s.val.c, .int .i64 x.s.val.a.port, .int .u64 (x.s.made : Int), .int .u64 (x.s.ix : Int), .int .i64 x.c.val.node, .string x.c.val.id, .string x.c.val.svc, .string x.c.val.note, .int .i64 x.c.val.status, .int .u64 (x.c.made : Int), .int .u64 (x.c.ix : Int), .int .u64 (x.ix : Int)] 7 15 B B1 B2 B3 m D md d d' d2 d2' (.int .i64 (er1 : Int)) (.int .i64 (er2 : Int)) f e w' → f 15 = false → Calls Tryz.prog 36 #[.pointer (some ⟨D, 0, none⟩), .int .i64 x.node, .string x.text, .int .u64 (x.ix : Int)] w' fun r w2 => ∃ v, r = .returned v ∧ (∀ e', (∀ m, m ≠ 15 → e' m = e m) → e' 15 = v → StR base X x #[.int .i64 x.kind, .int .i64 x.node, .string x.text, .int .i64 x.s.val.a.node, .string x.s.val.a.id, .string x.s.val.a.name, .slice x.s.val.A x.s.val.n x.s.val.c, .int .i64 x.s.val.a.port, .int .u64 (x.s.made : Int), .int .u64 (x.s.ix : Int), .int .i64 x.c.val.node, .string x.c.val.id, .string x.c.val.svc, .string x.c.val.note, .int .i64 x.c.val.status, .int .u64 (x.c.made : Int), .int .u64 (x.c.ix : Int), .int .u64 (x.ix : Int)] 7 15 B B1 B2 B3 m D md d d' d2 d2' (.int .i64 (er1 : Int)) (.int .i64 (er2 : Int)) (Go.Rel.upd f 15) e' w2) ∧ But (Ch4 B1 B2 B3 D) w' w2) := Lib.hid fun f e w' hI hf =>
    hI.right (by decide) hf fun S h ht => by
      have h9 := rdnode_any x.node x.text x.ix h (Nat.le_trans HOk.out.text (by decide)) HOk.out.ix
      rw [show d2.node ⟨x.node, x.text⟩ x.ix = (er2, d2') from HE2.out] at h9
      exact h9
  unfold stV
  rw [hk]
  have HKd := Lib.hid hk
  clear h hx ht ha1 ha2 he1 he2 b0 k0 hW1 hX hbq hk
  go_enter Tryz.func11, Tryz.ntmps11
  go_wp2_with fail
  rw [← HKd.out]
  rw [HW1.out, HX.out]
  have hre : ∀ w : World, (But (Ch4 B1 B2 B3 D)) w w := (fun w => But.refl _ w)
  have hrd : ∀ (ops9 : Array Oper) (f9 : Nat → Bool) (e9 : Nat → Value) (w9 : World) (i9 : Nat) (v9 : Value) (e8 : Nat → Value), [7, 15].contains i9 = false → (fun (f : Nat → Bool) (e : Nat → Value) (w : World) => StR base X x #[.int .i64 x.kind, .int .i64 x.node, .string x.text, .int .i64 x.s.val.a.node, .string x.s.val.a.id, .string x.s.val.a.name, .slice x.s.val.A x.s.val.n x.s.val.c, .int .i64 x.s.val.a.port, .int .u64 (x.s.made : Int), .int .u64 (x.s.ix : Int), .int .i64 x.c.val.node, .string x.c.val.id, .string x.c.val.svc, .string x.c.val.note, .int .i64 x.c.val.status, .int .u64 (x.c.made : Int), .int .u64 (x.c.ix : Int), .int .u64 (x.ix : Int)] 7 15 B B1 B2 B3 m D md d d' d2 d2' (.int .i64 (er1 : Int)) (.int .i64 (er2 : Int)) f e w) f9 e9 w9 → Go.Rel.Put ops9 i9 e9 v9 e8 → (fun (f : Nat → Bool) (e : Nat → Value) (w : World) => StR base X x #[.int .i64 x.kind, .int .i64 x.node, .string x.text, .int .i64 x.s.val.a.node, .string x.s.val.a.id, .string x.s.val.a.name, .slice x.s.val.A x.s.val.n x.s.val.c, .int .i64 x.s.val.a.port, .int .u64 (x.s.made : Int), .int .u64 (x.s.ix : Int), .int .i64 x.c.val.node, .string x.c.val.id, .string x.c.val.svc, .string x.c.val.note, .int .i64 x.c.val.status, .int .u64 (x.c.made : Int), .int .u64 (x.c.ix : Int), .int .u64 (x.ix : Int)] 7 15 B B1 B2 B3 m D md d d' d2 d2' (.int .i64 (er1 : Int)) (.int .i64 (er2 : Int)) f e w) (Go.Rel.upd f9 i9) e8 w9 := (fun _ _ _ _ _ _ _ hj h hp => StR.keep hj h hp)
  refine Go.Rel.wp_tabe (by kernel_rfl) (by kernel_rfl) (fun (f : Nat → Bool) (e : Nat → Value) (w : World) => StR base X x #[.int .i64 x.kind, .int .i64 x.node, .string x.text, .int .i64 x.s.val.a.node, .string x.s.val.a.id, .string x.s.val.a.name, .slice x.s.val.A x.s.val.n x.s.val.c, .int .i64 x.s.val.a.port, .int .u64 (x.s.made : Int), .int .u64 (x.s.ix : Int), .int .i64 x.c.val.node, .string x.c.val.id, .string x.c.val.svc, .string x.c.val.note, .int .i64 x.c.val.status, .int .u64 (x.c.made : Int), .int .u64 (x.c.ix : Int), .int .u64 (x.ix : Int)] 7 15 B B1 B2 B3 m D md d d' d2 d2' (.int .i64 (er1 : Int)) (.int .i64 (er2 : Int)) f e w) (But (Ch4 B1 B2 B3 D)) hre ((fun _ _ _ h k => h.trans k)) ((But.refl _ _).drew) (fun e => StR.start HBo.out HK1.out HOut.out HTg.out e) (rst0 B D X x bq) (fun | 7, v, w => True | 15, v, w => True | _, _, _ => True) (fun i => ([7, 15] : List Nat).contains i) (fun i => ([2, 4, 6, 7, 10, 12, 14, 15, 16] : List Nat).contains i) (by kernel_rfl) (fun i v w w' h g => by revert h; split <;> exact id) [7, 15] (by decide) (hrd _) ?_ (Go.Rel.AllOf.get ?_) ?_
  · repeat (refine .cons (by first | exact Go.Rel.pure_sp rfl | exact Go.Rel.pure_yes (by kernel_rfl) (fun _ => by kernel_rfl) | exact Go.Rel.pure_no (by kernel_rfl) rfl) ?_)
    exact .nil
  · refine ⟨?_, ?_, ?_, ?_, ?_, ?_, ?_, ?_, ?_, trivial⟩
    · exact SpecE.ld (hrd _) hre (q := .pointer (some ⟨X, 1, none⟩)) (h := fun _ w' _ hI _ _ _ _ => by obtain ⟨y0, y1, y2, y3, y4, y5, y6, y7, y8, y9, y10, y11, y12, y13, y14, y15, y16, y17⟩ := st_blk (x := x) hI.blk; go_simp; rfl)
    · exact SpecE.ld (hrd _) hre (q := .pointer (some ⟨X, 2, none⟩)) (h := fun _ w' _ hI _ _ _ _ => by obtain ⟨y0, y1, y2, y3, y4, y5, y6, y7, y8, y9, y10, y11, y12, y13, y14, y15, y16, y17⟩ := st_blk (x := x) hI.blk; go_simp; rfl)
    · exact SpecE.ld (hrd _) hre (q := .pointer (some ⟨X, 17, none⟩)) (h := fun _ w' _ hI _ _ _ _ => by obtain ⟨y0, y1, y2, y3, y4, y5, y6, y7, y8, y9, y10, y11, y12, y13, y14, y15, y16, y17⟩ := st_blk (x := x) hI.blk; go_simp; rfl)
    · refine SpecE.gen (fun e => [(12, .pointer (some ⟨B, 0, none⟩)), (14, .int .i64 x.node), (16, .string x.text), (18, .int .u64 (x.ix : Int))]) rfl rfl (fun _ => by kernel_rfl) fun f w' e hI hf hdesc hanc hle hX K hK => ?_
      go_simp
      refine (HCp.out f e w' hI hf).mono ?_
      rintro e9 w9 ⟨v9, rfl, h9, hb9⟩
      exact hK _ _ hb9 (fun e' hp => h9 e' (fun m hm => hp.1 m hm) (hp.2 rfl)) trivial
    · exact SpecE.ld (hrd _) hre (q := .pointer (some ⟨X, 1, none⟩)) (h := fun _ w' _ hI _ _ _ _ => by obtain ⟨y0, y1, y2, y3, y4, y5, y6, y7, y8, y9, y10, y11, y12, y13, y14, y15, y16, y17⟩ := st_blk (x := x) hI.blk; go_simp; rfl)
    · exact SpecE.ld (hrd _) hre (q := .pointer (some ⟨X, 2, none⟩)) (h := fun _ w' _ hI _ _ _ _ => by obtain ⟨y0, y1, y2, y3, y4, y5, y6, y7, y8, y9, y10, y11, y12, y13, y14, y15, y16, y17⟩ := st_blk (x := x) hI.blk; go_simp; rfl)
    · exact SpecE.ld (hrd _) hre (q := .pointer (some ⟨X, 17, none⟩)) (h := fun _ w' _ hI _ _ _ _ => by obtain ⟨y0, y1, y2, y3, y4, y5, y6, y7, y8, y9, y10, y11, y12, y13, y14, y15, y16, y17⟩ := st_blk (x := x) hI.blk; go_simp; rfl)
    · refine SpecE.gen (fun e => [(20, .pointer (some ⟨D, 0, none⟩)), (22, .int .i64 x.node), (24, .string x.text), (26, .int .u64 (x.ix : Int))]) rfl rfl (fun _ => by kernel_rfl) fun f w' e hI hf hdesc hanc hle hX K hK => ?_
      go_simp
      refine (HCd.out f e w' hI hf).mono ?_
      rintro e9 w9 ⟨v9, rfl, h9, hb9⟩
      exact hK _ _ hb9 (fun e' hp => h9 e' (fun m hm => hp.1 m hm) (hp.2 rfl)) trivial
    · refine SpecE.gen (fun e => [(19, e 7), (27, e 15)]) rfl rfl (fun _ => by kernel_rfl) fun f w' e hI hf hdesc hanc hle hX K hK => ?_
      have q1 := hI.k1 (hanc 60 7 (by kernel_rfl))
      have q2 := hI.k2 (hanc 60 15 (by kernel_rfl))
      have qq := HBq.out
      simp only [q1, q2]
      go_simp
      exact hK _ _ (hre _) (fun e' hp => hrd _ f e w' 16 _ e' rfl hI hp) rfl
  · intro f w2 e hall hJ hle hv
    have hb2 := hJ.both
    rw [hall 7 (by decide), hall 15 (by decide)] at hb2
    have HB2 := Lib.hid hb2
    have HL2 := Lib.hid hle
    have v9 := hv 17 rfl
    simp only [Go.Rel.finL, List.setIfInBounds_toArray, List.set_cons_succ, List.set_cons_zero]
    rw [show e 17 = .bool bq from v9]
    clear hv hall hJ hle hb2 v9
    go_wp2
    go_ret
    exact ⟨bq, rfl, HB2.out, (But.of_below HB0.out).trans HL2.out, HBq2.out⟩
def rst1 (B : Nat) (D : Nat) (X : Nat) (x : RSt) (bq : Bool) : Nat → Value
  | 0 => .pointer (some ⟨B, 0, none⟩)
  | 1 | 7 => .pointer (some ⟨X, 1, none⟩)
  | 2 | 8 => .int .i64 x.node
  | 3 | 9 => .pointer (some ⟨X, 17, none⟩)
  | 4 | 10 => .int .u64 (x.ix : Int)
  | 6 => .pointer (some ⟨D, 0, none⟩)
  | 12 | 13 => .bool bq
  | _ => undef
set_option maxHeartbeats 4000000 in
set_option maxRecDepth 100000 in
theorem step1_any {base : Nat} {w : World} {B B1 B2 B3 m D md : Nat} {d d2 : Ro} (x : RSt) (h : Both base w B B1 B2 B3 m d D md d2) (hx : x.Ok w) (ht : TgAt (fun k => k < base) w x.s.val) (hk : x.kind = 1) : Calls Tryz.prog 11 #[.pointer (some ⟨B, 0, none⟩), .pointer (some ⟨D, 0, none⟩), stV x] w fun e w' => StepPost base w B B1 B2 B3 m (x.after d).2 D md (x.after d2).2 ((x.after d).1 = (x.after d2).1) e w' := by
  have ha1 : x.after d = d.dropN x.node x.ix := by unfold RSt.after; simp only [hk]; rfl
  have ha2 : x.after d2 = d2.dropN x.node x.ix := by unfold RSt.after; simp only [hk]; rfl
  rw [ha1, ha2]
  obtain ⟨⟨er1, d'⟩, he1⟩ : ∃ r, d.dropN x.node x.ix = r := ⟨_, rfl⟩
  obtain ⟨⟨er2, d2'⟩, he2⟩ : ∃ r, d2.dropN x.node x.ix = r := ⟨_, rfl⟩
  rw [he1, he2]
  have HE1 := Lib.hid he1
  have HE2 := Lib.hid he2
  have HOk := Lib.hid hx
  have HSi := Lib.hid (fun (W : World) (ht : TgAt (fun k => k < base) W x.s.val) => (⟨hx.s.node, hx.s.port, hx.s.id, hx.s.name, ht.tx, hx.s.small⟩ : SvIn W x.s))
  have b0 := below1 w #[.int .i64 x.kind, .int .i64 x.node, .string x.text, .int .i64 x.s.val.a.node, .string x.s.val.a.id, .string x.s.val.a.name, .slice x.s.val.A x.s.val.n x.s.val.c, .int .i64 x.s.val.a.port, .int .u64 (x.s.made : Int), .int .u64 (x.s.ix : Int), .int .i64 x.c.val.node, .string x.c.val.id, .string x.c.val.svc, .string x.c.val.note, .int .i64 x.c.val.status, .int .u64 (x.c.made : Int), .int .u64 (x.c.ix : Int), .int .u64 (x.ix : Int)] TRs
  have k0 := heap_alloc_new w (.cells #[.int .i64 x.kind, .int .i64 x.node, .string x.text, .int .i64 x.s.val.a.node, .string x.s.val.a.id, .string x.s.val.a.name, .slice x.s.val.A x.s.val.n x.s.val.c, .int .i64 x.s.val.a.port, .int .u64 (x.s.made : Int), .int .u64 (x.s.ix : Int), .int .i64 x.c.val.node, .string x.c.val.id, .string x.c.val.svc, .string x.c.val.note, .int .i64 x.c.val.status, .int .u64 (x.c.made : Int), .int .u64 (x.c.ix : Int), .int .u64 (x.ix : Int)] TRs)
  obtain ⟨X, hX⟩ : ∃ X, w.heap.size = X := ⟨_, rfl⟩
  obtain ⟨W1, hW1⟩ : ∃ W1, w.alloc (.cells #[.int .i64 x.kind, .int .i64 x.node, .string x.text, .int .i64 x.s.val.a.node, .string x.s.val.a.id, .string x.s.val.a.name, .slice x.s.val.A x.s.val.n x.s.val.c, .int .i64 x.s.val.a.port, .int .u64 (x.s.made : Int), .int .u64 (x.s.ix : Int), .int .i64 x.c.val.node, .string x.c.val.id, .string x.c.val.svc, .string x.c.val.note, .int .i64 x.c.val.status, .int .u64 (x.c.made : Int), .int .u64 (x.c.ix : Int), .int .u64 (x.ix : Int)] TRs) = W1 := ⟨_, rfl⟩
  rw [hW1] at b0 k0
  rw [hX] at k0
  have HBo := Lib.hid (h.below b0)
  have HOut : Hid (¬ Ch4 B1 B2 B3 D X) := Lib.hid (by
    have := h.lt
    rintro ((z | z | z) | z) <;> omega)
  have HTg := Lib.hid (ht.below b0)
  have HB0 := Lib.hid b0
  have HK1 := Lib.hid k0
  have HW1 := Lib.hid hW1
  have HX := Lib.hid hX
  obtain ⟨bq, hbq⟩ : ∃ bq, ((er1 : Int) == (er2 : Int)) = bq := ⟨_, rfl⟩
  have HBq := Lib.hid hbq
  have HBq2 : Hid (er1 = er2 → bq = true) := Lib.hid (fun e => by rw [← hbq, e]; simp)
  have HCp : Hid (∀ (f : Nat → Bool) (e : Nat → Value) (w' : World), StR base X x #[.int .i64 x.kind, .int .i64 x.node, .string x.text, .int .i64 x.s.val.a.node, .string x.s.val.a.id, .string x.s.val.a.name, .slice x.s.val.A x.s.val.n x.s.val.c, .int .i64 x.s.val.a.port, .int .u64 (x.s.made : Int), .int .u64 (x.s.ix : Int), .int .i64 x.c.val.node, .string x.c.val.id, .string x.c.val.svc, .string x.c.val.note, .int .i64 x.c.val.status, .int .u64 (x.c.made : Int), .int .u64 (x.c.ix : Int), .int .u64 (x.ix : Int)] 5 11 B B1 B2 B3 m D md d d' d2 d2' (.int .i64 (er1 : Int)) (.int .i64 (er2 : Int)) f e w' → f 5 = false → Calls Tryz.prog 29 #[.pointer (some ⟨B, 0, none⟩), .int .i64 x.node, .int .u64 (x.ix : Int)] w' fun r w2 => ∃ v, r = .returned v ∧ (∀ e', (∀ m, m ≠ 5 → e' m = e m) → e' 5 = v → StR base X x #[.int .i64 x.kind, .int .i64 x.node, .string x.text, .int .i64 x.s.val.a.node, .string x.s.val.a.id, .string x.s.val.a.name, .slice x.s.val.A x.s.val.n x.s.val.c, .int .i64 x.s.val.a.port, .int .u64 (x.s.made : Int), .int .u64 (x.s.ix : Int), .int .i64 x.c.val.node, .string x.c.val.id, .string x.c.val.svc, .string x.c.val.note, .int .i64 x.c.val.status, .int .u64 (x.c.made : Int), .int .u64 (x.c.ix : Int), .int .u64 (x.ix : Int)] 5 11 B B1 B2 B3 m D md d d' d2 d2' (.int .i64 (er1 : Int)) (.int .i64 (er2 : Int)) (Go.Rel.upd f 5) e' w2) ∧ But (Ch4 B1 B2 B3 D) w' w2) := Lib.hid fun f e w' hI hf =>
    hI.left (by decide) hf fun S h ht => by
      have h9 := rdropnode_any x.node x.ix h HOk.out.node HOk.out.ix
      rw [show d.dropN x.node x.ix = (er1, d') from HE1.out] at h9
      exact h9
  have HCd : Hid (∀ (f : Nat → Bool) (e : Nat → Value) (w' : World), StR base X x #[.int .i64 x.kind, .int .i64 x.node, .string x.text, .int .i64 x.s.val.a.node, .string x.s.val.a.id, .string x.s.val.a.name, .slice x.s.val.A x.s.val.n x.s.val.c, .int .i64 x.s.val.a.port, .int .u64 (x.s.made : Int), .int .u64 (x.s.ix : Int), .int .i64 x.c.val.node, .string x.c.val.id, .string x.c.val.svc, .string x.c.val.note, .int .i64 x.c.val.status, .int .u64 (x.c.made : Int), .int .u64 (x.c.ix : Int), .int .u64 (x.ix : Int)] 5 11 B B1 B2 B3 m D md d d' d2 d2' (.int .i64 (er1 : Int)) (.int .i64 (er2 : Int)) f e w' → f 11 = false → Calls Tryz.prog 37 #[.pointer (some ⟨D, 0, none⟩), .int .i64 x.node, .int .u64 (x.ix : Int)] w' fun r w2 => ∃ v, r = .returned v ∧ (∀ e', (∀ m, m ≠ 11 → e' m = e m) → e' 11 = v → StR base X x #[.int .i64 x.kind, .int .i64 x.node, .string x.text, .int .i64 x.s.val.a.node, .string x.s.val.a.id, .string x.s.val.a.name, .slice x.s.val.A x.s.val.n x.s.val.c, .int .i64 x.s.val.a.port, .int .u64 (x.s.made : Int), .int .u64 (x.s.ix : Int), .int .i64 x.c.val.node, .string x.c.val.id, .string x.c.val.svc, .string x.c.val.note, .int .i64 x.c.val.status, .int .u64 (x.c.made : Int), .int .u64 (x.c.ix : Int), .int .u64 (x.ix : Int)] 5 11 B B1 B2 B3 m D md d d' d2 d2' (.int .i64 (er1 : Int)) (.int .i64 (er2 : Int)) (Go.Rel.upd f 11) e' w2) ∧ But (Ch4 B1 B2 B3 D) w' w2) := Lib.hid fun f e w' hI hf =>
    hI.right (by decide) hf fun S h ht => by
      have h9 := rddropnode_any x.node x.ix h HOk.out.ix
      rw [show d2.dropN x.node x.ix = (er2, d2') from HE2.out] at h9
      exact h9
  unfold stV
  rw [hk]
  have HKd := Lib.hid hk
  clear h hx ht ha1 ha2 he1 he2 b0 k0 hW1 hX hbq hk
  go_enter Tryz.func11, Tryz.ntmps11
  go_wp2_with fail
  rw [← HKd.out]
  rw [HW1.out, HX.out]
  have hre : ∀ w : World, (But (Ch4 B1 B2 B3 D)) w w := (fun w => But.refl _ w)
  have hrd : ∀ (ops9 : Array Oper) (f9 : Nat → Bool) (e9 : Nat → Value) (w9 : World) (i9 : Nat) (v9 : Value) (e8 : Nat → Value), [5, 11].contains i9 = false → (fun (f : Nat → Bool) (e : Nat → Value) (w : World) => StR base X x #[.int .i64 x.kind, .int .i64 x.node, .string x.text, .int .i64 x.s.val.a.node, .string x.s.val.a.id, .string x.s.val.a.name, .slice x.s.val.A x.s.val.n x.s.val.c, .int .i64 x.s.val.a.port, .int .u64 (x.s.made : Int), .int .u64 (x.s.ix : Int), .int .i64 x.c.val.node, .string x.c.val.id, .string x.c.val.svc, .string x.c.val.note, .int .i64 x.c.val.status, .int .u64 (x.c.made : Int), .int .u64 (x.c.ix : Int), .int .u64 (x.ix : Int)] 5 11 B B1 B2 B3 m D md d d' d2 d2' (.int .i64 (er1 : Int)) (.int .i64 (er2 : Int)) f e w) f9 e9 w9 → Go.Rel.Put ops9 i9 e9 v9 e8 → (fun (f : Nat → Bool) (e : Nat → Value) (w : World) => StR base X x #[.int .i64 x.kind, .int .i64 x.node, .string x.text, .int .i64 x.s.val.a.node, .string x.s.val.a.id, .string x.s.val.a.name, .slice x.s.val.A x.s.val.n x.s.val.c, .int .i64 x.s.val.a.port, .int .u64 (x.s.made : Int), .int .u64 (x.s.ix : Int), .int .i64 x.c.val.node, .string x.c.val.id, .string x.c.val.svc, .string x.c.val.note, .int .i64 x.c.val.status, .int .u64 (x.c.made : Int), .int .u64 (x.c.ix : Int), .int .u64 (x.ix : Int)] 5 11 B B1 B2 B3 m D md d d' d2 d2' (.int .i64 (er1 : Int)) (.int .i64 (er2 : Int)) f e w) (Go.Rel.upd f9 i9) e8 w9 := (fun _ _ _ _ _ _ _ hj h hp => StR.keep hj h hp)
  refine Go.Rel.wp_tabe (by kernel_rfl) (by kernel_rfl) (fun (f : Nat → Bool) (e : Nat → Value) (w : World) => StR base X x #[.int .i64 x.kind, .int .i64 x.node, .string x.text, .int .i64 x.s.val.a.node, .string x.s.val.a.id, .string x.s.val.a.name, .slice x.s.val.A x.s.val.n x.s.val.c, .int .i64 x.s.val.a.port, .int .u64 (x.s.made : Int), .int .u64 (x.s.ix : Int), .int .i64 x.c.val.node, .string x.c.val.id, .string x.c.val.svc, .string x.c.val.note, .int .i64 x.c.val.status, .int .u64 (x.c.made : Int), .int .u64 (x.c.ix : Int), .int .u64 (x.ix : Int)] 5 11 B B1 B2 B3 m D md d d' d2 d2' (.int .i64 (er1 : Int)) (.int .i64 (er2 : Int)) f e w) (But (Ch4 B1 B2 B3 D)) hre ((fun _ _ _ h k => h.trans k)) ((But.refl _ _).drew) (fun e => StR.start HBo.out HK1.out HOut.out HTg.out e) (rst1 B D X x bq) (fun | 5, v, w => True | 11, v, w => True | _, _, _ => True) (fun i => ([5, 11] : List Nat).contains i) (fun i => ([2, 4, 5, 8, 10, 11, 12] : List Nat).contains i) (by kernel_rfl) (fun i v w w' h g => by revert h; split <;> exact id) [5, 11] (by decide) (hrd _) ?_ (Go.Rel.AllOf.get ?_) ?_
  · repeat (refine .cons (by first | exact Go.Rel.pure_sp rfl | exact Go.Rel.pure_yes (by kernel_rfl) (fun _ => by kernel_rfl) | exact Go.Rel.pure_no (by kernel_rfl) rfl) ?_)
    exact .nil
  · refine ⟨?_, ?_, ?_, ?_, ?_, ?_, ?_, trivial⟩
    · exact SpecE.ld (hrd _) hre (q := .pointer (some ⟨X, 1, none⟩)) (h := fun _ w' _ hI _ _ _ _ => by obtain ⟨y0, y1, y2, y3, y4, y5, y6, y7, y8, y9, y10, y11, y12, y13, y14, y15, y16, y17⟩ := st_blk (x := x) hI.blk; go_simp; rfl)
    · exact SpecE.ld (hrd _) hre (q := .pointer (some ⟨X, 17, none⟩)) (h := fun _ w' _ hI _ _ _ _ => by obtain ⟨y0, y1, y2, y3, y4, y5, y6, y7, y8, y9, y10, y11, y12, y13, y14, y15, y16, y17⟩ := st_blk (x := x) hI.blk; go_simp; rfl)
    · refine SpecE.gen (fun e => [(31, .pointer (some ⟨B, 0, none⟩)), (33, .int .i64 x.node), (35, .int .u64 (x.ix : Int))]) rfl rfl (fun _ => by kernel_rfl) fun f w' e hI hf hdesc hanc hle hX K hK => ?_
      go_simp
      refine (HCp.out f e w' hI hf).mono ?_
      rintro e9 w9 ⟨v9, rfl, h9, hb9⟩
      exact hK _ _ hb9 (fun e' hp => h9 e' (fun m hm => hp.1 m hm) (hp.2 rfl)) trivial
    · exact SpecE.ld (hrd _) hre (q := .pointer (some ⟨X, 1, none⟩)) (h := fun _ w' _ hI _ _ _ _ => by obtain ⟨y0, y1, y2, y3, y4, y5, y6, y7, y8, y9, y10, y11, y12, y13, y14, y15, y16, y17⟩ := st_blk (x := x) hI.blk; go_simp; rfl)
    · exact SpecE.ld (hrd _) hre (q := .pointer (some ⟨X, 17, none⟩)) (h := fun _ w' _ hI _ _ _ _ => by obtain ⟨y0, y1, y2, y3, y4, y5, y6, y7, y8, y9, y10, y11, y12, y13, y14, y15, y16, y17⟩ := st_blk (x := x) hI.blk; go_simp; rfl)
    · refine SpecE.gen (fun e => [(37, .pointer (some ⟨D, 0, none⟩)), (39, .int .i64 x.node), (41, .int .u64 (x.ix : Int))]) rfl rfl (fun _ => by kernel_rfl) fun f w' e hI hf hdesc hanc hle hX K hK => ?_
      go_simp
      refine (HCd.out f e w' hI hf).mono ?_
      rintro e9 w9 ⟨v9, rfl, h9, hb9⟩
      exact hK _ _ hb9 (fun e' hp => h9 e' (fun m hm => hp.1 m hm) (hp.2 rfl)) trivial
    · refine SpecE.gen (fun e => [(36, e 5), (42, e 11)]) rfl rfl (fun _ => by kernel_rfl) fun f w' e hI hf hdesc hanc hle hX K hK => ?_
      have q1 := hI.k1 (hanc 60 5 (by kernel_rfl))
      have q2 := hI.k2 (hanc 60 11 (by kernel_rfl))
      have qq := HBq.out
      simp only [q1, q2]
      go_simp
      exact hK _ _ (hre _) (fun e' hp => hrd _ f e w' 12 _ e' rfl hI hp) rfl
  · intro f w2 e hall hJ hle hv
    have hb2 := hJ.both
    rw [hall 5 (by decide), hall 11 (by decide)] at hb2
    have HB2 := Lib.hid hb2
    have HL2 := Lib.hid hle
    have v9 := hv 13 rfl
    simp only [Go.Rel.finL, List.setIfInBounds_toArray, List.set_cons_succ, List.set_cons_zero]
    rw [show e 13 = .bool bq from v9]
    clear hv hall hJ hle hb2 v9
    go_wp2
    go_ret
    exact ⟨bq, rfl, HB2.out, (But.of_below HB0.out).trans HL2.out, HBq2.out⟩
def rst2 (B : Nat) (D : Nat) (X : Nat) (x : RSt) (bq : Bool) : Nat → Value
  | 0 => .pointer (some ⟨B, 0, none⟩)
  | 1 | 7 => .pointer (some ⟨X, 3, none⟩)
  | 2 | 8 => .agg #[.int .i64 x.s.val.a.node, .string x.s.val.a.id, .string x.s.val.a.name, .slice x.s.val.A x.s.val.n x.s.val.c, .int .i64 x.s.val.a.port, .int .u64 (x.s.made : Int), .int .u64 (x.s.ix : Int)]
  | 3 | 9 => .pointer (some ⟨X, 17, none⟩)
  | 4 | 10 => .int .u64 (x.ix : Int)
  | 6 => .pointer (some ⟨D, 0, none⟩)
  | 12 | 13 => .bool bq
  | _ => undef
set_option maxHeartbeats 4000000 in
set_option maxRecDepth 100000 in
theorem step2_any {base : Nat} {w : World} {B B1 B2 B3 m D md : Nat} {d d2 : Ro} (x : RSt) (h : Both base w B B1 B2 B3 m d D md d2) (hx : x.Ok w) (ht : TgAt (fun k => k < base) w x.s.val) (hk : x.kind = 2) : Calls Tryz.prog 11 #[.pointer (some ⟨B, 0, none⟩), .pointer (some ⟨D, 0, none⟩), stV x] w fun e w' => StepPost base w B B1 B2 B3 m (x.after d).2 D md (x.after d2).2 ((x.after d).1 = (x.after d2).1) e w' := by
  have ha1 : x.after d = d.service x.s.val.a x.ix := by unfold RSt.after; simp only [hk]; rfl
  have ha2 : x.after d2 = d2.service x.s.val.a x.ix := by unfold RSt.after; simp only [hk]; rfl
  rw [ha1, ha2]
  obtain ⟨⟨er1, d'⟩, he1⟩ : ∃ r, d.service x.s.val.a x.ix = r := ⟨_, rfl⟩
  obtain ⟨⟨er2, d2'⟩, he2⟩ : ∃ r, d2.service x.s.val.a x.ix = r := ⟨_, rfl⟩
  rw [he1, he2]
  have HE1 := Lib.hid he1
  have HE2 := Lib.hid he2
  have HOk := Lib.hid hx
  have HSi := Lib.hid (fun (W : World) (ht : TgAt (fun k => k < base) W x.s.val) => (⟨hx.s.node, hx.s.port, hx.s.id, hx.s.name, ht.tx, hx.s.small⟩ : SvIn W x.s))
  have b0 := below1 w #[.int .i64 x.kind, .int .i64 x.node, .string x.text, .int .i64 x.s.val.a.node, .string x.s.val.a.id, .string x.s.val.a.name, .slice x.s.val.A x.s.val.n x.s.val.c, .int .i64 x.s.val.a.port, .int .u64 (x.s.made : Int), .int .u64 (x.s.ix : Int), .int .i64 x.c.val.node, .string x.c.val.id, .string x.c.val.svc, .string x.c.val.note, .int .i64 x.c.val.status, .int .u64 (x.c.made : Int), .int .u64 (x.c.ix : Int), .int .u64 (x.ix : Int)] TRs
  have k0 := heap_alloc_new w (.cells #[.int .i64 x.kind, .int .i64 x.node, .string x.text, .int .i64 x.s.val.a.node, .string x.s.val.a.id, .string x.s.val.a.name, .slice x.s.val.A x.s.val.n x.s.val.c, .int .i64 x.s.val.a.port, .int .u64 (x.s.made : Int), .int .u64 (x.s.ix : Int), .int .i64 x.c.val.node, .string x.c.val.id, .string x.c.val.svc, .string x.c.val.note, .int .i64 x.c.val.status, .int .u64 (x.c.made : Int), .int .u64 (x.c.ix : Int), .int .u64 (x.ix : Int)] TRs)
  obtain ⟨X, hX⟩ : ∃ X, w.heap.size = X := ⟨_, rfl⟩
  obtain ⟨W1, hW1⟩ : ∃ W1, w.alloc (.cells #[.int .i64 x.kind, .int .i64 x.node, .string x.text, .int .i64 x.s.val.a.node, .string x.s.val.a.id, .string x.s.val.a.name, .slice x.s.val.A x.s.val.n x.s.val.c, .int .i64 x.s.val.a.port, .int .u64 (x.s.made : Int), .int .u64 (x.s.ix : Int), .int .i64 x.c.val.node, .string x.c.val.id, .string x.c.val.svc, .string x.c.val.note, .int .i64 x.c.val.status, .int .u64 (x.c.made : Int), .int .u64 (x.c.ix : Int), .int .u64 (x.ix : Int)] TRs) = W1 := ⟨_, rfl⟩
  rw [hW1] at b0 k0
  rw [hX] at k0
  have HBo := Lib.hid (h.below b0)
  have HOut : Hid (¬ Ch4 B1 B2 B3 D X) := Lib.hid (by
    have := h.lt
    rintro ((z | z | z) | z) <;> omega)
  have HTg := Lib.hid (ht.below b0)
  have HB0 := Lib.hid b0
  have HK1 := Lib.hid k0
  have HW1 := Lib.hid hW1
  have HX := Lib.hid hX
  obtain ⟨bq, hbq⟩ : ∃ bq, ((er1 : Int) == (er2 : Int)) = bq := ⟨_, rfl⟩
  have HBq := Lib.hid hbq
  have HBq2 : Hid (er1 = er2 → bq = true) := Lib.hid (fun e => by rw [← hbq, e]; simp)
  have HCp : Hid (∀ (f : Nat → Bool) (e : Nat → Value) (w' : World), StR base X x #[.int .i64 x.kind, .int .i64 x.node, .string x.text, .int .i64 x.s.val.a.node, .string x.s.val.a.id, .string x.s.val.a.name, .slice x.s.val.A x.s.val.n x.s.val.c, .int .i64 x.s.val.a.port, .int .u64 (x.s.made : Int), .int .u64 (x.s.ix : Int), .int .i64 x.c.val.node, .string x.c.val.id, .string x.c.val.svc, .string x.c.val.note, .int .i64 x.c.val.status, .int .u64 (x.c.made : Int), .int .u64 (x.c.ix : Int), .int .u64 (x.ix : Int)] 5 11 B B1 B2 B3 m D md d d' d2 d2' (.int .i64 (er1 : Int)) (.int .i64 (er2 : Int)) f e w' → f 5 = false → Calls Tryz.prog 30 #[.pointer (some ⟨B, 0, none⟩), .agg #[.int .i64 x.s.val.a.node, .string x.s.val.a.id, .string x.s.val.a.name, .slice x.s.val.A x.s.val.n x.s.val.c, .int .i64 x.s.val.a.port, .int .u64 (x.s.made : Int), .int .u64 (x.s.ix : Int)], .int .u64 (x.ix : Int)] w' fun r w2 => ∃ v, r = .returned v ∧ (∀ e', (∀ m, m ≠ 5 → e' m = e m) → e' 5 = v → StR base X x #[.int .i64 x.kind, .int .i64 x.node, .string x.text, .int .i64 x.s.val.a.node, .string x.s.val.a.id, .string x.s.val.a.name, .slice x.s.val.A x.s.val.n x.s.val.c, .int .i64 x.s.val.a.port, .int .u64 (x.s.made : Int), .int .u64 (x.s.ix : Int), .int .i64 x.c.val.node, .string x.c.val.id, .string x.c.val.svc, .string x.c.val.note, .int .i64 x.c.val.status, .int .u64 (x.c.made : Int), .int .u64 (x.c.ix : Int), .int .u64 (x.ix : Int)] 5 11 B B1 B2 B3 m D md d d' d2 d2' (.int .i64 (er1 : Int)) (.int .i64 (er2 : Int)) (Go.Rel.upd f 5) e' w2) ∧ But (Ch4 B1 B2 B3 D) w' w2) := Lib.hid fun f e w' hI hf =>
    hI.left (by decide) hf fun S h ht => by
      have h9 := rservice_any x.s x.ix h (HSi.out _ ht) HOk.out.ix
      rw [show d.service x.s.val.a x.ix = (er1, d') from HE1.out] at h9
      exact h9
  have HCd : Hid (∀ (f : Nat → Bool) (e : Nat → Value) (w' : World), StR base X x #[.int .i64 x.kind, .int .i64 x.node, .string x.text, .int .i64 x.s.val.a.node, .string x.s.val.a.id, .string x.s.val.a.name, .slice x.s.val.A x.s.val.n x.s.val.c, .int .i64 x.s.val.a.port, .int .u64 (x.s.made : Int), .int .u64 (x.s.ix : Int), .int .i64 x.c.val.node, .string x.c.val.id, .string x.c.val.svc, .string x.c.val.note, .int .i64 x.c.val.status, .int .u64 (x.c.made : Int), .int .u64 (x.c.ix : Int), .int .u64 (x.ix : Int)] 5 11 B B1 B2 B3 m D md d d' d2 d2' (.int .i64 (er1 : Int)) (.int .i64 (er2 : Int)) f e w' → f 11 = false → Calls Tryz.prog 38 #[.pointer (some ⟨D, 0, none⟩), .agg #[.int .i64 x.s.val.a.node, .string x.s.val.a.id, .string x.s.val.a.name, .slice x.s.val.A x.s.val.n x.s.val.c, .int .i64 x.s.val.a.port, .int .u64 (x.s.made : Int), .int .u64 (x.s.ix : Int)], .int .u64 (x.ix : Int)] w' fun r w2 => ∃ v, r = .returned v ∧ (∀ e', (∀ m, m ≠ 11 → e' m = e m) → e' 11 = v → StR base X x #[.int .i64 x.kind, .int .i64 x.node, .string x.text, .int .i64 x.s.val.a.node, .string x.s.val.a.id, .string x.s.val.a.name, .slice x.s.val.A x.s.val.n x.s.val.c, .int .i64 x.s.val.a.port, .int .u64 (x.s.made : Int), .int .u64 (x.s.ix : Int), .int .i64 x.c.val.node, .string x.c.val.id, .string x.c.val.svc, .string x.c.val.note, .int .i64 x.c.val.status, .int .u64 (x.c.made : Int), .int .u64 (x.c.ix : Int), .int .u64 (x.ix : Int)] 5 11 B B1 B2 B3 m D md d d' d2 d2' (.int .i64 (er1 : Int)) (.int .i64 (er2 : Int)) (Go.Rel.upd f 11) e' w2) ∧ But (Ch4 B1 B2 B3 D) w' w2) := Lib.hid fun f e w' hI hf =>
    hI.right (by decide) hf fun S h ht => by
      have h9 := rdservice_any x.s x.ix h (HSi.out _ ht) ht HOk.out.ix
      rw [show d2.service x.s.val.a x.ix = (er2, d2') from HE2.out] at h9
      exact h9
  unfold stV
  rw [hk]
  have HKd := Lib.hid hk
  clear h hx ht ha1 ha2 he1 he2 b0 k0 hW1 hX hbq hk
  go_enter Tryz.func11, Tryz.ntmps11
  go_wp2_with fail
  rw [← HKd.out]
  rw [HW1.out, HX.out]
  have hre : ∀ w : World, (But (Ch4 B1 B2 B3 D)) w w := (fun w => But.refl _ w)
  have hrd : ∀ (ops9 : Array Oper) (f9 : Nat → Bool) (e9 : Nat → Value) (w9 : World) (i9 : Nat) (v9 : Value) (e8 : Nat → Value), [5, 11].contains i9 = false → (fun (f : Nat → Bool) (e : Nat → Value) (w : World) => StR base X x #[.int .i64 x.kind, .int .i64 x.node, .string x.text, .int .i64 x.s.val.a.node, .string x.s.val.a.id, .string x.s.val.a.name, .slice x.s.val.A x.s.val.n x.s.val.c, .int .i64 x.s.val.a.port, .int .u64 (x.s.made : Int), .int .u64 (x.s.ix : Int), .int .i64 x.c.val.node, .string x.c.val.id, .string x.c.val.svc, .string x.c.val.note, .int .i64 x.c.val.status, .int .u64 (x.c.made : Int), .int .u64 (x.c.ix : Int), .int .u64 (x.ix : Int)] 5 11 B B1 B2 B3 m D md d d' d2 d2' (.int .i64 (er1 : Int)) (.int .i64 (er2 : Int)) f e w) f9 e9 w9 → Go.Rel.Put ops9 i9 e9 v9 e8 → (fun (f : Nat → Bool) (e : Nat → Value) (w : World) => StR base X x #[.int .i64 x.kind, .int .i64 x.node, .string x.text, .int .i64 x.s.val.a.node, .string x.s.val.a.id, .string x.s.val.a.name, .slice x.s.val.A x.s.val.n x.s.val.c, .int .i64 x.s.val.a.port, .int .u64 (x.s.made : Int), .int .u64 (x.s.ix : Int), .int .i64 x.c.val.node, .string x.c.val.id, .string x.c.val.svc, .string x.c.val.note, .int .i64 x.c.val.status, .int .u64 (x.c.made : Int), .int .u64 (x.c.ix : Int), .int .u64 (x.ix : Int)] 5 11 B B1 B2 B3 m D md d d' d2 d2' (.int .i64 (er1 : Int)) (.int .i64 (er2 : Int)) f e w) (Go.Rel.upd f9 i9) e8 w9 := (fun _ _ _ _ _ _ _ hj h hp => StR.keep hj h hp)
  refine Go.Rel.wp_tabe (by kernel_rfl) (by kernel_rfl) (fun (f : Nat → Bool) (e : Nat → Value) (w : World) => StR base X x #[.int .i64 x.kind, .int .i64 x.node, .string x.text, .int .i64 x.s.val.a.node, .string x.s.val.a.id, .string x.s.val.a.name, .slice x.s.val.A x.s.val.n x.s.val.c, .int .i64 x.s.val.a.port, .int .u64 (x.s.made : Int), .int .u64 (x.s.ix : Int), .int .i64 x.c.val.node, .string x.c.val.id, .string x.c.val.svc, .string x.c.val.note, .int .i64 x.c.val.status, .int .u64 (x.c.made : Int), .int .u64 (x.c.ix : Int), .int .u64 (x.ix : Int)] 5 11 B B1 B2 B3 m D md d d' d2 d2' (.int .i64 (er1 : Int)) (.int .i64 (er2 : Int)) f e w) (But (Ch4 B1 B2 B3 D)) hre ((fun _ _ _ h k => h.trans k)) ((But.refl _ _).drew) (fun e => StR.start HBo.out HK1.out HOut.out HTg.out e) (rst2 B D X x bq) (fun | 5, v, w => True | 11, v, w => True | _, _, _ => True) (fun i => ([5, 11] : List Nat).contains i) (fun i => ([2, 4, 5, 8, 10, 11, 12] : List Nat).contains i) (by kernel_rfl) (fun i v w w' h g => by revert h; split <;> exact id) [5, 11] (by decide) (hrd _) ?_ (Go.Rel.AllOf.get ?_) ?_
  · repeat (refine .cons (by first | exact Go.Rel.pure_sp rfl | exact Go.Rel.pure_yes (by kernel_rfl) (fun _ => by kernel_rfl) | exact Go.Rel.pure_no (by kernel_rfl) rfl) ?_)
    exact .nil
  · refine ⟨?_, ?_, ?_, ?_, ?_, ?_, ?_, trivial⟩
    · exact SpecE.ld (hrd _) hre (q := .pointer (some ⟨X, 3, none⟩)) (h := fun _ w' _ hI _ _ _ _ => by obtain ⟨y0, y1, y2, y3, y4, y5, y6, y7, y8, y9, y10, y11, y12, y13, y14, y15, y16, y17⟩ := st_blk (x := x) hI.blk; go_simp; rfl)
    · exact SpecE.ld (hrd _) hre (q := .pointer (some ⟨X, 17, none⟩)) (h := fun _ w' _ hI _ _ _ _ => by obtain ⟨y0, y1, y2, y3, y4, y5, y6, y7, y8, y9, y10, y11, y12, y13, y14, y15, y16, y17⟩ := st_blk (x := x) hI.blk; go_simp; rfl)
    · refine SpecE.gen (fun e => [(46, .pointer (some ⟨B, 0, none⟩)), (48, .agg #[.int .i64 x.s.val.a.node, .string x.s.val.a.id, .string x.s.val.a.name, .slice x.s.val.A x.s.val.n x.s.val.c, .int .i64 x.s.val.a.port, .int .u64 (x.s.made : Int), .int .u64 (x.s.ix : Int)]), (50, .int .u64 (x.ix : Int))]) rfl rfl (fun _ => by kernel_rfl) fun f w' e hI hf hdesc hanc hle hX K hK => ?_
      go_simp
      refine (HCp.out f e w' hI hf).mono ?_
      rintro e9 w9 ⟨v9, rfl, h9, hb9⟩
      exact hK _ _ hb9 (fun e' hp => h9 e' (fun m hm => hp.1 m hm) (hp.2 rfl)) trivial
    · exact SpecE.ld (hrd _) hre (q := .pointer (some ⟨X, 3, none⟩)) (h := fun _ w' _ hI _ _ _ _ => by obtain ⟨y0, y1, y2, y3, y4, y5, y6, y7, y8, y9, y10, y11, y12, y13, y14, y15, y16, y17⟩ := st_blk (x := x) hI.blk; go_simp; rfl)
    · exact SpecE.ld (hrd _) hre (q := .pointer (some ⟨X, 17, none⟩)) (h := fun _ w' _ hI _ _ _ _ => by obtain ⟨y0, y1, y2, y3, y4, y5, y6, y7, y8, y9, y10, y11, y12, y13, y14, y15, y16, y17⟩ := st_blk (x := x) hI.blk; go_simp; rfl)
    · refine SpecE.gen (fun e => [(52, .pointer (some ⟨D, 0, none⟩)), (54, .agg #[.int .i64 x.s.val.a.node, .string x.s.val.a.id, .string x.s.val.a.name, .slice x.s.val.A x.s.val.n x.s.val.c, .int .i64 x.s.val.a.port, .int .u64 (x.s.made : Int), .int .u64 (x.s.ix : Int)]), (56, .int .u64 (x.ix : Int))]) rfl rfl (fun _ => by kernel_rfl) fun f w' e hI hf hdesc hanc hle hX K hK => ?_
      go_simp
      refine (HCd.out f e w' hI hf).mono ?_
      rintro e9 w9 ⟨v9, rfl, h9, hb9⟩
      exact hK _ _ hb9 (fun e' hp => h9 e' (fun m hm => hp.1 m hm) (hp.2 rfl)) trivial
    · refine SpecE.gen (fun e => [(51, e 5), (57, e 11)]) rfl rfl (fun _ => by kernel_rfl) fun f w' e hI hf hdesc hanc hle hX K hK => ?_
      have q1 := hI.k1 (hanc 60 5 (by kernel_rfl))
      have q2 := hI.k2 (hanc 60 11 (by kernel_rfl))
      have qq := HBq.out
      simp only [q1, q2]
      go_simp
      exact hK _ _ (hre _) (fun e' hp => hrd _ f e w' 12 _ e' rfl hI hp) rfl
  · intro f w2 e hall hJ hle hv
    have hb2 := hJ.both
    rw [hall 5 (by decide), hall 11 (by decide)] at hb2
    have HB2 := Lib.hid hb2
    have HL2 := Lib.hid hle
    have v9 := hv 13 rfl
    simp only [Go.Rel.finL, List.setIfInBounds_toArray, List.set_cons_succ, List.set_cons_zero]
    rw [show e 13 = .bool bq from v9]
    clear hv hall hJ hle hb2 v9
    go_wp2
    go_ret
    exact ⟨bq, rfl, HB2.out, (But.of_below HB0.out).trans HL2.out, HBq2.out⟩
def rst3 (B : Nat) (D : Nat) (X : Nat) (x : RSt) (bq : Bool) : Nat → Value
  | 0 => .pointer (some ⟨B, 0, none⟩)
  | 1 | 9 => .pointer (some ⟨X, 1, none⟩)
  | 2 | 10 => .int .i64 x.node
  | 3 | 11 => .pointer (some ⟨X, 2, none⟩)
  | 4 | 12 => .string x.text
  | 5 | 13 => .pointer (some ⟨X, 17, none⟩)
  | 6 | 14 => .int .u64 (x.ix : Int)
  | 8 => .pointer (some ⟨D, 0, none⟩)
  | 16 | 17 => .bool bq
  | _ => undef
set_option maxHeartbeats 4000000 in
set_option maxRecDepth 100000 in
theorem step3_any {base : Nat} {w : World} {B B1 B2 B3 m D md : Nat} {d d2 : Ro} (x : RSt) (h : Both base w B B1 B2 B3 m d D md d2) (hx : x.Ok w) (ht : TgAt (fun k => k < base) w x.s.val) (hk : x.kind = 3) : Calls Tryz.prog 11 #[.pointer (some ⟨B, 0, none⟩), .pointer (some ⟨D, 0, none⟩), stV x] w fun e w' => StepPost base w B B1 B2 B3 m (x.after d).2 D md (x.after d2).2 ((x.after d).1 = (x.after d2).1) e w' := by
  have ha1 : x.after d = d.dropS x.node x.text x.ix := by unfold RSt.after; simp only [hk]; rfl
  have ha2 : x.after d2 = d2.dropS x.node x.text x.ix := by unfold RSt.after; simp only [hk]; rfl
  rw [ha1, ha2]
  obtain ⟨⟨er1, d'⟩, he1⟩ : ∃ r, d.dropS x.node x.text x.ix = r := ⟨_, rfl⟩
  obtain ⟨⟨er2, d2'⟩, he2⟩ : ∃ r, d2.dropS x.node x.text x.ix = r := ⟨_, rfl⟩
  rw [he1, he2]
  have HE1 := Lib.hid he1
  have HE2 := Lib.hid he2
  have HOk := Lib.hid hx
  have HSi := Lib.hid (fun (W : World) (ht : TgAt (fun k => k < base) W x.s.val) => (⟨hx.s.node, hx.s.port, hx.s.id, hx.s.name, ht.tx, hx.s.small⟩ : SvIn W x.s))
  have b0 := below1 w #[.int .i64 x.kind, .int .i64 x.node, .string x.text, .int .i64 x.s.val.a.node, .string x.s.val.a.id, .string x.s.val.a.name, .slice x.s.val.A x.s.val.n x.s.val.c, .int .i64 x.s.val.a.port, .int .u64 (x.s.made : Int), .int .u64 (x.s.ix : Int), .int .i64 x.c.val.node, .string x.c.val.id, .string x.c.val.svc, .string x.c.val.note, .int .i64 x.c.val.status, .int .u64 (x.c.made : Int), .int .u64 (x.c.ix : Int), .int .u64 (x.ix : Int)] TRs
  have k0 := heap_alloc_new w (.cells #[.int .i64 x.kind, .int .i64 x.node, .string x.text, .int .i64 x.s.val.a.node, .string x.s.val.a.id, .string x.s.val.a.name, .slice x.s.val.A x.s.val.n x.s.val.c, .int .i64 x.s.val.a.port, .int .u64 (x.s.made : Int), .int .u64 (x.s.ix : Int), .int .i64 x.c.val.node, .string x.c.val.id, .string x.c.val.svc, .string x.c.val.note, .int .i64 x.c.val.status, .int .u64 (x.c.made : Int), .int .u64 (x.c.ix : Int), .int .u64 (x.ix : Int)] TRs)
  obtain ⟨X, hX⟩ : ∃ X, w.heap.size = X := ⟨_, rfl⟩
  obtain ⟨W1, hW1⟩ : ∃ W1, w.alloc (.cells #[.int .i64 x.kind, .int .i64 x.node, .string x.text, .int .i64 x.s.val.a.node, .string x.s.val.a.id, .string x.s.val.a.name, .slice x.s.val.A x.s.val.n x.s.val.c, .int .i64 x.s.val.a.port, .int .u64 (x.s.made : Int), .int .u64 (x.s.ix : Int), .int .i64 x.c.val.node, .string x.c.val.id, .string x.c.val.svc, .string x.c.val.note, .int .i64 x.c.val.status, .int .u64 (x.c.made : Int), .int .u64 (x.c.ix : Int), .int .u64 (x.ix : Int)] TRs) = W1 := ⟨_, rfl⟩
  rw [hW1] at b0 k0
  rw [hX] at k0
  have HBo := Lib.hid (h.below b0)
  have HOut : Hid (¬ Ch4 B1 B2 B3 D X) := Lib.hid (by
    have := h.lt
    rintro ((z | z | z) | z) <;> omega)
  have HTg := Lib.hid (ht.below b0)
  have HB0 := Lib.hid b0
  have HK1 := Lib.hid k0
  have HW1 := Lib.hid hW1
  have HX := Lib.hid hX
  obtain ⟨bq, hbq⟩ : ∃ bq, ((er1 : Int) == (er2 : Int)) = bq := ⟨_, rfl⟩
  have HBq := Lib.hid hbq
  have HBq2 : Hid (er1 = er2 → bq = true) := Lib.hid (fun e => by rw [← hbq, e]; simp)
  have HCp : Hid (∀ (f : Nat → Bool) (e : Nat → Value) (w' : World), StR base X x #[.int .i64 x.kind, .int .i64 x.node, .string x.text, .int .i64 x.s.val.a.node, .string x.s.val.a.id, .string x.s.val.a.name, .slice x.s.val.A x.s.val.n x.s.val.c, .int .i64 x.s.val.a.port, .int .u64 (x.s.made : Int), .int .u64 (x.s.ix : Int), .int .i64 x.c.val.node, .string x.c.val.id, .string x.c.val.svc, .string x.c.val.note, .int .i64 x.c.val.status, .int .u64 (x.c.made : Int), .int .u64 (x.c.ix : Int), .int .u64 (x.ix : Int)] 7 15 B B1 B2 B3 m D md d d' d2 d2' (.int .i64 (er1 : Int)) (.int .i64 (er2 : Int)) f e w' → f 7 = false → Calls Tryz.prog 31 #[.pointer (some ⟨B, 0, none⟩), .int .i64 x.node, .string x.text, .int .u64 (x.ix : Int)] w' fun r w2 => ∃ v, r = .returned v ∧ (∀ e', (∀ m, m ≠ 7 → e' m = e m) → e' 7 = v → StR base X x #[.int .i64 x.kind, .int .i64 x.node, .string x.text, .int .i64 x.s.val.a.node, .string x.s.val.a.id, .string x.s.val.a.name, .slice x.s.val.A x.s.val.n x.s.val.c, .int .i64 x.s.val.a.port, .int .u64 (x.s.made : Int), .int .u64 (x.s.ix : Int), .int .i64 x.c.val.node, .string x.c.val.id, .string x.c.val.svc, .string x.c.val.note, .int .i64 x.c.val.status, .int .u64 (x.c.made : Int), .int .u64 (x.c.ix : Int), .int .u64 (x.ix : Int)] 7 15 B B1 B2 B3 m D md d d' d2 d2' (.int .i64 (er1 : Int)) (.int .i64 (er2 : Int)) (Go.Rel.upd f 7) e' w2) ∧ But (Ch4 B1 B2 B3 D) w' w2) := Lib.hid fun f e w' hI hf =>
    hI.left (by decide) hf fun S h ht => by
      have h9 := rdropservice_any x.node x.text x.ix h HOk.out.node HOk.out.text HOk.out.ix
      rw [show d.dropS x.node x.text x.ix = (er1, d') from HE1.out] at h9
      exact h9
  have HCd : Hid (∀ (f : Nat → Bool) (e : Nat → Value) (w' : World), StR base X x #[.int .i64 x.kind, .int .i64 x.node, .string x.text, .int .i64 x.s.val.a.node, .string x.s.val.a.id, .string x.s.val.a.name, .slice x.s.val.A x.s.val.n x.s.val.c, .int .i64 x.s.val.a.port, .int .u64 (x.s.made : Int), .int .u64 (x.s.ix : Int), .int .i64 x.c.val.node, .string x.c.val.id, .string x.c.val.svc, .string x.c.val.note, .int .i64 x.c.val.status, .int .u64 (x.c.made : Int), .int .u64 (x.c.ix : Int), .int .u64 (x.ix : Int)] 7 15 B B1 B2 B3 m D md d d' d2 d2' (.int .i64 (er1 : Int)) (.int .i64 (er2 : Int)) f e w' → f 15 = false → Calls Tryz.prog 39 #[.pointer (some ⟨D, 0, none⟩), .int .i64 x.node, .string x.text, .int .u64 (x.ix : Int)] w' fun r w2 => ∃ v, r = .returned v ∧ (∀ e', (∀ m, m ≠ 15 → e' m = e m) → e' 15 = v → StR base X x #[.int .i64 x.kind, .int .i64 x.node, .string x.text, .int .i64 x.s.val.a.node, .string x.s.val.a.id, .string x.s.val.a.name, .slice x.s.val.A x.s.val.n x.s.val.c, .int .i64 x.s.val.a.port, .int .u64 (x.s.made : Int), .int .u64 (x.s.ix : Int), .int .i64 x.c.val.node, .string x.c.val.id, .string x.c.val.svc, .string x.c.val.note, .int .i64 x.c.val.status, .int .u64 (x.c.made : Int), .int .u64 (x.c.ix : Int), .int .u64 (x.ix : Int)] 7 15 B B1 B2 B3 m D md d d' d2 d2' (.int .i64 (er1 : Int)) (.int .i64 (er2 : Int)) (Go.Rel.upd f 15) e' w2) ∧ But (Ch4 B1 B2 B3 D) w' w2) := Lib.hid fun f e w' hI hf =>
    hI.right (by decide) hf fun S h ht => by
      have h9 := rddropservice_any x.node x.text x.ix h HOk.out.ix
      rw [show d2.dropS x.node x.text x.ix = (er2, d2') from HE2.out] at h9
      exact h9
  unfold stV
  rw [hk]
  have HKd := Lib.hid hk
  clear h hx ht ha1 ha2 he1 he2 b0 k0 hW1 hX hbq hk
  go_enter Tryz.func11, Tryz.ntmps11
  go_wp2_with fail
  rw [← HKd.out]
  rw [HW1.out, HX.out]
  have hre : ∀ w : World, (But (Ch4 B1 B2 B3 D)) w w := (fun w => But.refl _ w)
  have hrd : ∀ (ops9 : Array Oper) (f9 : Nat → Bool) (e9 : Nat → Value) (w9 : World) (i9 : Nat) (v9 : Value) (e8 : Nat → Value), [7, 15].contains i9 = false → (fun (f : Nat → Bool) (e : Nat → Value) (w : World) => StR base X x #[.int .i64 x.kind, .int .i64 x.node, .string x.text, .int .i64 x.s.val.a.node, .string x.s.val.a.id, .string x.s.val.a.name, .slice x.s.val.A x.s.val.n x.s.val.c, .int .i64 x.s.val.a.port, .int .u64 (x.s.made : Int), .int .u64 (x.s.ix : Int), .int .i64 x.c.val.node, .string x.c.val.id, .string x.c.val.svc, .string x.c.val.note, .int .i64 x.c.val.status, .int .u64 (x.c.made : Int), .int .u64 (x.c.ix : Int), .int .u64 (x.ix : Int)] 7 15 B B1 B2 B3 m D md d d' d2 d2' (.int .i64 (er1 : Int)) (.int .i64 (er2 : Int)) f e w) f9 e9 w9 → Go.Rel.Put ops9 i9 e9 v9 e8 → (fun (f : Nat → Bool) (e : Nat → Value) (w : World) => StR base X x #[.int .i64 x.kind, .int .i64 x.node, .string x.text, .int .i64 x.s.val.a.node, .string x.s.val.a.id, .string x.s.val.a.name, .slice x.s.val.A x.s.val.n x.s.val.c, .int .i64 x.s.val.a.port, .int .u64 (x.s.made : Int), .int .u64 (x.s.ix : Int), .int .i64 x.c.val.node, .string x.c.val.id, .string x.c.val.svc, .string x.c.val.note, .int .i64 x.c.val.status, .int .u64 (x.c.made : Int), .int .u64 (x.c.ix : Int), .int .u64 (x.ix : Int)] 7 15 B B1 B2 B3 m D md d d' d2 d2' (.int .i64 (er1 : Int)) (.int .i64 (er2 : Int)) f e w) (Go.Rel.upd f9 i9) e8 w9 := (fun _ _ _ _ _ _ _ hj h hp => StR.keep hj h hp)
  refine Go.Rel.wp_tabe (by kernel_rfl) (by kernel_rfl) (fun (f : Nat → Bool) (e : Nat → Value) (w : World) => StR base X x #[.int .i64 x.kind, .int .i64 x.node, .string x.text, .int .i64 x.s.val.a.node, .string x.s.val.a.id, .string x.s.val.a.name, .slice x.s.val.A x.s.val.n x.s.val.c, .int .i64 x.s.val.a.port, .int .u64 (x.s.made : Int), .int .u64 (x.s.ix : Int), .int .i64 x.c.val.node, .string x.c.val.id, .string x.c.val.svc, .string x.c.val.note, .int .i64 x.c.val.status, .int .u64 (x.c.made : Int), .int .u64 (x.c.ix : Int), .int .u64 (x.ix : Int)] 7 15 B B1 B2 B3 m D md d d' d2 d2' (.int .i64 (er1 : Int)) (.int .i64 (er2 : Int)) f e w) (But (Ch4 B1 B2 B3 D)) hre ((fun _ _ _ h k => h.trans k)) ((But.refl _ _).drew) (fun e => StR.start HBo.out HK1.out HOut.out HTg.out e) (rst3 B D X x bq) (fun | 7, v, w => True | 15, v, w => True | _, _, _ => True) (fun i => ([7, 15] : List Nat).contains i) (fun i => ([2, 4, 6, 7, 10, 12, 14, 15, 16] : List Nat).contains i) (by kernel_rfl) (fun i v w w' h g => by revert h; split <;> exact id) [7, 15] (by decide) (hrd _) ?_ (Go.Rel.AllOf.get ?_) ?_
  · repeat (refine .cons (by first | exact Go.Rel.pure_sp rfl | exact Go.Rel.pure_yes (by kernel_rfl) (fun _ => by kernel_rfl) | exact Go.Rel.pure_no (by kernel_rfl) rfl) ?_)
    exact .nil
  · refine ⟨?_, ?_, ?_, ?_, ?_, ?_, ?_, ?_, ?_, trivial⟩
    · exact SpecE.ld (hrd _) hre (q := .pointer (some ⟨X, 1, none⟩)) (h := fun _ w' _ hI _ _ _ _ => by obtain ⟨y0, y1, y2, y3, y4, y5, y6, y7, y8, y9, y10, y11, y12, y13, y14, y15, y16, y17⟩ := st_blk (x := x) hI.blk; go_simp; rfl)
    · exact SpecE.ld (hrd _) hre (q := .pointer (some ⟨X, 2, none⟩)) (h := fun _ w' _ hI _ _ _ _ => by obtain ⟨y0, y1, y2, y3, y4, y5, y6, y7, y8, y9, y10, y11, y12, y13, y14, y15, y16, y17⟩ := st_blk (x := x) hI.blk; go_simp; rfl)
    · exact SpecE.ld (hrd _) hre (q := .pointer (some ⟨X, 17, none⟩)) (h := fun _ w' _ hI _ _ _ _ => by obtain ⟨y0, y1, y2, y3, y4, y5, y6, y7, y8, y9, y10, y11, y12, y13, y14, y15, y16, y17⟩ := st_blk (x := x) hI.blk; go_simp; rfl)
    · refine SpecE.gen (fun e => [(61, .pointer (some ⟨B, 0, none⟩)), (63, .int .i64 x.node), (65, .string x.text), (67, .int .u64 (x.ix : Int))]) rfl rfl (fun _ => by kernel_rfl) fun f w' e hI hf hdesc hanc hle hX K hK => ?_
      go_simp
      refine (HCp.out f e w' hI hf).mono ?_
      rintro e9 w9 ⟨v9, rfl, h9, hb9⟩
      exact hK _ _ hb9 (fun e' hp => h9 e' (fun m hm => hp.1 m hm) (hp.2 rfl)) trivial
    · exact SpecE.ld (hrd _) hre (q := .pointer (some ⟨X, 1, none⟩)) (h := fun _ w' _ hI _ _ _ _ => by obtain ⟨y0, y1, y2, y3, y4, y5, y6, y7, y8, y9, y10, y11, y12, y13, y14, y15, y16, y17⟩ := st_blk (x := x) hI.blk; go_simp; rfl)
    · exact SpecE.ld (hrd _) hre (q := .pointer (some ⟨X, 2, none⟩)) (h := fun _ w' _ hI _ _ _ _ => by obtain ⟨y0, y1, y2, y3, y4, y5, y6, y7, y8, y9, y10, y11, y12, y13, y14, y15, y16, y17⟩ := st_blk (x := x) hI.blk; go_simp; rfl)
    · exact SpecE.ld (hrd _) hre (q := .pointer (some ⟨X, 17, none⟩)) (h := fun _ w' _ hI _ _ _ _ => by obtain ⟨y0, y1, y2, y3, y4, y5, y6, y7, y8, y9, y10, y11, y12, y13, y14, y15, y16, y17⟩ := st_blk (x := x) hI.blk; go_simp; rfl)
    · refine SpecE.gen (fun e => [(69, .pointer (some ⟨D, 0, none⟩)), (71, .int .i64 x.node), (73, .string x.text), (75, .int .u64 (x.ix : Int))]) rfl rfl (fun _ => by kernel_rfl) fun f w' e hI hf hdesc hanc hle hX K hK => ?_
      go_simp
      refine (HCd.out f e w' hI hf).mono ?_
      rintro e9 w9 ⟨v9, rfl, h9, hb9⟩
      exact hK _ _ hb9 (fun e' hp => h9 e' (fun m hm => hp.1 m hm) (hp.2 rfl)) trivial
    · refine SpecE.gen (fun e => [(68, e 7), (76, e 15)]) rfl rfl (fun _ => by kernel_rfl) fun f w' e hI hf hdesc hanc hle hX K hK => ?_
      have q1 := hI.k1 (hanc 60 7 (by kernel_rfl))
      have q2 := hI.k2 (hanc 60 15 (by kernel_rfl))
      have qq := HBq.out
      simp only [q1, q2]
      go_simp
      exact hK _ _ (hre _) (fun e' hp => hrd _ f e w' 16 _ e' rfl hI hp) rfl
  · intro f w2 e hall hJ hle hv
    have hb2 := hJ.both
    rw [hall 7 (by decide), hall 15 (by decide)] at hb2
    have HB2 := Lib.hid hb2
    have HL2 := Lib.hid hle
    have v9 := hv 17 rfl
    simp only [Go.Rel.finL, List.setIfInBounds_toArray, List.set_cons_succ, List.set_cons_zero]
    rw [show e 17 = .bool bq from v9]
    clear hv hall hJ hle hb2 v9
    go_wp2
    go_ret
    exact ⟨bq, rfl, HB2.out, (But.of_below HB0.out).trans HL2.out, HBq2.out⟩
def rst4 (B : Nat) (D : Nat) (X : Nat) (x : RSt) (bq : Bool) : Nat → Value
  | 0 => .pointer (some ⟨B, 0, none⟩)
  | 1 | 7 => .pointer (some ⟨X, 10, none⟩)
  | 2 | 8 => .agg #[.int .i64 x.c.val.node, .string x.c.val.id, .string x.c.val.svc, .string x.c.val.note, .int .i64 x.c.val.status, .int .u64 (x.c.made : Int), .int .u64 (x.c.ix : Int)]
  | 3 | 9 => .pointer (some ⟨X, 17, none⟩)
  | 4 | 10 => .int .u64 (x.ix : Int)
  | 6 => .pointer (some ⟨D, 0, none⟩)
  | 12 | 13 => .bool bq
  | _ => undef
set_option maxHeartbeats 4000000 in
set_option maxRecDepth 100000 in
theorem step4_any {base : Nat} {w : World} {B B1 B2 B3 m D md : Nat} {d d2 : Ro} (x : RSt) (h : Both base w B B1 B2 B3 m d D md d2) (hx : x.Ok w) (ht : TgAt (fun k => k < base) w x.s.val) (hk : x.kind = 4) : Calls Tryz.prog 11 #[.pointer (some ⟨B, 0, none⟩), .pointer (some ⟨D, 0, none⟩), stV x] w fun e w' => StepPost base w B B1 B2 B3 m (x.after d).2 D md (x.after d2).2 ((x.after d).1 = (x.after d2).1) e w' := by
  have ha1 : x.after d = d.check x.c.val x.ix := by unfold RSt.after; simp only [hk]; rfl
  have ha2 : x.after d2 = d2.check x.c.val x.ix := by unfold RSt.after; simp only [hk]; rfl
  rw [ha1, ha2]
  obtain ⟨⟨er1, d'⟩, he1⟩ : ∃ r, d.check x.c.val x.ix = r := ⟨_, rfl⟩
  obtain ⟨⟨er2, d2'⟩, he2⟩ : ∃ r, d2.check x.c.val x.ix = r := ⟨_, rfl⟩
  rw [he1, he2]
  have HE1 := Lib.hid he1
  have HE2 := Lib.hid he2
  have HOk := Lib.hid hx
  have HSi := Lib.hid (fun (W : World) (ht : TgAt (fun k => k < base) W x.s.val) => (⟨hx.s.node, hx.s.port, hx.s.id, hx.s.name, ht.tx, hx.s.small⟩ : SvIn W x.s))
  have b0 := below1 w #[.int .i64 x.kind, .int .i64 x.node, .string x.text, .int .i64 x.s.val.a.node, .string x.s.val.a.id, .string x.s.val.a.name, .slice x.s.val.A x.s.val.n x.s.val.c, .int .i64 x.s.val.a.port, .int .u64 (x.s.made : Int), .int .u64 (x.s.ix : Int), .int .i64 x.c.val.node, .string x.c.val.id, .string x.c.val.svc, .string x.c.val.note, .int .i64 x.c.val.status, .int .u64 (x.c.made : Int), .int .u64 (x.c.ix : Int), .int .u64 (x.ix : Int)] TRs
  have k0 := heap_alloc_new w (.cells #[.int .i64 x.kind, .int .i64 x.node, .string x.text, .int .i64 x.s.val.a.node, .string x.s.val.a.id, .string x.s.val.a.name, .slice x.s.val.A x.s.val.n x.s.val.c, .int .i64 x.s.val.a.port, .int .u64 (x.s.made : Int), .int .u64 (x.s.ix : Int), .int .i64 x.c.val.node, .string x.c.val.id, .string x.c.val.svc, .string x.c.val.note, .int .i64 x.c.val.status, .int .u64 (x.c.made : Int), .int .u64 (x.c.ix : Int), .int .u64 (x.ix : Int)] TRs)
  obtain ⟨X, hX⟩ : ∃ X, w.heap.size = X := ⟨_, rfl⟩
  obtain ⟨W1, hW1⟩ : ∃ W1, w.alloc (.cells #[.int .i64 x.kind, .int .i64 x.node, .string x.text, .int .i64 x.s.val.a.node, .string x.s.val.a.id, .string x.s.val.a.name, .slice x.s.val.A x.s.val.n x.s.val.c, .int .i64 x.s.val.a.port, .int .u64 (x.s.made : Int), .int .u64 (x.s.ix : Int), .int .i64 x.c.val.node, .string x.c.val.id, .string x.c.val.svc, .string x.c.val.note, .int .i64 x.c.val.status, .int .u64 (x.c.made : Int), .int .u64 (x.c.ix : Int), .int .u64 (x.ix : Int)] TRs) = W1 := ⟨_, rfl⟩
  rw [hW1] at b0 k0
  rw [hX] at k0
  have HBo := Lib.hid (h.below b0)
  have HOut : Hid (¬ Ch4 B1 B2 B3 D X) := Lib.hid (by
    have := h.lt
    rintro ((z | z | z) | z) <;> omega)
  have HTg := Lib.hid (ht.below b0)
  have HB0 := Lib.hid b0
  have HK1 := Lib.hid k0
  have HW1 := Lib.hid hW1
  have HX := Lib.hid hX
  obtain ⟨bq, hbq⟩ : ∃ bq, ((er1 : Int) == (er2 : Int)) = bq := ⟨_, rfl⟩
  have HBq := Lib.hid hbq
  have HBq2 : Hid (er1 = er2 → bq = true) := Lib.hid (fun e => by rw [← hbq, e]; simp)
  have HCp : Hid (∀ (f : Nat → Bool) (e : Nat → Value) (w' : World), StR base X x #[.int .i64 x.kind, .int .i64 x.node, .string x.text, .int .i64 x.s.val.a.node, .string x.s.val.a.id, .string x.s.val.a.name, .slice x.s.val.A x.s.val.n x.s.val.c, .int .i64 x.s.val.a.port, .int .u64 (x.s.made : Int), .int .u64 (x.s.ix : Int), .int .i64 x.c.val.node, .string x.c.val.id, .string x.c.val.svc, .string x.c.val.note, .int .i64 x.c.val.status, .int .u64 (x.c.made : Int), .int .u64 (x.c.ix : Int), .int .u64 (x.ix : Int)] 5 11 B B1 B2 B3 m D md d d' d2 d2' (.int .i64 (er1 : Int)) (.int .i64 (er2 : Int)) f e w' → f 5 = false → Calls Tryz.prog 20 #[.pointer (some ⟨B, 0, none⟩), .agg #[.int .i64 x.c.val.node, .string x.c.val.id, .string x.c.val.svc, .string x.c.val.note, .int .i64 x.c.val.status, .int .u64 (x.c.made : Int), .int .u64 (x.c.ix : Int)], .int .u64 (x.ix : Int)] w' fun r w2 => ∃ v, r = .returned v ∧ (∀ e', (∀ m, m ≠ 5 → e' m = e m) → e' 5 = v → StR base X x #[.int .i64 x.kind, .int .i64 x.node, .string x.text, .int .i64 x.s.val.a.node, .string x.s.val.a.id, .string x.s.val.a.name, .slice x.s.val.A x.s.val.n x.s.val.c, .int .i64 x.s.val.a.port, .int .u64 (x.s.made : Int), .int .u64 (x.s.ix : Int), .int .i64 x.c.val.node, .string x.c.val.id, .string x.c.val.svc, .string x.c.val.note, .int .i64 x.c.val.status, .int .u64 (x.c.made : Int), .int .u64 (x.c.ix : Int), .int .u64 (x.ix : Int)] 5 11 B B1 B2 B3 m D md d d' d2 d2' (.int .i64 (er1 : Int)) (.int .i64 (er2 : Int)) (Go.Rel.upd f 5) e' w2) ∧ But (Ch4 B1 B2 B3 D) w' w2) := Lib.hid fun f e w' hI hf =>
    hI.left (by decide) hf fun S h ht => by
      have h9 := rcheck_any x.c x.ix h HOk.out.c HOk.out.ix
      rw [show d.check x.c.val x.ix = (er1, d') from HE1.out] at h9
      exact h9
  have HCd : Hid (∀ (f : Nat → Bool) (e : Nat → Value) (w' : World), StR base X x #[.int .i64 x.kind, .int .i64 x.node, .string x.text, .int .i64 x.s.val.a.node, .string x.s.val.a.id, .string x.s.val.a.name, .slice x.s.val.A x.s.val.n x.s.val.c, .int .i64 x.s.val.a.port, .int .u64 (x.s.made : Int), .int .u64 (x.s.ix : Int), .int .i64 x.c.val.node, .string x.c.val.id, .string x.c.val.svc, .string x.c.val.note, .int .i64 x.c.val.status, .int .u64 (x.c.made : Int), .int .u64 (x.c.ix : Int), .int .u64 (x.ix : Int)] 5 11 B B1 B2 B3 m D md d d' d2 d2' (.int .i64 (er1 : Int)) (.int .i64 (er2 : Int)) f e w' → f 11 = false → Calls Tryz.prog 40 #[.pointer (some ⟨D, 0, none⟩), .agg #[.int .i64 x.c.val.node, .string x.c.val.id, .string x.c.val.svc, .string x.c.val.note, .int .i64 x.c.val.status, .int .u64 (x.c.made : Int), .int .u64 (x.c.ix : Int)], .int .u64 (x.ix : Int)] w' fun r w2 => ∃ v, r = .returned v ∧ (∀ e', (∀ m, m ≠ 11 → e' m = e m) → e' 11 = v → StR base X x #[.int .i64 x.kind, .int .i64 x.node, .string x.text, .int .i64 x.s.val.a.node, .string x.s.val.a.id, .string x.s.val.a.name, .slice x.s.val.A x.s.val.n x.s.val.c, .int .i64 x.s.val.a.port, .int .u64 (x.s.made : Int), .int .u64 (x.s.ix : Int), .int .i64 x.c.val.node, .string x.c.val.id, .string x.c.val.svc, .string x.c.val.note, .int .i64 x.c.val.status, .int .u64 (x.c.made : Int), .int .u64 (x.c.ix : Int), .int .u64 (x.ix : Int)] 5 11 B B1 B2 B3 m D md d d' d2 d2' (.int .i64 (er1 : Int)) (.int .i64 (er2 : Int)) (Go.Rel.upd f 11) e' w2) ∧ But (Ch4 B1 B2 B3 D) w' w2) := Lib.hid fun f e w' hI hf =>
    hI.right (by decide) hf fun S h ht => by
      have h9 := rdcheck_any x.c x.ix h HOk.out.c HOk.out.ix
      rw [show d2.check x.c.val x.ix = (er2, d2') from HE2.out] at h9
      exact h9
  unfold stV
  rw [hk]
  have HKd := Lib.hid hk
  clear h hx ht ha1 ha2 he1 he2 b0 k0 hW1 hX hbq hk
  go_enter Tryz.func11, Tryz.ntmps11
  go_wp2_with fail
  rw [← HKd.out]
  rw [HW1.out, HX.out]
  have hre : ∀ w : World, (But (Ch4 B1 B2 B3 D)) w w := (fun w => But.refl _ w)
  have hrd : ∀ (ops9 : Array Oper) (f9 : Nat → Bool) (e9 : Nat → Value) (w9 : World) (i9 : Nat) (v9 : Value) (e8 : Nat → Value), [5, 11].contains i9 = false → (fun (f : Nat → Bool) (e : Nat → Value) (w : World) => StR base X x #[.int .i64 x.kind, .int .i64 x.node, .string x.text, .int .i64 x.s.val.a.node, .string x.s.val.a.id, .string x.s.val.a.name, .slice x.s.val.A x.s.val.n x.s.val.c, .int .i64 x.s.val.a.port, .int .u64 (x.s.made : Int), .int .u64 (x.s.ix : Int), .int .i64 x.c.val.node, .string x.c.val.id, .string x.c.val.svc, .string x.c.val.note, .int .i64 x.c.val.status, .int .u64 (x.c.made : Int), .int .u64 (x.c.ix : Int), .int .u64 (x.ix : Int)] 5 11 B B1 B2 B3 m D md d d' d2 d2' (.int .i64 (er1 : Int)) (.int .i64 (er2 : Int)) f e w) f9 e9 w9 → Go.Rel.Put ops9 i9 e9 v9 e8 → (fun (f : Nat → Bool) (e : Nat → Value) (w : World) => StR base X x #[.int .i64 x.kind, .int .i64 x.node, .string x.text, .int .i64 x.s.val.a.node, .string x.s.val.a.id, .string x.s.val.a.name, .slice x.s.val.A x.s.val.n x.s.val.c, .int .i64 x.s.val.a.port, .int .u64 (x.s.made : Int), .int .u64 (x.s.ix : Int), .int .i64 x.c.val.node, .string x.c.val.id, .string x.c.val.svc, .string x.c.val.note, .int .i64 x.c.val.status, .int .u64 (x.c.made : Int), .int .u64 (x.c.ix : Int), .int .u64 (x.ix : Int)] 5 11 B B1 B2 B3 m D md d d' d2 d2' (.int .i64 (er1 : Int)) (.int .i64 (er2 : Int)) f e w) (Go.Rel.upd f9 i9) e8 w9 := (fun _ _ _ _ _ _ _ hj h hp => StR.keep hj h hp)
  refine Go.Rel.wp_tabe (by kernel_rfl) (by kernel_rfl) (fun (f : Nat → Bool) (e : Nat → Value) (w : World) => StR base X x #[.int .i64 x.kind, .int .i64 x.node, .string x.text, .int .i64 x.s.val.a.node, .string x.s.val.a.id, .string x.s.val.a.name, .slice x.s.val.A x.s.val.n x.s.val.c, .int .i64 x.s.val.a.port, .int .u64 (x.s.made : Int), .int .u64 (x.s.ix : Int), .int .i64 x.c.val.node, .string x.c.val.id, .string x.c.val.svc, .string x.c.val.note, .int .i64 x.c.val.status, .int .u64 (x.c.made : Int), .int .u64 (x.c.ix : Int), .int .u64 (x.ix : Int)] 5 11 B B1 B2 B3 m D md d d' d2 d2' (.int .i64 (er1 : Int)) (.int .i64 (er2 : Int)) f e w) (But (Ch4 B1 B2 B3 D)) hre ((fun _ _ _ h k => h.trans k)) ((But.refl _ _).drew) (fun e => StR.start HBo.out HK1.out HOut.out HTg.out e) (rst4 B D X x bq) (fun | 5, v, w => True | 11, v, w => True | _, _, _ => True) (fun i => ([5, 11] : List Nat).contains i) (fun i => ([2, 4, 5, 8, 10, 11, 12] : List Nat).contains i) (by kernel_rfl) (fun i v w w' h g => by revert h; split <;> exact id) [5, 11] (by decide) (hrd _) ?_ (Go.Rel.AllOf.get ?_) ?_
  · repeat (refine .cons (by first | exact Go.Rel.pure_sp rfl | exact Go.Rel.pure_yes (by kernel_rfl) (fun _ => by kernel_rfl) | exact Go.Rel.pure_no (by kernel_rfl) rfl) ?_)
    exact .nil
  · refine ⟨?_, ?_, ?_, ?_, ?_, ?_, ?_, trivial⟩
    · exact SpecE.ld (hrd _) hre (q := .pointer (some ⟨X, 10, none⟩)) (h := fun _ w' _ hI _ _ _ _ => by obtain ⟨y0, y1, y2, y3, y4, y5, y6, y7, y8, y9, y10, y11, y12, y13, y14, y15, y16, y17⟩ := st_blk (x := x) hI.blk; go_simp; rfl)
    · exact SpecE.ld (hrd _) hre (q := .pointer (some ⟨X, 17, none⟩)) (h := fun _ w' _ hI _ _ _ _ => by obtain ⟨y0, y1, y2, y3, y4, y5, y6, y7, y8, y9, y10, y11, y12, y13, y14, y15, y16, y17⟩ := st_blk (x := x) hI.blk; go_simp; rfl)
    · refine SpecE.gen (fun e => [(80, .pointer (some ⟨B, 0, none⟩)), (82, .agg #[.int .i64 x.c.val.node, .string x.c.val.id, .string x.c.val.svc, .string x.c.val.note, .int .i64 x.c.val.status, .int .u64 (x.c.made : Int), .int .u64 (x.c.ix : Int)]), (84, .int .u64 (x.ix : Int))]) rfl rfl (fun _ => by kernel_rfl) fun f w' e hI hf hdesc hanc hle hX K hK => ?_
      go_simp
      refine (HCp.out f e w' hI hf).mono ?_
      rintro e9 w9 ⟨v9, rfl, h9, hb9⟩
      exact hK _ _ hb9 (fun e' hp => h9 e' (fun m hm => hp.1 m hm) (hp.2 rfl)) trivial
    · exact SpecE.ld (hrd _) hre (q := .pointer (some ⟨X, 10, none⟩)) (h := fun _ w' _ hI _ _ _ _ => by obtain ⟨y0, y1, y2, y3, y4, y5, y6, y7, y8, y9, y10, y11, y12, y13, y14, y15, y16, y17⟩ := st_blk (x := x) hI.blk; go_simp; rfl)
    · exact SpecE.ld (hrd _) hre (q := .pointer (some ⟨X, 17, none⟩)) (h := fun _ w' _ hI _ _ _ _ => by obtain ⟨y0, y1, y2, y3, y4, y5, y6, y7, y8, y9, y10, y11, y12, y13, y14, y15, y16, y17⟩ := st_blk (x := x) hI.blk; go_simp; rfl)
    · refine SpecE.gen (fun e => [(86, .pointer (some ⟨D, 0, none⟩)), (88, .agg #[.int .i64 x.c.val.node, .string x.c.val.id, .string x.c.val.svc, .string x.c.val.note, .int .i64 x.c.val.status, .int .u64 (x.c.made : Int), .int .u64 (x.c.ix : Int)]), (90, .int .u64 (x.ix : Int))]) rfl rfl (fun _ => by kernel_rfl) fun f w' e hI hf hdesc hanc hle hX K hK => ?_
      go_simp
      refine (HCd.out f e w' hI hf).mono ?_
      rintro e9 w9 ⟨v9, rfl, h9, hb9⟩
      exact hK _ _ hb9 (fun e' hp => h9 e' (fun m hm => hp.1 m hm) (hp.2 rfl)) trivial
    · refine SpecE.gen (fun e => [(85, e 5), (91, e 11)]) rfl rfl (fun _ => by kernel_rfl) fun f w' e hI hf hdesc hanc hle hX K hK => ?_
      have q1 := hI.k1 (hanc 60 5 (by kernel_rfl))
      have q2 := hI.k2 (hanc 60 11 (by kernel_rfl))
      have qq := HBq.out
      simp only [q1, q2]
      go_simp
      exact hK _ _ (hre _) (fun e' hp => hrd _ f e w' 12 _ e' rfl hI hp) rfl
  · intro f w2 e hall hJ hle hv
    have hb2 := hJ.both
    rw [hall 5 (by decide), hall 11 (by decide)] at hb2
    have HB2 := Lib.hid hb2
    have HL2 := Lib.hid hle
    have v9 := hv 13 rfl
    simp only [Go.Rel.finL, List.setIfInBounds_toArray, List.set_cons_succ, List.set_cons_zero]
    rw [show e 13 = .bool bq from v9]
    clear hv hall hJ hle hb2 v9
    go_wp2
    go_ret
    exact ⟨bq, rfl, HB2.out, (But.of_below HB0.out).trans HL2.out, HBq2.out⟩
def rst5 (B : Nat) (D : Nat) (X : Nat) (x : RSt) (bq : Bool) : Nat → Value
  | 0 => .pointer (some ⟨B, 0, none⟩)
  | 1 | 9 => .pointer (some ⟨X, 1, none⟩)
  | 2 | 10 => .int .i64 x.node
  | 3 | 11 => .pointer (some ⟨X, 2, none⟩)
  | 4 | 12 => .string x.text
  | 5 | 13 => .pointer (some ⟨X, 17, none⟩)
  | 6 | 14 => .int .u64 (x.ix : Int)
  | 8 => .pointer (some ⟨D, 0, none⟩)
  | 16 | 17 => .bool bq
  | _ => undef
set_option maxHeartbeats 4000000 in
set_option maxRecDepth 100000 in
theorem step5_any {base : Nat} {w : World} {B B1 B2 B3 m D md : Nat} {d d2 : Ro} (x : RSt) (h : Both base w B B1 B2 B3 m d D md d2) (hx : x.Ok w) (ht : TgAt (fun k => k < base) w x.s.val) (hk : x.kind = 5) : Calls Tryz.prog 11 #[.pointer (some ⟨B, 0, none⟩), .pointer (some ⟨D, 0, none⟩), stV x] w fun e w' => StepPost base w B B1 B2 B3 m (x.after d).2 D md (x.after d2).2 ((x.after d).1 = (x.after d2).1) e w' := by
  have ha1 : x.after d = d.dropC x.node x.text x.ix := by unfold RSt.after; simp only [hk]; rfl
  have ha2 : x.after d2 = d2.dropC x.node x.text x.ix := by unfold RSt.after; simp only [hk]; rfl
  rw [ha1, ha2]
  obtain ⟨⟨er1, d'⟩, he1⟩ : ∃ r, d.dropC x.node x.text x.ix = r := ⟨_, rfl⟩
  obtain ⟨⟨er2, d2'⟩, he2⟩ : ∃ r, d2.dropC x.node x.text x.ix = r := ⟨_, rfl⟩
  rw [he1, he2]
  have HE1 := Lib.hid he1
  have HE2 := Lib.hid he2
  have HOk := Lib.hid hx
  have HSi := Lib.hid (fun (W : World) (ht : TgAt (fun k => k < base) W x.s.val) => (⟨hx.s.node, hx.s.port, hx.s.id, hx.s.name, ht.tx, hx.s.small⟩ : SvIn W x.s))
  have b0 := below1 w #[.int .i64 x.kind, .int .i64 x.node, .string x.text, .int .i64 x.s.val.a.node, .string x.s.val.a.id, .string x.s.val.a.name, .slice x.s.val.A x.s.val.n x.s.val.c, .int .i64 x.s.val.a.port, .int .u64 (x.s.made : Int), .int .u64 (x.s.ix : Int), .int .i64 x.c.val.node, .string x.c.val.id, .string x.c.val.svc, .string x.c.val.note, .int .i64 x.c.val.status, .int .u64 (x.c.made : Int), .int .u64 (x.c.ix : Int), .int .u64 (x.ix : Int)] TRs
  have k0 := heap_alloc_new w (.cells #[.int .i64 x.kind, .int .i64 x.node, .string x.text, .int .i64 x.s.val.a.node, .string x.s.val.a.id, .string x.s.val.a.name, .slice x.s.val.A x.s.val.n x.s.val.c, .int .i64 x.s.val.a.port, .int .u64 (x.s.made : Int), .int .u64 (x.s.ix : Int), .int .i64 x.c.val.node, .string x.c.val.id, .string x.c.val.svc, .string x.c.val.note, .int .i64 x.c.val.status, .int .u64 (x.c.made : Int), .int .u64 (x.c.ix : Int), .int .u64 (x.ix : Int)] TRs)
  obtain ⟨X, hX⟩ : ∃ X, w.heap.size = X := ⟨_, rfl⟩
  obtain ⟨W1, hW1⟩ : ∃ W1, w.alloc (.cells #[.int .i64 x.kind, .int .i64 x.node, .string x.text, .int .i64 x.s.val.a.node, .string x.s.val.a.id, .string x.s.val.a.name, .slice x.s.val.A x.s.val.n x.s.val.c, .int .i64 x.s.val.a.port, .int .u64 (x.s.made : Int), .int .u64 (x.s.ix : Int), .int .i64 x.c.val.node, .string x.c.val.id, .string x.c.val.svc, .string x.c.val.note, .int .i64 x.c.val.status, .int .u64 (x.c.made : Int), .int .u64 (x.c.ix : Int), .int .u64 (x.ix : Int)] TRs) = W1 := ⟨_, rfl⟩
  rw [hW1] at b0 k0
  rw [hX] at k0
  have HBo := Lib.hid (h.below b0)
  have HOut : Hid (¬ Ch4 B1 B2 B3 D X) := Lib.hid (by
    have := h.lt
    rintro ((z | z | z) | z) <;> omega)
  have HTg := Lib.hid (ht.below b0)
  have HB0 := Lib.hid b0
  have HK1 := Lib.hid k0
  have HW1 := Lib.hid hW1
  have HX := Lib.hid hX
  obtain ⟨bq, hbq⟩ : ∃ bq, ((er1 : Int) == (er2 : Int)) = bq := ⟨_, rfl⟩
  have HBq := Lib.hid hbq
  have HBq2 : Hid (er1 = er2 → bq = true) := Lib.hid (fun e => by rw [← hbq, e]; simp)
  have HCp : Hid (∀ (f : Nat → Bool) (e : Nat → Value) (w' : World), StR base X x #[.int .i64 x.kind, .int .i64 x.node, .string x.text, .int .i64 x.s.val.a.node, .string x.s.val.a.id, .string x.s.val.a.name, .slice x.s.val.A x.s.val.n x.s.val.c, .int .i64 x.s.val.a.port, .int .u64 (x.s.made : Int), .int .u64 (x.s.ix : Int), .int .i64 x.c.val.node, .string x.c.val.id, .string x.c.val.svc, .string x.c.val.note, .int .i64 x.c.val.status, .int .u64 (x.c.made : Int), .int .u64 (x.c.ix : Int), .int .u64 (x.ix : Int)] 7 15 B B1 B2 B3 m D md d d' d2 d2' (.int .i64 (er1 : Int)) (.int .i64 (er2 : Int)) f e w' → f 7 = false → Calls Tryz.prog 21 #[.pointer (some ⟨B, 0, none⟩), .int .i64 x.node, .string x.text, .int .u64 (x.ix : Int)] w' fun r w2 => ∃ v, r = .returned v ∧ (∀ e', (∀ m, m ≠ 7 → e' m = e m) → e' 7 = v → StR base X x #[.int .i64 x.kind, .int .i64 x.node, .string x.text, .int .i64 x.s.val.a.node, .string x.s.val.a.id, .string x.s.val.a.name, .slice x.s.val.A x.s.val.n x.s.val.c, .int .i64 x.s.val.a.port, .int .u64 (x.s.made : Int), .int .u64 (x.s.ix : Int), .int .i64 x.c.val.node, .string x.c.val.id, .string x.c.val.svc, .string x.c.val.note, .int .i64 x.c.val.status, .int .u64 (x.c.made : Int), .int .u64 (x.c.ix : Int), .int .u64 (x.ix : Int)] 7 15 B B1 B2 B3 m D md d d' d2 d2' (.int .i64 (er1 : Int)) (.int .i64 (er2 : Int)) (Go.Rel.upd f 7) e' w2) ∧ But (Ch4 B1 B2 B3 D) w' w2) := Lib.hid fun f e w' hI hf =>
    hI.left (by decide) hf fun S h ht => by
      have h9 := rdropcheck_any x.node x.text x.ix h HOk.out.node HOk.out.text HOk.out.ix
      rw [show d.dropC x.node x.text x.ix = (er1, d') from HE1.out] at h9
      exact h9
  have HCd : Hid (∀ (f : Nat → Bool) (e : Nat → Value) (w' : World), StR base X x #[.int .i64 x.kind, .int .i64 x.node, .string x.text, .int .i64 x.s.val.a.node, .string x.s.val.a.id, .string x.s.val.a.name, .slice x.s.val.A x.s.val.n x.s.val.c, .int .i64 x.s.val.a.port, .int .u64 (x.s.made : Int), .int .u64 (x.s.ix : Int), .int .i64 x.c.val.node, .string x.c.val.id, .string x.c.val.svc, .string x.c.val.note, .int .i64 x.c.val.status, .int .u64 (x.c.made : Int), .int .u64 (x.c.ix : Int), .int .u64 (x.ix : Int)] 7 15 B B1 B2 B3 m D md d d' d2 d2' (.int .i64 (er1 : Int)) (.int .i64 (er2 : Int)) f e w' → f 15 = false → Calls Tryz.prog 41 #[.pointer (some ⟨D, 0, none⟩), .int .i64 x.node, .string x.text, .int .u64 (x.ix : Int)] w' fun r w2 => ∃ v, r = .returned v ∧ (∀ e', (∀ m, m ≠ 15 → e' m = e m) → e' 15 = v → StR base X x #[.int .i64 x.kind, .int .i64 x.node, .string x.text, .int .i64 x.s.val.a.node, .string x.s.val.a.id, .string x.s.val.a.name, .slice x.s.val.A x.s.val.n x.s.val.c, .int .i64 x.s.val.a.port, .int .u64 (x.s.made : Int), .int .u64 (x.s.ix : Int), .int .i64 x.c.val.node, .string x.c.val.id, .string x.c.val.svc, .string x.c.val.note, .int .i64 x.c.val.status, .int .u64 (x.c.made : Int), .int .u64 (x.c.ix : Int), .int .u64 (x.ix : Int)] 7 15 B B1 B2 B3 m D md d d' d2 d2' (.int .i64 (er1 : Int)) (.int .i64 (er2 : Int)) (Go.Rel.upd f 15) e' w2) ∧ But (Ch4 B1 B2 B3 D) w' w2) := Lib.hid fun f e w' hI hf =>
    hI.right (by decide) hf fun S h ht => by
      have h9 := rddropcheck_any x.node x.text x.ix h HOk.out.ix
      rw [show d2.dropC x.node x.text x.ix = (er2, d2') from HE2.out] at h9
      exact h9
  unfold stV
  rw [hk]
  have HKd := Lib.hid hk
  clear h hx ht ha1 ha2 he1 he2 b0 k0 hW1 hX hbq hk
  go_enter Tryz.func11, Tryz.ntmps11
  go_wp2_with fail
  rw [← HKd.out]
  rw [HW1.out, HX.out]
  have hre : ∀ w : World, (But (Ch4 B1 B2 B3 D)) w w := (fun w => But.refl _ w)
  have hrd : ∀ (ops9 : Array Oper) (f9 : Nat → Bool) (e9 : Nat → Value) (w9 : World) (i9 : Nat) (v9 : Value) (e8 : Nat → Value), [7, 15].contains i9 = false → (fun (f : Nat → Bool) (e : Nat → Value) (w : World) => StR base X x #[.int .i64 x.kind, .int .i64 x.node, .string x.text, .int .i64 x.s.val.a.node, .string x.s.val.a.id, .string x.s.val.a.name, .slice x.s.val.A x.s.val.n x.s.val.c, .int .i64 x.s.val.a.port, .int .u64 (x.s.made : Int), .int .u64 (x.s.ix : Int), .int .i64 x.c.val.node, .string x.c.val.id, .string x.c.val.svc, .string x.c.val.note, .int .i64 x.c.val.status, .int .u64 (x.c.made : Int), .int .u64 (x.c.ix : Int), .int .u64 (x.ix : Int)] 7 15 B B1 B2 B3 m D md d d' d2 d2' (.int .i64 (er1 : Int)) (.int .i64 (er2 : Int)) f e w) f9 e9 w9 → Go.Rel.Put ops9 i9 e9 v9 e8 → (fun (f : Nat → Bool) (e : Nat → Value) (w : World) => StR base X x #[.int .i64 x.kind, .int .i64 x.node, .string x.text, .int .i64 x.s.val.a.node, .string x.s.val.a.id, .string x.s.val.a.name, .slice x.s.val.A x.s.val.n x.s.val.c, .int .i64 x.s.val.a.port, .int .u64 (x.s.made : Int), .int .u64 (x.s.ix : Int), .int .i64 x.c.val.node, .string x.c.val.id, .string x.c.val.svc, .string x.c.val.note, .int .i64 x.c.val.status, .int .u64 (x.c.made : Int), .int .u64 (x.c.ix : Int), .int .u64 (x.ix : Int)] 7 15 B B1 B2 B3 m D md d d' d2 d2' (.int .i64 (er1 : Int)) (.int .i64 (er2 : Int)) f e w) (Go.Rel.upd f9 i9) e8 w9 := (fun _ _ _ _ _ _ _ hj h hp => StR.keep hj h hp)
  refine Go.Rel.wp_tabe (by kernel_rfl) (by kernel_rfl) (fun (f : Nat → Bool) (e : Nat → Value) (w : World) => StR base X x #[.int .i64 x.kind, .int .i64 x.node, .string x.text, .int .i64 x.s.val.a.node, .string x.s.val.a.id, .string x.s.val.a.name, .slice x.s.val.A x.s.val.n x.s.val.c, .int .i64 x.s.val.a.port, .int .u64 (x.s.made : Int), .int .u64 (x.s.ix : Int), .int .i64 x.c.val.node, .string x.c.val.id, .string x.c.val.svc, .string x.c.val.note, .int .i64 x.c.val.status, .int .u64 (x.c.made : Int), .int .u64 (x.c.ix : Int), .int .u64 (x.ix : Int)] 7 15 B B1 B2 B3 m D md d d' d2 d2' (.int .i64 (er1 : Int)) (.int .i64 (er2 : Int)) f e w) (But (Ch4 B1 B2 B3 D)) hre ((fun _ _ _ h k => h.trans k)) ((But.refl _ _).drew) (fun e => StR.start HBo.out HK1.out HOut.out HTg.out e) (rst5 B D X x bq) (fun | 7, v, w => True | 15, v, w => True | _, _, _ => True) (fun i => ([7, 15] : List Nat).contains i) (fun i => ([2, 4, 6, 7, 10, 12, 14, 15, 16] : List Nat).contains i) (by kernel_rfl) (fun i v w w' h g => by revert h; split <;> exact id) [7, 15] (by decide) (hrd _) ?_ (Go.Rel.AllOf.get ?_) ?_
  · repeat (refine .cons (by first | exact Go.Rel.pure_sp rfl | exact Go.Rel.pure_yes (by kernel_rfl) (fun _ => by kernel_rfl) | exact Go.Rel.pure_no (by kernel_rfl) rfl) ?_)
    exact .nil
  · refine ⟨?_, ?_, ?_, ?_, ?_, ?_, ?_, ?_, ?_, trivial⟩
    · exact SpecE.ld (hrd _) hre (q := .pointer (some ⟨X, 1, none⟩)) (h := fun _ w' _ hI _ _ _ _ => by obtain ⟨y0, y1, y2, y3, y4, y5, y6, y7, y8, y9, y10, y11, y12, y13, y14, y15, y16, y17⟩ := st_blk (x := x) hI.blk; go_simp; rfl)
    · exact SpecE.ld (hrd _) hre (q := .pointer (some ⟨X, 2, none⟩)) (h := fun _ w' _ hI _ _ _ _ => by obtain ⟨y0, y1, y2, y3, y4, y5, y6, y7, y8, y9, y10, y11, y12, y13, y14, y15, y16, y17⟩ := st_blk (x := x) hI.blk; go_simp; rfl)
    · exact SpecE.ld (hrd _) hre (q := .pointer (some ⟨X, 17, none⟩)) (h := fun _ w' _ hI _ _ _ _ => by obtain ⟨y0, y1, y2, y3, y4, y5, y6, y7, y8, y9, y10, y11, y12, y13, y14, y15, y16, y17⟩ := st_blk (x := x) hI.blk; go_simp; rfl)
    · refine SpecE.gen (fun e => [(95, .pointer (some ⟨B, 0, none⟩)), (97, .int .i64 x.node), (99, .string x.text), (101, .int .u64 (x.ix : Int))]) rfl rfl (fun _ => by kernel_rfl) fun f w' e hI hf hdesc hanc hle hX K hK => ?_
      go_simp
      refine (HCp.out f e w' hI hf).mono ?_
      rintro e9 w9 ⟨v9, rfl, h9, hb9⟩
      exact hK _ _ hb9 (fun e' hp => h9 e' (fun m hm => hp.1 m hm) (hp.2 rfl)) trivial
    · exact SpecE.ld (hrd _) hre (q := .pointer (some ⟨X, 1, none⟩)) (h := fun _ w' _ hI _ _ _ _ => by obtain ⟨y0, y1, y2, y3, y4, y5, y6, y7, y8, y9, y10, y11, y12, y13, y14, y15, y16, y17⟩ := st_blk (x := x) hI.blk; go_simp; rfl)
    · exact SpecE.ld (hrd _) hre (q := .pointer (some ⟨X, 2, none⟩)) (h := fun _ w' _ hI _ _ _ _ => by obtain ⟨y0, y1, y2, y3, y4, y5, y6, y7, y8, y9, y10, y11, y12, y13, y14, y15, y16, y17⟩ := st_blk (x := x) hI.blk; go_simp; rfl)
    · exact SpecE.ld (hrd _) hre (q := .pointer (some ⟨X, 17, none⟩)) (h := fun _ w' _ hI _ _ _ _ => by obtain ⟨y0, y1, y2, y3, y4, y5, y6, y7, y8, y9, y10, y11, y12, y13, y14, y15, y16, y17⟩ := st_blk (x := x) hI.blk; go_simp; rfl)
    · refine SpecE.gen (fun e => [(103, .pointer (some ⟨D, 0, none⟩)), (105, .int .i64 x.node), (107, .string x.text), (109, .int .u64 (x.ix : Int))]) rfl rfl (fun _ => by kernel_rfl) fun f w' e hI hf hdesc hanc hle hX K hK => ?_
      go_simp
      refine (HCd.out f e w' hI hf).mono ?_
      rintro e9 w9 ⟨v9, rfl, h9, hb9⟩
      exact hK _ _ hb9 (fun e' hp => h9 e' (fun m hm => hp.1 m hm) (hp.2 rfl)) trivial
    · refine SpecE.gen (fun e => [(102, e 7), (110, e 15)]) rfl rfl (fun _ => by kernel_rfl) fun f w' e hI hf hdesc hanc hle hX K hK => ?_
      have q1 := hI.k1 (hanc 60 7 (by kernel_rfl))
      have q2 := hI.k2 (hanc 60 15 (by kernel_rfl))
      have qq := HBq.out
      simp only [q1, q2]
      go_simp
      exact hK _ _ (hre _) (fun e' hp => hrd _ f e w' 16 _ e' rfl hI hp) rfl
  · intro f w2 e hall hJ hle hv
    have hb2 := hJ.both
    rw [hall 7 (by decide), hall 15 (by decide)] at hb2
    have HB2 := Lib.hid hb2
    have HL2 := Lib.hid hle
    have v9 := hv 17 rfl
    simp only [Go.Rel.finL, List.setIfInBounds_toArray, List.set_cons_succ, List.set_cons_zero]
    rw [show e 17 = .bool bq from v9]
    clear hv hall hJ hle hb2 v9
    go_wp2
    go_ret
    exact ⟨bq, rfl, HB2.out, (But.of_below HB0.out).trans HL2.out, HBq2.out⟩
end Go.Proofs.YtilkbfmaofmjoaaGreatDoor
/-
  The law's step: Copy, and what is no call (layer 19).
-/
namespace Go.Proofs.YtilkbfmaofmjoaaGreatDoor
open Go.RowKit
set_option linter.unusedSimpArgs false
set_option linter.unusedVariables false

set_option maxHeartbeats 4000000 in
set_option maxRecDepth 100000 in
theorem step6_any {base : Nat} {w : World} {B B1 B2 B3 m D md : Nat} {d : Ro} (x : RSt) (h : Both base w B B1 B2 B3 m d D md d) (hx : x.Ok w) (ht : TgAt (fun k => k < base) w x.s.val) (hk : x.kind = 6) : Calls Tryz.prog 11 #[.pointer (some ⟨B, 0, none⟩), .pointer (some ⟨D, 0, none⟩), stV x] w fun e w' => StepPost base w B B1 B2 B3 m d D md d True e w' := by
  have HOk := Lib.hid hx
  have b0 := below1 w #[.int .i64 x.kind, .int .i64 x.node, .string x.text, .int .i64 x.s.val.a.node, .string x.s.val.a.id, .string x.s.val.a.name, .slice x.s.val.A x.s.val.n x.s.val.c, .int .i64 x.s.val.a.port, .int .u64 (x.s.made : Int), .int .u64 (x.s.ix : Int), .int .i64 x.c.val.node, .string x.c.val.id, .string x.c.val.svc, .string x.c.val.note, .int .i64 x.c.val.status, .int .u64 (x.c.made : Int), .int .u64 (x.c.ix : Int), .int .u64 (x.ix : Int)] TRs
  have k0 := heap_alloc_new w (.cells #[.int .i64 x.kind, .int .i64 x.node, .string x.text, .int .i64 x.s.val.a.node, .string x.s.val.a.id, .string x.s.val.a.name, .slice x.s.val.A x.s.val.n x.s.val.c, .int .i64 x.s.val.a.port, .int .u64 (x.s.made : Int), .int .u64 (x.s.ix : Int), .int .i64 x.c.val.node, .string x.c.val.id, .string x.c.val.svc, .string x.c.val.note, .int .i64 x.c.val.status, .int .u64 (x.c.made : Int), .int .u64 (x.c.ix : Int), .int .u64 (x.ix : Int)] TRs)
  obtain ⟨X, hX⟩ : ∃ X, w.heap.size = X := ⟨_, rfl⟩
  obtain ⟨W1, hW1⟩ : ∃ W1, w.alloc (.cells #[.int .i64 x.kind, .int .i64 x.node, .string x.text, .int .i64 x.s.val.a.node, .string x.s.val.a.id, .string x.s.val.a.name, .slice x.s.val.A x.s.val.n x.s.val.c, .int .i64 x.s.val.a.port, .int .u64 (x.s.made : Int), .int .u64 (x.s.ix : Int), .int .i64 x.c.val.node, .string x.c.val.id, .string x.c.val.svc, .string x.c.val.note, .int .i64 x.c.val.status, .int .u64 (x.c.made : Int), .int .u64 (x.c.ix : Int), .int .u64 (x.ix : Int)] TRs) = W1 := ⟨_, rfl⟩
  have s0 : W1.heap.size = X + 1 := by rw [← hW1, ← hX]; simp
  rw [hW1] at b0 k0
  rw [hX] at k0
  have HB0 := Lib.hid b0
  have HK1 := Lib.hid k0
  have HW1 := Lib.hid hW1
  have HX := Lib.hid hX
  have HS0 := Lib.hid s0
  obtain ⟨Sp, h1⟩ := h.read
  have HCp := Lib.hid (rcopy_any (h1.below b0))
  have HBo := Lib.hid h
  unfold stV
  rw [hk]
  have HKd := Lib.hid hk
  clear h hx ht b0 k0 hW1 hX s0 hk h1
  go_enter Tryz.func11, Tryz.ntmps11
  go_wp2_with fail
  rw [← HKd.out]
  rw [HW1.out, HX.out]
  refine HCp.out.mono ?_
  rintro e W2 ⟨c0, c1, c2, c3, rfl, hc, hz, hb⟩
  have HC2 := Lib.hid hc
  have HZ := Lib.hid (show X < c1 ∧ X < c2 ∧ X < c3 by have := HS0.out; omega)
  have HB2 := Lib.hid (HB0.out.trans (hb.mono HB0.out.size))
  have HK2 := Lib.hid ((hb.block X (by have := HS0.out; omega)).trans HK1.out)
  have HSm := Lib.hid (by
    obtain ⟨Sd, A1, A2, A3, e1, e2, e3, l2, hok, hd⟩ := (HBo.out.below (HB0.out.trans (hb.mono HB0.out.size))).ref
    exact same_yes hc hd : Calls Tryz.prog 12 #[.pointer (some ⟨c0, 0, none⟩), .pointer (some ⟨D, 0, none⟩)] W2 fun e w' => e = .returned (.bool true) ∧ Below W2.heap.size W2 w')
  clear hc hz hb HCp
  go_wp2_with fail
  refine HSm.out.mono ?_
  rintro e W3 ⟨rfl, hb⟩
  have HB3 := Lib.hid (HB2.out.trans (hb.mono HB2.out.size))
  have HK3 := Lib.hid ((hb.block X (block_lt HK2.out)).trans HK2.out)
  have HC3 := Lib.hid (HC2.out.below hb)
  obtain ⟨y0, y1, y2, y3, y4, y5, y6, y7, y8, y9, y10, y11, y12, y13, y14, y15, y16, y17⟩ := st_blk (x := x) HK3.out
  have HDn := Lib.hid (rdropnode_any x.node 18446744073709551615 HC3.out HOk.out.node (by decide))
  clear hb HSm
  go_wp2_with fail
  refine HDn.out.mono ?_
  rintro e W4 ⟨rfl, hc, hb⟩
  have HC4 := Lib.hid hc
  have HB4 := Lib.hid hb
  have HK4 := Lib.hid ((hb.block X (block_lt HK3.out) (by have := HZ.out; rintro (z | z | z) <;> omega)).trans HK3.out)
  clear y0 y1 y2 y3 y4 y5 y6 y7 y8 y9 y10 y11 y12 y13 y14 y15 y16 y17 hc hb HDn
  obtain ⟨y0, y1, y2, y3, y4, y5, y6, y7, y8, y9, y10, y11, y12, y13, y14, y15, y16, y17⟩ := st_blk (x := x) HK4.out
  have HNo := Lib.hid (rnode_any x.node (⟨#[111, 116, 104, 101, 114]⟩ : ByteArray) x.ix HC4.out HOk.out.node (by decide) HOk.out.ix)
  go_wp2_with fail
  refine HNo.out.mono ?_
  rintro e W5 ⟨rfl, hc, hb⟩
  have HB5 := Lib.hid (HB4.out.trans hb)
  clear y0 y1 y2 y3 y4 y5 y6 y7 y8 y9 y10 y11 y12 y13 y14 y15 y16 y17 hc hb HNo
  go_wp2
  go_ret
  refine ⟨true, rfl, HBo.out.aside HB3.out (b1 := c1) (b2 := c2) (b3 := c3) (by have := HZ.out; have := HX.out; omega) HB5.out, ?_, fun _ => rfl⟩
  exact (But.of_below HB3.out).then_ HB5.out fun k hk e => absurd e (by have := HZ.out; have := HX.out; rcases hk with z | z | z <;> omega)
set_option maxRecDepth 100000 in
theorem step7_any {base : Nat} {w : World} {B B1 B2 B3 m D md : Nat} {d d2 : Ro} (x : RSt) (h : Both base w B B1 B2 B3 m d D md d2) (hx : x.Ok w) (ht : TgAt (fun k => k < base) w x.s.val) (hk : x.kind < 0 ∨ 6 < x.kind) : Calls Tryz.prog 11 #[.pointer (some ⟨B, 0, none⟩), .pointer (some ⟨D, 0, none⟩), stV x] w fun e w' => StepPost base w B B1 B2 B3 m d D md d2 True e w' := by
  have b0 := below1 w #[.int .i64 x.kind, .int .i64 x.node, .string x.text, .int .i64 x.s.val.a.node, .string x.s.val.a.id, .string x.s.val.a.name, .slice x.s.val.A x.s.val.n x.s.val.c, .int .i64 x.s.val.a.port, .int .u64 (x.s.made : Int), .int .u64 (x.s.ix : Int), .int .i64 x.c.val.node, .string x.c.val.id, .string x.c.val.svc, .string x.c.val.note, .int .i64 x.c.val.status, .int .u64 (x.c.made : Int), .int .u64 (x.c.ix : Int), .int .u64 (x.ix : Int)] TRs
  have k0 := heap_alloc_new w (.cells #[.int .i64 x.kind, .int .i64 x.node, .string x.text, .int .i64 x.s.val.a.node, .string x.s.val.a.id, .string x.s.val.a.name, .slice x.s.val.A x.s.val.n x.s.val.c, .int .i64 x.s.val.a.port, .int .u64 (x.s.made : Int), .int .u64 (x.s.ix : Int), .int .i64 x.c.val.node, .string x.c.val.id, .string x.c.val.svc, .string x.c.val.note, .int .i64 x.c.val.status, .int .u64 (x.c.made : Int), .int .u64 (x.c.ix : Int), .int .u64 (x.ix : Int)] TRs)
  obtain ⟨X, hX⟩ : ∃ X, w.heap.size = X := ⟨_, rfl⟩
  obtain ⟨W1, hW1⟩ : ∃ W1, w.alloc (.cells #[.int .i64 x.kind, .int .i64 x.node, .string x.text, .int .i64 x.s.val.a.node, .string x.s.val.a.id, .string x.s.val.a.name, .slice x.s.val.A x.s.val.n x.s.val.c, .int .i64 x.s.val.a.port, .int .u64 (x.s.made : Int), .int .u64 (x.s.ix : Int), .int .i64 x.c.val.node, .string x.c.val.id, .string x.c.val.svc, .string x.c.val.note, .int .i64 x.c.val.status, .int .u64 (x.c.made : Int), .int .u64 (x.c.ix : Int), .int .u64 (x.ix : Int)] TRs) = W1 := ⟨_, rfl⟩
  have s0 : W1.heap.size = X + 1 := by rw [← hW1, ← hX]; simp
  rw [hW1] at b0 k0
  rw [hX] at k0
  have HB0 := Lib.hid b0
  have HK1 := Lib.hid k0
  have HW1 := Lib.hid hW1
  have HX := Lib.hid hX
  have HS0 := Lib.hid s0
  have HBo := Lib.hid (h.below b0)
  have n0 : ¬ x.kind = 0 := by omega
  have n1 : ¬ x.kind = 1 := by omega
  have n2 : ¬ x.kind = 2 := by omega
  have n3 : ¬ x.kind = 3 := by omega
  have n4 : ¬ x.kind = 4 := by omega
  have n5 : ¬ x.kind = 5 := by omega
  have n6 : ¬ x.kind = 6 := by omega
  unfold stV
  clear h hx ht b0 k0 s0 hX hW1 hk
  go_enter Tryz.func11, Tryz.ntmps11
  go_wp2
  go_ret
  rw [HW1.out]
  exact ⟨true, rfl, HBo.out, But.of_below HB0.out, fun _ => rfl⟩
/-- Both make of a step the same, and it is told so. -/
theorem step_same {base : Nat} {w : World} {B B1 B2 B3 m D md : Nat} {d : Ro} (x : RSt) (h : Both base w B B1 B2 B3 m d D md d) (hx : x.Ok w) (ht : TgAt (fun k => k < base) w x.s.val) : Calls Tryz.prog 11 #[.pointer (some ⟨B, 0, none⟩), .pointer (some ⟨D, 0, none⟩), stV x] w fun e w' => e = .returned (.bool true) ∧ Both base w' B B1 B2 B3 m (x.after d).2 D md (x.after d).2 ∧ But (Ch4 B1 B2 B3 D) w w' := by
  have fin : ∀ {d' : Ro} {P : Prop}, P → (x.after d).2 = d' → Calls Tryz.prog 11 #[.pointer (some ⟨B, 0, none⟩), .pointer (some ⟨D, 0, none⟩), stV x] w (StepPost base w B B1 B2 B3 m d' D md d' P) → Calls Tryz.prog 11 #[.pointer (some ⟨B, 0, none⟩), .pointer (some ⟨D, 0, none⟩), stV x] w fun e w' => e = .returned (.bool true) ∧ Both base w' B B1 B2 B3 m (x.after d).2 D md (x.after d).2 ∧ But (Ch4 B1 B2 B3 D) w w' := fun hp hd hc => hc.mono fun e w' ⟨b, q1, q2, q3, q4⟩ => ⟨by rw [q1, q4 hp], by rw [hd]; exact q2, q3⟩
  rcases (show x.kind = 0 ∨ x.kind = 1 ∨ x.kind = 2 ∨ x.kind = 3 ∨ x.kind = 4 ∨ x.kind = 5 ∨ x.kind = 6 ∨ (x.kind < 0 ∨ 6 < x.kind) by omega) with k | k | k | k | k | k | k | k
  · exact fin rfl rfl (step0_any x h hx ht k)
  · exact fin rfl rfl (step1_any x h hx ht k)
  · exact fin rfl rfl (step2_any x h hx ht k)
  · exact fin rfl rfl (step3_any x h hx ht k)
  · exact fin rfl rfl (step4_any x h hx ht k)
  · exact fin rfl rfl (step5_any x h hx ht k)
  · exact fin trivial (by unfold RSt.after; simp [k]) (step6_any x h hx ht k)
  · exact fin trivial (by
      unfold RSt.after
      rw [if_neg (by omega), if_neg (by omega), if_neg (by omega), if_neg (by omega), if_neg (by omega), if_neg (by omega)]) (step7_any x h hx ht k)
end Go.Proofs.YtilkbfmaofmjoaaGreatDoor
/-
  The law's own check that a roster works, walked (layer 19).
-/
namespace Go.Proofs.YtilkbfmaofmjoaaGreatDoor
open Go.RowKit
set_option linter.unusedSimpArgs false
set_option linter.unusedVariables false

theorem forSvc_eq (s : ByteArray) (v : CkA) : forSvc s v = (decide (v.svc = noT) || decide (v.svc = s)) := by
  unfold forSvc
  rw [Bool.eq_iff_iff]
  simp only [Bool.or_eq_true, text_same, decide_eq_true_eq]
def wkN : NdA := ⟨1, ⟨#[120]⟩⟩
def wkS : Rw SvW := (⟨noT, ⟨⟨1, ⟨#[119, 101, 98, 45, 49]⟩, ⟨#[119, 101, 98]⟩, [], 0⟩, none, 0, 0, 0, 0⟩, 0, 0⟩ : Rw SvW)
def wkC : Rw CkA := (⟨noT, ⟨1, ⟨#[99]⟩, ⟨#[119, 101, 98, 45, 49]⟩, ⟨#[]⟩, 2⟩, 0, 0⟩ : Rw CkA)
theorem wk_plain : ∃ d1 d2 d3, (Ro.new 9).node wkN 3 = (0, d1) ∧ d1.service wkS.val.a 4 = (0, d2) ∧ d2.check wkC.val 5 = (0, d3) ∧ d3.health 1 ⟨#[119, 101, 98, 45, 49]⟩ = 2 ∧ d3.health 1 ⟨#[100, 98]⟩ = 0 := by
  have hn : NdOk wkN := ⟨by decide, by decide⟩
  have hs : SvOk wkS.val.a := ⟨by decide, by decide, by decide, by decide, by decide⟩
  have hc : CkOk wkC.val := ⟨by decide, by decide, by decide, .inr (by decide), by decide⟩
  obtain ⟨k1, hk1⟩ : ∃ k, wkN.key = k := ⟨_, rfl⟩
  obtain ⟨k2, hk2⟩ : ∃ k, wkS.val.a.key = k := ⟨_, rfl⟩
  obtain ⟨k3, hk3⟩ : ∃ k, wkC.val.key = k := ⟨_, rfl⟩
  have e1 : (Ro.new 9).node wkN 3 = (0, ⟨⟨9, [⟨k1, wkN, 3, 3⟩], 3⟩, ⟨9, [], 0⟩, ⟨9, [], 0⟩⟩) := by
    unfold Ro.node
    rw [wrongN_ok.2 hn, hk1]
    rfl
  have t1 : ∀ (s : Tb SvA) (c : Tb CkA), Ro.there ⟨⟨9, [⟨k1, wkN, 3, 3⟩], 3⟩, s, c⟩ 1 = true := fun s c => getR_iff.2 ⟨_, List.mem_singleton.2 rfl, hk1.symm⟩
  have e2 : Ro.service ⟨⟨9, [⟨k1, wkN, 3, 3⟩], 3⟩, ⟨9, [], 0⟩, ⟨9, [], 0⟩⟩ wkS.val.a 4 = (0, ⟨⟨9, [⟨k1, wkN, 3, 3⟩], 3⟩, ⟨9, [⟨k2, wkS.val.a, 4, 4⟩], 4⟩, ⟨9, [], 0⟩⟩) := by
    unfold Ro.service
    rw [wrongS_ok.2 ⟨hs, t1 _ _⟩, hk2]
    rfl
  have t2 : Ro.has ⟨⟨9, [⟨k1, wkN, 3, 3⟩], 3⟩, ⟨9, [⟨k2, wkS.val.a, 4, 4⟩], 4⟩, ⟨9, [], 0⟩⟩ 1 ⟨#[119, 101, 98, 45, 49]⟩ = true := getR_iff.2 ⟨_, List.mem_singleton.2 rfl, hk2.symm⟩
  have e3 : Ro.check ⟨⟨9, [⟨k1, wkN, 3, 3⟩], 3⟩, ⟨9, [⟨k2, wkS.val.a, 4, 4⟩], 4⟩, ⟨9, [], 0⟩⟩ wkC.val 5 = (0, ⟨⟨9, [⟨k1, wkN, 3, 3⟩], 3⟩, ⟨9, [⟨k2, wkS.val.a, 4, 4⟩], 4⟩, ⟨9, [⟨k3, wkC.val, 5, 5⟩], 5⟩⟩) := by
    unfold Ro.check
    rw [wrongC_ok.2 ⟨hc, t1 _ _, .inr t2⟩, hk3]
    rfl
  exact ⟨_, _, _, e1, e2, e3, by unfold Ro.health worst; simp only [forSvc_eq]; rfl, by unfold Ro.health worst; simp only [forSvc_eq]; rfl⟩
set_option maxHeartbeats 4000000 in
set_option maxRecDepth 100000 in
theorem works_any (w : World) (hp : PwIs w) : Calls Tryz.prog 15 #[] w fun e w' => e = .returned (.bool true) ∧ Below w.heap.size w w' := by
  obtain ⟨d1, d2, d3, e1, e2, e3, e4, e5⟩ := wk_plain
  have HE1 := Lib.hid e1
  have HE2 := Lib.hid e2
  have HE3 := Lib.hid e3
  have HE4 := Lib.hid (And.intro e4 e5)
  have HN := Lib.hid (rnew_any 9 w (by decide) hp)
  clear e1 e2 e3 e4 e5 hp
  go_enter Tryz.func15, Tryz.ntmps15
  go_wp2_with fail
  refine HN.out.mono ?_
  rintro e w1 ⟨B, B1, B2, B3, rfl, h, hb⟩
  have HB : Hid (∀ w2, But (Ch3 B1 B2 B3) w1 w2 → Below w.heap.size w w2) := Lib.hid fun w2 h2 => hb.trans (h2.below hb.size fun k hk e => by have := (h.ch k e).1; have := (h.ch k e).2.2.1; omega)
  have hx := rnode_any 1 ⟨#[120]⟩ 3 h (by decide) (by decide) (by decide)
  rw [show (⟨1, ⟨#[120]⟩⟩ : NdA) = wkN from rfl, show mostT 9 = 9 from rfl, HE1.out] at hx
  have HX := Lib.hid hx
  clear h hb hx HN
  go_wp2_with fail
  refine HX.out.mono ?_
  rintro e w2 ⟨rfl, h, hb⟩
  have HB2 := Lib.hid hb
  have hx := rservice_any wkS 4 h ⟨by decide, by decide, by decide, by decide, Tx.none_ _, by simp [Small, wkS]⟩ (by decide)
  rw [HE2.out] at hx
  have HX2 := Lib.hid hx
  unfold svV wkS at HX2
  clear h hb hx HX
  go_wp2_with fail
  refine HX2.out.mono ?_
  rintro e w3 ⟨rfl, h, hb⟩
  have HB3 := Lib.hid (HB2.out.trans hb)
  have hx := rcheck_any wkC 5 h ⟨by decide, by decide, by decide, by decide, by decide⟩ (by decide)
  rw [HE3.out] at hx
  have HX3 := Lib.hid hx
  unfold ckV wkC at HX3
  clear h hb hx HX2
  go_wp2_with fail
  refine HX3.out.mono ?_
  rintro e w4 ⟨rfl, h, hb⟩
  have HB4 := Lib.hid (HB.out _ (HB3.out.trans hb))
  have HA := Lib.hid h
  have hx := rhealth_any 1 ⟨#[119, 101, 98, 45, 49]⟩ h (by decide)
  rw [HE4.out.1] at hx
  have HX4 := Lib.hid hx
  clear h hb hx HX3
  go_wp2_with fail
  refine HX4.out.mono ?_
  rintro e w5 ⟨rfl, hb⟩
  have hx := rhealth_any 1 ⟨#[100, 98]⟩ (HA.out.below hb) (by decide)
  rw [HE4.out.2] at hx
  have HX5 := Lib.hid hx
  have HB5 := Lib.hid (HB4.out.trans (hb.mono HB4.out.size))
  clear hb hx HX4
  go_wp2_with fail
  refine HX5.out.mono ?_
  rintro e w6 ⟨rfl, hb⟩
  have HB6 := Lib.hid (HB5.out.trans (hb.mono HB5.out.size))
  clear hb HX5
  go_wp2
  go_ret
  exact ⟨rfl, HB6.out⟩
end Go.Proofs.YtilkbfmaofmjoaaGreatDoor
/-
  A step of layer 19's laws, loaded whole: by cells, not one after the other (that took the kernel 77 s and 10 GB).
-/
namespace Go.Proofs.YtilkbfmaofmjoaaGreatDoor
open Go.RowKit
set_option linter.unusedSimpArgs false
set_option linter.unusedVariables false

theorem st_load {w : World} {b o : Nat} {x : RSt} (h : ItAt stC w b o x) : (Instr.loadAt TRs (.pointer (some ⟨b, o, none⟩))).run Tryz.prog w = .ok (stV x) w :=
  run_loadAt_mid w b o TRs (stC x) _ h Tryz.underlying35 rfl (by kernel_rfl)
end Go.Proofs.YtilkbfmaofmjoaaGreatDoor
/-
  Whatever is laid and let go, the roster is what the document says: the law RosterPlays, walked (layer 19).
-/
namespace Go.Proofs.YtilkbfmaofmjoaaGreatDoor
open Go.RowKit Go.Rel
set_option linter.unusedSimpArgs false
set_option linter.unusedVariables false

/-- Within the law's region: its first call is the step. -/
structure PI (base : Nat) (W0 : World) (B B1 B2 B3 m D md : Nat) (d d' : Ro) (f : Nat → Bool) (w : World) : Prop where
  a : f 6 = false → Below W0.heap.size W0 w
  b : f 6 = true → Both base w B B1 B2 B3 m d' D md d' ∧ But (Ch4 B1 B2 B3 D) W0 w
section
variable {base : Nat} {W0 w w' : World} {B B1 B2 B3 m D md : Nat} {d d' : Ro} {f : Nat → Bool} {i : Nat}
theorem PI.start : PI base W0 B B1 B2 B3 m D md d d' (fun _ => false) { W0 with drawn := W0.drawn + 1 } := ⟨fun _ => ⟨rfl, rfl, rfl, Nat.le_refl _, fun _ _ => rfl⟩, fun z => by cases z⟩
theorem PI.read (hi : i ≠ 6) (h : PI base W0 B B1 B2 B3 m D md d d' f w) : PI base W0 B B1 B2 B3 m D md d d' (Go.Rel.upd f i) w := by
  have e : Go.Rel.upd f i 6 = f 6 := ale_off hi
  exact ⟨fun z => h.a (e.symm.trans z), fun z => h.b (e.symm.trans z)⟩
theorem PI.main (h : Both base w B B1 B2 B3 m d' D md d') (hb : But (Ch4 B1 B2 B3 D) W0 w) : PI base W0 B B1 B2 B3 m D md d d' (Go.Rel.upd f 6) w := by
  have e : Go.Rel.upd f 6 6 = true := ale_on 6
  exact ⟨(fun z => by rw [e] at z; cases z), fun _ => ⟨h, hb⟩⟩
theorem PI.below (hi : i ≠ 6) (h : PI base W0 B B1 B2 B3 m D md d d' f w) (hb : Below w.heap.size w w') : PI base W0 B B1 B2 B3 m D md d d' (Go.Rel.upd f i) w' := by
  have e : Go.Rel.upd f i 6 = f 6 := ale_off hi
  refine ⟨fun z => ?_, fun z => ?_⟩
  · have := h.a (e.symm.trans z)
    exact this.trans (hb.mono this.size)
  · have := h.b (e.symm.trans z)
    exact ⟨this.1.below hb, this.2.trans (But.of_below hb)⟩
end
theorem finL_app {ea : Nat → Value} : ∀ (l1 l2 : List Oper) (i : Nat) (t : Array Value), Go.Rel.finL i (l1 ++ l2) ea t = Go.Rel.finL (i + l1.length) l2 ea (Go.Rel.finL i l1 ea t)
  | [], l2, i, t => rfl
  | o :: l1, l2, i, t => by
    rw [List.cons_append, Go.Rel.finL, finL_app l1 l2 (i + 1), Go.Rel.finL, List.length_cons, Nat.add_assoc, Nat.add_comm 1]
theorem both_same {base : Nat} {w : World} {B B1 B2 B3 m D md : Nat} {d : Ro} (h : Both base w B B1 B2 B3 m d D md d) : Calls Tryz.prog 12 #[.pointer (some ⟨B, 0, none⟩), .pointer (some ⟨D, 0, none⟩)] w fun e w' => e = .returned (.bool true) ∧ Below w.heap.size w w' := by
  obtain ⟨Sp, h1⟩ := h.read
  obtain ⟨Sd, A1, A2, A3, c1, c2, c3, l2, hok, hd⟩ := h.ref
  exact same_yes h1 hd
theorem both_health {base : Nat} {w : World} {B B1 B2 B3 m D md : Nat} {d d2 : Ro} (h : Both base w B B1 B2 B3 m d D md d2) (node : Int) (svc : ByteArray) (hn : -9223372036854775808 ≤ node ∧ node ≤ 9223372036854775807) : (Calls Tryz.prog 13 #[.pointer (some ⟨B, 0, none⟩), .int .i64 node, .string svc] w fun e w' => e = .returned (.int .i64 (d.health node svc)) ∧ Below w.heap.size w w') ∧ Calls Tryz.prog 14 #[.pointer (some ⟨D, 0, none⟩), .int .i64 node, .string svc] w fun e w' => e = .returned (.int .i64 (d2.health node svc)) ∧ Below w.heap.size w w' := by
  obtain ⟨Sp, h1⟩ := h.read
  obtain ⟨Sd, h2, _⟩ := h.right
  exact ⟨rhealth_any node svc h1 hn, rdhealth_any node svc h2⟩
theorem Both.pw {base : Nat} {w : World} {B B1 B2 B3 m D md : Nat} {d d2 : Ro} (h : Both base w B B1 B2 B3 m d D md d2) : PwIs w := by
  obtain ⟨Sp, h1⟩ := h.read
  exact h1.pw
theorem Both.keep {base : Nat} {w W w' : World} {B B1 B2 B3 m D md : Nat} {d d2 : Ro} (h : Both base W B B1 B2 B3 m d D md d2) (hb : Below base w W) (hc : But (Ch4 B1 B2 B3 D) W w') : Below base w w' := by
  have hch := h.ch
  exact hb.trans (hc.below h.top fun k hk e => by have := hch k e; omega)
def rplE (B : Nat) (D : Nat) (b : Nat) (off : Nat) (k : Nat) (s : RSt) (v1 : Int) (v2 : Int) (n : Nat) (c : Nat) : Nat → Value
  | 0 | 9 | 15 | 42 => .pointer (some ⟨B, 0, none⟩)
  | 1 | 10 | 27 | 56 => .pointer (some ⟨D, 0, none⟩)
  | 2 | 16 | 21 | 28 | 33 | 43 | 49 | 57 | 63 => .slice (some ⟨b, off, none⟩) n c
  | 3 | 17 | 22 | 29 | 34 | 44 | 50 | 58 | 64 => .int .i64 (k : Int)
  | 4 | 18 | 23 | 30 | 35 | 45 | 51 | 59 | 65 => .pointer (some ⟨b, off + k * 18, none⟩)
  | 5 => .agg #[.int .i64 s.kind, .int .i64 s.node, .string s.text, .int .i64 s.s.val.a.node, .string s.s.val.a.id, .string s.s.val.a.name, .slice s.s.val.A s.s.val.n s.s.val.c, .int .i64 s.s.val.a.port, .int .u64 (s.s.made : Int), .int .u64 (s.s.ix : Int), .int .i64 s.c.val.node, .string s.c.val.id, .string s.c.val.svc, .string s.c.val.note, .int .i64 s.c.val.status, .int .u64 (s.c.made : Int), .int .u64 (s.c.ix : Int), .int .u64 (s.ix : Int)]
  | 6 | 11 => .bool true
  | 7 | 8 | 12 | 13 | 14 | 39 | 40 | 41 | 70 | 71 => .bool false
  | 19 | 31 => .pointer (some ⟨b, off + k * 18 + 1, none⟩)
  | 20 | 32 => .int .i64 s.node
  | 24 | 36 => .pointer (some ⟨b, off + k * 18 + 2, none⟩)
  | 25 | 37 => .string s.text
  | 26 | 38 => .int .i64 v1
  | 46 | 47 | 52 | 60 | 61 | 66 => .pointer (some ⟨b, off + k * 18 + 3, none⟩)
  | 48 | 62 => .int .i64 s.s.val.a.node
  | 53 | 67 => .pointer (some ⟨b, off + k * 18 + 3 + 1, none⟩)
  | 54 | 68 => .string s.s.val.a.id
  | 55 | 69 => .int .i64 v2
  | _ => undef
set_option maxHeartbeats 8000000 in
set_option maxRecDepth 100000 in
theorem plays_walk (mo : Int) (hm : -9223372036854775808 ≤ mo ∧ mo ≤ 9223372036854775807) (A : Option Addr) (n c : Nat) (ss : List RSt) (w : World) (hS : SK stC 18 w A n ss) (hok : ∀ s ∈ ss, s.Ok w) (hn : n ≤ maxLen) (hp : PwIs w) :
    Calls Tryz.prog 3 #[.int .i64 mo, .slice A n c] w fun e w' => e = .returned (.bool true) ∧ Below w.heap.size w w' := by
  unfold maxLen at hn
  have hn' : (n : Int) ≤ 9223372036854775807 := by omega
  obtain ⟨base, hbase⟩ : ∃ g0, w.heap.size = g0 := ⟨_, rfl⟩
  have HN := Lib.hid (rnew_any mo w hm hp)
  have HNd := Lib.hid (fun w1 (hz : w.heap.size ≤ w1.heap.size) => rdnew_any mo w1 w.heap.size hm hz)
  have HG : Hid (gPw < base) := Lib.hid (hbase ▸ hp.lt)
  obtain ⟨m, hmm⟩ : ∃ m, mostT mo = m := ⟨_, rfl⟩
  rw [hmm] at HN HNd
  have HSS := Lib.hid hS
  have HSl := Lib.hid hS.1
  have HOk := Lib.hid hok
  have HTg0 := Lib.hid (fun s (hs : s ∈ ss) => (⟨(hok s hs).s.tx, fun b off e hn => by
    rw [← hbase]
    exact (hok s hs).s.tx.block e hn⟩ : TgAt (fun k => k < base) w s.s.val))
  have HG0 := Lib.hid hbase
  rw [hbase] at HN HNd ⊢
  clear hm hS hok hn hbase hp hmm
  go_enter Tryz.func3, Tryz.ntmps3
  go_wp2_with fail
  refine HN.out.mono ?_
  rintro e w1 ⟨B, B1, B2, B3, rfl, hp, hb1⟩
  have HP1 := Lib.hid hp
  have HB1 := Lib.hid hb1
  have HB1s : Hid (w.heap.size ≤ w1.heap.size) := Lib.hid hb1.size
  clear HN hp hb1
  go_wp2_with fail
  refine (HNd.out w1 (by first | exact HB1s.out | (rw [← HG0.out]; exact HB1s.out))).mono ?_
  rintro e w2 ⟨rfl, hd, hb2⟩
  obtain ⟨D, hD⟩ : ∃ D, w1.heap.size = D := ⟨_, rfl⟩
  rw [hD] at hd ⊢
  have HBo : Hid (Both base w2 B B1 B2 B3 m (Ro.new m) D m (Ro.new m)) := Lib.hid (both_new (by rw [HG0.out]; exact Nat.le_refl _) HG.out (by rw [HG0.out]; exact HP1.out) hd hD HB1s.out hb2)
  have HB2 : Hid (Below base w w2) := Lib.hid (HB1.out.trans (hb2.mono (by rw [← HG0.out]; exact HB1s.out)))
  clear HNd hd hb2 hD HP1 HB1
  go_wp2
  go_loopw [7] (fun iv wr => ∃ (k : Nat) (d : Ro), k ≤ n ∧ iv = .int .i64 (k : Int) ∧ Hid (Both base wr B B1 B2 B3 m d D m d) ∧ Hid (Below base w wr)) (fun iv _ => n - (intOf iv).toNat)
  case atStart => exact ⟨0, _, Nat.zero_le _, rfl, HBo, HB2⟩
  case round =>
    obtain ⟨k, d, hk, rfl, hbo, hb⟩ := hrel
    by_cases hlt : k < n ∧ k < 60
    · obtain ⟨h1, h2⟩ := hlt
      have hkl : k < ss.length := by rw [HSl.out]; exact h1
      obtain ⟨b, off, rfl, hbl, hit0⟩ := HSS.out.at_ h1 hkl
      have hmem : ss[k] ∈ ss := List.getElem_mem _
      obtain ⟨s, hs⟩ : ∃ s, ss[k] = s := ⟨_, rfl⟩
      rw [hs] at hit0 hmem
      obtain ⟨W0, hW0⟩ : ∃ W, wr = W := ⟨_, rfl⟩
      rw [hW0] at hbo hb ⊢
      have HBo0 := Lib.hid hbo.out
      have hok := HOk.out s hmem
      have hbw : Below w.heap.size w W0 := by rw [HG0.out]; exact hb.out
      obtain ⟨d', hd'⟩ : ∃ d', (s.after d).2 = d' := ⟨_, rfl⟩
      have HEl : Hid (∀ W, But (Ch4 B1 B2 B3 D) W0 W → ItAt stC W b (off + k * 18) s) := Lib.hid fun W hW => by
        have h9 := (HSS.out.below (w' := W) (by rw [HG0.out]; exact HBo0.out.keep hb.out hW))
        obtain ⟨b', off', e', _, h8⟩ := h9.at_ h1 hkl
        cases e'
        rw [hs] at h8
        exact h8
      have HStep := Lib.hid (fun W (hW : Below W0.heap.size W0 W) => (by
        have h9 := step_same s (HBo0.out.below hW) (hok.below (hbw.trans (hW.mono hbw.size))) ((HTg0.out s hmem).below (hbw.trans (hW.mono hbw.size)))
        rw [hd'] at h9
        unfold stV at h9
        exact h9 : Calls Tryz.prog 11 #[.pointer (some ⟨B, 0, none⟩), .pointer (some ⟨D, 0, none⟩), .agg #[.int .i64 s.kind, .int .i64 s.node, .string s.text, .int .i64 s.s.val.a.node, .string s.s.val.a.id, .string s.s.val.a.name, .slice s.s.val.A s.s.val.n s.s.val.c, .int .i64 s.s.val.a.port, .int .u64 (s.s.made : Int), .int .u64 (s.s.ix : Int), .int .i64 s.c.val.node, .string s.c.val.id, .string s.c.val.svc, .string s.c.val.note, .int .i64 s.c.val.status, .int .u64 (s.c.made : Int), .int .u64 (s.c.ix : Int), .int .u64 (s.ix : Int)]] W fun e w' => e = .returned (.bool true) ∧ Both base w' B B1 B2 B3 m d' D m d' ∧ But (Ch4 B1 B2 B3 D) W w'))
      have HSame := Lib.hid (fun W (hW : Both base W B B1 B2 B3 m d' D m d') => both_same hW)
      obtain ⟨v1, hv1⟩ : ∃ v, d'.health s.node s.text = v := ⟨_, rfl⟩
      obtain ⟨v2, hv2⟩ : ∃ v, d'.health s.s.val.a.node s.s.val.a.id = v := ⟨_, rfl⟩
      have HHp := Lib.hid (fun W (hW : Both base W B B1 B2 B3 m d' D m d') => hv1 ▸ (both_health hW s.node s.text hok.node).1)
      have HHd := Lib.hid (fun W (hW : Both base W B B1 B2 B3 m d' D m d') => hv1 ▸ (both_health hW s.node s.text hok.node).2)
      have HHp2 := Lib.hid (fun W (hW : Both base W B B1 B2 B3 m d' D m d') => hv2 ▸ (both_health hW s.s.val.a.node s.s.val.a.id hok.s.node).1)
      have HHd2 := Lib.hid (fun W (hW : Both base W B B1 B2 B3 m d' D m d') => hv2 ▸ (both_health hW s.s.val.a.node s.s.val.a.id hok.s.node).2)
      have HHb := Lib.hid hb.out
      have q1 : (k : Int) < (n : Int) := by omega
      have q2 : (k : Int) < 60 := by omega
      have q0 : (0 : Int) ≤ (k : Int) := by omega
      clear hit0 hs hmem hkl hok hbw hd' hv1 hv2 hW0 hbo hb
      go_wp2_with fail
      have hre : ∀ w : World, ((fun _ _ : World => True)) w w := (fun _ => trivial)
      have hrd : ∀ (f : Nat → Bool) w i, i ≠ 6 → ((PI base W0 B B1 B2 B3 m D m d d')) f w → ((PI base W0 B B1 B2 B3 m D m d d')) (Go.Rel.upd f i) w := (fun _ _ _ hi h => h.read hi)
      refine Go.Rel.wp_tab (by kernel_rfl) (by kernel_rfl) ((PI base W0 B B1 B2 B3 m D m d d')) ((fun _ _ : World => True)) hre ((fun _ _ _ _ _ => trivial)) (trivial) PI.start (rplE B D b off k s v1 v2 n c) (fun _ _ _ => True) (fun i => ([] : List Nat).contains i) (fun i => ([4, 5, 6, 11, 18, 20, 23, 25, 26, 30, 32, 35, 37, 38, 39, 45, 48, 51, 54, 55, 59, 62, 65, 68, 69, 70] : List Nat).contains i) (by kernel_rfl) (fun _ _ _ _ h _ => h) 6 rfl hrd ?_ (Go.Rel.AllOf.get ?_) ?_
      · repeat (refine .cons (by first | exact Go.Rel.pure_sp rfl | exact Go.Rel.pure_yes (by kernel_rfl) (fun _ => by kernel_rfl) | exact Go.Rel.pure_no (by kernel_rfl) rfl) ?_)
        exact .nil
      · refine ⟨?_, ?_, ?_, ?_, ?_, ?_, ?_, ?_, ?_, ?_, ?_, ?_, ?_, ?_, ?_, ?_, ?_, ?_, ?_, ?_, ?_, ?_, ?_, ?_, ?_, ?_, trivial⟩
        · refine SpecOk.gen (fun e => [(24, .slice (some ⟨b, off, none⟩) n c), (25, .int .i64 (k : Int))]) rfl rfl (fun _ => by kernel_rfl) fun f w' e hI hf hdesc hanc hle hX K hK => ?_
          have g1 := q1
          go_simp
          exact hK _ _ (hre w') (hrd f w' 4 (by decide) hI) rfl
        · exact SpecOk.ld hrd hre (q := .pointer (some ⟨b, off + k * 18, none⟩)) (h := fun _ w' hI _ hdesc _ _ => by exact st_load (HEl.out w' (But.of_below (hI.a (hdesc 60 6 (by kernel_rfl))))))
        · refine SpecOk.call 11 #[.pointer (some ⟨B, 0, none⟩), .pointer (some ⟨D, 0, none⟩), .agg #[.int .i64 s.kind, .int .i64 s.node, .string s.text, .int .i64 s.s.val.a.node, .string s.s.val.a.id, .string s.s.val.a.name, .slice s.s.val.A s.s.val.n s.s.val.c, .int .i64 s.s.val.a.port, .int .u64 (s.s.made : Int), .int .u64 (s.s.ix : Int), .int .i64 s.c.val.node, .string s.c.val.id, .string s.c.val.svc, .string s.c.val.note, .int .i64 s.c.val.status, .int .u64 (s.c.made : Int), .int .u64 (s.c.ix : Int), .int .u64 (s.ix : Int)]] rfl (by kernel_rfl) (fun _ => by kernel_rfl) fun _ w' hI hf _ _ _ => ?_
          refine (HStep.out w' (hI.a hf)).mono ?_
          rintro e9 w9 ⟨rfl, h9, hb9⟩
          exact ⟨_, rfl, trivial, (PI.main h9 ((But.of_below (hI.a hf)).trans hb9)), rfl⟩
        · refine SpecOk.call 12 #[.pointer (some ⟨B, 0, none⟩), .pointer (some ⟨D, 0, none⟩)] rfl (by kernel_rfl) (fun _ => by kernel_rfl) fun f w' hI _ _ hanc _ => ?_
          have z6 : f 6 = true := hanc 60 6 (by kernel_rfl)
          refine (HSame.out w' (hI.b z6).1).mono ?_
          rintro e9 w9 ⟨rfl, hb9⟩
          exact ⟨_, rfl, trivial, (PI.below (by decide) hI hb9), rfl⟩
        · refine SpecOk.gen (fun e => [(38, .slice (some ⟨b, off, none⟩) n c), (39, .int .i64 (k : Int))]) rfl rfl (fun _ => by kernel_rfl) fun f w' e hI hf hdesc hanc hle hX K hK => ?_
          have g1 := q1
          go_simp
          exact hK _ _ (hre w') (hrd f w' 18 (by decide) hI) rfl
        · exact SpecOk.ld hrd hre (q := .pointer (some ⟨b, off + k * 18 + 1, none⟩)) (h := fun f w' hI _ _ hanc _ => by have z6 : f 6 = true := hanc 60 6 (by kernel_rfl); have yy := st_cells (HEl.out w' ((hI.b z6).2)); go_simp; rfl)
        · refine SpecOk.gen (fun e => [(43, .slice (some ⟨b, off, none⟩) n c), (44, .int .i64 (k : Int))]) rfl rfl (fun _ => by kernel_rfl) fun f w' e hI hf hdesc hanc hle hX K hK => ?_
          have g1 := q1
          go_simp
          exact hK _ _ (hre w') (hrd f w' 23 (by decide) hI) rfl
        · exact SpecOk.ld hrd hre (q := .pointer (some ⟨b, off + k * 18 + 2, none⟩)) (h := fun f w' hI _ _ hanc _ => by have z6 : f 6 = true := hanc 60 6 (by kernel_rfl); have yy := st_cells (HEl.out w' ((hI.b z6).2)); go_simp; rfl)
        · refine SpecOk.call 13 #[.pointer (some ⟨B, 0, none⟩), .int .i64 s.node, .string s.text] rfl (by kernel_rfl) (fun _ => by kernel_rfl) fun f w' hI _ _ hanc _ => ?_
          have z6 : f 6 = true := hanc 60 6 (by kernel_rfl)
          refine (HHp.out w' (hI.b z6).1).mono ?_
          rintro e9 w9 ⟨rfl, hb9⟩
          exact ⟨_, rfl, trivial, (PI.below (by decide) hI hb9), rfl⟩
        · refine SpecOk.gen (fun e => [(50, .slice (some ⟨b, off, none⟩) n c), (51, .int .i64 (k : Int))]) rfl rfl (fun _ => by kernel_rfl) fun f w' e hI hf hdesc hanc hle hX K hK => ?_
          have g1 := q1
          go_simp
          exact hK _ _ (hre w') (hrd f w' 30 (by decide) hI) rfl
        · exact SpecOk.ld hrd hre (q := .pointer (some ⟨b, off + k * 18 + 1, none⟩)) (h := fun f w' hI _ _ hanc _ => by have z6 : f 6 = true := hanc 60 6 (by kernel_rfl); have yy := st_cells (HEl.out w' ((hI.b z6).2)); go_simp; rfl)
        · refine SpecOk.gen (fun e => [(55, .slice (some ⟨b, off, none⟩) n c), (56, .int .i64 (k : Int))]) rfl rfl (fun _ => by kernel_rfl) fun f w' e hI hf hdesc hanc hle hX K hK => ?_
          have g1 := q1
          go_simp
          exact hK _ _ (hre w') (hrd f w' 35 (by decide) hI) rfl
        · exact SpecOk.ld hrd hre (q := .pointer (some ⟨b, off + k * 18 + 2, none⟩)) (h := fun f w' hI _ _ hanc _ => by have z6 : f 6 = true := hanc 60 6 (by kernel_rfl); have yy := st_cells (HEl.out w' ((hI.b z6).2)); go_simp; rfl)
        · refine SpecOk.call 14 #[.pointer (some ⟨D, 0, none⟩), .int .i64 s.node, .string s.text] rfl (by kernel_rfl) (fun _ => by kernel_rfl) fun f w' hI _ _ hanc _ => ?_
          have z6 : f 6 = true := hanc 60 6 (by kernel_rfl)
          refine (HHd.out w' (hI.b z6).1).mono ?_
          rintro e9 w9 ⟨rfl, hb9⟩
          exact ⟨_, rfl, trivial, (PI.below (by decide) hI hb9), rfl⟩
        · refine SpecOk.gen (fun e => [(48, .int .i64 v1), (60, .int .i64 v1)]) rfl rfl (fun _ => by kernel_rfl) fun f w' e hI hf hdesc hanc hle hX K hK => ?_
          have qv : (((v1 : Int)) != v1) = false := by simp
          go_simp
          exact hK _ _ (hre w') (hrd f w' 39 (by decide) hI) rfl
        · refine SpecOk.gen (fun e => [(65, .slice (some ⟨b, off, none⟩) n c), (66, .int .i64 (k : Int))]) rfl rfl (fun _ => by kernel_rfl) fun f w' e hI hf hdesc hanc hle hX K hK => ?_
          have g1 := q1
          go_simp
          exact hK _ _ (hre w') (hrd f w' 45 (by decide) hI) rfl
        · exact SpecOk.ld hrd hre (q := .pointer (some ⟨b, off + k * 18 + 3, none⟩)) (h := fun f w' hI _ _ hanc _ => by have z6 : f 6 = true := hanc 60 6 (by kernel_rfl); have yy := st_cells (HEl.out w' ((hI.b z6).2)); go_simp; rfl)
        · refine SpecOk.gen (fun e => [(71, .slice (some ⟨b, off, none⟩) n c), (72, .int .i64 (k : Int))]) rfl rfl (fun _ => by kernel_rfl) fun f w' e hI hf hdesc hanc hle hX K hK => ?_
          have g1 := q1
          go_simp
          exact hK _ _ (hre w') (hrd f w' 51 (by decide) hI) rfl
        · exact SpecOk.ld hrd hre (q := .pointer (some ⟨b, off + k * 18 + 3 + 1, none⟩)) (h := fun f w' hI _ _ hanc _ => by have z6 : f 6 = true := hanc 60 6 (by kernel_rfl); have yy := st_cells (HEl.out w' ((hI.b z6).2)); go_simp; rfl)
        · refine SpecOk.call 13 #[.pointer (some ⟨B, 0, none⟩), .int .i64 s.s.val.a.node, .string s.s.val.a.id] rfl (by kernel_rfl) (fun _ => by kernel_rfl) fun f w' hI _ _ hanc _ => ?_
          have z6 : f 6 = true := hanc 60 6 (by kernel_rfl)
          refine (HHp2.out w' (hI.b z6).1).mono ?_
          rintro e9 w9 ⟨rfl, hb9⟩
          exact ⟨_, rfl, trivial, (PI.below (by decide) hI hb9), rfl⟩
        · refine SpecOk.gen (fun e => [(79, .slice (some ⟨b, off, none⟩) n c), (80, .int .i64 (k : Int))]) rfl rfl (fun _ => by kernel_rfl) fun f w' e hI hf hdesc hanc hle hX K hK => ?_
          have g1 := q1
          go_simp
          exact hK _ _ (hre w') (hrd f w' 59 (by decide) hI) rfl
        · exact SpecOk.ld hrd hre (q := .pointer (some ⟨b, off + k * 18 + 3, none⟩)) (h := fun f w' hI _ _ hanc _ => by have z6 : f 6 = true := hanc 60 6 (by kernel_rfl); have yy := st_cells (HEl.out w' ((hI.b z6).2)); go_simp; rfl)
        · refine SpecOk.gen (fun e => [(85, .slice (some ⟨b, off, none⟩) n c), (86, .int .i64 (k : Int))]) rfl rfl (fun _ => by kernel_rfl) fun f w' e hI hf hdesc hanc hle hX K hK => ?_
          have g1 := q1
          go_simp
          exact hK _ _ (hre w') (hrd f w' 65 (by decide) hI) rfl
        · exact SpecOk.ld hrd hre (q := .pointer (some ⟨b, off + k * 18 + 3 + 1, none⟩)) (h := fun f w' hI _ _ hanc _ => by have z6 : f 6 = true := hanc 60 6 (by kernel_rfl); have yy := st_cells (HEl.out w' ((hI.b z6).2)); go_simp; rfl)
        · refine SpecOk.call 14 #[.pointer (some ⟨D, 0, none⟩), .int .i64 s.s.val.a.node, .string s.s.val.a.id] rfl (by kernel_rfl) (fun _ => by kernel_rfl) fun f w' hI _ _ hanc _ => ?_
          have z6 : f 6 = true := hanc 60 6 (by kernel_rfl)
          refine (HHd2.out w' (hI.b z6).1).mono ?_
          rintro e9 w9 ⟨rfl, hb9⟩
          exact ⟨_, rfl, trivial, (PI.below (by decide) hI hb9), rfl⟩
        · refine SpecOk.gen (fun e => [(77, .int .i64 v2), (91, .int .i64 v2)]) rfl rfl (fun _ => by kernel_rfl) fun f w' e hI hf hdesc hanc hle hX K hK => ?_
          have qv : (((v2 : Int)) != v2) = false := by simp
          go_simp
          exact hK _ _ (hre w') (hrd f w' 70 (by decide) hI) rfl
      · intro f w3 e hall hJ hle hv
        have h9 := hJ.b (hall 6 (by decide))
        have v9 := hv 71 rfl
        simp only [List.append_eq, List.cons_append, List.nil_append, Go.Rel.finL, List.setIfInBounds_toArray, List.set_cons_succ, List.set_cons_zero]
        rw [show e 71 = .bool false from v9]
        have HB9 := Lib.hid h9.1
        have HK9 := Lib.hid (HBo0.out.keep HHb.out h9.2)
        clear hv hall hJ hle h9 v9
        go_wp2
        go_roundw
        case rel => exact ⟨k + 1, d', by omega, by go_num, HB9, HK9⟩
        case measure => simp [intOf]; omega
    · obtain ⟨W0, hW0⟩ : ∃ W, wr = W := ⟨_, rfl⟩
      rw [hW0] at hbo hb ⊢
      have HBo0 := Lib.hid hbo.out
      have HSame := Lib.hid (fun W (hW : Below W0.heap.size W0 W) => both_same (HBo0.out.below hW))
      have HWk := Lib.hid (fun W (hW : Below W0.heap.size W0 W) => works_any W (HBo0.out.below hW).pw)
      have HTop := Lib.hid hbo.out.top
      have HHb := Lib.hid hb.out
      clear hW0 hbo hb
      rcases (show ¬ k < n ∨ (k < n ∧ ¬ k < 60) by omega) with q1 | ⟨q1, q2⟩
      all_goals
        go_wp2_with fail
        refine (HSame.out W0 (Below.refl _ _)).mono ?_
        rintro e w3 ⟨rfl, hb3⟩
        have HB3 := Lib.hid hb3
        clear hb3
        go_wp2_with fail
        refine (HWk.out w3 HB3.out).mono ?_
        rintro e w4 ⟨rfl, hb4⟩
        have HJ := Lib.hid (HHb.out.trans ((HB3.out.trans (hb4.mono HB3.out.size)).mono HTop.out))
        clear hb4
        go_wp2
        go_ret
        exact ⟨rfl, HJ.out⟩
end Go.Proofs.YtilkbfmaofmjoaaGreatDoor
