/-
  Both rosters, the program's and the document's, each with what is its own (layer 19).
-/
import Derived.Test.YtilkbfmaofmjoaaGreatDoorZj45
import Derived.Test.YtilkbfmaofmjoaaGreatDoorZj46
import Derived.Test.YtilkbfmaofmjoaaGreatDoorZj42
import Derived.Deep.MidRow
import Derived.Test.YtilkbfmaofmjoaaGreatDoorZj44
import Derived.BigQuiet
namespace Go.Proofs.YtilkbfmaofmjoaaGreatDoor
open Go.RowKit Go.Rel
set_option linter.unusedSimpArgs false
set_option linter.unusedVariables false

/-- What a step may change. -/
def Ch4 (B1 B2 B3 D : Nat) (k : Nat) : Prop := Ch3 B1 B2 B3 k ∨ k = D
/-- Both rosters; neither has anything of the other's; what was there before base is neither's, but for the table of powers. -/
def Both (base : Nat) (w : World) (B B1 B2 B3 m : Nat) (d : Ro) (D md : Nat) (d2 : Ro) : Prop :=
  ∃ Sp Sd : Nat → Prop, RoAt Sp w B B1 B2 B3 m d ∧ RdAt base Sd w D md d2 ∧ (∀ k, Sp k → k < w.heap.size ∧ ¬ Sd k ∧ (base ≤ k ∨ k = gPw)) ∧ ∀ k, Sd k → k < w.heap.size
theorem RdAt.top {base : Nat} {S : Nat → Prop} {w : World} {B m : Nat} {d : Ro} (h : RdAt base S w B m d) : base ≤ w.heap.size := by
  obtain ⟨_, _, _, _, _, _, _, _, h1⟩ := h
  exact h1.top
section
variable {base : Nat} {w w' : World} {B B1 B2 B3 m D md : Nat} {d d2 : Ro}
theorem Both.below (h : Both base w B B1 B2 B3 m d D md d2) (hb : Below w.heap.size w w') : Both base w' B B1 B2 B3 m d D md d2 := by
  obtain ⟨Sp, Sd, h1, h2, h3, h4⟩ := h
  have hz := hb.size
  exact ⟨Sp, Sd, h1.below hb, h2.below hb, fun k hk => ⟨by have := (h3 k hk).1; omega, (h3 k hk).2⟩, fun k hk => by have := h4 k hk; omega⟩
theorem Both.top (h : Both base w B B1 B2 B3 m d D md d2) : base ≤ w.heap.size := by
  obtain ⟨Sp, Sd, h1, h2, h3, h4⟩ := h
  exact h2.top
theorem Both.lt (h : Both base w B B1 B2 B3 m d D md d2) : (B < w.heap.size ∧ B1 < w.heap.size ∧ B2 < w.heap.size ∧ B3 < w.heap.size) ∧ D < w.heap.size := by
  obtain ⟨Sp, Sd, h1, h2, h3, h4⟩ := h
  exact ⟨h1.lt, h2.lt⟩
/-- What a step changes lies behind base. -/
theorem Both.ch (h : Both base w B B1 B2 B3 m d D md d2) : ∀ k, Ch4 B1 B2 B3 D k → base ≤ k := by
  obtain ⟨Sp, Sd, h1, h2, h3, h4⟩ := h
  rintro k (hk | rfl)
  · have := h1.ch k hk
    exact (h3 k this.1).2.2.resolve_right this.2.2.1
  · exact h2.lo _ h2.mine
/-- A call of the program's. -/
theorem Both.left (h : Both base w B B1 B2 B3 m d D md d2) : ∃ Sp, RoAt Sp w B B1 B2 B3 m d ∧ ∀ w' d', RoAt (fun k => Sp k ∨ w.heap.size ≤ k) w' B B1 B2 B3 m d' → But (Ch3 B1 B2 B3) w w' → Both base w' B B1 B2 B3 m d' D md d2 := by
  obtain ⟨Sp, Sd, h1, h2, h3, h4⟩ := h
  have ht := h2.top
  refine ⟨Sp, h1, fun w' d' k1 kb => ?_⟩
  have hz := kb.size
  refine ⟨fun k => (Sp k ∨ w.heap.size ≤ k) ∧ k < w'.heap.size, Sd, k1.narrow fun k hk hs => ⟨hs, hk⟩, h2.but kb fun k e => ?_, fun k hk => ⟨hk.2, ?_, ?_⟩, fun k hk => by have := h4 k hk; omega⟩
  · have hc := h1.ch k e
    exact ⟨(h3 k hc.1).2.1, (h3 k hc.1).2.2.resolve_right hc.2.2.1⟩
  · rcases hk.1 with hs | hs
    · exact (h3 k hs).2.1
    · intro e
      have := h4 k e
      omega
  · rcases hk.1 with hs | hs
    · exact (h3 k hs).2.2
    · exact .inl (Nat.le_trans ht hs)
/-- A call of the document's. -/
theorem Both.right (h : Both base w B B1 B2 B3 m d D md d2) : ∃ Sd, RdAt base Sd w D md d2 ∧ ∀ w' d', RdAt base (fun k => Sd k ∨ w.heap.size ≤ k) w' D md d' → But (· = D) w w' → Both base w' B B1 B2 B3 m d D md d' := by
  obtain ⟨Sp, Sd, h1, h2, h3, h4⟩ := h
  have hD := h2.mine
  refine ⟨Sd, h2, fun w' d' k1 kb => ?_⟩
  have hz := kb.size
  refine ⟨Sp, fun k => (Sd k ∨ w.heap.size ≤ k) ∧ k < w'.heap.size, h1.but kb (fun k e hs => (h3 k hs).2.1 (by rw [show k = D from e]; exact hD)), k1.narrow (fun k hk hs => ⟨hs, hk⟩) (fun k hk => k1.lo k hk.1), fun k hk => ⟨by have := (h3 k hk).1; omega, fun e => ?_, (h3 k hk).2.2⟩, fun k hk => hk.2⟩
  rcases e.1 with z | z
  · exact (h3 k hk).2.1 z
  · have := (h3 k hk).1; omega
theorem Both.read (h : Both base w B B1 B2 B3 m d D md d2) : ∃ Sp, RoAt Sp w B B1 B2 B3 m d := by
  obtain ⟨Sp, Sd, h1, _⟩ := h
  exact ⟨Sp, h1⟩
theorem Both.ref (h : Both base w B B1 B2 B3 m d D md d2) : ∃ Sd A1 A2 A3 c1 c2 c3 l2, RoOk md d2 ∧ RdIs base Sd w D A1 A2 A3 c1 c2 c3 md l2 d2 := by
  obtain ⟨Sp, Sd, _, ⟨h0, A1, A2, A3, c1, c2, c3, l2, h1⟩, _⟩ := h
  exact ⟨Sd, A1, A2, A3, c1, c2, c3, l2, h0, h1⟩
/-- A copy is changed, in blocks that neither has. -/
theorem Both.aside {b1 b2 b3 : Nat} (h : Both base w B B1 B2 B3 m d D md d2) {w1 : World} (hb : Below w.heap.size w w1) (hz : w.heap.size ≤ b1 ∧ w.heap.size ≤ b2 ∧ w.heap.size ≤ b3) (hc : But (Ch3 b1 b2 b3) w1 w') : Both base w' B B1 B2 B3 m d D md d2 := by
  obtain ⟨Sp, Sd, h1, h2, h3, h4⟩ := h
  have ht := h2.top
  have hs1 := hb.size
  have hs2 := hc.size
  have key : ∀ k, Ch3 b1 b2 b3 k → w.heap.size ≤ k := by
    rintro k (rfl | rfl | rfl)
    · exact hz.1
    · exact hz.2.1
    · exact hz.2.2
  exact ⟨Sp, Sd, (h1.below hb).but hc fun k e hs => by have := key k e; have := (h3 k hs).1; omega, (h2.below hb).but hc fun k e => ⟨fun hs => by have := key k e; have := h4 k hs; omega, by have := key k e; omega⟩, fun k hk => ⟨by have := (h3 k hk).1; omega, (h3 k hk).2⟩, fun k hk => by have := h4 k hk; omega⟩
end
/-- Both, new. -/
theorem both_new {w w1 w2 : World} {base B B1 B2 B3 D m md : Nat} (hbase : base ≤ w.heap.size) (hg : gPw < base) (hp : RoAt (fun k => w.heap.size ≤ k ∨ k = gPw) w1 B B1 B2 B3 m (Ro.new m)) (hd : RdAt base (· = D) w2 D md (Ro.new md)) (hD : w1.heap.size = D) (hb1 : w.heap.size ≤ w1.heap.size) (hb2 : Below w1.heap.size w1 w2) : Both base w2 B B1 B2 B3 m (Ro.new m) D md (Ro.new md) := by
  have h2 := hb2.size
  have h3 := hd.lt
  refine ⟨fun k => k < w1.heap.size ∧ (w.heap.size ≤ k ∨ k = gPw), (· = D), (hp.narrow fun k hk z => ⟨hk, z⟩).below hb2, hd, fun k hk => ⟨by omega, fun e => by omega, ?_⟩, fun k hk => by omega⟩
  rcases hk.2 with z | z
  · exact .inl (by omega)
  · exact .inr z
end Go.Proofs.YtilkbfmaofmjoaaGreatDoor
/-
  A step of layer 19's laws, in memory; what it makes of a roster.
-/
namespace Go.Proofs.YtilkbfmaofmjoaaGreatDoor
open Go.RowKit
set_option linter.unusedSimpArgs false
set_option linter.unusedVariables false

structure RSt where
  kind : Int
  node : Int
  text : ByteArray
  s : Rw SvW
  c : Rw CkA
  ix : Nat
structure RSt.Ok (W : World) (x : RSt) : Prop where
  node : -9223372036854775808 ≤ x.node ∧ x.node ≤ 9223372036854775807
  text : x.text.size ≤ 140737488355328
  s : SvIn W x.s
  c : CkIn x.c
  ix : x.ix < 18446744073709551616
theorem RSt.Ok.below {W W' : World} {x : RSt} (h : x.Ok W) (hb : Below W.heap.size W W') : x.Ok W' := ⟨h.node, h.text, h.s.below hb, h.c, h.ix⟩
abbrev TRs : TypeId := 35
def stC (x : RSt) : List Value := [.int .i64 x.kind, .int .i64 x.node, .string x.text, .int .i64 x.s.val.a.node, .string x.s.val.a.id, .string x.s.val.a.name, .slice x.s.val.A x.s.val.n x.s.val.c, .int .i64 x.s.val.a.port, .int .u64 (x.s.made : Int), .int .u64 (x.s.ix : Int), .int .i64 x.c.val.node, .string x.c.val.id, .string x.c.val.svc, .string x.c.val.note, .int .i64 x.c.val.status, .int .u64 (x.c.made : Int), .int .u64 (x.c.ix : Int), .int .u64 (x.ix : Int)]
def stV (x : RSt) : Value := .agg #[.int .i64 x.kind, .int .i64 x.node, .string x.text, .int .i64 x.s.val.a.node, .string x.s.val.a.id, .string x.s.val.a.name, .slice x.s.val.A x.s.val.n x.s.val.c, .int .i64 x.s.val.a.port, .int .u64 (x.s.made : Int), .int .u64 (x.s.ix : Int), .int .i64 x.c.val.node, .string x.c.val.id, .string x.c.val.svc, .string x.c.val.note, .int .i64 x.c.val.status, .int .u64 (x.c.made : Int), .int .u64 (x.c.ix : Int), .int .u64 (x.ix : Int)]
theorem stC_len (x : RSt) : (stC x).length = 18 := rfl
theorem st_cells {w : World} {b o : Nat} {x : RSt} (h : ItAt stC w b o x) : w.cell? ⟨b, o, none⟩ = some (.int .i64 x.kind) ∧ w.cell? ⟨b, o + 1, none⟩ = some (.int .i64 x.node) ∧ w.cell? ⟨b, o + 2, none⟩ = some (.string x.text) ∧ w.cell? ⟨b, o + 3, none⟩ = some (.int .i64 x.s.val.a.node) ∧ w.cell? ⟨b, o + 4, none⟩ = some (.string x.s.val.a.id) ∧ w.cell? ⟨b, o + 5, none⟩ = some (.string x.s.val.a.name) ∧ w.cell? ⟨b, o + 6, none⟩ = some (.slice x.s.val.A x.s.val.n x.s.val.c) ∧ w.cell? ⟨b, o + 7, none⟩ = some (.int .i64 x.s.val.a.port) ∧ w.cell? ⟨b, o + 8, none⟩ = some (.int .u64 (x.s.made : Int)) ∧ w.cell? ⟨b, o + 9, none⟩ = some (.int .u64 (x.s.ix : Int)) ∧ w.cell? ⟨b, o + 10, none⟩ = some (.int .i64 x.c.val.node) ∧ w.cell? ⟨b, o + 11, none⟩ = some (.string x.c.val.id) ∧ w.cell? ⟨b, o + 12, none⟩ = some (.string x.c.val.svc) ∧ w.cell? ⟨b, o + 13, none⟩ = some (.string x.c.val.note) ∧ w.cell? ⟨b, o + 14, none⟩ = some (.int .i64 x.c.val.status) ∧ w.cell? ⟨b, o + 15, none⟩ = some (.int .u64 (x.c.made : Int)) ∧ w.cell? ⟨b, o + 16, none⟩ = some (.int .u64 (x.c.ix : Int)) ∧ w.cell? ⟨b, o + 17, none⟩ = some (.int .u64 (x.ix : Int)) :=
  ⟨h 0 _ rfl, h 1 _ rfl, h 2 _ rfl, h 3 _ rfl, h 4 _ rfl, h 5 _ rfl, h 6 _ rfl, h 7 _ rfl, h 8 _ rfl, h 9 _ rfl, h 10 _ rfl, h 11 _ rfl, h 12 _ rfl, h 13 _ rfl, h 14 _ rfl, h 15 _ rfl, h 16 _ rfl, h 17 _ rfl⟩
theorem st_blk {w : World} {b : Nat} {x : RSt} {t : TypeId} (h : w.heap[b]? = some (.cells #[.int .i64 x.kind, .int .i64 x.node, .string x.text, .int .i64 x.s.val.a.node, .string x.s.val.a.id, .string x.s.val.a.name, .slice x.s.val.A x.s.val.n x.s.val.c, .int .i64 x.s.val.a.port, .int .u64 (x.s.made : Int), .int .u64 (x.s.ix : Int), .int .i64 x.c.val.node, .string x.c.val.id, .string x.c.val.svc, .string x.c.val.note, .int .i64 x.c.val.status, .int .u64 (x.c.made : Int), .int .u64 (x.c.ix : Int), .int .u64 (x.ix : Int)] t (0, 0))) : w.cell? ⟨b, 0, none⟩ = some (.int .i64 x.kind) ∧ w.cell? ⟨b, 1, none⟩ = some (.int .i64 x.node) ∧ w.cell? ⟨b, 2, none⟩ = some (.string x.text) ∧ w.cell? ⟨b, 3, none⟩ = some (.int .i64 x.s.val.a.node) ∧ w.cell? ⟨b, 4, none⟩ = some (.string x.s.val.a.id) ∧ w.cell? ⟨b, 5, none⟩ = some (.string x.s.val.a.name) ∧ w.cell? ⟨b, 6, none⟩ = some (.slice x.s.val.A x.s.val.n x.s.val.c) ∧ w.cell? ⟨b, 7, none⟩ = some (.int .i64 x.s.val.a.port) ∧ w.cell? ⟨b, 8, none⟩ = some (.int .u64 (x.s.made : Int)) ∧ w.cell? ⟨b, 9, none⟩ = some (.int .u64 (x.s.ix : Int)) ∧ w.cell? ⟨b, 10, none⟩ = some (.int .i64 x.c.val.node) ∧ w.cell? ⟨b, 11, none⟩ = some (.string x.c.val.id) ∧ w.cell? ⟨b, 12, none⟩ = some (.string x.c.val.svc) ∧ w.cell? ⟨b, 13, none⟩ = some (.string x.c.val.note) ∧ w.cell? ⟨b, 14, none⟩ = some (.int .i64 x.c.val.status) ∧ w.cell? ⟨b, 15, none⟩ = some (.int .u64 (x.c.made : Int)) ∧ w.cell? ⟨b, 16, none⟩ = some (.int .u64 (x.c.ix : Int)) ∧ w.cell? ⟨b, 17, none⟩ = some (.int .u64 (x.ix : Int)) :=
  ⟨cellsN h 0 _ rfl, cellsN h 1 _ rfl, cellsN h 2 _ rfl, cellsN h 3 _ rfl, cellsN h 4 _ rfl, cellsN h 5 _ rfl, cellsN h 6 _ rfl, cellsN h 7 _ rfl, cellsN h 8 _ rfl, cellsN h 9 _ rfl, cellsN h 10 _ rfl, cellsN h 11 _ rfl, cellsN h 12 _ rfl, cellsN h 13 _ rfl, cellsN h 14 _ rfl, cellsN h 15 _ rfl, cellsN h 16 _ rfl, cellsN h 17 _ rfl⟩
/-- What a step makes of a roster. -/
def RSt.after (x : RSt) (d : Ro) : Nat × Ro :=
  if x.kind = 0 then d.node ⟨x.node, x.text⟩ x.ix else if x.kind = 1 then d.dropN x.node x.ix else if x.kind = 2 then d.service x.s.val.a x.ix else if x.kind = 3 then d.dropS x.node x.text x.ix
  else if x.kind = 4 then d.check x.c.val x.ix else if x.kind = 5 then d.dropC x.node x.text x.ix else (0, d)
theorem RSt.after_ok {m : Nat} {d : Ro} (x : RSt) (h : RoOk m d) (hi : x.ix < 18446744073709551616) : RoOk m (x.after d).2 := by
  unfold RSt.after
  split
  · exact h.node hi
  · split
    · exact h.dropN hi
    · split
      · exact h.service hi
      · split
        · exact h.dropS hi
        · split
          · exact h.check hi
          · split
            · exact h.dropC hi
            · exact h
end Go.Proofs.YtilkbfmaofmjoaaGreatDoor
/-
  A region that turns both rosters (layer 19).
-/
namespace Go.Proofs.YtilkbfmaofmjoaaGreatDoor
open Go.RowKit Go.Rel
set_option linter.unusedSimpArgs false
set_option linter.unusedVariables false

/-- Within a region that turns both: j1 is the program's call, j2 the document's; X holds the step, the tags of its service lie before base; they tell v1, v2. -/
structure StR (base X : Nat) (x : RSt) (cs : Array Value) (j1 j2 B B1 B2 B3 m D md : Nat) (d d' d2 d2' : Ro) (v1 v2 : Value) (f : Nat → Bool) (e : Nat → Value) (w : World) : Prop where
  both : Both base w B B1 B2 B3 m (if f j1 then d' else d) D md (if f j2 then d2' else d2)
  blk : w.heap[X]? = some (.cells cs TRs (0, 0))
  out : ¬ Ch4 B1 B2 B3 D X
  tg : TgAt (fun k => k < base) w x.s.val
  k1 : f j1 = true → e j1 = v1
  k2 : f j2 = true → e j2 = v2
section
variable {base X : Nat} {x : RSt} {cs : Array Value} {j1 j2 B B1 B2 B3 m D md : Nat} {d d' d2 d2' : Ro} {v1 v2 : Value} {f : Nat → Bool} {e e' : Nat → Value} {w w' : World} {v : Value} {ops : Array Oper}
theorem StR.start (h : Both base w B B1 B2 B3 m d D md d2) (hx : w.heap[X]? = some (.cells cs TRs (0, 0))) (ho : ¬ Ch4 B1 B2 B3 D X) (ht : TgAt (fun k => k < base) w x.s.val) (e : Nat → Value) : StR base X x cs j1 j2 B B1 B2 B3 m D md d d' d2 d2' v1 v2 (fun _ => false) e { w with drawn := w.drawn + 1 } :=
  ⟨h.below ⟨rfl, rfl, rfl, Nat.le_refl _, fun _ _ => rfl⟩, hx, ho, ht.below ⟨rfl, rfl, rfl, Nat.le_refl _, fun _ _ => rfl⟩, (fun z => by cases z), (fun z => by cases z)⟩
theorem StR.keep {j : Nat} (hj : [j1, j2].contains j = false) (h : StR base X x cs j1 j2 B B1 B2 B3 m D md d d' d2 d2' v1 v2 f e w) (hp : Go.Rel.Put ops j e v e') : StR base X x cs j1 j2 B B1 B2 B3 m D md d d' d2 d2' v1 v2 (Go.Rel.upd f j) e' w := by
  simp only [List.contains_cons, List.contains_nil, Bool.or_false, Bool.or_eq_false_iff, beq_eq_false_iff_ne] at hj
  have e1 := hp.1 j1 (Ne.symm hj.1)
  have e2 := hp.1 j2 (Ne.symm hj.2)
  refine ⟨?_, h.blk, h.out, h.tg, ?_, ?_⟩
  · rw [ale_off hj.1, ale_off hj.2]; exact h.both
  · rw [ale_off hj.1, e1]; exact h.k1
  · rw [ale_off hj.2, e2]; exact h.k2
theorem StR.left (h : StR base X x cs j1 j2 B B1 B2 B3 m D md d d' d2 d2' v1 v2 f e w) (hj : j1 ≠ j2) (hf : f j1 = false) {fn : Nat} {args : Array Value}
    (C : ∀ S, RoAt S w B B1 B2 B3 m d → TgAt (fun k => k < base) w x.s.val → Calls Tryz.prog fn args w fun r w' => r = .returned v1 ∧ RoAt (fun k => S k ∨ w.heap.size ≤ k) w' B B1 B2 B3 m d' ∧ But (Ch3 B1 B2 B3) w w') :
    Calls Tryz.prog fn args w fun r w' => ∃ v, r = .returned v ∧ (∀ e', (∀ m, m ≠ j1 → e' m = e m) → e' j1 = v → StR base X x cs j1 j2 B B1 B2 B3 m D md d d' d2 d2' v1 v2 (Go.Rel.upd f j1) e' w') ∧ But (Ch4 B1 B2 B3 D) w w' := by
  have hb := h.both
  rw [hf] at hb
  have hch := hb.ch
  obtain ⟨Sp, k1, k4⟩ := hb.left
  refine (C Sp k1 h.tg).mono ?_
  rintro r w' ⟨rfl, q1, q2⟩
  have g2 : But (Ch4 B1 B2 B3 D) w w' := q2.mono fun k z => .inl z
  refine ⟨_, rfl, fun e' he hv => ⟨?_, (g2.block X (block_lt h.blk) h.out).trans h.blk, h.out, h.tg.but g2 (fun k z q => by have := hch k z; omega), fun _ => hv, fun z => ?_⟩, g2⟩
  · rw [ale_on, ale_off hj]
    exact k4 w' d' q1 q2
  · rw [ale_off hj] at z
    rw [he j2 (Ne.symm hj)]
    exact h.k2 z
theorem StR.right (h : StR base X x cs j1 j2 B B1 B2 B3 m D md d d' d2 d2' v1 v2 f e w) (hj : j2 ≠ j1) (hf : f j2 = false) {fn : Nat} {args : Array Value}
    (C : ∀ S, RdAt base S w D md d2 → TgAt (fun k => k < base) w x.s.val → Calls Tryz.prog fn args w fun r w' => r = .returned v2 ∧ RdAt base (fun k => S k ∨ w.heap.size ≤ k) w' D md d2' ∧ But (· = D) w w') :
    Calls Tryz.prog fn args w fun r w' => ∃ v, r = .returned v ∧ (∀ e', (∀ m, m ≠ j2 → e' m = e m) → e' j2 = v → StR base X x cs j1 j2 B B1 B2 B3 m D md d d' d2 d2' v1 v2 (Go.Rel.upd f j2) e' w') ∧ But (Ch4 B1 B2 B3 D) w w' := by
  have hb := h.both
  rw [hf] at hb
  have hch := hb.ch
  obtain ⟨Sd, k1, k4⟩ := hb.right
  refine (C Sd k1 h.tg).mono ?_
  rintro r w' ⟨rfl, q1, q2⟩
  have g2 : But (Ch4 B1 B2 B3 D) w w' := q2.mono fun k z => .inr z
  refine ⟨_, rfl, fun e' he hv => ⟨?_, (g2.block X (block_lt h.blk) h.out).trans h.blk, h.out, h.tg.but g2 (fun k z q => by have := hch k z; omega), fun z => ?_, fun _ => hv⟩, g2⟩
  · rw [ale_on, ale_off hj]
    exact k4 w' d2' q1 q2
  · rw [ale_off hj] at z
    rw [he j1 (Ne.symm hj)]
    exact h.k1 z
end
/-- What a step makes of both. -/
def StepPost (base : Nat) (w : World) (B B1 B2 B3 m : Nat) (d' : Ro) (D md : Nat) (d2' : Ro) (P : Prop) (e : Ending) (w' : World) : Prop :=
  ∃ b, e = .returned (.bool b) ∧ Both base w' B B1 B2 B3 m d' D md d2' ∧ But (Ch4 B1 B2 B3 D) w w' ∧ (P → b = true)
end Go.Proofs.YtilkbfmaofmjoaaGreatDoor
/-
  The law's step: its six calls, walked (layer 19).
-/
namespace Go.Proofs.YtilkbfmaofmjoaaGreatDoor
open Go.RowKit Go.Rel
set_option linter.unusedSimpArgs false
set_option linter.unusedVariables false

def rst0 (B : Nat) (D : Nat) (X : Nat) (x : RSt) (bq : Bool) : Nat → Value
  | 0 => .pointer (some ⟨B, 0, none⟩)
  | 1 | 9 => .pointer (some ⟨X, 1, none⟩)
  | 2 | 10 => .int .i64 x.node
  | 3 | 11 => .pointer (some ⟨X, 2, none⟩)
  | 4 | 12 => .string x.text
  | 5 | 13 => .pointer (some ⟨X, 17, none⟩)
  | 6 | 14 => .int .u64 (x.ix : Int)
  | 8 => .pointer (some ⟨D, 0, none⟩)
  | 16 | 17 => .bool bq
  | _ => undef
set_option maxHeartbeats 4000000 in
set_option maxRecDepth 100000 in
theorem step0_any {base : Nat} {w : World} {B B1 B2 B3 m D md : Nat} {d d2 : Ro} (x : RSt) (h : Both base w B B1 B2 B3 m d D md d2) (hx : x.Ok w) (ht : TgAt (fun k => k < base) w x.s.val) (hk : x.kind = 0) : Calls Tryz.prog 11 #[.pointer (some ⟨B, 0, none⟩), .pointer (some ⟨D, 0, none⟩), stV x] w fun e w' => StepPost base w B B1 B2 B3 m (x.after d).2 D md (x.after d2).2 ((x.after d).1 = (x.after d2).1) e w' := by
  have ha1 : x.after d = d.node ⟨x.node, x.text⟩ x.ix := by unfold RSt.after; simp only [hk]; rfl
  have ha2 : x.after d2 = d2.node ⟨x.node, x.text⟩ x.ix := by unfold RSt.after; simp only [hk]; rfl
  rw [ha1, ha2]
  obtain ⟨⟨er1, d'⟩, he1⟩ : ∃ r, d.node ⟨x.node, x.text⟩ x.ix = r := ⟨_, rfl⟩
  obtain ⟨⟨er2, d2'⟩, he2⟩ : ∃ r, d2.node ⟨x.node, x.text⟩ x.ix = r := ⟨_, rfl⟩
  rw [he1, he2]
  have HE1 := Lib.hid he1
  have HE2 := Lib.hid he2
  have HOk := Lib.hid hx
  have HSi := Lib.hid (fun (W : World) (ht : TgAt (fun k => k < base) W x.s.val) => (⟨hx.s.node, hx.s.port, hx.s.id, hx.s.name, ht.tx, hx.s.small⟩ : SvIn W x.s))
  have b0 := below1 w #[.int .i64 x.kind, .int .i64 x.node, .string x.text, .int .i64 x.s.val.a.node, .string x.s.val.a.id, .string x.s.val.a.name, .slice x.s.val.A x.s.val.n x.s.val.c, .int .i64 x.s.val.a.port, .int .u64 (x.s.made : Int), .int .u64 (x.s.ix : Int), .int .i64 x.c.val.node, .string x.c.val.id, .string x.c.val.svc, .string x.c.val.note, .int .i64 x.c.val.status, .int .u64 (x.c.made : Int), .int .u64 (x.c.ix : Int), .int .u64 (x.ix : Int)] TRs
  have k0 := heap_alloc_new w (.cells #[.int .i64 x.kind, .int .i64 x.node, .string x.text, .int .i64 x.s.val.a.node, .string x.s.val.a.id, .string x.s.val.a.name, .slice x.s.val.A x.s.val.n x.s.val.c, .int .i64 x.s.val.a.port, .int .u64 (x.s.made : Int), .int .u64 (x.s.ix : Int), .int .i64 x.c.val.node, .string x.c.val.id, .string x.c.val.svc, .string x.c.val.note, .int .i64 x.c.val.status, .int .u64 (x.c.made : Int), .int .u64 (x.c.ix : Int), .int .u64 (x.ix : Int)] TRs)
  obtain ⟨X, hX⟩ : ∃ X, w.heap.size = X := ⟨_, rfl⟩
  obtain ⟨W1, hW1⟩ : ∃ W1, w.alloc (.cells #[.int .i64 x.kind, .int .i64 x.node, .string x.text, .int .i64 x.s.val.a.node, .string x.s.val.a.id, .string x.s.val.a.name, .slice x.s.val.A x.s.val.n x.s.val.c, .int .i64 x.s.val.a.port, .int .u64 (x.s.made : Int), .int .u64 (x.s.ix : Int), .int .i64 x.c.val.node, .string x.c.val.id, .string x.c.val.svc, .string x.c.val.note, .int .i64 x.c.val.status, .int .u64 (x.c.made : Int), .int .u64 (x.c.ix : Int), .int .u64 (x.ix : Int)] TRs) = W1 := ⟨_, rfl⟩
  rw [hW1] at b0 k0
  rw [hX] at k0
  have HBo := Lib.hid (h.below b0)
  have HOut : Hid (¬ Ch4 B1 B2 B3 D X) := Lib.hid (by
    have := h.lt
    rintro ((z | z | z) | z) <;> omega)
  have HTg := Lib.hid (ht.below b0)
  have HB0 := Lib.hid b0
  have HK1 := Lib.hid k0
  have HW1 := Lib.hid hW1
  have HX := Lib.hid hX
  obtain ⟨bq, hbq⟩ : ∃ bq, ((er1 : Int) == (er2 : Int)) = bq := ⟨_, rfl⟩
  have HBq := Lib.hid hbq
  have HBq2 : Hid (er1 = er2 → bq = true) := Lib.hid (fun e => by rw [← hbq, e]; simp)
  have HCp : Hid (∀ (f : Nat → Bool) (e : Nat → Value) (w' : World), StR base X x #[.int .i64 x.kind, .int .i64 x.node, .string x.text, .int .i64 x.s.val.a.node, .string x.s.val.a.id, .string x.s.val.a.name, .slice x.s.val.A x.s.val.n x.s.val.c, .int .i64 x.s.val.a.port, .int .u64 (x.s.made : Int), .int .u64 (x.s.ix : Int), .int .i64 x.c.val.node, .string x.c.val.id, .string x.c.val.svc, .string x.c.val.note, .int .i64 x.c.val.status, .int .u64 (x.c.made : Int), .int .u64 (x.c.ix : Int), .int .u64 (x.ix : Int)] 7 15 B B1 B2 B3 m D md d d' d2 d2' (.int .i64 (er1 : Int)) (.int .i64 (er2 : Int)) f e w' → f 7 = false → Calls Tryz.prog 28 #[.pointer (some ⟨B, 0, none⟩), .int .i64 x.node, .string x.text, .int .u64 (x.ix : Int)] w' fun r w2 => ∃ v, r = .returned v ∧ (∀ e', (∀ m, m ≠ 7 → e' m = e m) → e' 7 = v → StR base X x #[.int .i64 x.kind, .int .i64 x.node, .string x.text, .int .i64 x.s.val.a.node, .string x.s.val.a.id, .string x.s.val.a.name, .slice x.s.val.A x.s.val.n x.s.val.c, .int .i64 x.s.val.a.port, .int .u64 (x.s.made : Int), .int .u64 (x.s.ix : Int), .int .i64 x.c.val.node, .string x.c.val.id, .string x.c.val.svc, .string x.c.val.note, .int .i64 x.c.val.status, .int .u64 (x.c.made : Int), .int .u64 (x.c.ix : Int), .int .u64 (x.ix : Int)] 7 15 B B1 B2 B3 m D md d d' d2 d2' (.int .i64 (er1 : Int)) (.int .i64 (er2 : Int)) (Go.Rel.upd f 7) e' w2) ∧ But (Ch4 B1 B2 B3 D) w' w2) := Lib.hid fun f e w' hI hf =>
    hI.left (by decide) hf fun S h ht => by
      have h9 := rnode_any x.node x.text x.ix h HOk.out.node (Nat.le_trans HOk.out.text (by decide)) HOk.out.ix
      rw [show d.node ⟨x.node, x.text⟩ x.ix = (er1, d') from HE1.out] at h9
      exact h9
  have HCd : Hid (∀ (f : Nat → Bool) (e : Nat → Value) (w' : World), StR base X x #[.int .i64 x.kind, .int .i64 x.node, .string x.text, .int .i64 x.s.val.a.node, .string x.s.val.a.id, .string x.s.val.a.name, .slice x.s.val.A x.s.val.n x.s.val.c, .int .i64 x.s.val.a.port, .int .u64 (x.s.made : Int), .int .u64 (x.s.ix : Int), .int .i64 x.c.val.node, .string x.c.val.id, .string x.c.val.svc, .string x.c.val.note, .int .i64 x.c.val.status, .int .u64 (x.c.made : Int), .int .u64 (x.c.ix : Int), .int .u64 (x.ix : Int)] 7 15 B B1 B2 B3 m D md d d' d2 d2' (.int .i64 (er1 : Int)) (.int .i64 (er2 : Int)) f e w' → f 15 = false → Calls Tryz.prog 36 #[.pointer (some ⟨D, 0, none⟩), .int .i64 x.node, .string x.text, .int .u64 (x.ix : Int)] w' fun r w2 => ∃ v, r = .returned v ∧ (∀ e', (∀ m, m ≠ 15 → e' m = e m) → e' 15 = v → StR base X x #[.int .i64 x.kind, .int .i64 x.node, .string x.text, .int .i64 x.s.val.a.node, .string x.s.val.a.id, .string x.s.val.a.name, .slice x.s.val.A x.s.val.n x.s.val.c, .int .i64 x.s.val.a.port, .int .u64 (x.s.made : Int), .int .u64 (x.s.ix : Int), .int .i64 x.c.val.node, .string x.c.val.id, .string x.c.val.svc, .string x.c.val.note, .int .i64 x.c.val.status, .int .u64 (x.c.made : Int), .int .u64 (x.c.ix : Int), .int .u64 (x.ix : Int)] 7 15 B B1 B2 B3 m D md d d' d2 d2' (.int .i64 (er1 : Int)) (.int .i64 (er2 : Int)) (Go.Rel.upd f 15) e' w2) ∧ But (Ch4 B1 B2 B3 D) w' w2) := Lib.hid fun f e w' hI hf =>
    hI.right (by decide) hf fun S h ht => by
      have h9 := rdnode_any x.node x.text x.ix h (Nat.le_trans HOk.out.text (by decide)) HOk.out.ix
      rw [show d2.node ⟨x.node, x.text⟩ x.ix = (er2, d2') from HE2.out] at h9
      exact h9
  unfold stV
  rw [hk]
  have HKd := Lib.hid hk
  clear h hx ht ha1 ha2 he1 he2 b0 k0 hW1 hX hbq hk
  go_enter Tryz.func11, Tryz.ntmps11
  go_wp2_with fail
  rw [← HKd.out]
  rw [HW1.out, HX.out]
  have hre : ∀ w : World, (But (Ch4 B1 B2 B3 D)) w w := (fun w => But.refl _ w)
  have hrd : ∀ (ops9 : Array Oper) (f9 : Nat → Bool) (e9 : Nat → Value) (w9 : World) (i9 : Nat) (v9 : Value) (e8 : Nat → Value), [7, 15].contains i9 = false → (fun (f : Nat → Bool) (e : Nat → Value) (w : World) => StR base X x #[.int .i64 x.kind, .int .i64 x.node, .string x.text, .int .i64 x.s.val.a.node, .string x.s.val.a.id, .string x.s.val.a.name, .slice x.s.val.A x.s.val.n x.s.val.c, .int .i64 x.s.val.a.port, .int .u64 (x.s.made : Int), .int .u64 (x.s.ix : Int), .int .i64 x.c.val.node, .string x.c.val.id, .string x.c.val.svc, .string x.c.val.note, .int .i64 x.c.val.status, .int .u64 (x.c.made : Int), .int .u64 (x.c.ix : Int), .int .u64 (x.ix : Int)] 7 15 B B1 B2 B3 m D md d d' d2 d2' (.int .i64 (er1 : Int)) (.int .i64 (er2 : Int)) f e w) f9 e9 w9 → Go.Rel.Put ops9 i9 e9 v9 e8 → (fun (f : Nat → Bool) (e : Nat → Value) (w : World) => StR base X x #[.int .i64 x.kind, .int .i64 x.node, .string x.text, .int .i64 x.s.val.a.node, .string x.s.val.a.id, .string x.s.val.a.name, .slice x.s.val.A x.s.val.n x.s.val.c, .int .i64 x.s.val.a.port, .int .u64 (x.s.made : Int), .int .u64 (x.s.ix : Int), .int .i64 x.c.val.node, .string x.c.val.id, .string x.c.val.svc, .string x.c.val.note, .int .i64 x.c.val.status, .int .u64 (x.c.made : Int), .int .u64 (x.c.ix : Int), .int .u64 (x.ix : Int)] 7 15 B B1 B2 B3 m D md d d' d2 d2' (.int .i64 (er1 : Int)) (.int .i64 (er2 : Int)) f e w) (Go.Rel.upd f9 i9) e8 w9 := (fun _ _ _ _ _ _ _ hj h hp => StR.keep hj h hp)
  refine Go.Rel.wp_tabe (by kernel_rfl) (by kernel_rfl) (fun (f : Nat → Bool) (e : Nat → Value) (w : World) => StR base X x #[.int .i64 x.kind, .int .i64 x.node, .string x.text, .int .i64 x.s.val.a.node, .string x.s.val.a.id, .string x.s.val.a.name, .slice x.s.val.A x.s.val.n x.s.val.c, .int .i64 x.s.val.a.port, .int .u64 (x.s.made : Int), .int .u64 (x.s.ix : Int), .int .i64 x.c.val.node, .string x.c.val.id, .string x.c.val.svc, .string x.c.val.note, .int .i64 x.c.val.status, .int .u64 (x.c.made : Int), .int .u64 (x.c.ix : Int), .int .u64 (x.ix : Int)] 7 15 B B1 B2 B3 m D md d d' d2 d2' (.int .i64 (er1 : Int)) (.int .i64 (er2 : Int)) f e w) (But (Ch4 B1 B2 B3 D)) hre ((fun _ _ _ h k => h.trans k)) ((But.refl _ _).drew) (fun e => StR.start HBo.out HK1.out HOut.out HTg.out e) (rst0 B D X x bq) (fun | 7, v, w => True | 15, v, w => True | _, _, _ => True) (fun i => ([7, 15] : List Nat).contains i) (fun i => ([2, 4, 6, 7, 10, 12, 14, 15, 16] : List Nat).contains i) (by kernel_rfl) (fun i v w w' h g => by revert h; split <;> exact id) [7, 15] (by decide) (hrd _) ?_ (Go.Rel.AllOf.get ?_) ?_
  · repeat (refine .cons (by first | exact Go.Rel.pure_sp rfl | exact Go.Rel.pure_yes (by kernel_rfl) (fun _ => by kernel_rfl) | exact Go.Rel.pure_no (by kernel_rfl) rfl) ?_)
    exact .nil
  · refine ⟨?_, ?_, ?_, ?_, ?_, ?_, ?_, ?_, ?_, trivial⟩
    · exact SpecE.ld (hrd _) hre (q := .pointer (some ⟨X, 1, none⟩)) (h := fun _ w' _ hI _ _ _ _ => by obtain ⟨y0, y1, y2, y3, y4, y5, y6, y7, y8, y9, y10, y11, y12, y13, y14, y15, y16, y17⟩ := st_blk (x := x) hI.blk; go_simp; rfl)
    · exact SpecE.ld (hrd _) hre (q := .pointer (some ⟨X, 2, none⟩)) (h := fun _ w' _ hI _ _ _ _ => by obtain ⟨y0, y1, y2, y3, y4, y5, y6, y7, y8, y9, y10, y11, y12, y13, y14, y15, y16, y17⟩ := st_blk (x := x) hI.blk; go_simp; rfl)
    · exact SpecE.ld (hrd _) hre (q := .pointer (some ⟨X, 17, none⟩)) (h := fun _ w' _ hI _ _ _ _ => by obtain ⟨y0, y1, y2, y3, y4, y5, y6, y7, y8, y9, y10, y11, y12, y13, y14, y15, y16, y17⟩ := st_blk (x := x) hI.blk; go_simp; rfl)
    · refine SpecE.gen (fun e => [(12, .pointer (some ⟨B, 0, none⟩)), (14, .int .i64 x.node), (16, .string x.text), (18, .int .u64 (x.ix : Int))]) rfl rfl (fun _ => by kernel_rfl) fun f w' e hI hf hdesc hanc hle hX K hK => ?_
      go_simp
      refine (HCp.out f e w' hI hf).mono ?_
      rintro e9 w9 ⟨v9, rfl, h9, hb9⟩
      exact hK _ _ hb9 (fun e' hp => h9 e' (fun m hm => hp.1 m hm) (hp.2 rfl)) trivial
    · exact SpecE.ld (hrd _) hre (q := .pointer (some ⟨X, 1, none⟩)) (h := fun _ w' _ hI _ _ _ _ => by obtain ⟨y0, y1, y2, y3, y4, y5, y6, y7, y8, y9, y10, y11, y12, y13, y14, y15, y16, y17⟩ := st_blk (x := x) hI.blk; go_simp; rfl)
    · exact SpecE.ld (hrd _) hre (q := .pointer (some ⟨X, 2, none⟩)) (h := fun _ w' _ hI _ _ _ _ => by obtain ⟨y0, y1, y2, y3, y4, y5, y6, y7, y8, y9, y10, y11, y12, y13, y14, y15, y16, y17⟩ := st_blk (x := x) hI.blk; go_simp; rfl)
    · exact SpecE.ld (hrd _) hre (q := .pointer (some ⟨X, 17, none⟩)) (h := fun _ w' _ hI _ _ _ _ => by obtain ⟨y0, y1, y2, y3, y4, y5, y6, y7, y8, y9, y10, y11, y12, y13, y14, y15, y16, y17⟩ := st_blk (x := x) hI.blk; go_simp; rfl)
    · refine SpecE.gen (fun e => [(20, .pointer (some ⟨D, 0, none⟩)), (22, .int .i64 x.node), (24, .string x.text), (26, .int .u64 (x.ix : Int))]) rfl rfl (fun _ => by kernel_rfl) fun f w' e hI hf hdesc hanc hle hX K hK => ?_
      go_simp
      refine (HCd.out f e w' hI hf).mono ?_
      rintro e9 w9 ⟨v9, rfl, h9, hb9⟩
      exact hK _ _ hb9 (fun e' hp => h9 e' (fun m hm => hp.1 m hm) (hp.2 rfl)) trivial
    · refine SpecE.gen (fun e => [(19, e 7), (27, e 15)]) rfl rfl (fun _ => by kernel_rfl) fun f w' e hI hf hdesc hanc hle hX K hK => ?_
      have q1 := hI.k1 (hanc 60 7 (by kernel_rfl))
      have q2 := hI.k2 (hanc 60 15 (by kernel_rfl))
      have qq := HBq.out
      simp only [q1, q2]
      go_simp
      exact hK _ _ (hre _) (fun e' hp => hrd _ f e w' 16 _ e' rfl hI hp) rfl
  · intro f w2 e hall hJ hle hv
    have hb2 := hJ.both
    rw [hall 7 (by decide), hall 15 (by decide)] at hb2
    have HB2 := Lib.hid hb2
    have HL2 := Lib.hid hle
    have v9 := hv 17 rfl
    simp only [Go.Rel.finL, List.setIfInBounds_toArray, List.set_cons_succ, List.set_cons_zero]
    rw [show e 17 = .bool bq from v9]
    clear hv hall hJ hle hb2 v9
    go_wp2
    go_ret
    exact ⟨bq, rfl, HB2.out, (But.of_below HB0.out).trans HL2.out, HBq2.out⟩
def rst1 (B : Nat) (D : Nat) (X : Nat) (x : RSt) (bq : Bool) : Nat → Value
  | 0 => .pointer (some ⟨B, 0, none⟩)
  | 1 | 7 => .pointer (some ⟨X, 1, none⟩)
  | 2 | 8 => .int .i64 x.node
  | 3 | 9 => .pointer (some ⟨X, 17, none⟩)
  | 4 | 10 => .int .u64 (x.ix : Int)
  | 6 => .pointer (some ⟨D, 0, none⟩)
  | 12 | 13 => .bool bq
  | _ => undef
set_option maxHeartbeats 4000000 in
set_option maxRecDepth 100000 in
theorem step1_any {base : Nat} {w : World} {B B1 B2 B3 m D md : Nat} {d d2 : Ro} (x : RSt) (h : Both base w B B1 B2 B3 m d D md d2) (hx : x.Ok w) (ht : TgAt (fun k => k < base) w x.s.val) (hk : x.kind = 1) : Calls Tryz.prog 11 #[.pointer (some ⟨B, 0, none⟩), .pointer (some ⟨D, 0, none⟩), stV x] w fun e w' => StepPost base w B B1 B2 B3 m (x.after d).2 D md (x.after d2).2 ((x.after d).1 = (x.after d2).1) e w' := by
  have ha1 : x.after d = d.dropN x.node x.ix := by unfold RSt.after; simp only [hk]; rfl
  have ha2 : x.after d2 = d2.dropN x.node x.ix := by unfold RSt.after; simp only [hk]; rfl
  rw [ha1, ha2]
  obtain ⟨⟨er1, d'⟩, he1⟩ : ∃ r, d.dropN x.node x.ix = r := ⟨_, rfl⟩
  obtain ⟨⟨er2, d2'⟩, he2⟩ : ∃ r, d2.dropN x.node x.ix = r := ⟨_, rfl⟩
  rw [he1, he2]
  have HE1 := Lib.hid he1
  have HE2 := Lib.hid he2
  have HOk := Lib.hid hx
  have HSi := Lib.hid (fun (W : World) (ht : TgAt (fun k => k < base) W x.s.val) => (⟨hx.s.node, hx.s.port, hx.s.id, hx.s.name, ht.tx, hx.s.small⟩ : SvIn W x.s))
  have b0 := below1 w #[.int .i64 x.kind, .int .i64 x.node, .string x.text, .int .i64 x.s.val.a.node, .string x.s.val.a.id, .string x.s.val.a.name, .slice x.s.val.A x.s.val.n x.s.val.c, .int .i64 x.s.val.a.port, .int .u64 (x.s.made : Int), .int .u64 (x.s.ix : Int), .int .i64 x.c.val.node, .string x.c.val.id, .string x.c.val.svc, .string x.c.val.note, .int .i64 x.c.val.status, .int .u64 (x.c.made : Int), .int .u64 (x.c.ix : Int), .int .u64 (x.ix : Int)] TRs
  have k0 := heap_alloc_new w (.cells #[.int .i64 x.kind, .int .i64 x.node, .string x.text, .int .i64 x.s.val.a.node, .string x.s.val.a.id, .string x.s.val.a.name, .slice x.s.val.A x.s.val.n x.s.val.c, .int .i64 x.s.val.a.port, .int .u64 (x.s.made : Int), .int .u64 (x.s.ix : Int), .int .i64 x.c.val.node, .string x.c.val.id, .string x.c.val.svc, .string x.c.val.note, .int .i64 x.c.val.status, .int .u64 (x.c.made : Int), .int .u64 (x.c.ix : Int), .int .u64 (x.ix : Int)] TRs)
  obtain ⟨X, hX⟩ : ∃ X, w.heap.size = X := ⟨_, rfl⟩
  obtain ⟨W1, hW1⟩ : ∃ W1, w.alloc (.cells #[.int .i64 x.kind, .int .i64 x.node, .string x.text, .int .i64 x.s.val.a.node, .string x.s.val.a.id, .string x.s.val.a.name, .slice x.s.val.A x.s.val.n x.s.val.c, .int .i64 x.s.val.a.port, .int .u64 (x.s.made : Int), .int .u64 (x.s.ix : Int), .int .i64 x.c.val.node, .string x.c.val.id, .string x.c.val.svc, .string x.c.val.note, .int .i64 x.c.val.status, .int .u64 (x.c.made : Int), .int .u64 (x.c.ix : Int), .int .u64 (x.ix : Int)] TRs) = W1 := ⟨_, rfl⟩
  rw [hW1] at b0 k0
  rw [hX] at k0
  have HBo := Lib.hid (h.below b0)
  have HOut : Hid (¬ Ch4 B1 B2 B3 D X) := Lib.hid (by
    have := h.lt
    rintro ((z | z | z) | z) <;> omega)
  have HTg := Lib.hid (ht.below b0)
  have HB0 := Lib.hid b0
  have HK1 := Lib.hid k0
  have HW1 := Lib.hid hW1
  have HX := Lib.hid hX
  obtain ⟨bq, hbq⟩ : ∃ bq, ((er1 : Int) == (er2 : Int)) = bq := ⟨_, rfl⟩
  have HBq := Lib.hid hbq
  have HBq2 : Hid (er1 = er2 → bq = true) := Lib.hid (fun e => by rw [← hbq, e]; simp)
  have HCp : Hid (∀ (f : Nat → Bool) (e : Nat → Value) (w' : World), StR base X x #[.int .i64 x.kind, .int .i64 x.node, .string x.text, .int .i64 x.s.val.a.node, .string x.s.val.a.id, .string x.s.val.a.name, .slice x.s.val.A x.s.val.n x.s.val.c, .int .i64 x.s.val.a.port, .int .u64 (x.s.made : Int), .int .u64 (x.s.ix : Int), .int .i64 x.c.val.node, .string x.c.val.id, .string x.c.val.svc, .string x.c.val.note, .int .i64 x.c.val.status, .int .u64 (x.c.made : Int), .int .u64 (x.c.ix : Int), .int .u64 (x.ix : Int)] 5 11 B B1 B2 B3 m D md d d' d2 d2' (.int .i64 (er1 : Int)) (.int .i64 (er2 : Int)) f e w' → f 5 = false → Calls Tryz.prog 29 #[.pointer (some ⟨B, 0, none⟩), .int .i64 x.node, .int .u64 (x.ix : Int)] w' fun r w2 => ∃ v, r = .returned v ∧ (∀ e', (∀ m, m ≠ 5 → e' m = e m) → e' 5 = v → StR base X x #[.int .i64 x.kind, .int .i64 x.node, .string x.text, .int .i64 x.s.val.a.node, .string x.s.val.a.id, .string x.s.val.a.name, .slice x.s.val.A x.s.val.n x.s.val.c, .int .i64 x.s.val.a.port, .int .u64 (x.s.made : Int), .int .u64 (x.s.ix : Int), .int .i64 x.c.val.node, .string x.c.val.id, .string x.c.val.svc, .string x.c.val.note, .int .i64 x.c.val.status, .int .u64 (x.c.made : Int), .int .u64 (x.c.ix : Int), .int .u64 (x.ix : Int)] 5 11 B B1 B2 B3 m D md d d' d2 d2' (.int .i64 (er1 : Int)) (.int .i64 (er2 : Int)) (Go.Rel.upd f 5) e' w2) ∧ But (Ch4 B1 B2 B3 D) w' w2) := Lib.hid fun f e w' hI hf =>
    hI.left (by decide) hf fun S h ht => by
      have h9 := rdropnode_any x.node x.ix h HOk.out.node HOk.out.ix
      rw [show d.dropN x.node x.ix = (er1, d') from HE1.out] at h9
      exact h9
  have HCd : Hid (∀ (f : Nat → Bool) (e : Nat → Value) (w' : World), StR base X x #[.int .i64 x.kind, .int .i64 x.node, .string x.text, .int .i64 x.s.val.a.node, .string x.s.val.a.id, .string x.s.val.a.name, .slice x.s.val.A x.s.val.n x.s.val.c, .int .i64 x.s.val.a.port, .int .u64 (x.s.made : Int), .int .u64 (x.s.ix : Int), .int .i64 x.c.val.node, .string x.c.val.id, .string x.c.val.svc, .string x.c.val.note, .int .i64 x.c.val.status, .int .u64 (x.c.made : Int), .int .u64 (x.c.ix : Int), .int .u64 (x.ix : Int)] 5 11 B B1 B2 B3 m D md d d' d2 d2' (.int .i64 (er1 : Int)) (.int .i64 (er2 : Int)) f e w' → f 11 = false → Calls Tryz.prog 37 #[.pointer (some ⟨D, 0, none⟩), .int .i64 x.node, .int .u64 (x.ix : Int)] w' fun r w2 => ∃ v, r = .returned v ∧ (∀ e', (∀ m, m ≠ 11 → e' m = e m) → e' 11 = v → StR base X x #[.int .i64 x.kind, .int .i64 x.node, .string x.text, .int .i64 x.s.val.a.node, .string x.s.val.a.id, .string x.s.val.a.name, .slice x.s.val.A x.s.val.n x.s.val.c, .int .i64 x.s.val.a.port, .int .u64 (x.s.made : Int), .int .u64 (x.s.ix : Int), .int .i64 x.c.val.node, .string x.c.val.id, .string x.c.val.svc, .string x.c.val.note, .int .i64 x.c.val.status, .int .u64 (x.c.made : Int), .int .u64 (x.c.ix : Int), .int .u64 (x.ix : Int)] 5 11 B B1 B2 B3 m D md d d' d2 d2' (.int .i64 (er1 : Int)) (.int .i64 (er2 : Int)) (Go.Rel.upd f 11) e' w2) ∧ But (Ch4 B1 B2 B3 D) w' w2) := Lib.hid fun f e w' hI hf =>
    hI.right (by decide) hf fun S h ht => by
      have h9 := rddropnode_any x.node x.ix h HOk.out.ix
      rw [show d2.dropN x.node x.ix = (er2, d2') from HE2.out] at h9
      exact h9
  unfold stV
  rw [hk]
  have HKd := Lib.hid hk
  clear h hx ht ha1 ha2 he1 he2 b0 k0 hW1 hX hbq hk
  go_enter Tryz.func11, Tryz.ntmps11
  go_wp2_with fail
  rw [← HKd.out]
  rw [HW1.out, HX.out]
  have hre : ∀ w : World, (But (Ch4 B1 B2 B3 D)) w w := (fun w => But.refl _ w)
  have hrd : ∀ (ops9 : Array Oper) (f9 : Nat → Bool) (e9 : Nat → Value) (w9 : World) (i9 : Nat) (v9 : Value) (e8 : Nat → Value), [5, 11].contains i9 = false → (fun (f : Nat → Bool) (e : Nat → Value) (w : World) => StR base X x #[.int .i64 x.kind, .int .i64 x.node, .string x.text, .int .i64 x.s.val.a.node, .string x.s.val.a.id, .string x.s.val.a.name, .slice x.s.val.A x.s.val.n x.s.val.c, .int .i64 x.s.val.a.port, .int .u64 (x.s.made : Int), .int .u64 (x.s.ix : Int), .int .i64 x.c.val.node, .string x.c.val.id, .string x.c.val.svc, .string x.c.val.note, .int .i64 x.c.val.status, .int .u64 (x.c.made : Int), .int .u64 (x.c.ix : Int), .int .u64 (x.ix : Int)] 5 11 B B1 B2 B3 m D md d d' d2 d2' (.int .i64 (er1 : Int)) (.int .i64 (er2 : Int)) f e w) f9 e9 w9 → Go.Rel.Put ops9 i9 e9 v9 e8 → (fun (f : Nat → Bool) (e : Nat → Value) (w : World) => StR base X x #[.int .i64 x.kind, .int .i64 x.node, .string x.text, .int .i64 x.s.val.a.node, .string x.s.val.a.id, .string x.s.val.a.name, .slice x.s.val.A x.s.val.n x.s.val.c, .int .i64 x.s.val.a.port, .int .u64 (x.s.made : Int), .int .u64 (x.s.ix : Int), .int .i64 x.c.val.node, .string x.c.val.id, .string x.c.val.svc, .string x.c.val.note, .int .i64 x.c.val.status, .int .u64 (x.c.made : Int), .int .u64 (x.c.ix : Int), .int .u64 (x.ix : Int)] 5 11 B B1 B2 B3 m D md d d' d2 d2' (.int .i64 (er1 : Int)) (.int .i64 (er2 : Int)) f e w) (Go.Rel.upd f9 i9) e8 w9 := (fun _ _ _ _ _ _ _ hj h hp => StR.keep hj h hp)
  refine Go.Rel.wp_tabe (by kernel_rfl) (by kernel_rfl) (fun (f : Nat → Bool) (e : Nat → Value) (w : World) => StR base X x #[.int .i64 x.kind, .int .i64 x.node, .string x.text, .int .i64 x.s.val.a.node, .string x.s.val.a.id, .string x.s.val.a.name, .slice x.s.val.A x.s.val.n x.s.val.c, .int .i64 x.s.val.a.port, .int .u64 (x.s.made : Int), .int .u64 (x.s.ix : Int), .int .i64 x.c.val.node, .string x.c.val.id, .string x.c.val.svc, .string x.c.val.note, .int .i64 x.c.val.status, .int .u64 (x.c.made : Int), .int .u64 (x.c.ix : Int), .int .u64 (x.ix : Int)] 5 11 B B1 B2 B3 m D md d d' d2 d2' (.int .i64 (er1 : Int)) (.int .i64 (er2 : Int)) f e w) (But (Ch4 B1 B2 B3 D)) hre ((fun _ _ _ h k => h.trans k)) ((But.refl _ _).drew) (fun e => StR.start HBo.out HK1.out HOut.out HTg.out e) (rst1 B D X x bq) (fun | 5, v, w => True | 11, v, w => True | _, _, _ => True) (fun i => ([5, 11] : List Nat).contains i) (fun i => ([2, 4, 5, 8, 10, 11, 12] : List Nat).contains i) (by kernel_rfl) (fun i v w w' h g => by revert h; split <;> exact id) [5, 11] (by decide) (hrd _) ?_ (Go.Rel.AllOf.get ?_) ?_
  · repeat (refine .cons (by first | exact Go.Rel.pure_sp rfl | exact Go.Rel.pure_yes (by kernel_rfl) (fun _ => by kernel_rfl) | exact Go.Rel.pure_no (by kernel_rfl) rfl) ?_)
    exact .nil
  · refine ⟨?_, ?_, ?_, ?_, ?_, ?_, ?_, trivial⟩
    · exact SpecE.ld (hrd _) hre (q := .pointer (some ⟨X, 1, none⟩)) (h := fun _ w' _ hI _ _ _ _ => by obtain ⟨y0, y1, y2, y3, y4, y5, y6, y7, y8, y9, y10, y11, y12, y13, y14, y15, y16, y17⟩ := st_blk (x := x) hI.blk; go_simp; rfl)
    · exact SpecE.ld (hrd _) hre (q := .pointer (some ⟨X, 17, none⟩)) (h := fun _ w' _ hI _ _ _ _ => by obtain ⟨y0, y1, y2, y3, y4, y5, y6, y7, y8, y9, y10, y11, y12, y13, y14, y15, y16, y17⟩ := st_blk (x := x) hI.blk; go_simp; rfl)
    · refine SpecE.gen (fun e => [(31, .pointer (some ⟨B, 0, none⟩)), (33, .int .i64 x.node), (35, .int .u64 (x.ix : Int))]) rfl rfl (fun _ => by kernel_rfl) fun f w' e hI hf hdesc hanc hle hX K hK => ?_
      go_simp
      refine (HCp.out f e w' hI hf).mono ?_
      rintro e9 w9 ⟨v9, rfl, h9, hb9⟩
      exact hK _ _ hb9 (fun e' hp => h9 e' (fun m hm => hp.1 m hm) (hp.2 rfl)) trivial
    · exact SpecE.ld (hrd _) hre (q := .pointer (some ⟨X, 1, none⟩)) (h := fun _ w' _ hI _ _ _ _ => by obtain ⟨y0, y1, y2, y3, y4, y5, y6, y7, y8, y9, y10, y11, y12, y13, y14, y15, y16, y17⟩ := st_blk (x := x) hI.blk; go_simp; rfl)
    · exact SpecE.ld (hrd _) hre (q := .pointer (some ⟨X, 17, none⟩)) (h := fun _ w' _ hI _ _ _ _ => by obtain ⟨y0, y1, y2, y3, y4, y5, y6, y7, y8, y9, y10, y11, y12, y13, y14, y15, y16, y17⟩ := st_blk (x := x) hI.blk; go_simp; rfl)
    · refine SpecE.gen (fun e => [(37, .pointer (some ⟨D, 0, none⟩)), (39, .int .i64 x.node), (41, .int .u64 (x.ix : Int))]) rfl rfl (fun _ => by kernel_rfl) fun f w' e hI hf hdesc hanc hle hX K hK => ?_
      go_simp
      refine (HCd.out f e w' hI hf).mono ?_
      rintro e9 w9 ⟨v9, rfl, h9, hb9⟩
      exact hK _ _ hb9 (fun e' hp => h9 e' (fun m hm => hp.1 m hm) (hp.2 rfl)) trivial
    · refine SpecE.gen (fun e => [(36, e 5), (42, e 11)]) rfl rfl (fun _ => by kernel_rfl) fun f w' e hI hf hdesc hanc hle hX K hK => ?_
      have q1 := hI.k1 (hanc 60 5 (by kernel_rfl))
      have q2 := hI.k2 (hanc 60 11 (by kernel_rfl))
      have qq := HBq.out
      simp only [q1, q2]
      go_simp
      exact hK _ _ (hre _) (fun e' hp => hrd _ f e w' 12 _ e' rfl hI hp) rfl
  · intro f w2 e hall hJ hle hv
    have hb2 := hJ.both
    rw [hall 5 (by decide), hall 11 (by decide)] at hb2
    have HB2 := Lib.hid hb2
    have HL2 := Lib.hid hle
    have v9 := hv 13 rfl
    simp only [Go.Rel.finL, List.setIfInBounds_toArray, List.set_cons_succ, List.set_cons_zero]
    rw [show e 13 = .bool bq from v9]
    clear hv hall hJ hle hb2 v9
    go_wp2
    go_ret
    exact ⟨bq, rfl, HB2.out, (But.of_below HB0.out).trans HL2.out, HBq2.out⟩
def rst2 (B : Nat) (D : Nat) (X : Nat) (x : RSt) (bq : Bool) : Nat → Value
  | 0 => .pointer (some ⟨B, 0, none⟩)
  | 1 | 7 => .pointer (some ⟨X, 3, none⟩)
  | 2 | 8 => .agg #[.int .i64 x.s.val.a.node, .string x.s.val.a.id, .string x.s.val.a.name, .slice x.s.val.A x.s.val.n x.s.val.c, .int .i64 x.s.val.a.port, .int .u64 (x.s.made : Int), .int .u64 (x.s.ix : Int)]
  | 3 | 9 => .pointer (some ⟨X, 17, none⟩)
  | 4 | 10 => .int .u64 (x.ix : Int)
  | 6 => .pointer (some ⟨D, 0, none⟩)
  | 12 | 13 => .bool bq
  | _ => undef
set_option maxHeartbeats 4000000 in
set_option maxRecDepth 100000 in
theorem step2_any {base : Nat} {w : World} {B B1 B2 B3 m D md : Nat} {d d2 : Ro} (x : RSt) (h : Both base w B B1 B2 B3 m d D md d2) (hx : x.Ok w) (ht : TgAt (fun k => k < base) w x.s.val) (hk : x.kind = 2) : Calls Tryz.prog 11 #[.pointer (some ⟨B, 0, none⟩), .pointer (some ⟨D, 0, none⟩), stV x] w fun e w' => StepPost base w B B1 B2 B3 m (x.after d).2 D md (x.after d2).2 ((x.after d).1 = (x.after d2).1) e w' := by
  have ha1 : x.after d = d.service x.s.val.a x.ix := by unfold RSt.after; simp only [hk]; rfl
  have ha2 : x.after d2 = d2.service x.s.val.a x.ix := by unfold RSt.after; simp only [hk]; rfl
  rw [ha1, ha2]
  obtain ⟨⟨er1, d'⟩, he1⟩ : ∃ r, d.service x.s.val.a x.ix = r := ⟨_, rfl⟩
  obtain ⟨⟨er2, d2'⟩, he2⟩ : ∃ r, d2.service x.s.val.a x.ix = r := ⟨_, rfl⟩
  rw [he1, he2]
  have HE1 := Lib.hid he1
  have HE2 := Lib.hid he2
  have HOk := Lib.hid hx
  have HSi := Lib.hid (fun (W : World) (ht : TgAt (fun k => k < base) W x.s.val) => (⟨hx.s.node, hx.s.port, hx.s.id, hx.s.name, ht.tx, hx.s.small⟩ : SvIn W x.s))
  have b0 := below1 w #[.int .i64 x.kind, .int .i64 x.node, .string x.text, .int .i64 x.s.val.a.node, .string x.s.val.a.id, .string x.s.val.a.name, .slice x.s.val.A x.s.val.n x.s.val.c, .int .i64 x.s.val.a.port, .int .u64 (x.s.made : Int), .int .u64 (x.s.ix : Int), .int .i64 x.c.val.node, .string x.c.val.id, .string x.c.val.svc, .string x.c.val.note, .int .i64 x.c.val.status, .int .u64 (x.c.made : Int), .int .u64 (x.c.ix : Int), .int .u64 (x.ix : Int)] TRs
  have k0 := heap_alloc_new w (.cells #[.int .i64 x.kind, .int .i64 x.node, .string x.text, .int .i64 x.s.val.a.node, .string x.s.val.a.id, .string x.s.val.a.name, .slice x.s.val.A x.s.val.n x.s.val.c, .int .i64 x.s.val.a.port, .int .u64 (x.s.made : Int), .int .u64 (x.s.ix : Int), .int .i64 x.c.val.node, .string x.c.val.id, .string x.c.val.svc, .string x.c.val.note, .int .i64 x.c.val.status, .int .u64 (x.c.made : Int), .int .u64 (x.c.ix : Int), .int .u64 (x.ix : Int)] TRs)
  obtain ⟨X, hX⟩ : ∃ X, w.heap.size = X := ⟨_, rfl⟩
  obtain ⟨W1, hW1⟩ : ∃ W1, w.alloc (.cells #[.int .i64 x.kind, .int .i64 x.node, .string x.text, .int .i64 x.s.val.a.node, .string x.s.val.a.id, .string x.s.val.a.name, .slice x.s.val.A x.s.val.n x.s.val.c, .int .i64 x.s.val.a.port, .int .u64 (x.s.made : Int), .int .u64 (x.s.ix : Int), .int .i64 x.c.val.node, .string x.c.val.id, .string x.c.val.svc, .string x.c.val.note, .int .i64 x.c.val.status, .int .u64 (x.c.made : Int), .int .u64 (x.c.ix : Int), .int .u64 (x.ix : Int)] TRs) = W1 := ⟨_, rfl⟩
  rw [hW1] at b0 k0
  rw [hX] at k0
  have HBo := Lib.hid (h.below b0)
  have HOut : Hid (¬ Ch4 B1 B2 B3 D X) := Lib.hid (by
    have := h.lt
    rintro ((z | z | z) | z) <;> omega)
  have HTg := Lib.hid (ht.below b0)
  have HB0 := Lib.hid b0
  have HK1 := Lib.hid k0
  have HW1 := Lib.hid hW1
  have HX := Lib.hid hX
  obtain ⟨bq, hbq⟩ : ∃ bq, ((er1 : Int) == (er2 : Int)) = bq := ⟨_, rfl⟩
  have HBq := Lib.hid hbq
  have HBq2 : Hid (er1 = er2 → bq = true) := Lib.hid (fun e => by rw [← hbq, e]; simp)
  have HCp : Hid (∀ (f : Nat → Bool) (e : Nat → Value) (w' : World), StR base X x #[.int .i64 x.kind, .int .i64 x.node, .string x.text, .int .i64 x.s.val.a.node, .string x.s.val.a.id, .string x.s.val.a.name, .slice x.s.val.A x.s.val.n x.s.val.c, .int .i64 x.s.val.a.port, .int .u64 (x.s.made : Int), .int .u64 (x.s.ix : Int), .int .i64 x.c.val.node, .string x.c.val.id, .string x.c.val.svc, .string x.c.val.note, .int .i64 x.c.val.status, .int .u64 (x.c.made : Int), .int .u64 (x.c.ix : Int), .int .u64 (x.ix : Int)] 5 11 B B1 B2 B3 m D md d d' d2 d2' (.int .i64 (er1 : Int)) (.int .i64 (er2 : Int)) f e w' → f 5 = false → Calls Tryz.prog 30 #[.pointer (some ⟨B, 0, none⟩), .agg #[.int .i64 x.s.val.a.node, .string x.s.val.a.id, .string x.s.val.a.name, .slice x.s.val.A x.s.val.n x.s.val.c, .int .i64 x.s.val.a.port, .int .u64 (x.s.made : Int), .int .u64 (x.s.ix : Int)], .int .u64 (x.ix : Int)] w' fun r w2 => ∃ v, r = .returned v ∧ (∀ e', (∀ m, m ≠ 5 → e' m = e m) → e' 5 = v → StR base X x #[.int .i64 x.kind, .int .i64 x.node, .string x.text, .int .i64 x.s.val.a.node, .string x.s.val.a.id, .string x.s.val.a.name, .slice x.s.val.A x.s.val.n x.s.val.c, .int .i64 x.s.val.a.port, .int .u64 (x.s.made : Int), .int .u64 (x.s.ix : Int), .int .i64 x.c.val.node, .string x.c.val.id, .string x.c.val.svc, .string x.c.val.note, .int .i64 x.c.val.status, .int .u64 (x.c.made : Int), .int .u64 (x.c.ix : Int), .int .u64 (x.ix : Int)] 5 11 B B1 B2 B3 m D md d d' d2 d2' (.int .i64 (er1 : Int)) (.int .i64 (er2 : Int)) (Go.Rel.upd f 5) e' w2) ∧ But (Ch4 B1 B2 B3 D) w' w2) := Lib.hid fun f e w' hI hf =>
    hI.left (by decide) hf fun S h ht => by
      have h9 := rservice_any x.s x.ix h (HSi.out _ ht) HOk.out.ix
      rw [show d.service x.s.val.a x.ix = (er1, d') from HE1.out] at h9
      exact h9
  have HCd : Hid (∀ (f : Nat → Bool) (e : Nat → Value) (w' : World), StR base X x #[.int .i64 x.kind, .int .i64 x.node, .string x.text, .int .i64 x.s.val.a.node, .string x.s.val.a.id, .string x.s.val.a.name, .slice x.s.val.A x.s.val.n x.s.val.c, .int .i64 x.s.val.a.port, .int .u64 (x.s.made : Int), .int .u64 (x.s.ix : Int), .int .i64 x.c.val.node, .string x.c.val.id, .string x.c.val.svc, .string x.c.val.note, .int .i64 x.c.val.status, .int .u64 (x.c.made : Int), .int .u64 (x.c.ix : Int), .int .u64 (x.ix : Int)] 5 11 B B1 B2 B3 m D md d d' d2 d2' (.int .i64 (er1 : Int)) (.int .i64 (er2 : Int)) f e w' → f 11 = false → Calls Tryz.prog 38 #[.pointer (some ⟨D, 0, none⟩), .agg #[.int .i64 x.s.val.a.node, .string x.s.val.a.id, .string x.s.val.a.name, .slice x.s.val.A x.s.val.n x.s.val.c, .int .i64 x.s.val.a.port, .int .u64 (x.s.made : Int), .int .u64 (x.s.ix : Int)], .int .u64 (x.ix : Int)] w' fun r w2 => ∃ v, r = .returned v ∧ (∀ e', (∀ m, m ≠ 11 → e' m = e m) → e' 11 = v → StR base X x #[.int .i64 x.kind, .int .i64 x.node, .string x.text, .int .i64 x.s.val.a.node, .string x.s.val.a.id, .string x.s.val.a.name, .slice x.s.val.A x.s.val.n x.s.val.c, .int .i64 x.s.val.a.port, .int .u64 (x.s.made : Int), .int .u64 (x.s.ix : Int), .int .i64 x.c.val.node, .string x.c.val.id, .string x.c.val.svc, .string x.c.val.note, .int .i64 x.c.val.status, .int .u64 (x.c.made : Int), .int .u64 (x.c.ix : Int), .int .u64 (x.ix : Int)] 5 11 B B1 B2 B3 m D md d d' d2 d2' (.int .i64 (er1 : Int)) (.int .i64 (er2 : Int)) (Go.Rel.upd f 11) e' w2) ∧ But (Ch4 B1 B2 B3 D) w' w2) := Lib.hid fun f e w' hI hf =>
    hI.right (by decide) hf fun S h ht => by
      have h9 := rdservice_any x.s x.ix h (HSi.out _ ht) ht HOk.out.ix
      rw [show d2.service x.s.val.a x.ix = (er2, d2') from HE2.out] at h9
      exact h9
  unfold stV
  rw [hk]
  have HKd := Lib.hid hk
  clear h hx ht ha1 ha2 he1 he2 b0 k0 hW1 hX hbq hk
  go_enter Tryz.func11, Tryz.ntmps11
  go_wp2_with fail
  rw [← HKd.out]
  rw [HW1.out, HX.out]
  have hre : ∀ w : World, (But (Ch4 B1 B2 B3 D)) w w := (fun w => But.refl _ w)
  have hrd : ∀ (ops9 : Array Oper) (f9 : Nat → Bool) (e9 : Nat → Value) (w9 : World) (i9 : Nat) (v9 : Value) (e8 : Nat → Value), [5, 11].contains i9 = false → (fun (f : Nat → Bool) (e : Nat → Value) (w : World) => StR base X x #[.int .i64 x.kind, .int .i64 x.node, .string x.text, .int .i64 x.s.val.a.node, .string x.s.val.a.id, .string x.s.val.a.name, .slice x.s.val.A x.s.val.n x.s.val.c, .int .i64 x.s.val.a.port, .int .u64 (x.s.made : Int), .int .u64 (x.s.ix : Int), .int .i64 x.c.val.node, .string x.c.val.id, .string x.c.val.svc, .string x.c.val.note, .int .i64 x.c.val.status, .int .u64 (x.c.made : Int), .int .u64 (x.c.ix : Int), .int .u64 (x.ix : Int)] 5 11 B B1 B2 B3 m D md d d' d2 d2' (.int .i64 (er1 : Int)) (.int .i64 (er2 : Int)) f e w) f9 e9 w9 → Go.Rel.Put ops9 i9 e9 v9 e8 → (fun (f : Nat → Bool) (e : Nat → Value) (w : World) => StR base X x #[.int .i64 x.kind, .int .i64 x.node, .string x.text, .int .i64 x.s.val.a.node, .string x.s.val.a.id, .string x.s.val.a.name, .slice x.s.val.A x.s.val.n x.s.val.c, .int .i64 x.s.val.a.port, .int .u64 (x.s.made : Int), .int .u64 (x.s.ix : Int), .int .i64 x.c.val.node, .string x.c.val.id, .string x.c.val.svc, .string x.c.val.note, .int .i64 x.c.val.status, .int .u64 (x.c.made : Int), .int .u64 (x.c.ix : Int), .int .u64 (x.ix : Int)] 5 11 B B1 B2 B3 m D md d d' d2 d2' (.int .i64 (er1 : Int)) (.int .i64 (er2 : Int)) f e w) (Go.Rel.upd f9 i9) e8 w9 := (fun _ _ _ _ _ _ _ hj h hp => StR.keep hj h hp)
  refine Go.Rel.wp_tabe (by kernel_rfl) (by kernel_rfl) (fun (f : Nat → Bool) (e : Nat → Value) (w : World) => StR base X x #[.int .i64 x.kind, .int .i64 x.node, .string x.text, .int .i64 x.s.val.a.node, .string x.s.val.a.id, .string x.s.val.a.name, .slice x.s.val.A x.s.val.n x.s.val.c, .int .i64 x.s.val.a.port, .int .u64 (x.s.made : Int), .int .u64 (x.s.ix : Int), .int .i64 x.c.val.node, .string x.c.val.id, .string x.c.val.svc, .string x.c.val.note, .int .i64 x.c.val.status, .int .u64 (x.c.made : Int), .int .u64 (x.c.ix : Int), .int .u64 (x.ix : Int)] 5 11 B B1 B2 B3 m D md d d' d2 d2' (.int .i64 (er1 : Int)) (.int .i64 (er2 : Int)) f e w) (But (Ch4 B1 B2 B3 D)) hre ((fun _ _ _ h k => h.trans k)) ((But.refl _ _).drew) (fun e => StR.start HBo.out HK1.out HOut.out HTg.out e) (rst2 B D X x bq) (fun | 5, v, w => True | 11, v, w => True | _, _, _ => True) (fun i => ([5, 11] : List Nat).contains i) (fun i => ([2, 4, 5, 8, 10, 11, 12] : List Nat).contains i) (by kernel_rfl) (fun i v w w' h g => by revert h; split <;> exact id) [5, 11] (by decide) (hrd _) ?_ (Go.Rel.AllOf.get ?_) ?_
  · repeat (refine .cons (by first | exact Go.Rel.pure_sp rfl | exact Go.Rel.pure_yes (by kernel_rfl) (fun _ => by kernel_rfl) | exact Go.Rel.pure_no (by kernel_rfl) rfl) ?_)
    exact .nil
  · refine ⟨?_, ?_, ?_, ?_, ?_, ?_, ?_, trivial⟩
    · exact SpecE.ld (hrd _) hre (q := .pointer (some ⟨X, 3, none⟩)) (h := fun _ w' _ hI _ _ _ _ => by obtain ⟨y0, y1, y2, y3, y4, y5, y6, y7, y8, y9, y10, y11, y12, y13, y14, y15, y16, y17⟩ := st_blk (x := x) hI.blk; go_simp; rfl)
    · exact SpecE.ld (hrd _) hre (q := .pointer (some ⟨X, 17, none⟩)) (h := fun _ w' _ hI _ _ _ _ => by obtain ⟨y0, y1, y2, y3, y4, y5, y6, y7, y8, y9, y10, y11, y12, y13, y14, y15, y16, y17⟩ := st_blk (x := x) hI.blk; go_simp; rfl)
    · refine SpecE.gen (fun e => [(46, .pointer (some ⟨B, 0, none⟩)), (48, .agg #[.int .i64 x.s.val.a.node, .string x.s.val.a.id, .string x.s.val.a.name, .slice x.s.val.A x.s.val.n x.s.val.c, .int .i64 x.s.val.a.port, .int .u64 (x.s.made : Int), .int .u64 (x.s.ix : Int)]), (50, .int .u64 (x.ix : Int))]) rfl rfl (fun _ => by kernel_rfl) fun f w' e hI hf hdesc hanc hle hX K hK => ?_
      go_simp
      refine (HCp.out f e w' hI hf).mono ?_
      rintro e9 w9 ⟨v9, rfl, h9, hb9⟩
      exact hK _ _ hb9 (fun e' hp => h9 e' (fun m hm => hp.1 m hm) (hp.2 rfl)) trivial
    · exact SpecE.ld (hrd _) hre (q := .pointer (some ⟨X, 3, none⟩)) (h := fun _ w' _ hI _ _ _ _ => by obtain ⟨y0, y1, y2, y3, y4, y5, y6, y7, y8, y9, y10, y11, y12, y13, y14, y15, y16, y17⟩ := st_blk (x := x) hI.blk; go_simp; rfl)
    · exact SpecE.ld (hrd _) hre (q := .pointer (some ⟨X, 17, none⟩)) (h := fun _ w' _ hI _ _ _ _ => by obtain ⟨y0, y1, y2, y3, y4, y5, y6, y7, y8, y9, y10, y11, y12, y13, y14, y15, y16, y17⟩ := st_blk (x := x) hI.blk; go_simp; rfl)
    · refine SpecE.gen (fun e => [(52, .pointer (some ⟨D, 0, none⟩)), (54, .agg #[.int .i64 x.s.val.a.node, .string x.s.val.a.id, .string x.s.val.a.name, .slice x.s.val.A x.s.val.n x.s.val.c, .int .i64 x.s.val.a.port, .int .u64 (x.s.made : Int), .int .u64 (x.s.ix : Int)]), (56, .int .u64 (x.ix : Int))]) rfl rfl (fun _ => by kernel_rfl) fun f w' e hI hf hdesc hanc hle hX K hK => ?_
      go_simp
      refine (HCd.out f e w' hI hf).mono ?_
      rintro e9 w9 ⟨v9, rfl, h9, hb9⟩
      exact hK _ _ hb9 (fun e' hp => h9 e' (fun m hm => hp.1 m hm) (hp.2 rfl)) trivial
    · refine SpecE.gen (fun e => [(51, e 5), (57, e 11)]) rfl rfl (fun _ => by kernel_rfl) fun f w' e hI hf hdesc hanc hle hX K hK => ?_
      have q1 := hI.k1 (hanc 60 5 (by kernel_rfl))
      have q2 := hI.k2 (hanc 60 11 (by kernel_rfl))
      have qq := HBq.out
      simp only [q1, q2]
      go_simp
      exact hK _ _ (hre _) (fun e' hp => hrd _ f e w' 12 _ e' rfl hI hp) rfl
  · intro f w2 e hall hJ hle hv
    have hb2 := hJ.both
    rw [hall 5 (by decide), hall 11 (by decide)] at hb2
    have HB2 := Lib.hid hb2
    have HL2 := Lib.hid hle
    have v9 := hv 13 rfl
    simp only [Go.Rel.finL, List.setIfInBounds_toArray, List.set_cons_succ, List.set_cons_zero]
    rw [show e 13 = .bool bq from v9]
    clear hv hall hJ hle hb2 v9
    go_wp2
    go_ret
    exact ⟨bq, rfl, HB2.out, (But.of_below HB0.out).trans HL2.out, HBq2.out⟩
def rst3 (B : Nat) (D : Nat) (X : Nat) (x : RSt) (bq : Bool) : Nat → Value
  | 0 => .pointer (some ⟨B, 0, none⟩)
  | 1 | 9 => .pointer (some ⟨X, 1, none⟩)
  | 2 | 10 => .int .i64 x.node
  | 3 | 11 => .pointer (some ⟨X, 2, none⟩)
  | 4 | 12 => .string x.text
  | 5 | 13 => .pointer (some ⟨X, 17, none⟩)
  | 6 | 14 => .int .u64 (x.ix : Int)
  | 8 => .pointer (some ⟨D, 0, none⟩)
  | 16 | 17 => .bool bq
  | _ => undef
set_option maxHeartbeats 4000000 in
set_option maxRecDepth 100000 in
theorem step3_any {base : Nat} {w : World} {B B1 B2 B3 m D md : Nat} {d d2 : Ro} (x : RSt) (h : Both base w B B1 B2 B3 m d D md d2) (hx : x.Ok w) (ht : TgAt (fun k => k < base) w x.s.val) (hk : x.kind = 3) : Calls Tryz.prog 11 #[.pointer (some ⟨B, 0, none⟩), .pointer (some ⟨D, 0, none⟩), stV x] w fun e w' => StepPost base w B B1 B2 B3 m (x.after d).2 D md (x.after d2).2 ((x.after d).1 = (x.after d2).1) e w' := by
  have ha1 : x.after d = d.dropS x.node x.text x.ix := by unfold RSt.after; simp only [hk]; rfl
  have ha2 : x.after d2 = d2.dropS x.node x.text x.ix := by unfold RSt.after; simp only [hk]; rfl
  rw [ha1, ha2]
  obtain ⟨⟨er1, d'⟩, he1⟩ : ∃ r, d.dropS x.node x.text x.ix = r := ⟨_, rfl⟩
  obtain ⟨⟨er2, d2'⟩, he2⟩ : ∃ r, d2.dropS x.node x.text x.ix = r := ⟨_, rfl⟩
  rw [he1, he2]
  have HE1 := Lib.hid he1
  have HE2 := Lib.hid he2
  have HOk := Lib.hid hx
  have HSi := Lib.hid (fun (W : World) (ht : TgAt (fun k => k < base) W x.s.val) => (⟨hx.s.node, hx.s.port, hx.s.id, hx.s.name, ht.tx, hx.s.small⟩ : SvIn W x.s))
  have b0 := below1 w #[.int .i64 x.kind, .int .i64 x.node, .string x.text, .int .i64 x.s.val.a.node, .string x.s.val.a.id, .string x.s.val.a.name, .slice x.s.val.A x.s.val.n x.s.val.c, .int .i64 x.s.val.a.port, .int .u64 (x.s.made : Int), .int .u64 (x.s.ix : Int), .int .i64 x.c.val.node, .string x.c.val.id, .string x.c.val.svc, .string x.c.val.note, .int .i64 x.c.val.status, .int .u64 (x.c.made : Int), .int .u64 (x.c.ix : Int), .int .u64 (x.ix : Int)] TRs
  have k0 := heap_alloc_new w (.cells #[.int .i64 x.kind, .int .i64 x.node, .string x.text, .int .i64 x.s.val.a.node, .string x.s.val.a.id, .string x.s.val.a.name, .slice x.s.val.A x.s.val.n x.s.val.c, .int .i64 x.s.val.a.port, .int .u64 (x.s.made : Int), .int .u64 (x.s.ix : Int), .int .i64 x.c.val.node, .string x.c.val.id, .string x.c.val.svc, .string x.c.val.note, .int .i64 x.c.val.status, .int .u64 (x.c.made : Int), .int .u64 (x.c.ix : Int), .int .u64 (x.ix : Int)] TRs)
  obtain ⟨X, hX⟩ : ∃ X, w.heap.size = X := ⟨_, rfl⟩
  obtain ⟨W1, hW1⟩ : ∃ W1, w.alloc (.cells #[.int .i64 x.kind, .int .i64 x.node, .string x.text, .int .i64 x.s.val.a.node, .string x.s.val.a.id, .string x.s.val.a.name, .slice x.s.val.A x.s.val.n x.s.val.c, .int .i64 x.s.val.a.port, .int .u64 (x.s.made : Int), .int .u64 (x.s.ix : Int), .int .i64 x.c.val.node, .string x.c.val.id, .string x.c.val.svc, .string x.c.val.note, .int .i64 x.c.val.status, .int .u64 (x.c.made : Int), .int .u64 (x.c.ix : Int), .int .u64 (x.ix : Int)] TRs) = W1 := ⟨_, rfl⟩
  rw [hW1] at b0 k0
  rw [hX] at k0
  have HBo := Lib.hid (h.below b0)
  have HOut : Hid (¬ Ch4 B1 B2 B3 D X) := Lib.hid (by
    have := h.lt
    rintro ((z | z | z) | z) <;> omega)
  have HTg := Lib.hid (ht.below b0)
  have HB0 := Lib.hid b0
  have HK1 := Lib.hid k0
  have HW1 := Lib.hid hW1
  have HX := Lib.hid hX
  obtain ⟨bq, hbq⟩ : ∃ bq, ((er1 : Int) == (er2 : Int)) = bq := ⟨_, rfl⟩
  have HBq := Lib.hid hbq
  have HBq2 : Hid (er1 = er2 → bq = true) := Lib.hid (fun e => by rw [← hbq, e]; simp)
  have HCp : Hid (∀ (f : Nat → Bool) (e : Nat → Value) (w' : World), StR base X x #[.int .i64 x.kind, .int .i64 x.node, .string x.text, .int .i64 x.s.val.a.node, .string x.s.val.a.id, .string x.s.val.a.name, .slice x.s.val.A x.s.val.n x.s.val.c, .int .i64 x.s.val.a.port, .int .u64 (x.s.made : Int), .int .u64 (x.s.ix : Int), .int .i64 x.c.val.node, .string x.c.val.id, .string x.c.val.svc, .string x.c.val.note, .int .i64 x.c.val.status, .int .u64 (x.c.made : Int), .int .u64 (x.c.ix : Int), .int .u64 (x.ix : Int)] 7 15 B B1 B2 B3 m D md d d' d2 d2' (.int .i64 (er1 : Int)) (.int .i64 (er2 : Int)) f e w' → f 7 = false → Calls Tryz.prog 31 #[.pointer (some ⟨B, 0, none⟩), .int .i64 x.node, .string x.text, .int .u64 (x.ix : Int)] w' fun r w2 => ∃ v, r = .returned v ∧ (∀ e', (∀ m, m ≠ 7 → e' m = e m) → e' 7 = v → StR base X x #[.int .i64 x.kind, .int .i64 x.node, .string x.text, .int .i64 x.s.val.a.node, .string x.s.val.a.id, .string x.s.val.a.name, .slice x.s.val.A x.s.val.n x.s.val.c, .int .i64 x.s.val.a.port, .int .u64 (x.s.made : Int), .int .u64 (x.s.ix : Int), .int .i64 x.c.val.node, .string x.c.val.id, .string x.c.val.svc, .string x.c.val.note, .int .i64 x.c.val.status, .int .u64 (x.c.made : Int), .int .u64 (x.c.ix : Int), .int .u64 (x.ix : Int)] 7 15 B B1 B2 B3 m D md d d' d2 d2' (.int .i64 (er1 : Int)) (.int .i64 (er2 : Int)) (Go.Rel.upd f 7) e' w2) ∧ But (Ch4 B1 B2 B3 D) w' w2) := Lib.hid fun f e w' hI hf =>
    hI.left (by decide) hf fun S h ht => by
      have h9 := rdropservice_any x.node x.text x.ix h HOk.out.node HOk.out.text HOk.out.ix
      rw [show d.dropS x.node x.text x.ix = (er1, d') from HE1.out] at h9
      exact h9
  have HCd : Hid (∀ (f : Nat → Bool) (e : Nat → Value) (w' : World), StR base X x #[.int .i64 x.kind, .int .i64 x.node, .string x.text, .int .i64 x.s.val.a.node, .string x.s.val.a.id, .string x.s.val.a.name, .slice x.s.val.A x.s.val.n x.s.val.c, .int .i64 x.s.val.a.port, .int .u64 (x.s.made : Int), .int .u64 (x.s.ix : Int), .int .i64 x.c.val.node, .string x.c.val.id, .string x.c.val.svc, .string x.c.val.note, .int .i64 x.c.val.status, .int .u64 (x.c.made : Int), .int .u64 (x.c.ix : Int), .int .u64 (x.ix : Int)] 7 15 B B1 B2 B3 m D md d d' d2 d2' (.int .i64 (er1 : Int)) (.int .i64 (er2 : Int)) f e w' → f 15 = false → Calls Tryz.prog 39 #[.pointer (some ⟨D, 0, none⟩), .int .i64 x.node, .string x.text, .int .u64 (x.ix : Int)] w' fun r w2 => ∃ v, r = .returned v ∧ (∀ e', (∀ m, m ≠ 15 → e' m = e m) → e' 15 = v → StR base X x #[.int .i64 x.kind, .int .i64 x.node, .string x.text, .int .i64 x.s.val.a.node, .string x.s.val.a.id, .string x.s.val.a.name, .slice x.s.val.A x.s.val.n x.s.val.c, .int .i64 x.s.val.a.port, .int .u64 (x.s.made : Int), .int .u64 (x.s.ix : Int), .int .i64 x.c.val.node, .string x.c.val.id, .string x.c.val.svc, .string x.c.val.note, .int .i64 x.c.val.status, .int .u64 (x.c.made : Int), .int .u64 (x.c.ix : Int), .int .u64 (x.ix : Int)] 7 15 B B1 B2 B3 m D md d d' d2 d2' (.int .i64 (er1 : Int)) (.int .i64 (er2 : Int)) (Go.Rel.upd f 15) e' w2) ∧ But (Ch4 B1 B2 B3 D) w' w2) := Lib.hid fun f e w' hI hf =>
    hI.right (by decide) hf fun S h ht => by
      have h9 := rddropservice_any x.node x.text x.ix h HOk.out.ix
      rw [show d2.dropS x.node x.text x.ix = (er2, d2') from HE2.out] at h9
      exact h9
  unfold stV
  rw [hk]
  have HKd := Lib.hid hk
  clear h hx ht ha1 ha2 he1 he2 b0 k0 hW1 hX hbq hk
  go_enter Tryz.func11, Tryz.ntmps11
  go_wp2_with fail
  rw [← HKd.out]
  rw [HW1.out, HX.out]
  have hre : ∀ w : World, (But (Ch4 B1 B2 B3 D)) w w := (fun w => But.refl _ w)
  have hrd : ∀ (ops9 : Array Oper) (f9 : Nat → Bool) (e9 : Nat → Value) (w9 : World) (i9 : Nat) (v9 : Value) (e8 : Nat → Value), [7, 15].contains i9 = false → (fun (f : Nat → Bool) (e : Nat → Value) (w : World) => StR base X x #[.int .i64 x.kind, .int .i64 x.node, .string x.text, .int .i64 x.s.val.a.node, .string x.s.val.a.id, .string x.s.val.a.name, .slice x.s.val.A x.s.val.n x.s.val.c, .int .i64 x.s.val.a.port, .int .u64 (x.s.made : Int), .int .u64 (x.s.ix : Int), .int .i64 x.c.val.node, .string x.c.val.id, .string x.c.val.svc, .string x.c.val.note, .int .i64 x.c.val.status, .int .u64 (x.c.made : Int), .int .u64 (x.c.ix : Int), .int .u64 (x.ix : Int)] 7 15 B B1 B2 B3 m D md d d' d2 d2' (.int .i64 (er1 : Int)) (.int .i64 (er2 : Int)) f e w) f9 e9 w9 → Go.Rel.Put ops9 i9 e9 v9 e8 → (fun (f : Nat → Bool) (e : Nat → Value) (w : World) => StR base X x #[.int .i64 x.kind, .int .i64 x.node, .string x.text, .int .i64 x.s.val.a.node, .string x.s.val.a.id, .string x.s.val.a.name, .slice x.s.val.A x.s.val.n x.s.val.c, .int .i64 x.s.val.a.port, .int .u64 (x.s.made : Int), .int .u64 (x.s.ix : Int), .int .i64 x.c.val.node, .string x.c.val.id, .string x.c.val.svc, .string x.c.val.note, .int .i64 x.c.val.status, .int .u64 (x.c.made : Int), .int .u64 (x.c.ix : Int), .int .u64 (x.ix : Int)] 7 15 B B1 B2 B3 m D md d d' d2 d2' (.int .i64 (er1 : Int)) (.int .i64 (er2 : Int)) f e w) (Go.Rel.upd f9 i9) e8 w9 := (fun _ _ _ _ _ _ _ hj h hp => StR.keep hj h hp)
  refine Go.Rel.wp_tabe (by kernel_rfl) (by kernel_rfl) (fun (f : Nat → Bool) (e : Nat → Value) (w : World) => StR base X x #[.int .i64 x.kind, .int .i64 x.node, .string x.text, .int .i64 x.s.val.a.node, .string x.s.val.a.id, .string x.s.val.a.name, .slice x.s.val.A x.s.val.n x.s.val.c, .int .i64 x.s.val.a.port, .int .u64 (x.s.made : Int), .int .u64 (x.s.ix : Int), .int .i64 x.c.val.node, .string x.c.val.id, .string x.c.val.svc, .string x.c.val.note, .int .i64 x.c.val.status, .int .u64 (x.c.made : Int), .int .u64 (x.c.ix : Int), .int .u64 (x.ix : Int)] 7 15 B B1 B2 B3 m D md d d' d2 d2' (.int .i64 (er1 : Int)) (.int .i64 (er2 : Int)) f e w) (But (Ch4 B1 B2 B3 D)) hre ((fun _ _ _ h k => h.trans k)) ((But.refl _ _).drew) (fun e => StR.start HBo.out HK1.out HOut.out HTg.out e) (rst3 B D X x bq) (fun | 7, v, w => True | 15, v, w => True | _, _, _ => True) (fun i => ([7, 15] : List Nat).contains i) (fun i => ([2, 4, 6, 7, 10, 12, 14, 15, 16] : List Nat).contains i) (by kernel_rfl) (fun i v w w' h g => by revert h; split <;> exact id) [7, 15] (by decide) (hrd _) ?_ (Go.Rel.AllOf.get ?_) ?_
  · repeat (refine .cons (by first | exact Go.Rel.pure_sp rfl | exact Go.Rel.pure_yes (by kernel_rfl) (fun _ => by kernel_rfl) | exact Go.Rel.pure_no (by kernel_rfl) rfl) ?_)
    exact .nil
  · refine ⟨?_, ?_, ?_, ?_, ?_, ?_, ?_, ?_, ?_, trivial⟩
    · exact SpecE.ld (hrd _) hre (q := .pointer (some ⟨X, 1, none⟩)) (h := fun _ w' _ hI _ _ _ _ => by obtain ⟨y0, y1, y2, y3, y4, y5, y6, y7, y8, y9, y10, y11, y12, y13, y14, y15, y16, y17⟩ := st_blk (x := x) hI.blk; go_simp; rfl)
    · exact SpecE.ld (hrd _) hre (q := .pointer (some ⟨X, 2, none⟩)) (h := fun _ w' _ hI _ _ _ _ => by obtain ⟨y0, y1, y2, y3, y4, y5, y6, y7, y8, y9, y10, y11, y12, y13, y14, y15, y16, y17⟩ := st_blk (x := x) hI.blk; go_simp; rfl)
    · exact SpecE.ld (hrd _) hre (q := .pointer (some ⟨X, 17, none⟩)) (h := fun _ w' _ hI _ _ _ _ => by obtain ⟨y0, y1, y2, y3, y4, y5, y6, y7, y8, y9, y10, y11, y12, y13, y14, y15, y16, y17⟩ := st_blk (x := x) hI.blk; go_simp; rfl)
    · refine SpecE.gen (fun e => [(61, .pointer (some ⟨B, 0, none⟩)), (63, .int .i64 x.node), (65, .string x.text), (67, .int .u64 (x.ix : Int))]) rfl rfl (fun _ => by kernel_rfl) fun f w' e hI hf hdesc hanc hle hX K hK => ?_
      go_simp
      refine (HCp.out f e w' hI hf).mono ?_
      rintro e9 w9 ⟨v9, rfl, h9, hb9⟩
      exact hK _ _ hb9 (fun e' hp => h9 e' (fun m hm => hp.1 m hm) (hp.2 rfl)) trivial
    · exact SpecE.ld (hrd _) hre (q := .pointer (some ⟨X, 1, none⟩)) (h := fun _ w' _ hI _ _ _ _ => by obtain ⟨y0, y1, y2, y3, y4, y5, y6, y7, y8, y9, y10, y11, y12, y13, y14, y15, y16, y17⟩ := st_blk (x := x) hI.blk; go_simp; rfl)
    · exact SpecE.ld (hrd _) hre (q := .pointer (some ⟨X, 2, none⟩)) (h := fun _ w' _ hI _ _ _ _ => by obtain ⟨y0, y1, y2, y3, y4, y5, y6, y7, y8, y9, y10, y11, y12, y13, y14, y15, y16, y17⟩ := st_blk (x := x) hI.blk; go_simp; rfl)
    · exact SpecE.ld (hrd _) hre (q := .pointer (some ⟨X, 17, none⟩)) (h := fun _ w' _ hI _ _ _ _ => by obtain ⟨y0, y1, y2, y3, y4, y5, y6, y7, y8, y9, y10, y11, y12, y13, y14, y15, y16, y17⟩ := st_blk (x := x) hI.blk; go_simp; rfl)
    · refine SpecE.gen (fun e => [(69, .pointer (some ⟨D, 0, none⟩)), (71, .int .i64 x.node), (73, .string x.text), (75, .int .u64 (x.ix : Int))]) rfl rfl (fun _ => by kernel_rfl) fun f w' e hI hf hdesc hanc hle hX K hK => ?_
      go_simp
      refine (HCd.out f e w' hI hf).mono ?_
      rintro e9 w9 ⟨v9, rfl, h9, hb9⟩
      exact hK _ _ hb9 (fun e' hp => h9 e' (fun m hm => hp.1 m hm) (hp.2 rfl)) trivial
    · refine SpecE.gen (fun e => [(68, e 7), (76, e 15)]) rfl rfl (fun _ => by kernel_rfl) fun f w' e hI hf hdesc hanc hle hX K hK => ?_
      have q1 := hI.k1 (hanc 60 7 (by kernel_rfl))
      have q2 := hI.k2 (hanc 60 15 (by kernel_rfl))
      have qq := HBq.out
      simp only [q1, q2]
      go_simp
      exact hK _ _ (hre _) (fun e' hp => hrd _ f e w' 16 _ e' rfl hI hp) rfl
  · intro f w2 e hall hJ hle hv
    have hb2 := hJ.both
    rw [hall 7 (by decide), hall 15 (by decide)] at hb2
    have HB2 := Lib.hid hb2
    have HL2 := Lib.hid hle
    have v9 := hv 17 rfl
    simp only [Go.Rel.finL, List.setIfInBounds_toArray, List.set_cons_succ, List.set_cons_zero]
    rw [show e 17 = .bool bq from v9]
    clear hv hall hJ hle hb2 v9
    go_wp2
    go_ret
    exact ⟨bq, rfl, HB2.out, (But.of_below HB0.out).trans HL2.out, HBq2.out⟩
def rst4 (B : Nat) (D : Nat) (X : Nat) (x : RSt) (bq : Bool) : Nat → Value
  | 0 => .pointer (some ⟨B, 0, none⟩)
  | 1 | 7 => .pointer (some ⟨X, 10, none⟩)
  | 2 | 8 => .agg #[.int .i64 x.c.val.node, .string x.c.val.id, .string x.c.val.svc, .string x.c.val.note, .int .i64 x.c.val.status, .int .u64 (x.c.made : Int), .int .u64 (x.c.ix : Int)]
  | 3 | 9 => .pointer (some ⟨X, 17, none⟩)
  | 4 | 10 => .int .u64 (x.ix : Int)
  | 6 => .pointer (some ⟨D, 0, none⟩)
  | 12 | 13 => .bool bq
  | _ => undef
set_option maxHeartbeats 4000000 in
set_option maxRecDepth 100000 in
theorem step4_any {base : Nat} {w : World} {B B1 B2 B3 m D md : Nat} {d d2 : Ro} (x : RSt) (h : Both base w B B1 B2 B3 m d D md d2) (hx : x.Ok w) (ht : TgAt (fun k => k < base) w x.s.val) (hk : x.kind = 4) : Calls Tryz.prog 11 #[.pointer (some ⟨B, 0, none⟩), .pointer (some ⟨D, 0, none⟩), stV x] w fun e w' => StepPost base w B B1 B2 B3 m (x.after d).2 D md (x.after d2).2 ((x.after d).1 = (x.after d2).1) e w' := by
  have ha1 : x.after d = d.check x.c.val x.ix := by unfold RSt.after; simp only [hk]; rfl
  have ha2 : x.after d2 = d2.check x.c.val x.ix := by unfold RSt.after; simp only [hk]; rfl
  rw [ha1, ha2]
  obtain ⟨⟨er1, d'⟩, he1⟩ : ∃ r, d.check x.c.val x.ix = r := ⟨_, rfl⟩
  obtain ⟨⟨er2, d2'⟩, he2⟩ : ∃ r, d2.check x.c.val x.ix = r := ⟨_, rfl⟩
  rw [he1, he2]
  have HE1 := Lib.hid he1
  have HE2 := Lib.hid he2
  have HOk := Lib.hid hx
  have HSi := Lib.hid (fun (W : World) (ht : TgAt (fun k => k < base) W x.s.val) => (⟨hx.s.node, hx.s.port, hx.s.id, hx.s.name, ht.tx, hx.s.small⟩ : SvIn W x.s))
  have b0 := below1 w #[.int .i64 x.kind, .int .i64 x.node, .string x.text, .int .i64 x.s.val.a.node, .string x.s.val.a.id, .string x.s.val.a.name, .slice x.s.val.A x.s.val.n x.s.val.c, .int .i64 x.s.val.a.port, .int .u64 (x.s.made : Int), .int .u64 (x.s.ix : Int), .int .i64 x.c.val.node, .string x.c.val.id, .string x.c.val.svc, .string x.c.val.note, .int .i64 x.c.val.status, .int .u64 (x.c.made : Int), .int .u64 (x.c.ix : Int), .int .u64 (x.ix : Int)] TRs
  have k0 := heap_alloc_new w (.cells #[.int .i64 x.kind, .int .i64 x.node, .string x.text, .int .i64 x.s.val.a.node, .string x.s.val.a.id, .string x.s.val.a.name, .slice x.s.val.A x.s.val.n x.s.val.c, .int .i64 x.s.val.a.port, .int .u64 (x.s.made : Int), .int .u64 (x.s.ix : Int), .int .i64 x.c.val.node, .string x.c.val.id, .string x.c.val.svc, .string x.c.val.note, .int .i64 x.c.val.status, .int .u64 (x.c.made : Int), .int .u64 (x.c.ix : Int), .int .u64 (x.ix : Int)] TRs)
  obtain ⟨X, hX⟩ : ∃ X, w.heap.size = X := ⟨_, rfl⟩
  obtain ⟨W1, hW1⟩ : ∃ W1, w.alloc (.cells #[.int .i64 x.kind, .int .i64 x.node, .string x.text, .int .i64 x.s.val.a.node, .string x.s.val.a.id, .string x.s.val.a.name, .slice x.s.val.A x.s.val.n x.s.val.c, .int .i64 x.s.val.a.port, .int .u64 (x.s.made : Int), .int .u64 (x.s.ix : Int), .int .i64 x.c.val.node, .string x.c.val.id, .string x.c.val.svc, .string x.c.val.note, .int .i64 x.c.val.status, .int .u64 (x.c.made : Int), .int .u64 (x.c.ix : Int), .int .u64 (x.ix : Int)] TRs) = W1 := ⟨_, rfl⟩
  rw [hW1] at b0 k0
  rw [hX] at k0
  have HBo := Lib.hid (h.below b0)
  have HOut : Hid (¬ Ch4 B1 B2 B3 D X) := Lib.hid (by
    have := h.lt
    rintro ((z | z | z) | z) <;> omega)
  have HTg := Lib.hid (ht.below b0)
  have HB0 := Lib.hid b0
  have HK1 := Lib.hid k0
  have HW1 := Lib.hid hW1
  have HX := Lib.hid hX
  obtain ⟨bq, hbq⟩ : ∃ bq, ((er1 : Int) == (er2 : Int)) = bq := ⟨_, rfl⟩
  have HBq := Lib.hid hbq
  have HBq2 : Hid (er1 = er2 → bq = true) := Lib.hid (fun e => by rw [← hbq, e]; simp)
  have HCp : Hid (∀ (f : Nat → Bool) (e : Nat → Value) (w' : World), StR base X x #[.int .i64 x.kind, .int .i64 x.node, .string x.text, .int .i64 x.s.val.a.node, .string x.s.val.a.id, .string x.s.val.a.name, .slice x.s.val.A x.s.val.n x.s.val.c, .int .i64 x.s.val.a.port, .int .u64 (x.s.made : Int), .int .u64 (x.s.ix : Int), .int .i64 x.c.val.node, .string x.c.val.id, .string x.c.val.svc, .string x.c.val.note, .int .i64 x.c.val.status, .int .u64 (x.c.made : Int), .int .u64 (x.c.ix : Int), .int .u64 (x.ix : Int)] 5 11 B B1 B2 B3 m D md d d' d2 d2' (.int .i64 (er1 : Int)) (.int .i64 (er2 : Int)) f e w' → f 5 = false → Calls Tryz.prog 20 #[.pointer (some ⟨B, 0, none⟩), .agg #[.int .i64 x.c.val.node, .string x.c.val.id, .string x.c.val.svc, .string x.c.val.note, .int .i64 x.c.val.status, .int .u64 (x.c.made : Int), .int .u64 (x.c.ix : Int)], .int .u64 (x.ix : Int)] w' fun r w2 => ∃ v, r = .returned v ∧ (∀ e', (∀ m, m ≠ 5 → e' m = e m) → e' 5 = v → StR base X x #[.int .i64 x.kind, .int .i64 x.node, .string x.text, .int .i64 x.s.val.a.node, .string x.s.val.a.id, .string x.s.val.a.name, .slice x.s.val.A x.s.val.n x.s.val.c, .int .i64 x.s.val.a.port, .int .u64 (x.s.made : Int), .int .u64 (x.s.ix : Int), .int .i64 x.c.val.node, .string x.c.val.id, .string x.c.val.svc, .string x.c.val.note, .int .i64 x.c.val.status, .int .u64 (x.c.made : Int), .int .u64 (x.c.ix : Int), .int .u64 (x.ix : Int)] 5 11 B B1 B2 B3 m D md d d' d2 d2' (.int .i64 (er1 : Int)) (.int .i64 (er2 : Int)) (Go.Rel.upd f 5) e' w2) ∧ But (Ch4 B1 B2 B3 D) w' w2) := Lib.hid fun f e w' hI hf =>
    hI.left (by decide) hf fun S h ht => by
      have h9 := rcheck_any x.c x.ix h HOk.out.c HOk.out.ix
      rw [show d.check x.c.val x.ix = (er1, d') from HE1.out] at h9
      exact h9
  have HCd : Hid (∀ (f : Nat → Bool) (e : Nat → Value) (w' : World), StR base X x #[.int .i64 x.kind, .int .i64 x.node, .string x.text, .int .i64 x.s.val.a.node, .string x.s.val.a.id, .string x.s.val.a.name, .slice x.s.val.A x.s.val.n x.s.val.c, .int .i64 x.s.val.a.port, .int .u64 (x.s.made : Int), .int .u64 (x.s.ix : Int), .int .i64 x.c.val.node, .string x.c.val.id, .string x.c.val.svc, .string x.c.val.note, .int .i64 x.c.val.status, .int .u64 (x.c.made : Int), .int .u64 (x.c.ix : Int), .int .u64 (x.ix : Int)] 5 11 B B1 B2 B3 m D md d d' d2 d2' (.int .i64 (er1 : Int)) (.int .i64 (er2 : Int)) f e w' → f 11 = false → Calls Tryz.prog 40 #[.pointer (some ⟨D, 0, none⟩), .agg #[.int .i64 x.c.val.node, .string x.c.val.id, .string x.c.val.svc, .string x.c.val.note, .int .i64 x.c.val.status, .int .u64 (x.c.made : Int), .int .u64 (x.c.ix : Int)], .int .u64 (x.ix : Int)] w' fun r w2 => ∃ v, r = .returned v ∧ (∀ e', (∀ m, m ≠ 11 → e' m = e m) → e' 11 = v → StR base X x #[.int .i64 x.kind, .int .i64 x.node, .string x.text, .int .i64 x.s.val.a.node, .string x.s.val.a.id, .string x.s.val.a.name, .slice x.s.val.A x.s.val.n x.s.val.c, .int .i64 x.s.val.a.port, .int .u64 (x.s.made : Int), .int .u64 (x.s.ix : Int), .int .i64 x.c.val.node, .string x.c.val.id, .string x.c.val.svc, .string x.c.val.note, .int .i64 x.c.val.status, .int .u64 (x.c.made : Int), .int .u64 (x.c.ix : Int), .int .u64 (x.ix : Int)] 5 11 B B1 B2 B3 m D md d d' d2 d2' (.int .i64 (er1 : Int)) (.int .i64 (er2 : Int)) (Go.Rel.upd f 11) e' w2) ∧ But (Ch4 B1 B2 B3 D) w' w2) := Lib.hid fun f e w' hI hf =>
    hI.right (by decide) hf fun S h ht => by
      have h9 := rdcheck_any x.c x.ix h HOk.out.c HOk.out.ix
      rw [show d2.check x.c.val x.ix = (er2, d2') from HE2.out] at h9
      exact h9
  unfold stV
  rw [hk]
  have HKd := Lib.hid hk
  clear h hx ht ha1 ha2 he1 he2 b0 k0 hW1 hX hbq hk
  go_enter Tryz.func11, Tryz.ntmps11
  go_wp2_with fail
  rw [← HKd.out]
  rw [HW1.out, HX.out]
  have hre : ∀ w : World, (But (Ch4 B1 B2 B3 D)) w w := (fun w => But.refl _ w)
  have hrd : ∀ (ops9 : Array Oper) (f9 : Nat → Bool) (e9 : Nat → Value) (w9 : World) (i9 : Nat) (v9 : Value) (e8 : Nat → Value), [5, 11].contains i9 = false → (fun (f : Nat → Bool) (e : Nat → Value) (w : World) => StR base X x #[.int .i64 x.kind, .int .i64 x.node, .string x.text, .int .i64 x.s.val.a.node, .string x.s.val.a.id, .string x.s.val.a.name, .slice x.s.val.A x.s.val.n x.s.val.c, .int .i64 x.s.val.a.port, .int .u64 (x.s.made : Int), .int .u64 (x.s.ix : Int), .int .i64 x.c.val.node, .string x.c.val.id, .string x.c.val.svc, .string x.c.val.note, .int .i64 x.c.val.status, .int .u64 (x.c.made : Int), .int .u64 (x.c.ix : Int), .int .u64 (x.ix : Int)] 5 11 B B1 B2 B3 m D md d d' d2 d2' (.int .i64 (er1 : Int)) (.int .i64 (er2 : Int)) f e w) f9 e9 w9 → Go.Rel.Put ops9 i9 e9 v9 e8 → (fun (f : Nat → Bool) (e : Nat → Value) (w : World) => StR base X x #[.int .i64 x.kind, .int .i64 x.node, .string x.text, .int .i64 x.s.val.a.node, .string x.s.val.a.id, .string x.s.val.a.name, .slice x.s.val.A x.s.val.n x.s.val.c, .int .i64 x.s.val.a.port, .int .u64 (x.s.made : Int), .int .u64 (x.s.ix : Int), .int .i64 x.c.val.node, .string x.c.val.id, .string x.c.val.svc, .string x.c.val.note, .int .i64 x.c.val.status, .int .u64 (x.c.made : Int), .int .u64 (x.c.ix : Int), .int .u64 (x.ix : Int)] 5 11 B B1 B2 B3 m D md d d' d2 d2' (.int .i64 (er1 : Int)) (.int .i64 (er2 : Int)) f e w) (Go.Rel.upd f9 i9) e8 w9 := (fun _ _ _ _ _ _ _ hj h hp => StR.keep hj h hp)
  refine Go.Rel.wp_tabe (by kernel_rfl) (by kernel_rfl) (fun (f : Nat → Bool) (e : Nat → Value) (w : World) => StR base X x #[.int .i64 x.kind, .int .i64 x.node, .string x.text, .int .i64 x.s.val.a.node, .string x.s.val.a.id, .string x.s.val.a.name, .slice x.s.val.A x.s.val.n x.s.val.c, .int .i64 x.s.val.a.port, .int .u64 (x.s.made : Int), .int .u64 (x.s.ix : Int), .int .i64 x.c.val.node, .string x.c.val.id, .string x.c.val.svc, .string x.c.val.note, .int .i64 x.c.val.status, .int .u64 (x.c.made : Int), .int .u64 (x.c.ix : Int), .int .u64 (x.ix : Int)] 5 11 B B1 B2 B3 m D md d d' d2 d2' (.int .i64 (er1 : Int)) (.int .i64 (er2 : Int)) f e w) (But (Ch4 B1 B2 B3 D)) hre ((fun _ _ _ h k => h.trans k)) ((But.refl _ _).drew) (fun e => StR.start HBo.out HK1.out HOut.out HTg.out e) (rst4 B D X x bq) (fun | 5, v, w => True | 11, v, w => True | _, _, _ => True) (fun i => ([5, 11] : List Nat).contains i) (fun i => ([2, 4, 5, 8, 10, 11, 12] : List Nat).contains i) (by kernel_rfl) (fun i v w w' h g => by revert h; split <;> exact id) [5, 11] (by decide) (hrd _) ?_ (Go.Rel.AllOf.get ?_) ?_
  · repeat (refine .cons (by first | exact Go.Rel.pure_sp rfl | exact Go.Rel.pure_yes (by kernel_rfl) (fun _ => by kernel_rfl) | exact Go.Rel.pure_no (by kernel_rfl) rfl) ?_)
    exact .nil
  · refine ⟨?_, ?_, ?_, ?_, ?_, ?_, ?_, trivial⟩
    · exact SpecE.ld (hrd _) hre (q := .pointer (some ⟨X, 10, none⟩)) (h := fun _ w' _ hI _ _ _ _ => by obtain ⟨y0, y1, y2, y3, y4, y5, y6, y7, y8, y9, y10, y11, y12, y13, y14, y15, y16, y17⟩ := st_blk (x := x) hI.blk; go_simp; rfl)
    · exact SpecE.ld (hrd _) hre (q := .pointer (some ⟨X, 17, none⟩)) (h := fun _ w' _ hI _ _ _ _ => by obtain ⟨y0, y1, y2, y3, y4, y5, y6, y7, y8, y9, y10, y11, y12, y13, y14, y15, y16, y17⟩ := st_blk (x := x) hI.blk; go_simp; rfl)
    · refine SpecE.gen (fun e => [(80, .pointer (some ⟨B, 0, none⟩)), (82, .agg #[.int .i64 x.c.val.node, .string x.c.val.id, .string x.c.val.svc, .string x.c.val.note, .int .i64 x.c.val.status, .int .u64 (x.c.made : Int), .int .u64 (x.c.ix : Int)]), (84, .int .u64 (x.ix : Int))]) rfl rfl (fun _ => by kernel_rfl) fun f w' e hI hf hdesc hanc hle hX K hK => ?_
      go_simp
      refine (HCp.out f e w' hI hf).mono ?_
      rintro e9 w9 ⟨v9, rfl, h9, hb9⟩
      exact hK _ _ hb9 (fun e' hp => h9 e' (fun m hm => hp.1 m hm) (hp.2 rfl)) trivial
    · exact SpecE.ld (hrd _) hre (q := .pointer (some ⟨X, 10, none⟩)) (h := fun _ w' _ hI _ _ _ _ => by obtain ⟨y0, y1, y2, y3, y4, y5, y6, y7, y8, y9, y10, y11, y12, y13, y14, y15, y16, y17⟩ := st_blk (x := x) hI.blk; go_simp; rfl)
    · exact SpecE.ld (hrd _) hre (q := .pointer (some ⟨X, 17, none⟩)) (h := fun _ w' _ hI _ _ _ _ => by obtain ⟨y0, y1, y2, y3, y4, y5, y6, y7, y8, y9, y10, y11, y12, y13, y14, y15, y16, y17⟩ := st_blk (x := x) hI.blk; go_simp; rfl)
    · refine SpecE.gen (fun e => [(86, .pointer (some ⟨D, 0, none⟩)), (88, .agg #[.int .i64 x.c.val.node, .string x.c.val.id, .string x.c.val.svc, .string x.c.val.note, .int .i64 x.c.val.status, .int .u64 (x.c.made : Int), .int .u64 (x.c.ix : Int)]), (90, .int .u64 (x.ix : Int))]) rfl rfl (fun _ => by kernel_rfl) fun f w' e hI hf hdesc hanc hle hX K hK => ?_
      go_simp
      refine (HCd.out f e w' hI hf).mono ?_
      rintro e9 w9 ⟨v9, rfl, h9, hb9⟩
      exact hK _ _ hb9 (fun e' hp => h9 e' (fun m hm => hp.1 m hm) (hp.2 rfl)) trivial
    · refine SpecE.gen (fun e => [(85, e 5), (91, e 11)]) rfl rfl (fun _ => by kernel_rfl) fun f w' e hI hf hdesc hanc hle hX K hK => ?_
      have q1 := hI.k1 (hanc 60 5 (by kernel_rfl))
      have q2 := hI.k2 (hanc 60 11 (by kernel_rfl))
      have qq := HBq.out
      simp only [q1, q2]
      go_simp
      exact hK _ _ (hre _) (fun e' hp => hrd _ f e w' 12 _ e' rfl hI hp) rfl
  · intro f w2 e hall hJ hle hv
    have hb2 := hJ.both
    rw [hall 5 (by decide), hall 11 (by decide)] at hb2
    have HB2 := Lib.hid hb2
    have HL2 := Lib.hid hle
    have v9 := hv 13 rfl
    simp only [Go.Rel.finL, List.setIfInBounds_toArray, List.set_cons_succ, List.set_cons_zero]
    rw [show e 13 = .bool bq from v9]
    clear hv hall hJ hle hb2 v9
    go_wp2
    go_ret
    exact ⟨bq, rfl, HB2.out, (But.of_below HB0.out).trans HL2.out, HBq2.out⟩
def rst5 (B : Nat) (D : Nat) (X : Nat) (x : RSt) (bq : Bool) : Nat → Value
  | 0 => .pointer (some ⟨B, 0, none⟩)
  | 1 | 9 => .pointer (some ⟨X, 1, none⟩)
  | 2 | 10 => .int .i64 x.node
  | 3 | 11 => .pointer (some ⟨X, 2, none⟩)
  | 4 | 12 => .string x.text
  | 5 | 13 => .pointer (some ⟨X, 17, none⟩)
  | 6 | 14 => .int .u64 (x.ix : Int)
  | 8 => .pointer (some ⟨D, 0, none⟩)
  | 16 | 17 => .bool bq
  | _ => undef
set_option maxHeartbeats 4000000 in
set_option maxRecDepth 100000 in
theorem step5_any {base : Nat} {w : World} {B B1 B2 B3 m D md : Nat} {d d2 : Ro} (x : RSt) (h : Both base w B B1 B2 B3 m d D md d2) (hx : x.Ok w) (ht : TgAt (fun k => k < base) w x.s.val) (hk : x.kind = 5) : Calls Tryz.prog 11 #[.pointer (some ⟨B, 0, none⟩), .pointer (some ⟨D, 0, none⟩), stV x] w fun e w' => StepPost base w B B1 B2 B3 m (x.after d).2 D md (x.after d2).2 ((x.after d).1 = (x.after d2).1) e w' := by
  have ha1 : x.after d = d.dropC x.node x.text x.ix := by unfold RSt.after; simp only [hk]; rfl
  have ha2 : x.after d2 = d2.dropC x.node x.text x.ix := by unfold RSt.after; simp only [hk]; rfl
  rw [ha1, ha2]
  obtain ⟨⟨er1, d'⟩, he1⟩ : ∃ r, d.dropC x.node x.text x.ix = r := ⟨_, rfl⟩
  obtain ⟨⟨er2, d2'⟩, he2⟩ : ∃ r, d2.dropC x.node x.text x.ix = r := ⟨_, rfl⟩
  rw [he1, he2]
  have HE1 := Lib.hid he1
  have HE2 := Lib.hid he2
  have HOk := Lib.hid hx
  have HSi := Lib.hid (fun (W : World) (ht : TgAt (fun k => k < base) W x.s.val) => (⟨hx.s.node, hx.s.port, hx.s.id, hx.s.name, ht.tx, hx.s.small⟩ : SvIn W x.s))
  have b0 := below1 w #[.int .i64 x.kind, .int .i64 x.node, .string x.text, .int .i64 x.s.val.a.node, .string x.s.val.a.id, .string x.s.val.a.name, .slice x.s.val.A x.s.val.n x.s.val.c, .int .i64 x.s.val.a.port, .int .u64 (x.s.made : Int), .int .u64 (x.s.ix : Int), .int .i64 x.c.val.node, .string x.c.val.id, .string x.c.val.svc, .string x.c.val.note, .int .i64 x.c.val.status, .int .u64 (x.c.made : Int), .int .u64 (x.c.ix : Int), .int .u64 (x.ix : Int)] TRs
  have k0 := heap_alloc_new w (.cells #[.int .i64 x.kind, .int .i64 x.node, .string x.text, .int .i64 x.s.val.a.node, .string x.s.val.a.id, .string x.s.val.a.name, .slice x.s.val.A x.s.val.n x.s.val.c, .int .i64 x.s.val.a.port, .int .u64 (x.s.made : Int), .int .u64 (x.s.ix : Int), .int .i64 x.c.val.node, .string x.c.val.id, .string x.c.val.svc, .string x.c.val.note, .int .i64 x.c.val.status, .int .u64 (x.c.made : Int), .int .u64 (x.c.ix : Int), .int .u64 (x.ix : Int)] TRs)
  obtain ⟨X, hX⟩ : ∃ X, w.heap.size = X := ⟨_, rfl⟩
  obtain ⟨W1, hW1⟩ : ∃ W1, w.alloc (.cells #[.int .i64 x.kind, .int .i64 x.node, .string x.text, .int .i64 x.s.val.a.node, .string x.s.val.a.id, .string x.s.val.a.name, .slice x.s.val.A x.s.val.n x.s.val.c, .int .i64 x.s.val.a.port, .int .u64 (x.s.made : Int), .int .u64 (x.s.ix : Int), .int .i64 x.c.val.node, .string x.c.val.id, .string x.c.val.svc, .string x.c.val.note, .int .i64 x.c.val.status, .int .u64 (x.c.made : Int), .int .u64 (x.c.ix : Int), .int .u64 (x.ix : Int)] TRs) = W1 := ⟨_, rfl⟩
  rw [hW1] at b0 k0
  rw [hX] at k0
  have HBo := Lib.hid (h.below b0)
  have HOut : Hid (¬ Ch4 B1 B2 B3 D X) := Lib.hid (by
    have := h.lt
    rintro ((z | z | z) | z) <;> omega)
  have HTg := Lib.hid (ht.below b0)
  have HB0 := Lib.hid b0
  have HK1 := Lib.hid k0
  have HW1 := Lib.hid hW1
  have HX := Lib.hid hX
  obtain ⟨bq, hbq⟩ : ∃ bq, ((er1 : Int) == (er2 : Int)) = bq := ⟨_, rfl⟩
  have HBq := Lib.hid hbq
  have HBq2 : Hid (er1 = er2 → bq = true) := Lib.hid (fun e => by rw [← hbq, e]; simp)
  have HCp : Hid (∀ (f : Nat → Bool) (e : Nat → Value) (w' : World), StR base X x #[.int .i64 x.kind, .int .i64 x.node, .string x.text, .int .i64 x.s.val.a.node, .string x.s.val.a.id, .string x.s.val.a.name, .slice x.s.val.A x.s.val.n x.s.val.c, .int .i64 x.s.val.a.port, .int .u64 (x.s.made : Int), .int .u64 (x.s.ix : Int), .int .i64 x.c.val.node, .string x.c.val.id, .string x.c.val.svc, .string x.c.val.note, .int .i64 x.c.val.status, .int .u64 (x.c.made : Int), .int .u64 (x.c.ix : Int), .int .u64 (x.ix : Int)] 7 15 B B1 B2 B3 m D md d d' d2 d2' (.int .i64 (er1 : Int)) (.int .i64 (er2 : Int)) f e w' → f 7 = false → Calls Tryz.prog 21 #[.pointer (some ⟨B, 0, none⟩), .int .i64 x.node, .string x.text, .int .u64 (x.ix : Int)] w' fun r w2 => ∃ v, r = .returned v ∧ (∀ e', (∀ m, m ≠ 7 → e' m = e m) → e' 7 = v → StR base X x #[.int .i64 x.kind, .int .i64 x.node, .string x.text, .int .i64 x.s.val.a.node, .string x.s.val.a.id, .string x.s.val.a.name, .slice x.s.val.A x.s.val.n x.s.val.c, .int .i64 x.s.val.a.port, .int .u64 (x.s.made : Int), .int .u64 (x.s.ix : Int), .int .i64 x.c.val.node, .string x.c.val.id, .string x.c.val.svc, .string x.c.val.note, .int .i64 x.c.val.status, .int .u64 (x.c.made : Int), .int .u64 (x.c.ix : Int), .int .u64 (x.ix : Int)] 7 15 B B1 B2 B3 m D md d d' d2 d2' (.int .i64 (er1 : Int)) (.int .i64 (er2 : Int)) (Go.Rel.upd f 7) e' w2) ∧ But (Ch4 B1 B2 B3 D) w' w2) := Lib.hid fun f e w' hI hf =>
    hI.left (by decide) hf fun S h ht => by
      have h9 := rdropcheck_any x.node x.text x.ix h HOk.out.node HOk.out.text HOk.out.ix
      rw [show d.dropC x.node x.text x.ix = (er1, d') from HE1.out] at h9
      exact h9
  have HCd : Hid (∀ (f : Nat → Bool) (e : Nat → Value) (w' : World), StR base X x #[.int .i64 x.kind, .int .i64 x.node, .string x.text, .int .i64 x.s.val.a.node, .string x.s.val.a.id, .string x.s.val.a.name, .slice x.s.val.A x.s.val.n x.s.val.c, .int .i64 x.s.val.a.port, .int .u64 (x.s.made : Int), .int .u64 (x.s.ix : Int), .int .i64 x.c.val.node, .string x.c.val.id, .string x.c.val.svc, .string x.c.val.note, .int .i64 x.c.val.status, .int .u64 (x.c.made : Int), .int .u64 (x.c.ix : Int), .int .u64 (x.ix : Int)] 7 15 B B1 B2 B3 m D md d d' d2 d2' (.int .i64 (er1 : Int)) (.int .i64 (er2 : Int)) f e w' → f 15 = false → Calls Tryz.prog 41 #[.pointer (some ⟨D, 0, none⟩), .int .i64 x.node, .string x.text, .int .u64 (x.ix : Int)] w' fun r w2 => ∃ v, r = .returned v ∧ (∀ e', (∀ m, m ≠ 15 → e' m = e m) → e' 15 = v → StR base X x #[.int .i64 x.kind, .int .i64 x.node, .string x.text, .int .i64 x.s.val.a.node, .string x.s.val.a.id, .string x.s.val.a.name, .slice x.s.val.A x.s.val.n x.s.val.c, .int .i64 x.s.val.a.port, .int .u64 (x.s.made : Int), .int .u64 (x.s.ix : Int), .int .i64 x.c.val.node, .string x.c.val.id, .string x.c.val.svc, .string x.c.val.note, .int .i64 x.c.val.status, .int .u64 (x.c.made : Int), .int .u64 (x.c.ix : Int), .int .u64 (x.ix : Int)] 7 15 B B1 B2 B3 m D md d d' d2 d2' (.int .i64 (er1 : Int)) (.int .i64 (er2 : Int)) (Go.Rel.upd f 15) e' w2) ∧ But (Ch4 B1 B2 B3 D) w' w2) := Lib.hid fun f e w' hI hf =>
    hI.right (by decide) hf fun S h ht => by
      have h9 := rddropcheck_any x.node x.text x.ix h HOk.out.ix
      rw [show d2.dropC x.node x.text x.ix = (er2, d2') from HE2.out] at h9
      exact h9
  unfold stV
  rw [hk]
  have HKd := Lib.hid hk
  clear h hx ht ha1 ha2 he1 he2 b0 k0 hW1 hX hbq hk
  go_enter Tryz.func11, Tryz.ntmps11
  go_wp2_with fail
  rw [← HKd.out]
  rw [HW1.out, HX.out]
  have hre : ∀ w : World, (But (Ch4 B1 B2 B3 D)) w w := (fun w => But.refl _ w)
  have hrd : ∀ (ops9 : Array Oper) (f9 : Nat → Bool) (e9 : Nat → Value) (w9 : World) (i9 : Nat) (v9 : Value) (e8 : Nat → Value), [7, 15].contains i9 = false → (fun (f : Nat → Bool) (e : Nat → Value) (w : World) => StR base X x #[.int .i64 x.kind, .int .i64 x.node, .string x.text, .int .i64 x.s.val.a.node, .string x.s.val.a.id, .string x.s.val.a.name, .slice x.s.val.A x.s.val.n x.s.val.c, .int .i64 x.s.val.a.port, .int .u64 (x.s.made : Int), .int .u64 (x.s.ix : Int), .int .i64 x.c.val.node, .string x.c.val.id, .string x.c.val.svc, .string x.c.val.note, .int .i64 x.c.val.status, .int .u64 (x.c.made : Int), .int .u64 (x.c.ix : Int), .int .u64 (x.ix : Int)] 7 15 B B1 B2 B3 m D md d d' d2 d2' (.int .i64 (er1 : Int)) (.int .i64 (er2 : Int)) f e w) f9 e9 w9 → Go.Rel.Put ops9 i9 e9 v9 e8 → (fun (f : Nat → Bool) (e : Nat → Value) (w : World) => StR base X x #[.int .i64 x.kind, .int .i64 x.node, .string x.text, .int .i64 x.s.val.a.node, .string x.s.val.a.id, .string x.s.val.a.name, .slice x.s.val.A x.s.val.n x.s.val.c, .int .i64 x.s.val.a.port, .int .u64 (x.s.made : Int), .int .u64 (x.s.ix : Int), .int .i64 x.c.val.node, .string x.c.val.id, .string x.c.val.svc, .string x.c.val.note, .int .i64 x.c.val.status, .int .u64 (x.c.made : Int), .int .u64 (x.c.ix : Int), .int .u64 (x.ix : Int)] 7 15 B B1 B2 B3 m D md d d' d2 d2' (.int .i64 (er1 : Int)) (.int .i64 (er2 : Int)) f e w) (Go.Rel.upd f9 i9) e8 w9 := (fun _ _ _ _ _ _ _ hj h hp => StR.keep hj h hp)
  refine Go.Rel.wp_tabe (by kernel_rfl) (by kernel_rfl) (fun (f : Nat → Bool) (e : Nat → Value) (w : World) => StR base X x #[.int .i64 x.kind, .int .i64 x.node, .string x.text, .int .i64 x.s.val.a.node, .string x.s.val.a.id, .string x.s.val.a.name, .slice x.s.val.A x.s.val.n x.s.val.c, .int .i64 x.s.val.a.port, .int .u64 (x.s.made : Int), .int .u64 (x.s.ix : Int), .int .i64 x.c.val.node, .string x.c.val.id, .string x.c.val.svc, .string x.c.val.note, .int .i64 x.c.val.status, .int .u64 (x.c.made : Int), .int .u64 (x.c.ix : Int), .int .u64 (x.ix : Int)] 7 15 B B1 B2 B3 m D md d d' d2 d2' (.int .i64 (er1 : Int)) (.int .i64 (er2 : Int)) f e w) (But (Ch4 B1 B2 B3 D)) hre ((fun _ _ _ h k => h.trans k)) ((But.refl _ _).drew) (fun e => StR.start HBo.out HK1.out HOut.out HTg.out e) (rst5 B D X x bq) (fun | 7, v, w => True | 15, v, w => True | _, _, _ => True) (fun i => ([7, 15] : List Nat).contains i) (fun i => ([2, 4, 6, 7, 10, 12, 14, 15, 16] : List Nat).contains i) (by kernel_rfl) (fun i v w w' h g => by revert h; split <;> exact id) [7, 15] (by decide) (hrd _) ?_ (Go.Rel.AllOf.get ?_) ?_
  · repeat (refine .cons (by first | exact Go.Rel.pure_sp rfl | exact Go.Rel.pure_yes (by kernel_rfl) (fun _ => by kernel_rfl) | exact Go.Rel.pure_no (by kernel_rfl) rfl) ?_)
    exact .nil
  · refine ⟨?_, ?_, ?_, ?_, ?_, ?_, ?_, ?_, ?_, trivial⟩
    · exact SpecE.ld (hrd _) hre (q := .pointer (some ⟨X, 1, none⟩)) (h := fun _ w' _ hI _ _ _ _ => by obtain ⟨y0, y1, y2, y3, y4, y5, y6, y7, y8, y9, y10, y11, y12, y13, y14, y15, y16, y17⟩ := st_blk (x := x) hI.blk; go_simp; rfl)
    · exact SpecE.ld (hrd _) hre (q := .pointer (some ⟨X, 2, none⟩)) (h := fun _ w' _ hI _ _ _ _ => by obtain ⟨y0, y1, y2, y3, y4, y5, y6, y7, y8, y9, y10, y11, y12, y13, y14, y15, y16, y17⟩ := st_blk (x := x) hI.blk; go_simp; rfl)
    · exact SpecE.ld (hrd _) hre (q := .pointer (some ⟨X, 17, none⟩)) (h := fun _ w' _ hI _ _ _ _ => by obtain ⟨y0, y1, y2, y3, y4, y5, y6, y7, y8, y9, y10, y11, y12, y13, y14, y15, y16, y17⟩ := st_blk (x := x) hI.blk; go_simp; rfl)
    · refine SpecE.gen (fun e => [(95, .pointer (some ⟨B, 0, none⟩)), (97, .int .i64 x.node), (99, .string x.text), (101, .int .u64 (x.ix : Int))]) rfl rfl (fun _ => by kernel_rfl) fun f w' e hI hf hdesc hanc hle hX K hK => ?_
      go_simp
      refine (HCp.out f e w' hI hf).mono ?_
      rintro e9 w9 ⟨v9, rfl, h9, hb9⟩
      exact hK _ _ hb9 (fun e' hp => h9 e' (fun m hm => hp.1 m hm) (hp.2 rfl)) trivial
    · exact SpecE.ld (hrd _) hre (q := .pointer (some ⟨X, 1, none⟩)) (h := fun _ w' _ hI _ _ _ _ => by obtain ⟨y0, y1, y2, y3, y4, y5, y6, y7, y8, y9, y10, y11, y12, y13, y14, y15, y16, y17⟩ := st_blk (x := x) hI.blk; go_simp; rfl)
    · exact SpecE.ld (hrd _) hre (q := .pointer (some ⟨X, 2, none⟩)) (h := fun _ w' _ hI _ _ _ _ => by obtain ⟨y0, y1, y2, y3, y4, y5, y6, y7, y8, y9, y10, y11, y12, y13, y14, y15, y16, y17⟩ := st_blk (x := x) hI.blk; go_simp; rfl)
    · exact SpecE.ld (hrd _) hre (q := .pointer (some ⟨X, 17, none⟩)) (h := fun _ w' _ hI _ _ _ _ => by obtain ⟨y0, y1, y2, y3, y4, y5, y6, y7, y8, y9, y10, y11, y12, y13, y14, y15, y16, y17⟩ := st_blk (x := x) hI.blk; go_simp; rfl)
    · refine SpecE.gen (fun e => [(103, .pointer (some ⟨D, 0, none⟩)), (105, .int .i64 x.node), (107, .string x.text), (109, .int .u64 (x.ix : Int))]) rfl rfl (fun _ => by kernel_rfl) fun f w' e hI hf hdesc hanc hle hX K hK => ?_
      go_simp
      refine (HCd.out f e w' hI hf).mono ?_
      rintro e9 w9 ⟨v9, rfl, h9, hb9⟩
      exact hK _ _ hb9 (fun e' hp => h9 e' (fun m hm => hp.1 m hm) (hp.2 rfl)) trivial
    · refine SpecE.gen (fun e => [(102, e 7), (110, e 15)]) rfl rfl (fun _ => by kernel_rfl) fun f w' e hI hf hdesc hanc hle hX K hK => ?_
      have q1 := hI.k1 (hanc 60 7 (by kernel_rfl))
      have q2 := hI.k2 (hanc 60 15 (by kernel_rfl))
      have qq := HBq.out
      simp only [q1, q2]
      go_simp
      exact hK _ _ (hre _) (fun e' hp => hrd _ f e w' 16 _ e' rfl hI hp) rfl
  · intro f w2 e hall hJ hle hv
    have hb2 := hJ.both
    rw [hall 7 (by decide), hall 15 (by decide)] at hb2
    have HB2 := Lib.hid hb2
    have HL2 := Lib.hid hle
    have v9 := hv 17 rfl
    simp only [Go.Rel.finL, List.setIfInBounds_toArray, List.set_cons_succ, List.set_cons_zero]
    rw [show e 17 = .bool bq from v9]
    clear hv hall hJ hle hb2 v9
    go_wp2
    go_ret
    exact ⟨bq, rfl, HB2.out, (But.of_below HB0.out).trans HL2.out, HBq2.out⟩
end Go.Proofs.YtilkbfmaofmjoaaGreatDoor
/-
  The law's step: Copy, and what is no call (layer 19).
-/
namespace Go.Proofs.YtilkbfmaofmjoaaGreatDoor
open Go.RowKit
set_option linter.unusedSimpArgs false
set_option linter.unusedVariables false

set_option maxHeartbeats 4000000 in
set_option maxRecDepth 100000 in
theorem step6_any {base : Nat} {w : World} {B B1 B2 B3 m D md : Nat} {d : Ro} (x : RSt) (h : Both base w B B1 B2 B3 m d D md d) (hx : x.Ok w) (ht : TgAt (fun k => k < base) w x.s.val) (hk : x.kind = 6) : Calls Tryz.prog 11 #[.pointer (some ⟨B, 0, none⟩), .pointer (some ⟨D, 0, none⟩), stV x] w fun e w' => StepPost base w B B1 B2 B3 m d D md d True e w' := by
  have HOk := Lib.hid hx
  have b0 := below1 w #[.int .i64 x.kind, .int .i64 x.node, .string x.text, .int .i64 x.s.val.a.node, .string x.s.val.a.id, .string x.s.val.a.name, .slice x.s.val.A x.s.val.n x.s.val.c, .int .i64 x.s.val.a.port, .int .u64 (x.s.made : Int), .int .u64 (x.s.ix : Int), .int .i64 x.c.val.node, .string x.c.val.id, .string x.c.val.svc, .string x.c.val.note, .int .i64 x.c.val.status, .int .u64 (x.c.made : Int), .int .u64 (x.c.ix : Int), .int .u64 (x.ix : Int)] TRs
  have k0 := heap_alloc_new w (.cells #[.int .i64 x.kind, .int .i64 x.node, .string x.text, .int .i64 x.s.val.a.node, .string x.s.val.a.id, .string x.s.val.a.name, .slice x.s.val.A x.s.val.n x.s.val.c, .int .i64 x.s.val.a.port, .int .u64 (x.s.made : Int), .int .u64 (x.s.ix : Int), .int .i64 x.c.val.node, .string x.c.val.id, .string x.c.val.svc, .string x.c.val.note, .int .i64 x.c.val.status, .int .u64 (x.c.made : Int), .int .u64 (x.c.ix : Int), .int .u64 (x.ix : Int)] TRs)
  obtain ⟨X, hX⟩ : ∃ X, w.heap.size = X := ⟨_, rfl⟩
  obtain ⟨W1, hW1⟩ : ∃ W1, w.alloc (.cells #[.int .i64 x.kind, .int .i64 x.node, .string x.text, .int .i64 x.s.val.a.node, .string x.s.val.a.id, .string x.s.val.a.name, .slice x.s.val.A x.s.val.n x.s.val.c, .int .i64 x.s.val.a.port, .int .u64 (x.s.made : Int), .int .u64 (x.s.ix : Int), .int .i64 x.c.val.node, .string x.c.val.id, .string x.c.val.svc, .string x.c.val.note, .int .i64 x.c.val.status, .int .u64 (x.c.made : Int), .int .u64 (x.c.ix : Int), .int .u64 (x.ix : Int)] TRs) = W1 := ⟨_, rfl⟩
  have s0 : W1.heap.size = X + 1 := by rw [← hW1, ← hX]; simp
  rw [hW1] at b0 k0
  rw [hX] at k0
  have HB0 := Lib.hid b0
  have HK1 := Lib.hid k0
  have HW1 := Lib.hid hW1
  have HX := Lib.hid hX
  have HS0 := Lib.hid s0
  obtain ⟨Sp, h1⟩ := h.read
  have HCp := Lib.hid (rcopy_any (h1.below b0))
  have HBo := Lib.hid h
  unfold stV
  rw [hk]
  have HKd := Lib.hid hk
  clear h hx ht b0 k0 hW1 hX s0 hk h1
  go_enter Tryz.func11, Tryz.ntmps11
  go_wp2_with fail
  rw [← HKd.out]
  rw [HW1.out, HX.out]
  refine HCp.out.mono ?_
  rintro e W2 ⟨c0, c1, c2, c3, rfl, hc, hz, hb⟩
  have HC2 := Lib.hid hc
  have HZ := Lib.hid (show X < c1 ∧ X < c2 ∧ X < c3 by have := HS0.out; omega)
  have HB2 := Lib.hid (HB0.out.trans (hb.mono HB0.out.size))
  have HK2 := Lib.hid ((hb.block X (by have := HS0.out; omega)).trans HK1.out)
  have HSm := Lib.hid (by
    obtain ⟨Sd, A1, A2, A3, e1, e2, e3, l2, hok, hd⟩ := (HBo.out.below (HB0.out.trans (hb.mono HB0.out.size))).ref
    exact same_yes hc hd : Calls Tryz.prog 12 #[.pointer (some ⟨c0, 0, none⟩), .pointer (some ⟨D, 0, none⟩)] W2 fun e w' => e = .returned (.bool true) ∧ Below W2.heap.size W2 w')
  clear hc hz hb HCp
  go_wp2_with fail
  refine HSm.out.mono ?_
  rintro e W3 ⟨rfl, hb⟩
  have HB3 := Lib.hid (HB2.out.trans (hb.mono HB2.out.size))
  have HK3 := Lib.hid ((hb.block X (block_lt HK2.out)).trans HK2.out)
  have HC3 := Lib.hid (HC2.out.below hb)
  obtain ⟨y0, y1, y2, y3, y4, y5, y6, y7, y8, y9, y10, y11, y12, y13, y14, y15, y16, y17⟩ := st_blk (x := x) HK3.out
  have HDn := Lib.hid (rdropnode_any x.node 18446744073709551615 HC3.out HOk.out.node (by decide))
  clear hb HSm
  go_wp2_with fail
  refine HDn.out.mono ?_
  rintro e W4 ⟨rfl, hc, hb⟩
  have HC4 := Lib.hid hc
  have HB4 := Lib.hid hb
  have HK4 := Lib.hid ((hb.block X (block_lt HK3.out) (by have := HZ.out; rintro (z | z | z) <;> omega)).trans HK3.out)
  clear y0 y1 y2 y3 y4 y5 y6 y7 y8 y9 y10 y11 y12 y13 y14 y15 y16 y17 hc hb HDn
  obtain ⟨y0, y1, y2, y3, y4, y5, y6, y7, y8, y9, y10, y11, y12, y13, y14, y15, y16, y17⟩ := st_blk (x := x) HK4.out
  have HNo := Lib.hid (rnode_any x.node (⟨#[111, 116, 104, 101, 114]⟩ : ByteArray) x.ix HC4.out HOk.out.node (by decide) HOk.out.ix)
  go_wp2_with fail
  refine HNo.out.mono ?_
  rintro e W5 ⟨rfl, hc, hb⟩
  have HB5 := Lib.hid (HB4.out.trans hb)
  clear y0 y1 y2 y3 y4 y5 y6 y7 y8 y9 y10 y11 y12 y13 y14 y15 y16 y17 hc hb HNo
  go_wp2
  go_ret
  refine ⟨true, rfl, HBo.out.aside HB3.out (b1 := c1) (b2 := c2) (b3 := c3) (by have := HZ.out; have := HX.out; omega) HB5.out, ?_, fun _ => rfl⟩
  exact (But.of_below HB3.out).then_ HB5.out fun k hk e => absurd e (by have := HZ.out; have := HX.out; rcases hk with z | z | z <;> omega)
set_option maxRecDepth 100000 in
theorem step7_any {base : Nat} {w : World} {B B1 B2 B3 m D md : Nat} {d d2 : Ro} (x : RSt) (h : Both base w B B1 B2 B3 m d D md d2) (hx : x.Ok w) (ht : TgAt (fun k => k < base) w x.s.val) (hk : x.kind < 0 ∨ 6 < x.kind) : Calls Tryz.prog 11 #[.pointer (some ⟨B, 0, none⟩), .pointer (some ⟨D, 0, none⟩), stV x] w fun e w' => StepPost base w B B1 B2 B3 m d D md d2 True e w' := by
  have b0 := below1 w #[.int .i64 x.kind, .int .i64 x.node, .string x.text, .int .i64 x.s.val.a.node, .string x.s.val.a.id, .string x.s.val.a.name, .slice x.s.val.A x.s.val.n x.s.val.c, .int .i64 x.s.val.a.port, .int .u64 (x.s.made : Int), .int .u64 (x.s.ix : Int), .int .i64 x.c.val.node, .string x.c.val.id, .string x.c.val.svc, .string x.c.val.note, .int .i64 x.c.val.status, .int .u64 (x.c.made : Int), .int .u64 (x.c.ix : Int), .int .u64 (x.ix : Int)] TRs
  have k0 := heap_alloc_new w (.cells #[.int .i64 x.kind, .int .i64 x.node, .string x.text, .int .i64 x.s.val.a.node, .string x.s.val.a.id, .string x.s.val.a.name, .slice x.s.val.A x.s.val.n x.s.val.c, .int .i64 x.s.val.a.port, .int .u64 (x.s.made : Int), .int .u64 (x.s.ix : Int), .int .i64 x.c.val.node, .string x.c.val.id, .string x.c.val.svc, .string x.c.val.note, .int .i64 x.c.val.status, .int .u64 (x.c.made : Int), .int .u64 (x.c.ix : Int), .int .u64 (x.ix : Int)] TRs)
  obtain ⟨X, hX⟩ : ∃ X, w.heap.size = X := ⟨_, rfl⟩
  obtain ⟨W1, hW1⟩ : ∃ W1, w.alloc (.cells #[.int .i64 x.kind, .int .i64 x.node, .string x.text, .int .i64 x.s.val.a.node, .string x.s.val.a.id, .string x.s.val.a.name, .slice x.s.val.A x.s.val.n x.s.val.c, .int .i64 x.s.val.a.port, .int .u64 (x.s.made : Int), .int .u64 (x.s.ix : Int), .int .i64 x.c.val.node, .string x.c.val.id, .string x.c.val.svc, .string x.c.val.note, .int .i64 x.c.val.status, .int .u64 (x.c.made : Int), .int .u64 (x.c.ix : Int), .int .u64 (x.ix : Int)] TRs) = W1 := ⟨_, rfl⟩
  have s0 : W1.heap.size = X + 1 := by rw [← hW1, ← hX]; simp
  rw [hW1] at b0 k0
  rw [hX] at k0
  have HB0 := Lib.hid b0
  have HK1 := Lib.hid k0
  have HW1 := Lib.hid hW1
  have HX := Lib.hid hX
  have HS0 := Lib.hid s0
  have HBo := Lib.hid (h.below b0)
  have n0 : ¬ x.kind = 0 := by omega
  have n1 : ¬ x.kind = 1 := by omega
  have n2 : ¬ x.kind = 2 := by omega
  have n3 : ¬ x.kind = 3 := by omega
  have n4 : ¬ x.kind = 4 := by omega
  have n5 : ¬ x.kind = 5 := by omega
  have n6 : ¬ x.kind = 6 := by omega
  unfold stV
  clear h hx ht b0 k0 s0 hX hW1 hk
  go_enter Tryz.func11, Tryz.ntmps11
  go_wp2
  go_ret
  rw [HW1.out]
  exact ⟨true, rfl, HBo.out, But.of_below HB0.out, fun _ => rfl⟩
/-- Both make of a step the same, and it is told so. -/
theorem step_same {base : Nat} {w : World} {B B1 B2 B3 m D md : Nat} {d : Ro} (x : RSt) (h : Both base w B B1 B2 B3 m d D md d) (hx : x.Ok w) (ht : TgAt (fun k => k < base) w x.s.val) : Calls Tryz.prog 11 #[.pointer (some ⟨B, 0, none⟩), .pointer (some ⟨D, 0, none⟩), stV x] w fun e w' => e = .returned (.bool true) ∧ Both base w' B B1 B2 B3 m (x.after d).2 D md (x.after d).2 ∧ But (Ch4 B1 B2 B3 D) w w' := by
  have fin : ∀ {d' : Ro} {P : Prop}, P → (x.after d).2 = d' → Calls Tryz.prog 11 #[.pointer (some ⟨B, 0, none⟩), .pointer (some ⟨D, 0, none⟩), stV x] w (StepPost base w B B1 B2 B3 m d' D md d' P) → Calls Tryz.prog 11 #[.pointer (some ⟨B, 0, none⟩), .pointer (some ⟨D, 0, none⟩), stV x] w fun e w' => e = .returned (.bool true) ∧ Both base w' B B1 B2 B3 m (x.after d).2 D md (x.after d).2 ∧ But (Ch4 B1 B2 B3 D) w w' := fun hp hd hc => hc.mono fun e w' ⟨b, q1, q2, q3, q4⟩ => ⟨by rw [q1, q4 hp], by rw [hd]; exact q2, q3⟩
  rcases (show x.kind = 0 ∨ x.kind = 1 ∨ x.kind = 2 ∨ x.kind = 3 ∨ x.kind = 4 ∨ x.kind = 5 ∨ x.kind = 6 ∨ (x.kind < 0 ∨ 6 < x.kind) by omega) with k | k | k | k | k | k | k | k
  · exact fin rfl rfl (step0_any x h hx ht k)
  · exact fin rfl rfl (step1_any x h hx ht k)
  · exact fin rfl rfl (step2_any x h hx ht k)
  · exact fin rfl rfl (step3_any x h hx ht k)
  · exact fin rfl rfl (step4_any x h hx ht k)
  · exact fin rfl rfl (step5_any x h hx ht k)
  · exact fin trivial (by unfold RSt.after; simp [k]) (step6_any x h hx ht k)
  · exact fin trivial (by
      unfold RSt.after
      rw [if_neg (by omega), if_neg (by omega), if_neg (by omega), if_neg (by omega), if_neg (by omega), if_neg (by omega)]) (step7_any x h hx ht k)
end Go.Proofs.YtilkbfmaofmjoaaGreatDoor
/-
  The law's own check that a roster works, walked (layer 19).
-/
namespace Go.Proofs.YtilkbfmaofmjoaaGreatDoor
open Go.RowKit
set_option linter.unusedSimpArgs false
set_option linter.unusedVariables false

theorem forSvc_eq (s : ByteArray) (v : CkA) : forSvc s v = (decide (v.svc = noT) || decide (v.svc = s)) := by
  unfold forSvc
  rw [Bool.eq_iff_iff]
  simp only [Bool.or_eq_true, text_same, decide_eq_true_eq]
def wkN : NdA := ⟨1, ⟨#[120]⟩⟩
def wkS : Rw SvW := (⟨noT, ⟨⟨1, ⟨#[119, 101, 98, 45, 49]⟩, ⟨#[119, 101, 98]⟩, [], 0⟩, none, 0, 0, 0, 0⟩, 0, 0⟩ : Rw SvW)
def wkC : Rw CkA := (⟨noT, ⟨1, ⟨#[99]⟩, ⟨#[119, 101, 98, 45, 49]⟩, ⟨#[]⟩, 2⟩, 0, 0⟩ : Rw CkA)
theorem wk_plain : ∃ d1 d2 d3, (Ro.new 9).node wkN 3 = (0, d1) ∧ d1.service wkS.val.a 4 = (0, d2) ∧ d2.check wkC.val 5 = (0, d3) ∧ d3.health 1 ⟨#[119, 101, 98, 45, 49]⟩ = 2 ∧ d3.health 1 ⟨#[100, 98]⟩ = 0 := by
  have hn : NdOk wkN := ⟨by decide, by decide⟩
  have hs : SvOk wkS.val.a := ⟨by decide, by decide, by decide, by decide, by decide⟩
  have hc : CkOk wkC.val := ⟨by decide, by decide, by decide, .inr (by decide), by decide⟩
  obtain ⟨k1, hk1⟩ : ∃ k, wkN.key = k := ⟨_, rfl⟩
  obtain ⟨k2, hk2⟩ : ∃ k, wkS.val.a.key = k := ⟨_, rfl⟩
  obtain ⟨k3, hk3⟩ : ∃ k, wkC.val.key = k := ⟨_, rfl⟩
  have e1 : (Ro.new 9).node wkN 3 = (0, ⟨⟨9, [⟨k1, wkN, 3, 3⟩], 3⟩, ⟨9, [], 0⟩, ⟨9, [], 0⟩⟩) := by
    unfold Ro.node
    rw [wrongN_ok.2 hn, hk1]
    rfl
  have t1 : ∀ (s : Tb SvA) (c : Tb CkA), Ro.there ⟨⟨9, [⟨k1, wkN, 3, 3⟩], 3⟩, s, c⟩ 1 = true := fun s c => getR_iff.2 ⟨_, List.mem_singleton.2 rfl, hk1.symm⟩
  have e2 : Ro.service ⟨⟨9, [⟨k1, wkN, 3, 3⟩], 3⟩, ⟨9, [], 0⟩, ⟨9, [], 0⟩⟩ wkS.val.a 4 = (0, ⟨⟨9, [⟨k1, wkN, 3, 3⟩], 3⟩, ⟨9, [⟨k2, wkS.val.a, 4, 4⟩], 4⟩, ⟨9, [], 0⟩⟩) := by
    unfold Ro.service
    rw [wrongS_ok.2 ⟨hs, t1 _ _⟩, hk2]
    rfl
  have t2 : Ro.has ⟨⟨9, [⟨k1, wkN, 3, 3⟩], 3⟩, ⟨9, [⟨k2, wkS.val.a, 4, 4⟩], 4⟩, ⟨9, [], 0⟩⟩ 1 ⟨#[119, 101, 98, 45, 49]⟩ = true := getR_iff.2 ⟨_, List.mem_singleton.2 rfl, hk2.symm⟩
  have e3 : Ro.check ⟨⟨9, [⟨k1, wkN, 3, 3⟩], 3⟩, ⟨9, [⟨k2, wkS.val.a, 4, 4⟩], 4⟩, ⟨9, [], 0⟩⟩ wkC.val 5 = (0, ⟨⟨9, [⟨k1, wkN, 3, 3⟩], 3⟩, ⟨9, [⟨k2, wkS.val.a, 4, 4⟩], 4⟩, ⟨9, [⟨k3, wkC.val, 5, 5⟩], 5⟩⟩) := by
    unfold Ro.check
    rw [wrongC_ok.2 ⟨hc, t1 _ _, .inr t2⟩, hk3]
    rfl
  exact ⟨_, _, _, e1, e2, e3, by unfold Ro.health worst; simp only [forSvc_eq]; rfl, by unfold Ro.health worst; simp only [forSvc_eq]; rfl⟩
set_option maxHeartbeats 4000000 in
set_option maxRecDepth 100000 in
theorem works_any (w : World) (hp : PwIs w) : Calls Tryz.prog 15 #[] w fun e w' => e = .returned (.bool true) ∧ Below w.heap.size w w' := by
  obtain ⟨d1, d2, d3, e1, e2, e3, e4, e5⟩ := wk_plain
  have HE1 := Lib.hid e1
  have HE2 := Lib.hid e2
  have HE3 := Lib.hid e3
  have HE4 := Lib.hid (And.intro e4 e5)
  have HN := Lib.hid (rnew_any 9 w (by decide) hp)
  clear e1 e2 e3 e4 e5 hp
  go_enter Tryz.func15, Tryz.ntmps15
  go_wp2_with fail
  refine HN.out.mono ?_
  rintro e w1 ⟨B, B1, B2, B3, rfl, h, hb⟩
  have HB : Hid (∀ w2, But (Ch3 B1 B2 B3) w1 w2 → Below w.heap.size w w2) := Lib.hid fun w2 h2 => hb.trans (h2.below hb.size fun k hk e => by have := (h.ch k e).1; have := (h.ch k e).2.2.1; omega)
  have hx := rnode_any 1 ⟨#[120]⟩ 3 h (by decide) (by decide) (by decide)
  rw [show (⟨1, ⟨#[120]⟩⟩ : NdA) = wkN from rfl, show mostT 9 = 9 from rfl, HE1.out] at hx
  have HX := Lib.hid hx
  clear h hb hx HN
  go_wp2_with fail
  refine HX.out.mono ?_
  rintro e w2 ⟨rfl, h, hb⟩
  have HB2 := Lib.hid hb
  have hx := rservice_any wkS 4 h ⟨by decide, by decide, by decide, by decide, Tx.none_ _, by simp [Small, wkS]⟩ (by decide)
  rw [HE2.out] at hx
  have HX2 := Lib.hid hx
  unfold svV wkS at HX2
  clear h hb hx HX
  go_wp2_with fail
  refine HX2.out.mono ?_
  rintro e w3 ⟨rfl, h, hb⟩
  have HB3 := Lib.hid (HB2.out.trans hb)
  have hx := rcheck_any wkC 5 h ⟨by decide, by decide, by decide, by decide, by decide⟩ (by decide)
  rw [HE3.out] at hx
  have HX3 := Lib.hid hx
  unfold ckV wkC at HX3
  clear h hb hx HX2
  go_wp2_with fail
  refine HX3.out.mono ?_
  rintro e w4 ⟨rfl, h, hb⟩
  have HB4 := Lib.hid (HB.out _ (HB3.out.trans hb))
  have HA := Lib.hid h
  have hx := rhealth_any 1 ⟨#[119, 101, 98, 45, 49]⟩ h (by decide)
  rw [HE4.out.1] at hx
  have HX4 := Lib.hid hx
  clear h hb hx HX3
  go_wp2_with fail
  refine HX4.out.mono ?_
  rintro e w5 ⟨rfl, hb⟩
  have hx := rhealth_any 1 ⟨#[100, 98]⟩ (HA.out.below hb) (by decide)
  rw [HE4.out.2] at hx
  have HX5 := Lib.hid hx
  have HB5 := Lib.hid (HB4.out.trans (hb.mono HB4.out.size))
  clear hb hx HX4
  go_wp2_with fail
  refine HX5.out.mono ?_
  rintro e w6 ⟨rfl, hb⟩
  have HB6 := Lib.hid (HB5.out.trans (hb.mono HB5.out.size))
  clear hb HX5
  go_wp2
  go_ret
  exact ⟨rfl, HB6.out⟩
end Go.Proofs.YtilkbfmaofmjoaaGreatDoor
/-
  A step of layer 19's laws, loaded whole: by cells, not one after the other (that took the kernel 77 s and 10 GB).
-/
namespace Go.Proofs.YtilkbfmaofmjoaaGreatDoor
open Go.RowKit
set_option linter.unusedSimpArgs false
set_option linter.unusedVariables false

theorem st_load {w : World} {b o : Nat} {x : RSt} (h : ItAt stC w b o x) : (Instr.loadAt TRs (.pointer (some ⟨b, o, none⟩))).run Tryz.prog w = .ok (stV x) w :=
  run_loadAt_mid w b o TRs (stC x) _ h Tryz.underlying35 rfl (by kernel_rfl)
end Go.Proofs.YtilkbfmaofmjoaaGreatDoor
/-
  Whatever is laid and let go, the roster is what the document says: the law RosterPlays, walked (layer 19).
-/
namespace Go.Proofs.YtilkbfmaofmjoaaGreatDoor
open Go.RowKit Go.Rel
set_option linter.unusedSimpArgs false
set_option linter.unusedVariables false

/-- Within the law's region: its first call is the step. -/
structure PI (base : Nat) (W0 : World) (B B1 B2 B3 m D md : Nat) (d d' : Ro) (f : Nat → Bool) (w : World) : Prop where
  a : f 6 = false → Below W0.heap.size W0 w
  b : f 6 = true → Both base w B B1 B2 B3 m d' D md d' ∧ But (Ch4 B1 B2 B3 D) W0 w
section
variable {base : Nat} {W0 w w' : World} {B B1 B2 B3 m D md : Nat} {d d' : Ro} {f : Nat → Bool} {i : Nat}
theorem PI.start : PI base W0 B B1 B2 B3 m D md d d' (fun _ => false) { W0 with drawn := W0.drawn + 1 } := ⟨fun _ => ⟨rfl, rfl, rfl, Nat.le_refl _, fun _ _ => rfl⟩, fun z => by cases z⟩
theorem PI.read (hi : i ≠ 6) (h : PI base W0 B B1 B2 B3 m D md d d' f w) : PI base W0 B B1 B2 B3 m D md d d' (Go.Rel.upd f i) w := by
  have e : Go.Rel.upd f i 6 = f 6 := ale_off hi
  exact ⟨fun z => h.a (e.symm.trans z), fun z => h.b (e.symm.trans z)⟩
theorem PI.main (h : Both base w B B1 B2 B3 m d' D md d') (hb : But (Ch4 B1 B2 B3 D) W0 w) : PI base W0 B B1 B2 B3 m D md d d' (Go.Rel.upd f 6) w := by
  have e : Go.Rel.upd f 6 6 = true := ale_on 6
  exact ⟨(fun z => by rw [e] at z; cases z), fun _ => ⟨h, hb⟩⟩
theorem PI.below (hi : i ≠ 6) (h : PI base W0 B B1 B2 B3 m D md d d' f w) (hb : Below w.heap.size w w') : PI base W0 B B1 B2 B3 m D md d d' (Go.Rel.upd f i) w' := by
  have e : Go.Rel.upd f i 6 = f 6 := ale_off hi
  refine ⟨fun z => ?_, fun z => ?_⟩
  · have := h.a (e.symm.trans z)
    exact this.trans (hb.mono this.size)
  · have := h.b (e.symm.trans z)
    exact ⟨this.1.below hb, this.2.trans (But.of_below hb)⟩
end
theorem finL_app {ea : Nat → Value} : ∀ (l1 l2 : List Oper) (i : Nat) (t : Array Value), Go.Rel.finL i (l1 ++ l2) ea t = Go.Rel.finL (i + l1.length) l2 ea (Go.Rel.finL i l1 ea t)
  | [], l2, i, t => rfl
  | o :: l1, l2, i, t => by
    rw [List.cons_append, Go.Rel.finL, finL_app l1 l2 (i + 1), Go.Rel.finL, List.length_cons, Nat.add_assoc, Nat.add_comm 1]
theorem both_same {base : Nat} {w : World} {B B1 B2 B3 m D md : Nat} {d : Ro} (h : Both base w B B1 B2 B3 m d D md d) : Calls Tryz.prog 12 #[.pointer (some ⟨B, 0, none⟩), .pointer (some ⟨D, 0, none⟩)] w fun e w' => e = .returned (.bool true) ∧ Below w.heap.size w w' := by
  obtain ⟨Sp, h1⟩ := h.read
  obtain ⟨Sd, A1, A2, A3, c1, c2, c3, l2, hok, hd⟩ := h.ref
  exact same_yes h1 hd
theorem both_health {base : Nat} {w : World} {B B1 B2 B3 m D md : Nat} {d d2 : Ro} (h : Both base w B B1 B2 B3 m d D md d2) (node : Int) (svc : ByteArray) (hn : -9223372036854775808 ≤ node ∧ node ≤ 9223372036854775807) : (Calls Tryz.prog 13 #[.pointer (some ⟨B, 0, none⟩), .int .i64 node, .string svc] w fun e w' => e = .returned (.int .i64 (d.health node svc)) ∧ Below w.heap.size w w') ∧ Calls Tryz.prog 14 #[.pointer (some ⟨D, 0, none⟩), .int .i64 node, .string svc] w fun e w' => e = .returned (.int .i64 (d2.health node svc)) ∧ Below w.heap.size w w' := by
  obtain ⟨Sp, h1⟩ := h.read
  obtain ⟨Sd, h2, _⟩ := h.right
  exact ⟨rhealth_any node svc h1 hn, rdhealth_any node svc h2⟩
theorem Both.pw {base : Nat} {w : World} {B B1 B2 B3 m D md : Nat} {d d2 : Ro} (h : Both base w B B1 B2 B3 m d D md d2) : PwIs w := by
  obtain ⟨Sp, h1⟩ := h.read
  exact h1.pw
theorem Both.keep {base : Nat} {w W w' : World} {B B1 B2 B3 m D md : Nat} {d d2 : Ro} (h : Both base W B B1 B2 B3 m d D md d2) (hb : Below base w W) (hc : But (Ch4 B1 B2 B3 D) W w') : Below base w w' := by
  have hch := h.ch
  exact hb.trans (hc.below h.top fun k hk e => by have := hch k e; omega)
def rplE (B : Nat) (D : Nat) (b : Nat) (off : Nat) (k : Nat) (s : RSt) (v1 : Int) (v2 : Int) (n : Nat) (c : Nat) : Nat → Value
  | 0 | 9 | 15 | 42 => .pointer (some ⟨B, 0, none⟩)
  | 1 | 10 | 27 | 56 => .pointer (some ⟨D, 0, none⟩)
  | 2 | 16 | 21 | 28 | 33 | 43 | 49 | 57 | 63 => .slice (some ⟨b, off, none⟩) n c
  | 3 | 17 | 22 | 29 | 34 | 44 | 50 | 58 | 64 => .int .i64 (k : Int)
  | 4 | 18 | 23 | 30 | 35 | 45 | 51 | 59 | 65 => .pointer (some ⟨b, off + k * 18, none⟩)
  | 5 => .agg #[.int .i64 s.kind, .int .i64 s.node, .string s.text, .int .i64 s.s.val.a.node, .string s.s.val.a.id, .string s.s.val.a.name, .slice s.s.val.A s.s.val.n s.s.val.c, .int .i64 s.s.val.a.port, .int .u64 (s.s.made : Int), .int .u64 (s.s.ix : Int), .int .i64 s.c.val.node, .string s.c.val.id, .string s.c.val.svc, .string s.c.val.note, .int .i64 s.c.val.status, .int .u64 (s.c.made : Int), .int .u64 (s.c.ix : Int), .int .u64 (s.ix : Int)]
  | 6 | 11 => .bool true
  | 7 | 8 | 12 | 13 | 14 | 39 | 40 | 41 | 70 | 71 => .bool false
  | 19 | 31 => .pointer (some ⟨b, off + k * 18 + 1, none⟩)
  | 20 | 32 => .int .i64 s.node
  | 24 | 36 => .pointer (some ⟨b, off + k * 18 + 2, none⟩)
  | 25 | 37 => .string s.text
  | 26 | 38 => .int .i64 v1
  | 46 | 47 | 52 | 60 | 61 | 66 => .pointer (some ⟨b, off + k * 18 + 3, none⟩)
  | 48 | 62 => .int .i64 s.s.val.a.node
  | 53 | 67 => .pointer (some ⟨b, off + k * 18 + 3 + 1, none⟩)
  | 54 | 68 => .string s.s.val.a.id
  | 55 | 69 => .int .i64 v2
  | _ => undef
set_option maxHeartbeats 8000000 in
set_option maxRecDepth 100000 in
theorem plays_walk (mo : Int) (hm : -9223372036854775808 ≤ mo ∧ mo ≤ 9223372036854775807) (A : Option Addr) (n c : Nat) (ss : List RSt) (w : World) (hS : SK stC 18 w A n ss) (hok : ∀ s ∈ ss, s.Ok w) (hn : n ≤ maxLen) (hp : PwIs w) :
    Calls Tryz.prog 3 #[.int .i64 mo, .slice A n c] w fun e w' => e = .returned (.bool true) ∧ Below w.heap.size w w' := by
  unfold maxLen at hn
  have hn' : (n : Int) ≤ 9223372036854775807 := by omega
  obtain ⟨base, hbase⟩ : ∃ g0, w.heap.size = g0 := ⟨_, rfl⟩
  have HN := Lib.hid (rnew_any mo w hm hp)
  have HNd := Lib.hid (fun w1 (hz : w.heap.size ≤ w1.heap.size) => rdnew_any mo w1 w.heap.size hm hz)
  have HG : Hid (gPw < base) := Lib.hid (hbase ▸ hp.lt)
  obtain ⟨m, hmm⟩ : ∃ m, mostT mo = m := ⟨_, rfl⟩
  rw [hmm] at HN HNd
  have HSS := Lib.hid hS
  have HSl := Lib.hid hS.1
  have HOk := Lib.hid hok
  have HTg0 := Lib.hid (fun s (hs : s ∈ ss) => (⟨(hok s hs).s.tx, fun b off e hn => by
    rw [← hbase]
    exact (hok s hs).s.tx.block e hn⟩ : TgAt (fun k => k < base) w s.s.val))
  have HG0 := Lib.hid hbase
  rw [hbase] at HN HNd ⊢
  clear hm hS hok hn hbase hp hmm
  go_enter Tryz.func3, Tryz.ntmps3
  go_wp2_with fail
  refine HN.out.mono ?_
  rintro e w1 ⟨B, B1, B2, B3, rfl, hp, hb1⟩
  have HP1 := Lib.hid hp
  have HB1 := Lib.hid hb1
  have HB1s : Hid (w.heap.size ≤ w1.heap.size) := Lib.hid hb1.size
  clear HN hp hb1
  go_wp2_with fail
  refine (HNd.out w1 (by first | exact HB1s.out | (rw [← HG0.out]; exact HB1s.out))).mono ?_
  rintro e w2 ⟨rfl, hd, hb2⟩
  obtain ⟨D, hD⟩ : ∃ D, w1.heap.size = D := ⟨_, rfl⟩
  rw [hD] at hd ⊢
  have HBo : Hid (Both base w2 B B1 B2 B3 m (Ro.new m) D m (Ro.new m)) := Lib.hid (both_new (by rw [HG0.out]; exact Nat.le_refl _) HG.out (by rw [HG0.out]; exact HP1.out) hd hD HB1s.out hb2)
  have HB2 : Hid (Below base w w2) := Lib.hid (HB1.out.trans (hb2.mono (by rw [← HG0.out]; exact HB1s.out)))
  clear HNd hd hb2 hD HP1 HB1
  go_wp2
  go_loopw [7] (fun iv wr => ∃ (k : Nat) (d : Ro), k ≤ n ∧ iv = .int .i64 (k : Int) ∧ Hid (Both base wr B B1 B2 B3 m d D m d) ∧ Hid (Below base w wr)) (fun iv _ => n - (intOf iv).toNat)
  case atStart => exact ⟨0, _, Nat.zero_le _, rfl, HBo, HB2⟩
  case round =>
    obtain ⟨k, d, hk, rfl, hbo, hb⟩ := hrel
    by_cases hlt : k < n ∧ k < 60
    · obtain ⟨h1, h2⟩ := hlt
      have hkl : k < ss.length := by rw [HSl.out]; exact h1
      obtain ⟨b, off, rfl, hbl, hit0⟩ := HSS.out.at_ h1 hkl
      have hmem : ss[k] ∈ ss := List.getElem_mem _
      obtain ⟨s, hs⟩ : ∃ s, ss[k] = s := ⟨_, rfl⟩
      rw [hs] at hit0 hmem
      obtain ⟨W0, hW0⟩ : ∃ W, wr = W := ⟨_, rfl⟩
      rw [hW0] at hbo hb ⊢
      have HBo0 := Lib.hid hbo.out
      have hok := HOk.out s hmem
      have hbw : Below w.heap.size w W0 := by rw [HG0.out]; exact hb.out
      obtain ⟨d', hd'⟩ : ∃ d', (s.after d).2 = d' := ⟨_, rfl⟩
      have HEl : Hid (∀ W, But (Ch4 B1 B2 B3 D) W0 W → ItAt stC W b (off + k * 18) s) := Lib.hid fun W hW => by
        have h9 := (HSS.out.below (w' := W) (by rw [HG0.out]; exact HBo0.out.keep hb.out hW))
        obtain ⟨b', off', e', _, h8⟩ := h9.at_ h1 hkl
        cases e'
        rw [hs] at h8
        exact h8
      have HStep := Lib.hid (fun W (hW : Below W0.heap.size W0 W) => (by
        have h9 := step_same s (HBo0.out.below hW) (hok.below (hbw.trans (hW.mono hbw.size))) ((HTg0.out s hmem).below (hbw.trans (hW.mono hbw.size)))
        rw [hd'] at h9
        unfold stV at h9
        exact h9 : Calls Tryz.prog 11 #[.pointer (some ⟨B, 0, none⟩), .pointer (some ⟨D, 0, none⟩), .agg #[.int .i64 s.kind, .int .i64 s.node, .string s.text, .int .i64 s.s.val.a.node, .string s.s.val.a.id, .string s.s.val.a.name, .slice s.s.val.A s.s.val.n s.s.val.c, .int .i64 s.s.val.a.port, .int .u64 (s.s.made : Int), .int .u64 (s.s.ix : Int), .int .i64 s.c.val.node, .string s.c.val.id, .string s.c.val.svc, .string s.c.val.note, .int .i64 s.c.val.status, .int .u64 (s.c.made : Int), .int .u64 (s.c.ix : Int), .int .u64 (s.ix : Int)]] W fun e w' => e = .returned (.bool true) ∧ Both base w' B B1 B2 B3 m d' D m d' ∧ But (Ch4 B1 B2 B3 D) W w'))
      have HSame := Lib.hid (fun W (hW : Both base W B B1 B2 B3 m d' D m d') => both_same hW)
      obtain ⟨v1, hv1⟩ : ∃ v, d'.health s.node s.text = v := ⟨_, rfl⟩
      obtain ⟨v2, hv2⟩ : ∃ v, d'.health s.s.val.a.node s.s.val.a.id = v := ⟨_, rfl⟩
      have HHp := Lib.hid (fun W (hW : Both base W B B1 B2 B3 m d' D m d') => hv1 ▸ (both_health hW s.node s.text hok.node).1)
      have HHd := Lib.hid (fun W (hW : Both base W B B1 B2 B3 m d' D m d') => hv1 ▸ (both_health hW s.node s.text hok.node).2)
      have HHp2 := Lib.hid (fun W (hW : Both base W B B1 B2 B3 m d' D m d') => hv2 ▸ (both_health hW s.s.val.a.node s.s.val.a.id hok.s.node).1)
      have HHd2 := Lib.hid (fun W (hW : Both base W B B1 B2 B3 m d' D m d') => hv2 ▸ (both_health hW s.s.val.a.node s.s.val.a.id hok.s.node).2)
      have HHb := Lib.hid hb.out
      have q1 : (k : Int) < (n : Int) := by omega
      have q2 : (k : Int) < 60 := by omega
      have q0 : (0 : Int) ≤ (k : Int) := by omega
      clear hit0 hs hmem hkl hok hbw hd' hv1 hv2 hW0 hbo hb
      go_wp2_with fail
      have hre : ∀ w : World, ((fun _ _ : World => True)) w w := (fun _ => trivial)
      have hrd : ∀ (f : Nat → Bool) w i, i ≠ 6 → ((PI base W0 B B1 B2 B3 m D m d d')) f w → ((PI base W0 B B1 B2 B3 m D m d d')) (Go.Rel.upd f i) w := (fun _ _ _ hi h => h.read hi)
      refine Go.Rel.wp_tab (by kernel_rfl) (by kernel_rfl) ((PI base W0 B B1 B2 B3 m D m d d')) ((fun _ _ : World => True)) hre ((fun _ _ _ _ _ => trivial)) (trivial) PI.start (rplE B D b off k s v1 v2 n c) (fun _ _ _ => True) (fun i => ([] : List Nat).contains i) (fun i => ([4, 5, 6, 11, 18, 20, 23, 25, 26, 30, 32, 35, 37, 38, 39, 45, 48, 51, 54, 55, 59, 62, 65, 68, 69, 70] : List Nat).contains i) (by kernel_rfl) (fun _ _ _ _ h _ => h) 6 rfl hrd ?_ (Go.Rel.AllOf.get ?_) ?_
      · repeat (refine .cons (by first | exact Go.Rel.pure_sp rfl | exact Go.Rel.pure_yes (by kernel_rfl) (fun _ => by kernel_rfl) | exact Go.Rel.pure_no (by kernel_rfl) rfl) ?_)
        exact .nil
      · refine ⟨?_, ?_, ?_, ?_, ?_, ?_, ?_, ?_, ?_, ?_, ?_, ?_, ?_, ?_, ?_, ?_, ?_, ?_, ?_, ?_, ?_, ?_, ?_, ?_, ?_, ?_, trivial⟩
        · refine SpecOk.gen (fun e => [(24, .slice (some ⟨b, off, none⟩) n c), (25, .int .i64 (k : Int))]) rfl rfl (fun _ => by kernel_rfl) fun f w' e hI hf hdesc hanc hle hX K hK => ?_
          have g1 := q1
          go_simp
          exact hK _ _ (hre w') (hrd f w' 4 (by decide) hI) rfl
        · exact SpecOk.ld hrd hre (q := .pointer (some ⟨b, off + k * 18, none⟩)) (h := fun _ w' hI _ hdesc _ _ => by exact st_load (HEl.out w' (But.of_below (hI.a (hdesc 60 6 (by kernel_rfl))))))
        · refine SpecOk.call 11 #[.pointer (some ⟨B, 0, none⟩), .pointer (some ⟨D, 0, none⟩), .agg #[.int .i64 s.kind, .int .i64 s.node, .string s.text, .int .i64 s.s.val.a.node, .string s.s.val.a.id, .string s.s.val.a.name, .slice s.s.val.A s.s.val.n s.s.val.c, .int .i64 s.s.val.a.port, .int .u64 (s.s.made : Int), .int .u64 (s.s.ix : Int), .int .i64 s.c.val.node, .string s.c.val.id, .string s.c.val.svc, .string s.c.val.note, .int .i64 s.c.val.status, .int .u64 (s.c.made : Int), .int .u64 (s.c.ix : Int), .int .u64 (s.ix : Int)]] rfl (by kernel_rfl) (fun _ => by kernel_rfl) fun _ w' hI hf _ _ _ => ?_
          refine (HStep.out w' (hI.a hf)).mono ?_
          rintro e9 w9 ⟨rfl, h9, hb9⟩
          exact ⟨_, rfl, trivial, (PI.main h9 ((But.of_below (hI.a hf)).trans hb9)), rfl⟩
        · refine SpecOk.call 12 #[.pointer (some ⟨B, 0, none⟩), .pointer (some ⟨D, 0, none⟩)] rfl (by kernel_rfl) (fun _ => by kernel_rfl) fun f w' hI _ _ hanc _ => ?_
          have z6 : f 6 = true := hanc 60 6 (by kernel_rfl)
          refine (HSame.out w' (hI.b z6).1).mono ?_
          rintro e9 w9 ⟨rfl, hb9⟩
          exact ⟨_, rfl, trivial, (PI.below (by decide) hI hb9), rfl⟩
        · refine SpecOk.gen (fun e => [(38, .slice (some ⟨b, off, none⟩) n c), (39, .int .i64 (k : Int))]) rfl rfl (fun _ => by kernel_rfl) fun f w' e hI hf hdesc hanc hle hX K hK => ?_
          have g1 := q1
          go_simp
          exact hK _ _ (hre w') (hrd f w' 18 (by decide) hI) rfl
        · exact SpecOk.ld hrd hre (q := .pointer (some ⟨b, off + k * 18 + 1, none⟩)) (h := fun f w' hI _ _ hanc _ => by have z6 : f 6 = true := hanc 60 6 (by kernel_rfl); have yy := st_cells (HEl.out w' ((hI.b z6).2)); go_simp; rfl)
        · refine SpecOk.gen (fun e => [(43, .slice (some ⟨b, off, none⟩) n c), (44, .int .i64 (k : Int))]) rfl rfl (fun _ => by kernel_rfl) fun f w' e hI hf hdesc hanc hle hX K hK => ?_
          have g1 := q1
          go_simp
          exact hK _ _ (hre w') (hrd f w' 23 (by decide) hI) rfl
        · exact SpecOk.ld hrd hre (q := .pointer (some ⟨b, off + k * 18 + 2, none⟩)) (h := fun f w' hI _ _ hanc _ => by have z6 : f 6 = true := hanc 60 6 (by kernel_rfl); have yy := st_cells (HEl.out w' ((hI.b z6).2)); go_simp; rfl)
        · refine SpecOk.call 13 #[.pointer (some ⟨B, 0, none⟩), .int .i64 s.node, .string s.text] rfl (by kernel_rfl) (fun _ => by kernel_rfl) fun f w' hI _ _ hanc _ => ?_
          have z6 : f 6 = true := hanc 60 6 (by kernel_rfl)
          refine (HHp.out w' (hI.b z6).1).mono ?_
          rintro e9 w9 ⟨rfl, hb9⟩
          exact ⟨_, rfl, trivial, (PI.below (by decide) hI hb9), rfl⟩
        · refine SpecOk.gen (fun e => [(50, .slice (some ⟨b, off, none⟩) n c), (51, .int .i64 (k : Int))]) rfl rfl (fun _ => by kernel_rfl) fun f w' e hI hf hdesc hanc hle hX K hK => ?_
          have g1 := q1
          go_simp
          exact hK _ _ (hre w') (hrd f w' 30 (by decide) hI) rfl
        · exact SpecOk.ld hrd hre (q := .pointer (some ⟨b, off + k * 18 + 1, none⟩)) (h := fun f w' hI _ _ hanc _ => by have z6 : f 6 = true := hanc 60 6 (by kernel_rfl); have yy := st_cells (HEl.out w' ((hI.b z6).2)); go_simp; rfl)
        · refine SpecOk.gen (fun e => [(55, .slice (some ⟨b, off, none⟩) n c), (56, .int .i64 (k : Int))]) rfl rfl (fun _ => by kernel_rfl) fun f w' e hI hf hdesc hanc hle hX K hK => ?_
          have g1 := q1
          go_simp
          exact hK _ _ (hre w') (hrd f w' 35 (by decide) hI) rfl
        · exact SpecOk.ld hrd hre (q := .pointer (some ⟨b, off + k * 18 + 2, none⟩)) (h := fun f w' hI _ _ hanc _ => by have z6 : f 6 = true := hanc 60 6 (by kernel_rfl); have yy := st_cells (HEl.out w' ((hI.b z6).2)); go_simp; rfl)
        · refine SpecOk.call 14 #[.pointer (some ⟨D, 0, none⟩), .int .i64 s.node, .string s.text] rfl (by kernel_rfl) (fun _ => by kernel_rfl) fun f w' hI _ _ hanc _ => ?_
          have z6 : f 6 = true := hanc 60 6 (by kernel_rfl)
          refine (HHd.out w' (hI.b z6).1).mono ?_
          rintro e9 w9 ⟨rfl, hb9⟩
          exact ⟨_, rfl, trivial, (PI.below (by decide) hI hb9), rfl⟩
        · refine SpecOk.gen (fun e => [(48, .int .i64 v1), (60, .int .i64 v1)]) rfl rfl (fun _ => by kernel_rfl) fun f w' e hI hf hdesc hanc hle hX K hK => ?_
          have qv : (((v1 : Int)) != v1) = false := by simp
          go_simp
          exact hK _ _ (hre w') (hrd f w' 39 (by decide) hI) rfl
        · refine SpecOk.gen (fun e => [(65, .slice (some ⟨b, off, none⟩) n c), (66, .int .i64 (k : Int))]) rfl rfl (fun _ => by kernel_rfl) fun f w' e hI hf hdesc hanc hle hX K hK => ?_
          have g1 := q1
          go_simp
          exact hK _ _ (hre w') (hrd f w' 45 (by decide) hI) rfl
        · exact SpecOk.ld hrd hre (q := .pointer (some ⟨b, off + k * 18 + 3, none⟩)) (h := fun f w' hI _ _ hanc _ => by have z6 : f 6 = true := hanc 60 6 (by kernel_rfl); have yy := st_cells (HEl.out w' ((hI.b z6).2)); go_simp; rfl)
        · refine SpecOk.gen (fun e => [(71, .slice (some ⟨b, off, none⟩) n c), (72, .int .i64 (k : Int))]) rfl rfl (fun _ => by kernel_rfl) fun f w' e hI hf hdesc hanc hle hX K hK => ?_
          have g1 := q1
          go_simp
          exact hK _ _ (hre w') (hrd f w' 51 (by decide) hI) rfl
        · exact SpecOk.ld hrd hre (q := .pointer (some ⟨b, off + k * 18 + 3 + 1, none⟩)) (h := fun f w' hI _ _ hanc _ => by have z6 : f 6 = true := hanc 60 6 (by kernel_rfl); have yy := st_cells (HEl.out w' ((hI.b z6).2)); go_simp; rfl)
        · refine SpecOk.call 13 #[.pointer (some ⟨B, 0, none⟩), .int .i64 s.s.val.a.node, .string s.s.val.a.id] rfl (by kernel_rfl) (fun _ => by kernel_rfl) fun f w' hI _ _ hanc _ => ?_
          have z6 : f 6 = true := hanc 60 6 (by kernel_rfl)
          refine (HHp2.out w' (hI.b z6).1).mono ?_
          rintro e9 w9 ⟨rfl, hb9⟩
          exact ⟨_, rfl, trivial, (PI.below (by decide) hI hb9), rfl⟩
        · refine SpecOk.gen (fun e => [(79, .slice (some ⟨b, off, none⟩) n c), (80, .int .i64 (k : Int))]) rfl rfl (fun _ => by kernel_rfl) fun f w' e hI hf hdesc hanc hle hX K hK => ?_
          have g1 := q1
          go_simp
          exact hK _ _ (hre w') (hrd f w' 59 (by decide) hI) rfl
        · exact SpecOk.ld hrd hre (q := .pointer (some ⟨b, off + k * 18 + 3, none⟩)) (h := fun f w' hI _ _ hanc _ => by have z6 : f 6 = true := hanc 60 6 (by kernel_rfl); have yy := st_cells (HEl.out w' ((hI.b z6).2)); go_simp; rfl)
        · refine SpecOk.gen (fun e => [(85, .slice (some ⟨b, off, none⟩) n c), (86, .int .i64 (k : Int))]) rfl rfl (fun _ => by kernel_rfl) fun f w' e hI hf hdesc hanc hle hX K hK => ?_
          have g1 := q1
          go_simp
          exact hK _ _ (hre w') (hrd f w' 65 (by decide) hI) rfl
        · exact SpecOk.ld hrd hre (q := .pointer (some ⟨b, off + k * 18 + 3 + 1, none⟩)) (h := fun f w' hI _ _ hanc _ => by have z6 : f 6 = true := hanc 60 6 (by kernel_rfl); have yy := st_cells (HEl.out w' ((hI.b z6).2)); go_simp; rfl)
        · refine SpecOk.call 14 #[.pointer (some ⟨D, 0, none⟩), .int .i64 s.s.val.a.node, .string s.s.val.a.id] rfl (by kernel_rfl) (fun _ => by kernel_rfl) fun f w' hI _ _ hanc _ => ?_
          have z6 : f 6 = true := hanc 60 6 (by kernel_rfl)
          refine (HHd2.out w' (hI.b z6).1).mono ?_
          rintro e9 w9 ⟨rfl, hb9⟩
          exact ⟨_, rfl, trivial, (PI.below (by decide) hI hb9), rfl⟩
        · refine SpecOk.gen (fun e => [(77, .int .i64 v2), (91, .int .i64 v2)]) rfl rfl (fun _ => by kernel_rfl) fun f w' e hI hf hdesc hanc hle hX K hK => ?_
          have qv : (((v2 : Int)) != v2) = false := by simp
          go_simp
          exact hK _ _ (hre w') (hrd f w' 70 (by decide) hI) rfl
      · intro f w3 e hall hJ hle hv
        have h9 := hJ.b (hall 6 (by decide))
        have v9 := hv 71 rfl
        simp only [List.append_eq, List.cons_append, List.nil_append, Go.Rel.finL, List.setIfInBounds_toArray, List.set_cons_succ, List.set_cons_zero]
        rw [show e 71 = .bool false from v9]
        have HB9 := Lib.hid h9.1
        have HK9 := Lib.hid (HBo0.out.keep HHb.out h9.2)
        clear hv hall hJ hle h9 v9
        go_wp2
        go_roundw
        case rel => exact ⟨k + 1, d', by omega, by go_num, HB9, HK9⟩
        case measure => simp [intOf]; omega
    · obtain ⟨W0, hW0⟩ : ∃ W, wr = W := ⟨_, rfl⟩
      rw [hW0] at hbo hb ⊢
      have HBo0 := Lib.hid hbo.out
      have HSame := Lib.hid (fun W (hW : Below W0.heap.size W0 W) => both_same (HBo0.out.below hW))
      have HWk := Lib.hid (fun W (hW : Below W0.heap.size W0 W) => works_any W (HBo0.out.below hW).pw)
      have HTop := Lib.hid hbo.out.top
      have HHb := Lib.hid hb.out
      clear hW0 hbo hb
      rcases (show ¬ k < n ∨ (k < n ∧ ¬ k < 60) by omega) with q1 | ⟨q1, q2⟩
      all_goals
        go_wp2_with fail
        refine (HSame.out W0 (Below.refl _ _)).mono ?_
        rintro e w3 ⟨rfl, hb3⟩
        have HB3 := Lib.hid hb3
        clear hb3
        go_wp2_with fail
        refine (HWk.out w3 HB3.out).mono ?_
        rintro e w4 ⟨rfl, hb4⟩
        have HJ := Lib.hid (HHb.out.trans ((HB3.out.trans (hb4.mono HB3.out.size)).mono HTop.out))
        clear hb4
        go_wp2
        go_ret
        exact ⟨rfl, HJ.out⟩
end Go.Proofs.YtilkbfmaofmjoaaGreatDoor
/-
  One check more, one less: health, in plain words (layer 19).
-/
namespace Go.Proofs.YtilkbfmaofmjoaaGreatDoor
open Go.RowKit
set_option linter.unusedSimpArgs false
set_option linter.unusedVariables false

theorem worst_le {svc : ByteArray} {k : Int} : ∀ {l : List (Rw CkA)} {m : Int}, worst svc m l ≤ k ↔ m ≤ k ∧ ∀ r ∈ l, forSvc svc r.val = true → r.val.status ≤ k
  | [], m => by simp [worst]
  | r :: l, m => by
    have h : worst svc m (r :: l) = worst svc (if forSvc svc r.val then max m r.val.status else m) l := rfl
    rw [h, worst_le]
    cases e : forSvc svc r.val with
    | true =>
      simp only [if_true, List.mem_cons, forall_eq_or_imp, e, true_implies]
      constructor
      · rintro ⟨h1, h2⟩
        exact ⟨by omega, by omega, h2⟩
      · rintro ⟨h1, h2, h3⟩
        exact ⟨by omega, h3⟩
    | false =>
      rw [if_neg (by simp)]
      constructor
      · rintro ⟨h1, h2⟩
        refine ⟨h1, fun r2 hr he => ?_⟩
        rcases List.mem_cons.1 hr with rfl | hr
        · rw [e] at he; cases he
        · exact h2 r2 hr he
      · rintro ⟨h1, h2⟩
        exact ⟨h1, fun r2 hr he => h2 r2 (List.mem_cons_of_mem _ hr) he⟩
theorem Ro.health_le {d : Ro} {n : Int} {svc : ByteArray} {k : Int} : d.health n svc ≤ k ↔ 0 ≤ k ∧ ∀ r ∈ d.c.l, r.val.node = n → forSvc svc r.val = true → r.val.status ≤ k := by
  unfold Ro.health
  rw [worst_le]
  constructor
  · rintro ⟨h1, h2⟩
    exact ⟨h1, fun r hr hn he => h2 r (List.mem_filter.2 ⟨hr, by simpa using hn⟩) he⟩
  · rintro ⟨h1, h2⟩
    exact ⟨h1, fun r hr he => h2 r (List.mem_filter.1 hr).1 (by simpa using (List.mem_filter.1 hr).2) he⟩
theorem mem_layR {α : Type} {r x : Rw α} (hk : x.key ≠ r.key) : ∀ {b : Bool} {l : List (Rw α)}, x ∈ l → x ∈ layR r b l
  | b, y :: l, h => by
    rw [layR]
    rcases List.mem_cons.1 h with rfl | h
    · rw [if_neg (by rw [text_other.2 hk]; simp)]
      split <;> simp
    · split
      · exact List.mem_cons_of_mem _ (mem_layR hk h)
      · split
        · exact List.mem_cons_of_mem _ (List.mem_cons_of_mem _ (mem_layR hk h))
        · exact List.mem_cons_of_mem _ (mem_layR hk h)
theorem layR_self {α : Type} {r : Rw α} : ∀ {l : List (Rw α)}, r ∈ layR r false l
  | [] => by simp [layR]
  | y :: l => by
    rw [layR]
    split
    · exact List.mem_cons_self
    · split
      · exact List.mem_cons_self
      · exact List.mem_cons_of_mem _ layR_self
section
variable {m : Nat} {d : Ro} {x : CkA} {i : Nat}
theorem check_not (h : (d.check x i).1 ≠ 0) : (d.check x i).2 = d := by
  unfold Ro.check at h ⊢
  split
  · rfl
  · rename_i hw
    rw [if_neg hw] at h
    unfold layE at h
    unfold Tb.putT
    split at h
    · rename_i hf
      rw [if_pos hf]
    · exact absurd rfl h
/-- What is there behind a check that was laid. -/
theorem check_laid (h : (d.check x i).1 = 0) : (∀ r ∈ d.c.l, r.key ≠ x.key → r ∈ (d.check x i).2.c.l) ∧ (∀ r ∈ (d.check x i).2.c.l, (r.key = x.key ∧ r.val = x) ∨ r ∈ d.c.l) ∧ ∃ r ∈ (d.check x i).2.c.l, r.key = x.key := by
  unfold Ro.check at h ⊢
  split
  · rename_i hw
    rw [if_pos hw] at h
    exact absurd h hw
  · rename_i hw
    rw [if_neg hw] at h
    unfold layE at h
    have hf : d.c.fullB x.key = false := by
      cases e : d.c.fullB x.key with
      | false => rfl
      | true => rw [e] at h; simp at h
    refine ⟨fun r hr hk => ?_, fun r hr => putT_mem hr, ?_⟩
    · show r ∈ (d.c.putT x.key x i).l
      unfold Tb.putT
      rw [hf]
      exact mem_layR hk hr
    · refine ⟨d.c.row x.key x i, ?_, rfl⟩
      show _ ∈ (d.c.putT x.key x i).l
      unfold Tb.putT
      rw [hf]
      exact layR_self
theorem dropC_mem {n : Int} {id : ByteArray} {r : Rw CkA} (h : r ∈ (d.dropC n id i).2.c.l) : r ∈ d.c.l := by
  unfold Ro.dropC at h
  split at h
  · exact h
  · exact (dropT_mem h).1
theorem dropC_out {n : Int} {id : ByteArray} {r : Rw CkA} (h : r ∈ (d.dropC n id i).2.c.l) (hp : (d.dropC n id i).1 = 0) : r.key ≠ keyO n id := by
  unfold Ro.dropC at h hp
  split at h
  · rename_i e
    rw [if_pos e] at hp
    cases hp
  · exact (dropT_mem h).2
theorem mem_dropC {n : Int} {id : ByteArray} {r : Rw CkA} (h : r ∈ d.c.l) (hk : r.key ≠ keyO n id) : r ∈ (d.dropC n id i).2.c.l := by
  unfold Ro.dropC
  split
  · exact h
  · exact mem_dropT h hk
theorem dropC_yes {n : Int} {id : ByteArray} (h : ∃ r ∈ d.c.l, r.key = keyO n id) : (d.dropC n id i).1 = 0 := by
  unfold Ro.dropC
  rw [getR_iff.2 h, if_neg (by simp)]
/-- With one check more health is not better. -/
theorem health_more (h : (d.check x i).1 = 0) (hn : ∀ r ∈ d.c.l, r.key ≠ x.key) (n : Int) (svc : ByteArray) : d.health n svc ≤ (d.check x i).2.health n svc := by
  have h1 := (Ro.health_le (d := (d.check x i).2) (n := n) (svc := svc)).1 (Int.le_refl _)
  exact Ro.health_le.2 ⟨h1.1, fun r hr => h1.2 r ((check_laid h).1 r hr (hn r hr))⟩
/-- With one less it is not worse. -/
theorem health_less {n2 : Int} {id : ByteArray} (n : Int) (svc : ByteArray) : (d.dropC n2 id i).2.health n svc ≤ d.health n svc := by
  have h1 := (Ro.health_le (d := d) (n := n) (svc := svc)).1 (Int.le_refl _)
  exact Ro.health_le.2 ⟨h1.1, fun r hr => h1.2 r (dropC_mem hr)⟩
/-- What is laid and dropped leaves health as it was. -/
theorem health_back {j : Nat} (h : (d.check x i).1 = 0) (hn : ∀ r ∈ d.c.l, r.key ≠ x.key) (n : Int) (svc : ByteArray) : ((d.check x i).2.dropC x.node x.id j).2.health n svc = d.health n svc := by
  obtain ⟨g1, g2, g3⟩ := check_laid h
  have hz := dropC_yes (d := (d.check x i).2) (i := j) (n := x.node) (id := x.id) g3
  apply Int.le_antisymm
  · have h1 := (Ro.health_le (d := d) (n := n) (svc := svc)).1 (Int.le_refl _)
    refine Ro.health_le.2 ⟨h1.1, fun r hr => h1.2 r ?_⟩
    rcases g2 r (dropC_mem hr) with e | e
    · exact absurd e.1 (dropC_out hr hz)
    · exact e
  · have h1 := (Ro.health_le (d := ((d.check x i).2.dropC x.node x.id j).2) (n := n) (svc := svc)).1 (Int.le_refl _)
    exact Ro.health_le.2 ⟨h1.1, fun r hr => h1.2 r (mem_dropC (g1 r hr (hn r hr)) (hn r hr))⟩
end
end Go.Proofs.YtilkbfmaofmjoaaGreatDoor
/-
  With one check more health is not better: the law RosterHealth, walked (layer 19).
-/
namespace Go.Proofs.YtilkbfmaofmjoaaGreatDoor
open Go.RowKit
set_option linter.unusedSimpArgs false
set_option linter.unusedVariables false

set_option maxHeartbeats 8000000 in
set_option maxRecDepth 100000 in
theorem health_walk (A : Option Addr) (n c : Nat) (ss : List RSt) (w : World) (hS : SK stC 18 w A n ss) (hok : ∀ s ∈ ss, s.Ok w) (hn : n ≤ maxLen) (x : Rw CkA) (hx : CkIn x) (hid : x.val.id.size ≤ 140737488355328) (svc : ByteArray) (hp : PwIs w) :
    Calls Tryz.prog 5 #[.slice A n c, ckV x, .string svc] w fun e w' => e = .returned (.bool true) ∧ Below w.heap.size w w' := by
  unfold maxLen at hn
  have hn' : (n : Int) ≤ 9223372036854775807 := by omega
  obtain ⟨base, hbase⟩ : ∃ g0, w.heap.size = g0 := ⟨_, rfl⟩
  have b0 := below1 w #[.int .i64 x.val.node, .string x.val.id, .string x.val.svc, .string x.val.note, .int .i64 x.val.status, .int .u64 (x.made : Int), .int .u64 (x.ix : Int)] TCk
  have k0 := heap_alloc_new w (.cells #[.int .i64 x.val.node, .string x.val.id, .string x.val.svc, .string x.val.note, .int .i64 x.val.status, .int .u64 (x.made : Int), .int .u64 (x.ix : Int)] TCk)
  obtain ⟨W1, hW1⟩ : ∃ W1, w.alloc (.cells #[.int .i64 x.val.node, .string x.val.id, .string x.val.svc, .string x.val.note, .int .i64 x.val.status, .int .u64 (x.made : Int), .int .u64 (x.ix : Int)] TCk) = W1 := ⟨_, rfl⟩
  have s0 : W1.heap.size = base + 1 := by rw [← hW1, ← hbase]; simp
  rw [hW1] at b0 k0
  rw [hbase] at k0
  have HK0 := Lib.hid k0
  have HB0 : Hid (Below base w W1) := Lib.hid (hbase ▸ b0)
  have HS0 := Lib.hid s0
  have HW1 := Lib.hid hW1
  have HN := Lib.hid (rnew_any 64 W1 (by decide) (hp.below b0))
  have HNd := Lib.hid (fun w1 (hz : W1.heap.size ≤ w1.heap.size) => rdnew_any 64 w1 W1.heap.size (by decide) hz)
  have HG : Hid (gPw < W1.heap.size) := Lib.hid (Nat.lt_of_lt_of_le hp.lt b0.size)
  have hmm : mostT 64 = 64 := by decide
  rw [hmm] at HN HNd
  have HSS := Lib.hid hS
  have HSl := Lib.hid hS.1
  have HOk := Lib.hid hok
  have HIn := Lib.hid hx
  have HIi := Lib.hid hid
  have HTg0 := Lib.hid (fun s (hs : s ∈ ss) => (⟨(hok s hs).s.tx, fun b off e hn => Nat.lt_of_lt_of_le ((hok s hs).s.tx.block e hn) b0.size⟩ : TgAt (fun k => k < W1.heap.size) w s.s.val))
  have HG0 := Lib.hid hbase
  have hw1 : w.heap.size ≤ W1.heap.size := b0.size
  rw [hbase]
  unfold ckV
  clear hS hok hn hp hmm hx hid b0 k0 hW1 s0
  go_enter Tryz.func5, Tryz.ntmps5
  go_wp2_with fail
  rw [HW1.out]
  obtain ⟨bs, hbs⟩ : ∃ b, W1.heap.size = b := ⟨_, rfl⟩
  rw [hbs] at HN HNd HG HTg0 hw1
  have HBs := Lib.hid hbs
  clear hbs
  refine HN.out.mono ?_
  rintro e w1 ⟨B, B1, B2, B3, rfl, hp, hb1⟩
  have HP1 := Lib.hid hp
  have HB1 := Lib.hid hb1
  have HB1s : Hid (bs ≤ w1.heap.size) := Lib.hid (by rw [← HBs.out]; exact hb1.size)
  clear HN hp hb1
  go_wp2_with fail
  refine (HNd.out w1 HB1s.out).mono ?_
  rintro e w2 ⟨rfl, hd, hb2⟩
  obtain ⟨D, hD⟩ : ∃ D, w1.heap.size = D := ⟨_, rfl⟩
  rw [hD] at hd ⊢
  have HBo : Hid (Both bs w2 B B1 B2 B3 64 (Ro.new 64) D 64 (Ro.new 64)) := Lib.hid (both_new (w := W1) (by rw [HBs.out]; exact Nat.le_refl _) HG.out (by rw [HBs.out]; exact HP1.out) hd hD (by rw [HBs.out]; exact HB1s.out) hb2)
  have HB2 : Hid (Below bs W1 w2) := Lib.hid (HB1.out.trans (hb2.mono HB1s.out))
  clear HNd hd hb2 hD HP1 HB1
  go_wp2
  go_loopw [9] (fun iv wr => ∃ (k : Nat) (d : Ro), k ≤ n ∧ iv = .int .i64 (k : Int) ∧ Hid (Both bs wr B B1 B2 B3 64 d D 64 d) ∧ Hid (Below bs W1 wr)) (fun iv _ => n - (intOf iv).toNat)
  case atStart => exact ⟨0, _, Nat.zero_le _, rfl, HBo, HB2⟩
  case round =>
    obtain ⟨k, d, hk, rfl, hbo, hb⟩ := hrel
    have hw9 : Below w.heap.size w wr := by rw [HG0.out]; exact HB0.out.trans (hb.out.mono (by rw [HG0.out] at hw1; exact hw1))
    by_cases hlt : k < n ∧ k < 40
    · obtain ⟨h1, h2⟩ := hlt
      have hkl : k < ss.length := by rw [HSl.out]; exact h1
      obtain ⟨b, off, rfl, hbl, hit⟩ := (HSS.out.below hw9).at_ h1 hkl
      have hmem : ss[k] ∈ ss := List.getElem_mem _
      obtain ⟨s, hs⟩ : ∃ s, ss[k] = s := ⟨_, rfl⟩
      rw [hs] at hit hmem
      have HIt := Lib.hid hit
      have HStep := Lib.hid (by
        have h9 := step_same s hbo.out ((HOk.out s hmem).below hw9) ((HTg0.out s hmem).below hw9)
        unfold stV at h9
        exact h9 : Calls Tryz.prog 11 #[.pointer (some ⟨B, 0, none⟩), .pointer (some ⟨D, 0, none⟩), .agg #[.int .i64 s.kind, .int .i64 s.node, .string s.text, .int .i64 s.s.val.a.node, .string s.s.val.a.id, .string s.s.val.a.name, .slice s.s.val.A s.s.val.n s.s.val.c, .int .i64 s.s.val.a.port, .int .u64 (s.s.made : Int), .int .u64 (s.s.ix : Int), .int .i64 s.c.val.node, .string s.c.val.id, .string s.c.val.svc, .string s.c.val.note, .int .i64 s.c.val.status, .int .u64 (s.c.made : Int), .int .u64 (s.c.ix : Int), .int .u64 (s.ix : Int)]] wr fun e w' => e = .returned (.bool true) ∧ Both bs w' B B1 B2 B3 64 (s.after d).2 D 64 (s.after d).2 ∧ But (Ch4 B1 B2 B3 D) wr w')
      obtain ⟨d', hd'⟩ : ∃ d', (s.after d).2 = d' := ⟨_, rfl⟩
      rw [hd'] at HStep
      have HBo9 := hbo
      have HB9 := hb
      clear hw9 hit hmem hs hkl hd' hbo hb
      go_wp2_with (refine wpList_load_mid rfl TRs (.tmp 32) rfl b (off + k * 18) rfl (stC s) _ HIt.out Tryz.underlying35 rfl (by kernel_rfl) ?_)
      unfold stC
      go_wp2_with fail
      refine HStep.out.mono ?_
      rintro e w3 ⟨rfl, h9, hb9⟩
      have HB3 := Lib.hid h9
      have HK3 := Lib.hid (HBo9.out.keep HB9.out hb9)
      clear h9 hb9
      go_wp2
      go_roundw
      case rel => exact ⟨k + 1, d', by omega, by go_num, HB3, HK3⟩
      case measure => simp [intOf]; omega
    · have hok : RoOk 64 d := by
        obtain ⟨Sp, h9⟩ := hbo.out.read
        exact h9.ok
      have hx0 := (hb.out.block base (by have := hw1; have := HG0.out; have := HS0.out; have := HBs.out; omega)).trans HK0.out
      have HCk := Lib.hid (by
        obtain ⟨Sp, h9⟩ := hbo.out.read
        exact rchecks_any h9 : Calls Tryz.prog 18 #[.pointer (some ⟨B, 0, none⟩)] wr (NewCk wr d.c.l))
      have HBo9 := hbo
      have HB9 := hb
      have HOk9 := Lib.hid hok
      have HX0 := Lib.hid hx0
      clear hw9 hbo hb hok hx0
      rcases (show ¬ k < n ∨ (k < n ∧ ¬ k < 40) by omega) with q1 | ⟨q1, q2⟩
      all_goals
        go_wp2_with fail
        refine HCk.out.mono ?_
        rintro e w3 ⟨A9, c9, rfl, hs9, _, _, hn9, hb9⟩
        obtain ⟨L, hL⟩ : ∃ L, d.c.l.length = L := ⟨_, rfl⟩
        rw [hL] at hs9 ⊢
        have h64 : L ≤ 64 := by rw [← hL]; exact Nat.le_trans HOk9.out.cok.len HOk9.out.cok.most.2
        have HL := Lib.hid hL
        have HSk := Lib.hid hs9
        have HBo3 := Lib.hid (HBo9.out.below hb9)
        have HX3 := Lib.hid ((hb9.block base (block_lt HX0.out)).trans HX0.out)
        have HB3 := Lib.hid (HB9.out.trans (hb9.mono HBo9.out.top))
        have HLx := Lib.hid (block_lt HX3.out)
        clear hL hs9 hn9 hb9
        go_wp2
        go_loopw [10, 12] (fun bv iv wr => ∃ k : Nat, k ≤ L ∧ iv = .int .i64 (k : Int) ∧ bv = .bool ((d.c.l.take k).any (fun r : Rw CkA => idC x.val.node x.val.id r.val)) ∧ Hid (Below w3.heap.size w3 wr)) (fun _ iv _ => L - (intOf iv).toNat)
        case atStart => exact ⟨0, Nat.zero_le _, rfl, rfl, Lib.hid (Below.refl _ _)⟩
        case round =>
          obtain ⟨k, hk, rfl, rfl, hb⟩ := hrel
          have hx3 := (hb.out.block base HLx.out).trans HX3.out
          have hxl := block_lt hx3
          by_cases hlt : k < L
          · have hkl : k < d.c.l.length := by rw [HL.out]; exact hlt
            obtain ⟨b, off, rfl, hbl, hit⟩ := (HSk.out.below hb.out).at_ hlt hkl
            have hst : (d.c.l.take (k + 1)).any (fun r : Rw CkA => idC x.val.node x.val.id r.val) = ((d.c.l.take k).any (fun r : Rw CkA => idC x.val.node x.val.id r.val) || (decide ((d.c.l[k]).val.node = x.val.node) && ((d.c.l[k]).val.id.toList == x.val.id.toList))) := by rw [List.take_succ_eq_append_getElem hkl, List.any_append, List.any_cons, List.any_nil, Bool.or_false]; rfl
            obtain ⟨y, hy⟩ : ∃ y, d.c.l[k] = y := ⟨_, rfl⟩
            rw [hy] at hst hit
            obtain ⟨pb, hpb⟩ : ∃ pb, (d.c.l.take k).any (fun r : Rw CkA => idC x.val.node x.val.id r.val) = pb := ⟨_, rfl⟩
            rw [hpb] at hst ⊢
            obtain ⟨e0, e1, e2, e3, e4, e5, e6⟩ := ck_cells hit
            obtain ⟨z0, z1, z2, z3, z4, z5, z6⟩ := ck_blk hx3
            have HB := hb
            clear hit hy hpb hx3
            cases pb with
            | true =>
              have HSt : Hid ((d.c.l.take (k + 1)).any (fun r : Rw CkA => idC x.val.node x.val.id r.val) = true) := Lib.hid (by rw [hst]; rfl)
              clear hst
              go_wp2
              go_quiet (fail)
              generalize hWq : wr.drewN _ = wq
              have HBq : Hid (Below w3.heap.size w3 wq) := Lib.hid (by rw [← hWq]; exact below_drewN HB.out _)
              clear hWq e0 e1 e2 e3 e4 e5 e6 z0 z1 z2 z3 z4 z5 z6 hxl hbl
              go_wp2
              go_roundw
              case rel => exact ⟨k + 1, by omega, by go_num, by rw [HSt.out], HBq⟩
              case measure => simp [intOf]; omega
            | false =>
              rw [Bool.false_or] at hst
              by_cases q0 : y.val.node = x.val.node
              · have q : (y.val.node == x.val.node) = true := beq_iff_eq.2 q0
                rw [decide_eq_true q0, Bool.true_and] at hst
                cases hz : (y.val.id.toList == x.val.id.toList) with
                | true =>
                  rw [hz] at hst
                  have HSt := Lib.hid hst
                  clear hst q0
                  go_wp2
                  go_quiet (fail)
                  generalize hWq : wr.drewN _ = wq
                  have HBq : Hid (Below w3.heap.size w3 wq) := Lib.hid (by rw [← hWq]; exact below_drewN HB.out _)
                  clear hWq e0 e1 e2 e3 e4 e5 e6 z0 z1 z2 z3 z4 z5 z6 hxl hbl
                  go_wp2
                  go_roundw
                  case rel => exact ⟨k + 1, by omega, by go_num, by rw [HSt.out], HBq⟩
                  case measure => simp [intOf]; omega
                | false =>
                  rw [hz] at hst
                  have HSt := Lib.hid hst
                  clear hst q0
                  go_wp2
                  go_quiet (fail)
                  generalize hWq : wr.drewN _ = wq
                  have HBq : Hid (Below w3.heap.size w3 wq) := Lib.hid (by rw [← hWq]; exact below_drewN HB.out _)
                  clear hWq e0 e1 e2 e3 e4 e5 e6 z0 z1 z2 z3 z4 z5 z6 hxl hbl
                  go_wp2
                  go_roundw
                  case rel => exact ⟨k + 1, by omega, by go_num, by rw [HSt.out], HBq⟩
                  case measure => simp [intOf]; omega
              · have q : (y.val.node == x.val.node) = false := beq_eq_false_iff_ne.2 q0
                rw [decide_eq_false q0, Bool.false_and] at hst
                have HSt := Lib.hid hst
                clear hst q0
                go_wp2
                go_quiet (fail)
                generalize hWq : wr.drewN _ = wq
                have HBq : Hid (Below w3.heap.size w3 wq) := Lib.hid (by rw [← hWq]; exact below_drewN HB.out _)
                clear hWq e0 e1 e2 e3 e4 e5 e6 z0 z1 z2 z3 z4 z5 z6 hxl hbl
                go_wp2
                go_roundw
                case rel => exact ⟨k + 1, by omega, by go_num, by rw [HSt.out], HBq⟩
                case measure => simp [intOf]; omega
          · have ht : d.c.l.take k = d.c.l := List.take_of_length_le (by rw [HL.out]; omega)
            rw [ht]
            obtain ⟨iz, hiz⟩ : ∃ z, d.c.l.any (fun r : Rw CkA => idC x.val.node x.val.id r.val) = z := ⟨_, rfl⟩
            rw [hiz]
            have HIz := Lib.hid hiz
            have HBo4 := Lib.hid (HBo3.out.below hb.out)
            have HB4 := Lib.hid (HB3.out.trans (hb.out.mono HBo3.out.top))
            have HX4 := Lib.hid hx3
            have HKk := Lib.hid hk
            clear ht hx3 hxl hiz hb hk
            obtain ⟨z0, z1, z2, z3, z4, z5, z6⟩ := ck_blk HX4.out
            obtain ⟨h1, hh1⟩ : ∃ h, d.health x.val.node svc = h := ⟨_, rfl⟩
            have HH1 := Lib.hid (hh1 ▸ (both_health HBo4.out x.val.node svc HIn.out.node).1)
            have HHe1 := Lib.hid hh1
            clear hh1
            go_wp2_with fail
            refine HH1.out.mono ?_
            rintro e w5 ⟨rfl, hb5⟩
            have HBo5 := Lib.hid (HBo4.out.below hb5)
            have HB5 := Lib.hid (HB4.out.trans (hb5.mono HBo4.out.top))
            have HX5 := Lib.hid ((hb5.block base (block_lt HX4.out)).trans HX4.out)
            clear hb5 z0 z1 z2 z3 z4 z5 z6 HH1
            obtain ⟨z0, z1, z2, z3, z4, z5, z6⟩ := ck_blk HX5.out
            obtain ⟨⟨er, d5⟩, he⟩ : ∃ r, d.check x.val 99 = r := ⟨_, rfl⟩
            obtain ⟨Sp, hro, hleft⟩ := HBo5.out.left
            have HCh := Lib.hid (HBo5.out.ch)
            have HTp := Lib.hid HBo5.out.top
            have hck := rcheck_any x 99 hro HIn.out (by decide)
            unfold ckV at hck
            rw [he] at hck
            have HCk5 := Lib.hid hck
            have HLe := Lib.hid hleft
            have HE := Lib.hid he
            clear hck hro hleft he
            go_wp2_with fail
            refine HCk5.out.mono ?_
            rintro e w6 ⟨rfl, hro, hb6⟩
            have HBo6 := Lib.hid (HLe.out w6 d5 hro hb6)
            have hb7 : Below bs w5 w6 := hb6.below HTp.out fun k hk e => by have := HCh.out k (.inl e); omega
            have HB6 := Lib.hid (HB5.out.trans hb7)
            have hbl : base < bs := by have := HS0.out; have := HBs.out; omega
            have HX6 := Lib.hid ((hb7.block base hbl).trans HX5.out)
            clear hb6 hb7 hro hbl z0 z1 z2 z3 z4 z5 z6 HCk5 HLe
            obtain ⟨z0, z1, z2, z3, z4, z5, z6⟩ := ck_blk HX6.out
            obtain ⟨h2, hh2⟩ : ∃ h, d5.health x.val.node svc = h := ⟨_, rfl⟩
            have HH2 := Lib.hid (hh2 ▸ (both_health HBo6.out x.val.node svc HIn.out.node).1)
            have HHe2 := Lib.hid hh2
            clear hh2
            go_wp2_with fail
            refine HH2.out.mono ?_
            rintro e w7 ⟨rfl, hb7⟩
            have HBo7 := Lib.hid (HBo6.out.below hb7)
            have HB7 := Lib.hid (HB6.out.trans (hb7.mono HBo6.out.top))
            have HX7 := Lib.hid ((hb7.block base (block_lt HX6.out)).trans HX6.out)
            clear hb7 z0 z1 z2 z3 z4 z5 z6 HH2
            obtain ⟨z0, z1, z2, z3, z4, z5, z6⟩ := ck_blk HX7.out
            have HWk := Lib.hid (fun W (hW : Below w7.heap.size w7 W) => works_any W ((HBo7.out.below hW).pw))
            have HFin := Lib.hid (fun W (hW : Below w7.heap.size w7 W) => (HB0.out.trans ((HB7.out.trans (hW.mono HBo7.out.top)).mono (by have := HS0.out; have := HBs.out; omega)) : Below base w W))
            by_cases he0 : er = 0
            · have q5 : ((er : Int) != 0) = false := by simp [he0]
              have hE0 : (d.check x.val 99).1 = 0 := by rw [HE.out]; exact he0
              have hd5 : (d.check x.val 99).2 = d5 := by rw [HE.out]
              obtain ⟨⟨ed, d6⟩, hdd⟩ : ∃ r, d5.dropC x.val.node x.val.id 100 = r := ⟨_, rfl⟩
              have hed : ed = 0 := by
                have := dropC_yes (d := (d.check x.val 99).2) (i := 100) (n := x.val.node) (id := x.val.id) (check_laid hE0).2.2
                rw [hd5, hdd] at this
                exact this
              subst hed
              obtain ⟨h3, hh3⟩ : ∃ h, d6.health x.val.node svc = h := ⟨_, rfl⟩
              have h32 : h3 ≤ h2 := by
                have := health_less (d := d5) (n2 := x.val.node) (id := x.val.id) (i := 100) x.val.node svc
                rw [hdd, HHe2.out] at this
                rw [← hh3]
                exact this
              have hout : iz = false → ∀ r ∈ d.c.l, r.key ≠ x.val.key := fun hz r hr e => by
                have h1 := HIz.out
                rw [hz, List.any_eq_false] at h1
                refine h1 r hr ?_
                have h2 := HOk9.out.ck_same (node := x.val.node) (id := x.val.id) hr
                rw [show (r.key.toList == (keyO x.val.node x.val.id).toList) = true from text_same.2 e] at h2
                exact h2.symm
              have h12 : iz = false → h1 ≤ h2 := fun hz => by
                have := health_more hE0 (hout hz) x.val.node svc
                rw [hd5, HHe1.out, HHe2.out] at this
                exact this
              have h31 : iz = false → h3 = h1 := fun hz => by
                have := health_back (j := 100) hE0 (hout hz) x.val.node svc
                rw [hd5, hdd, HHe1.out] at this
                rw [← hh3]
                exact this
              obtain ⟨Sp, hro, hleft⟩ := HBo7.out.left
              have hdc := rdropcheck_any x.val.node x.val.id 100 hro HIn.out.node HIi.out (by decide)
              rw [hdd] at hdc
              have HDc := Lib.hid hdc
              have HLe := Lib.hid hleft
              have HCh7 := Lib.hid (HBo7.out.ch)
              have HHe3 := Lib.hid hh3
              have q6 : decide (h2 < h3) = false := by simpa using h32
              have q7 : (((0 : Nat) : Int) != 0) = false := by decide
              clear he0 hE0 hd5 hdd hh3 h32 hout hdc hro hleft
              have H31 := Lib.hid h31
              have H12 := Lib.hid h12
              clear h31 h12
              cases iz with
              | true =>
                go_wp2_with fail
                refine HDc.out.mono ?_
                rintro e w8 ⟨rfl, hro, hb8⟩
                have HBo8 := Lib.hid (HLe.out w8 d6 hro hb8)
                have hb80 : Below bs w7 w8 := hb8.below HBo7.out.top fun k hk e => by have := HCh7.out k (.inl e); omega
                have HB8 := Lib.hid (HB7.out.trans hb80)
                have HX8 := Lib.hid ((hb80.block base (by have := HS0.out; have := HBs.out; omega)).trans HX7.out)
                clear hb8 hb80 hro z0 z1 z2 z3 z4 z5 z6
                obtain ⟨z0, z1, z2, z3, z4, z5, z6⟩ := ck_blk HX8.out
                have HH3 := Lib.hid (HHe3.out ▸ (both_health HBo8.out x.val.node svc HIn.out.node).1)
                go_wp2_with fail
                refine HH3.out.mono ?_
                rintro e w9 ⟨rfl, hb9⟩
                have HBo9b := Lib.hid (HBo8.out.below hb9)
                have HB9b := Lib.hid (HB8.out.trans (hb9.mono HBo8.out.top))
                have HX9 := Lib.hid ((hb9.block base (block_lt HX8.out)).trans HX8.out)
                clear hb9 z0 z1 z2 z3 z4 z5 z6
                obtain ⟨z0, z1, z2, z3, z4, z5, z6⟩ := ck_blk HX9.out
                have HWk2 := Lib.hid (works_any w9 HBo9b.out.pw)
                have HWk3 := Lib.hid (fun W (hW : Below w9.heap.size w9 W) => works_any W ((HBo9b.out.below hW).pw))
                have HFin2 := Lib.hid (fun W (hW : Below w9.heap.size w9 W) => (HB0.out.trans ((HB9b.out.trans (hW.mono HBo9b.out.top)).mono (by have := HS0.out; have := HBs.out; omega)) : Below base w W))
                have HH4 := Lib.hid (HHe3.out ▸ (both_health HBo9b.out x.val.node svc HIn.out.node).1)
                go_wp2_with fail
                refine (HWk2.out).mono ?_
                rintro e w10 ⟨rfl, hb10⟩
                have HJ := Lib.hid (HFin2.out w10 hb10)
                clear hb10
                go_wp2
                go_ret
                exact ⟨rfl, HJ.out⟩
              | false =>
                have q8 : decide (h2 < h1) = false := by simpa using H12.out rfl
                have q9 : (h3 == h1) = true := by rw [H31.out rfl]; simp
                go_wp2_with fail
                refine HDc.out.mono ?_
                rintro e w8 ⟨rfl, hro, hb8⟩
                have HBo8 := Lib.hid (HLe.out w8 d6 hro hb8)
                have hb80 : Below bs w7 w8 := hb8.below HBo7.out.top fun k hk e => by have := HCh7.out k (.inl e); omega
                have HB8 := Lib.hid (HB7.out.trans hb80)
                have HX8 := Lib.hid ((hb80.block base (by have := HS0.out; have := HBs.out; omega)).trans HX7.out)
                clear hb8 hb80 hro z0 z1 z2 z3 z4 z5 z6
                obtain ⟨z0, z1, z2, z3, z4, z5, z6⟩ := ck_blk HX8.out
                have HH3 := Lib.hid (HHe3.out ▸ (both_health HBo8.out x.val.node svc HIn.out.node).1)
                go_wp2_with fail
                refine HH3.out.mono ?_
                rintro e w9 ⟨rfl, hb9⟩
                have HBo9b := Lib.hid (HBo8.out.below hb9)
                have HB9b := Lib.hid (HB8.out.trans (hb9.mono HBo8.out.top))
                have HX9 := Lib.hid ((hb9.block base (block_lt HX8.out)).trans HX8.out)
                clear hb9 z0 z1 z2 z3 z4 z5 z6
                obtain ⟨z0, z1, z2, z3, z4, z5, z6⟩ := ck_blk HX9.out
                have HWk2 := Lib.hid (works_any w9 HBo9b.out.pw)
                have HWk3 := Lib.hid (fun W (hW : Below w9.heap.size w9 W) => works_any W ((HBo9b.out.below hW).pw))
                have HFin2 := Lib.hid (fun W (hW : Below w9.heap.size w9 W) => (HB0.out.trans ((HB9b.out.trans (hW.mono HBo9b.out.top)).mono (by have := HS0.out; have := HBs.out; omega)) : Below base w W))
                have HH4 := Lib.hid (HHe3.out ▸ (both_health HBo9b.out x.val.node svc HIn.out.node).1)
                go_wp2_with fail
                refine HH4.out.mono ?_
                rintro e w10 ⟨rfl, hb10⟩
                have HB10 := Lib.hid hb10
                clear hb10
                go_wp2_with fail
                refine (HWk3.out w10 HB10.out).mono ?_
                rintro e w11 ⟨rfl, hb11⟩
                have HJ := Lib.hid (HFin2.out w11 (HB10.out.trans (hb11.mono HB10.out.size)))
                clear hb11
                go_wp2
                go_ret
                exact ⟨rfl, HJ.out⟩
            · have q5 : ((er : Int) != 0) = true := by simp; omega
              have hz : d5 = d := by
                have := check_not (d := d) (x := x.val) (i := 99) (by rw [HE.out]; exact he0)
                rw [HE.out] at this
                exact this
              have q6 : (h1 == h2) = true := by rw [← HHe1.out, ← HHe2.out, hz]; simp
              clear he0 hz
              go_wp2_with fail
              refine (HWk.out w7 (Below.refl _ _)).mono ?_
              rintro e w8 ⟨rfl, hb8⟩
              have HJ := Lib.hid (HFin.out w8 hb8)
              clear hb8
              go_wp2
              go_ret
              exact ⟨rfl, HJ.out⟩
end Go.Proofs.YtilkbfmaofmjoaaGreatDoor
