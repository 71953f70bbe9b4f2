/-
  A packet is appended to a row and the row is set: the states of a region that does so in an order of its own (layer 7).
-/
import Derived.Test.YticjkpnlnonibaaHTake
namespace Go.Proofs.Yticjkpnlnonibaa
open Go.RowKit
set_option linter.unusedSimpArgs false
set_option linter.unusedVariables false
set_option linter.unusedSectionVars false

theorem stepOf_append {P : Program} {ops : Array Oper} {Q : Exit → Act → World → Prop} {o : Oper} {K : Act → World → Prop} {a : Act} {w w' : World} {v vx v' : Value} (s x : Operand) (t : TypeId)
    (ho : o.op = .call { callee := .builtin .append, args := #[s, x], argTypes := #[t, t] }) (hg : o.guard = none) (hs : a.eval s = v) (hx : a.eval x = vx)
    (hr : (Builtin.append_ #[t, t] o.type #[v, vx]).run P w = .ok v' w') (h : K (a.put o.dst v') w') : Go.Rel.stepOf P ops Q o K a w := by
  unfold Go.Rel.stepOf
  rw [if_pos (by simp [Region.wanted, hg])]
  unfold Oper.wp execOp
  simp only [ho, resolve, invoke, builtin, Sem.run_bind, Sem.run_pure, Result.andThen_ok, List.map_toArray, List.map_cons, List.map_nil, hs, hx, hr]
  exact h

abbrev TF : TypeId := 49
/-- What is the same throughout: the world at first, the flight's block and its row, the packet that comes. -/
structure Ap where
  w0 : World
  B : Nat
  cur : Array Value
  tB : TypeId
  v : Value
  l : List It
  id : Nat
  p : Pk
  G : Option Addr → Nat → World → Prop
def Ap.with_ (k : Ap) (A : Option Addr) (c : Nat) : Pk := ⟨k.p.fr, k.p.to, k.p.body, A, c⟩
/-- Blocks that were there, of the flight. -/
def Ap.S (k : Ap) : Nat → Prop := fun i => Sof k.B k.v i ∧ i < k.w0.heap.size
structure Ap.ok (k : Ap) : Prop where
  row : itRow k.w0 0 k.v k.l
  blk : k.w0.heap[k.B]? = some (.cells k.cur k.tB (0, 0))
  ty : k.tB ≠ TF
  few : k.l.length ≤ 256
  stab : ∀ A c w w', k.G A c w → But k.S w w' → k.G A c w'
def Ap.Ow (k : Ap) (v : Value) (w : World) : Prop := ∃ A c, k.G A c w ∧ itRow w 0 v (k.l ++ [⟨k.id, k.with_ A c⟩])
/-- Is there room? And the row's value then. -/
def Ap.room (k : Ap) : Prop := ∃ b c, k.v = .slice (some ⟨b, 0, none⟩) k.l.length c ∧ k.l.length + 1 ≤ c
def Ap.v1 (k : Ap) : Value := match k.v with
  | .slice a _ c => .slice a (k.l.length + 1) c
  | v => v
def Ap.vb (k : Ap) : Nat → Prop := fun b => k.v.ownBlock = some b
structure Ap.Fin (k : Ap) (v' : Value) (w : World) : Prop where
  ow : k.Ow v' w
  blk : w.heap[k.B]? = some (.cells (k.cur.setIfInBounds 0 v') k.tB (0, 0))
  but : But (Sof k.B k.v) k.w0 w
  loc : ∀ b, v'.ownBlock = some b → k.v.ownBlock = some b ∨ k.w0.heap.size ≤ b
def Ap.I (k : Ap) (a z : Bool) (w : World) : Prop :=
  (z = true → ∃ v', k.Fin v' w) ∧ (z = false → (a = true → k.room → k.Ow k.v1 w ∧ But k.vb k.w0 w) ∧ ((a = true → ¬ k.room) → Below k.w0.heap.size k.w0 w))
def Ap.R (k : Ap) (v : Value) (w : World) : Prop :=
  (k.room → v = k.v1) ∧ (¬ k.room → ∃ b c, v = .slice (some ⟨b, 0, none⟩) (k.l.length + 1) c ∧ k.w0.heap.size ≤ b ∧ k.Ow v w)
section
variable {k : Ap} (h : k.ok)
include h
theorem Ap.ok.lt : k.B < k.w0.heap.size := block_lt h.blk
theorem Ap.ok.neB : k.v.ownBlock ≠ some k.B := fun e => by
  obtain ⟨cur', hc⟩ := h.row.cells e
  have := hc.symm.trans h.blk
  simp only [Option.some.injEq, Obj.cells.injEq] at this
  exact h.ty this.2.1.symm
theorem Ap.Ow.stable {v : Value} {w w' : World} (ho : k.Ow v w) (hb : But k.S w w') (hv : ∀ b, v.ownBlock = some b → k.w0.heap.size ≤ b) : k.Ow v w' := by
  obtain ⟨A, c, hg, hr⟩ := ho
  exact ⟨A, c, h.stab A c w w' hg hb, hr.but hb (fun b e hs => by have := hv b e; have := hs.2; omega)⟩
theorem Ap.R.stable {v : Value} {w w' : World} (hr : k.R v w) (hb : But k.S w w') : k.R v w' :=
  ⟨hr.1, fun hn => by
    obtain ⟨b, c, e, h0, h1⟩ := hr.2 hn
    exact ⟨b, c, e, h0, h1.stable h hb (fun b' e' => by rw [e] at e'; cases e'; exact h0)⟩⟩
omit h in
theorem Ap.I.start : k.I false false { k.w0 with drawn := k.w0.drawn + 1 } :=
  ⟨(fun h => by cases h), fun _ => ⟨(fun h => by cases h), fun _ => ⟨rfl, rfl, rfl, Nat.le_refl _, fun _ _ => rfl⟩⟩⟩
omit h in
theorem Ap.I.bel {w : World} (hI : k.I false false w) : Below k.w0.heap.size k.w0 w := (hI.2 rfl).2 (fun e => by cases e)
omit h in
theorem Ap.I.of_bel {w : World} (hb : Below k.w0.heap.size k.w0 w) : k.I false false w := ⟨(fun h => by cases h), fun _ => ⟨(fun h => by cases h), fun _ => hb⟩⟩
theorem Ap.I.blk {a : Bool} {w : World} (hI : k.I a false w) : w.heap[k.B]? = some (.cells k.cur k.tB (0, 0)) := by
  by_cases hr : a = true ∧ k.room
  · exact (((hI.2 rfl).1 hr.1 hr.2).2.block k.B h.lt (fun e => h.neB e)).trans h.blk
  · exact (((hI.2 rfl).2 (fun e hr' => hr ⟨e, hr'⟩)).block k.B h.lt).trans h.blk
omit h in
theorem Ap.I.size {a : Bool} {w : World} (hI : k.I a false w) : k.w0.heap.size ≤ w.heap.size := by
  by_cases hr : a = true ∧ k.room
  · exact ((hI.2 rfl).1 hr.1 hr.2).2.size
  · exact ((hI.2 rfl).2 (fun e hr' => hr ⟨e, hr'⟩)).size
theorem Ap.I.done {w : World} {v : Value} (hI : k.I true false w) (hR : k.R v w) : k.Ow v w ∧ But k.vb k.w0 w ∧ ∀ b, v.ownBlock = some b → k.v.ownBlock = some b ∨ k.w0.heap.size ≤ b := by
  by_cases hr : k.room
  · obtain ⟨h1, h2⟩ := (hI.2 rfl).1 rfl hr
    rw [hR.1 hr]
    obtain ⟨b, c, e, _⟩ := hr
    exact ⟨h1, h2, fun b' e' => .inl (by
      unfold Ap.v1 at e'
      rw [e] at e' ⊢
      exact e')⟩
  · obtain ⟨b, c, e, h0, h1⟩ := hR.2 hr
    exact ⟨h1, But.of_below ((hI.2 rfl).2 (fun _ => hr)), fun b' e' => by rw [e] at e'; cases e'; exact .inr h0⟩
theorem Ap.I.store (hcur : k.cur[0]? = some k.v) {w : World} {v : Value} (hI : k.I true false w) (hR : k.R v w) :
    (∃ A n c, v = .slice A n c) ∧ w.cell? ⟨k.B, 0, none⟩ = some k.v ∧ w.frozen? ⟨k.B, 0, none⟩ = false ∧ But k.S w (w.setCell ⟨k.B, 0, none⟩ v) ∧ k.I true true (w.setCell ⟨k.B, 0, none⟩ v) := by
  have hb := hI.blk h
  refine ⟨?_, blk_cells hb 0 _ hcur, blk_froz hb 0, But.set _ (p := ⟨k.B, 0, none⟩) ⟨.inl rfl, h.lt⟩ _, fun _ => ⟨v, ?_⟩, fun h => by cases h⟩
  · by_cases hr : k.room
    · have hr0 := hr
      obtain ⟨b, c, e, _⟩ := hr0
      exact ⟨some ⟨b, 0, none⟩, _, c, by rw [hR.1 hr]; unfold Ap.v1; rw [e]⟩
    · obtain ⟨b, c, e, _⟩ := hR.2 hr
      exact ⟨_, _, _, e⟩
  have hset : But (· = k.B) w (w.setCell ⟨k.B, 0, none⟩ v) := But.set (S := (· = k.B)) w (p := ⟨k.B, 0, none⟩) rfl v
  have hsetS : But k.S w (w.setCell ⟨k.B, 0, none⟩ v) := hset.mono (fun i e => by rw [e]; exact ⟨.inl rfl, h.lt⟩)
  obtain ⟨j1, j2, j3⟩ := Ap.I.done h hI hR
  have key : k.Ow v w ∧ But (Sof k.B k.v) k.w0 w ∧ ∀ b, v.ownBlock = some b → k.v.ownBlock = some b ∨ k.w0.heap.size ≤ b := ⟨j1, j2.mono (fun i e => .inr e), j3⟩
  obtain ⟨⟨A, c, hg, hrow⟩, k2, k3⟩ := key
  refine ⟨⟨A, c, h.stab A c _ _ hg hsetS, hrow.but hset (fun b e e2 => ?_)⟩, block_set hb 0 v, k2.trans (hset.mono (fun i e => .inl e)), k3⟩
  subst e2
  rcases k3 _ e with h1 | h1
  · exact h.neB h1
  · have := h.lt; omega
/-- append of the packet to the row. -/
theorem Ap.I.append {w : World} (hI : k.I false false w) (ts : TypeId) (hts : Try.prog.underlying ts = some (.slice TF)) {X : Nat} {A : Option Addr} {c : Nat} (hG : k.G A c w)
    (hX0 : w.cell? ⟨X, 0, none⟩ = some (.int .i64 (k.id : Int))) (hX1 : w.cell? ⟨X, 1, none⟩ = some (.int .i64 k.p.fr)) (hX2 : w.cell? ⟨X, 2, none⟩ = some (.int .i64 k.p.to)) (hX3 : w.cell? ⟨X, 3, none⟩ = some (.slice A k.p.body.length c)) (ty : TypeId) :
    ∃ v' w', (Builtin.append_ #[ts, ts] ty #[k.v, .slice (some ⟨X, 0, none⟩) 1 1]).run Try.prog w = .ok v' w' ∧ But k.S w w' ∧ k.I true false w' ∧ k.R v' w' := by
  obtain ⟨i0, hi, hz0, hz1, hz2⟩ := info_parts it_info
  have hb := hI.bel
  have hown := bown_keep h.row hb
  have hfew := h.few
  have hnl : (itC ⟨k.id, k.with_ A c⟩).length = 1 * 4 := rfl
  have hnews : ∀ j u, (itC ⟨k.id, k.with_ A c⟩)[j]? = some u → w.cell? ((⟨X, 0, none⟩ : Addr).add j) = some u := fun j u hj => by
    rw [plain_add]
    match j, hj with
    | 0, hj => simp only [itC, List.getElem?_cons_zero, Option.some.injEq] at hj; subst hj; exact hX0
    | 1, hj => simp only [itC, List.getElem?_cons_succ, List.getElem?_cons_zero, Option.some.injEq] at hj; subst hj; exact hX1
    | 2, hj => simp only [itC, List.getElem?_cons_succ, List.getElem?_cons_zero, Option.some.injEq] at hj; subst hj; exact hX2
    | 3, hj => simp only [itC, List.getElem?_cons_succ, List.getElem?_cons_zero, Option.some.injEq] at hj; subst hj; exact hX3
  have hones : ∀ u ∈ itC (It.mk k.id (k.with_ A c)), u.oneCell' = true := fun u hu => itsC_one [⟨k.id, k.with_ A c⟩] u (by simpa [itsC] using hu)
  have happ : itsC (k.l ++ [⟨k.id, k.with_ A c⟩]) = itsC k.l ++ itC ⟨k.id, k.with_ A c⟩ := by simp [itsC]
  have hlen : (k.l ++ [It.mk k.id (k.with_ A c)]).length = k.l.length + 1 := by simp
  have hrowOf : ∀ {v' : Value} {w' : World}, w'.ownsRow 0 TF 4 v' (k.l.length + 1) (itsC k.l ++ itC ⟨k.id, k.with_ A c⟩) → itRow w' 0 v' (k.l ++ [⟨k.id, k.with_ A c⟩]) := fun ho => by
    unfold itRow
    rw [happ, hlen]
    exact ho
  obtain ⟨v', w', hrun, ho, hg, _, hloc⟩ := run_append_own_at (P := Try.prog) w 0 ts ty TF i0 _ 4 48 hts hi hz0 hz1 hz2 it_zc (by decide) _ _ _ hown ⟨X, 0, none⟩ 1 1 _ hnl hnews hones (by unfold maxLen; omega) (by omega) (Nat.zero_le _)
  refine ⟨v', w', hrun, ?_⟩
  have hbS : But k.S w w' := But.of_grown hg (fun r e _ => ⟨.inr e, h.row.lt e⟩)
  by_cases hr : k.room
  · have hr0 := hr
    obtain ⟨b, cp, e, hle⟩ := hr
    rw [e] at hrun hg hown
    have hk1 : k.v1 = .slice (some ⟨b, 0, none⟩) (k.l.length + 1) cp := by unfold Ap.v1; rw [e]
    rcases hown.2 with ⟨e0, _⟩ | ⟨b', c', cur, e0, _, hh, hnc, hcm, hcs, ht⟩
    · cases e0
    · simp only [Value.slice.injEq, Option.some.injEq, Addr.mk.injEq, true_and, and_true] at e0
      obtain ⟨rfl, rfl⟩ := e0
      have hr2 := run_append_room (P := Try.prog) w ts ty TF i0 hts hi b k.l.length cp cur hh ⟨X, 0, none⟩ 1 1 _ (by rw [hz1]; exact hnl) hnews hones hle (by rw [hz1, hnl]; omega)
      rw [hrun] at hr2
      simp only [Result.ok.injEq] at hr2
      have ev : v' = k.v1 := by rw [hk1]; exact hr2.1
      refine ⟨hbS, ⟨(fun h => by cases h), fun _ => ⟨fun _ _ => ⟨⟨A, c, h.stab A c _ _ hG hbS, by rw [← ev]; exact hrowOf ho⟩, ?_⟩, fun hn => absurd hr0 (hn rfl)⟩⟩, fun _ => ev, fun hn => absurd hr0 hn⟩
      exact (But.of_below (S := k.vb) hb).then_ (But.of_grown (S := k.vb) hg (fun r e' _ => by unfold Ap.vb; rw [e]; exact e')) (fun i e' _ => e')
  · have hnew : w.grownBy w' none ∧ v'.ownBlock = some w.heap.size := by
      rcases hown.2 with ⟨e, h0⟩ | ⟨b, cp, cur, e, _, hh, hnc, hcm, hcs, ht⟩
      · rw [e] at hrun hg hown hloc
        refine ⟨⟨hg.os, hg.tape, hg.output, hg.size, fun k hk' _ => hg.block k hk' (by simp [Value.ownBlock])⟩, ?_⟩
        rcases hloc with e2 | e2
        · exfalso
          rcases ho.2 with ⟨_, e3⟩ | ⟨_, _, _, e3, _⟩
          · omega
          · rw [e3] at e2; cases e2
        · exact e2
      · have hle : ¬ k.l.length + 1 ≤ cp := fun hle => hr ⟨b, cp, e, hle⟩
        rw [e] at hrun hown
        have holds : ∀ j u, (itsC k.l)[j]? = some u → w.cell? ((⟨b, 0, none⟩ : Addr).add j) = some u := World.ownsRow.cells hown (g := b) rfl
        have hr3 := run_append_grow (P := Try.prog) w ts ty TF i0 _ hts hi hz0 ⟨b, 0, none⟩ k.l.length cp (itsC k.l) (by rw [hz1]; exact itsC_length _) holds ⟨X, 0, none⟩ 1 1 _ (by rw [hz1]; exact hnl) hnews (by omega) (by omega) (growslice_fits (by omega) (by rw [hz2]; omega))
        rw [hrun] at hr3
        simp only [Result.ok.injEq] at hr3
        obtain ⟨rfl, rfl⟩ := hr3
        exact ⟨⟨rfl, rfl, rfl, by simp, fun k hk' _ => heap_alloc_old _ _ hk'⟩, rfl⟩
    have hbel : Below k.w0.heap.size k.w0 w' := hb.trans ⟨hnew.1.os, hnew.1.tape, hnew.1.output, hnew.1.size, fun i hi => hnew.1.block i (Nat.lt_of_lt_of_le hi hb.size) (by simp)⟩
    have how : k.Ow v' w' := ⟨A, c, h.stab A c _ _ hG hbS, hrowOf ho⟩
    refine ⟨hbS, ⟨(fun h => by cases h), fun _ => ⟨fun _ hr' => absurd hr' hr, fun _ => hbel⟩⟩, fun h => absurd h hr, fun _ => ?_⟩
    rcases ho.2 with ⟨_, e3⟩ | ⟨b, cp, cur, e3, _⟩
    · omega
    · have : b = w.heap.size := by
        have h2 := hnew.2
        rw [e3] at h2
        simpa [Value.ownBlock] using h2
      exact ⟨b, cp, e3, by rw [this]; exact hb.size, how⟩
end
end Go.Proofs.Yticjkpnlnonibaa
