/-
  A slot's row changes and the slot is set: the states of a region that does so in an order of its own (layer 6).
-/
import Derived.Test.YtcekpkjibabjmaaWWalkB
namespace Go.Proofs.Ytcekpkjibabjmaa
open Go.RowKit
set_option linter.unusedSimpArgs false

theorem stepOf_append {P : Program} {ops : Array Oper} {Q : Exit → Act → World → Prop} {o : Oper} {K : Act → World → Prop} {a : Act} {w w' : World} {v vx v' : Value} (s x : Operand) (t : TypeId)
    (ho : o.op = .call { callee := .builtin .append, args := #[s, x], argTypes := #[t, t] }) (hg : o.guard = none) (hs : a.eval s = v) (hx : a.eval x = vx)
    (hr : (Builtin.append_ #[t, t] o.type #[v, vx]).run P w = .ok v' w') (h : K (a.put o.dst v') w') : Go.Rel.stepOf P ops Q o K a w := by
  unfold Go.Rel.stepOf
  rw [if_pos (by simp [Region.wanted, hg])]
  unfold Oper.wp execOp
  simp only [ho, resolve, invoke, builtin, Sem.run_bind, Sem.run_pure, Result.andThen_ok, List.map_toArray, List.map_cons, List.map_nil, hs, hx, hr]
  exact h

def rowB (g : Nat → Value) (K : Nat) : Nat → Prop := fun b => (g K).ownBlock = some b
/-- What a region that changes slot K's row (a) and then sets the slot (z) has done. -/
def rowI (S : Nat → Prop) (w0 : World) (B M : Nat) (g : Nat → Value) (N : Nat) (m : Mp) (n : Nat) (q : Nat → List Int) (K : Nat) (l : List Int) (v1 : Value) (room : Prop) (a z : Bool) (w : World) : Prop :=
  (z = true → ∃ g', WhIs S w B M g' N m n (upQ q K l) ∧ But (fun x => x = B ∨ rowB g K x) w0 w) ∧ (z = false → (a = true → room → rowOwn w v1 l ∧ But (rowB g K) w0 w) ∧ ((a = true → ¬ room) → Below w0.heap.size w0 w))
/-- The row's new value. -/
def rowR (room : Prop) (v1 : Value) (l : List Int) (w0 : World) (v : Value) (w : World) : Prop :=
  (room → v = v1) ∧ (¬ room → ∃ b c, v = .slice (some ⟨b, 0, none⟩) l.length c ∧ w0.heap.size ≤ b ∧ rowOwn w v l)
/-- Blocks of S that were there. -/
def Olds (S : Nat → Prop) (w0 : World) : Nat → Prop := fun k => S k ∧ k < w0.heap.size
theorem rowR_stable {S : Nat → Prop} {room : Prop} {v1 : Value} {l : List Int} {w0 : World} {v : Value} {w w' : World} (h : rowR room v1 l w0 v w) (g : But (Olds S w0) w w') : rowR room v1 l w0 v w' :=
  ⟨h.1, fun hr => by
    obtain ⟨b, c, e, h0, h1⟩ := h.2 hr
    exact ⟨b, c, e, h0, own_but h1 g (fun x hx hs => by rw [e] at hx; cases hx; exact absurd hs.2 (Nat.not_lt.2 h0))⟩⟩
section
variable {S : Nat → Prop} {w0 w : World} {B M N n K : Nat} {g : Nat → Value} {m : Mp} {q : Nat → List Int} {l : List Int} {v1 v : Value} {room : Prop}
theorem rowI.start : rowI S w0 B M g N m n q K l v1 room false false { w0 with drawn := w0.drawn + 1 } :=
  ⟨(fun h => by cases h), fun _ => ⟨(fun h => by cases h), fun _ => ⟨rfl, rfl, rfl, Nat.le_refl _, fun _ _ => rfl⟩⟩⟩
theorem rowI.alloc {a : Bool} (h : rowI S w0 B M g N m n q K l v1 room a false w) (ha : a = false) (o : Obj) : rowI S w0 B M g N m n q K l v1 room a false (w.alloc o) := by
  subst ha
  have hb := (h.2 rfl).2 (fun e => by cases e)
  exact ⟨(fun h => by cases h), fun _ => ⟨(fun h => by cases h), fun _ => hb.alloc hb.size o⟩⟩
theorem rowI.block {a : Bool} (h : rowI S w0 B M g N m n q K l v1 room a false w) {b : Nat} (hb : b < w0.heap.size) (hne : ¬ rowB g K b) : w.heap[b]? = w0.heap[b]? := by
  by_cases hr : a = true ∧ room
  · exact ((h.2 rfl).1 hr.1 hr.2).2.block b hb hne
  · exact ((h.2 rfl).2 (fun e hr' => hr ⟨e, hr'⟩)).block b hb
theorem rowI.blockB (hW : WhIs S w0 B M g N m n q) (hk : K < 192) {a : Bool} (h : rowI S w0 B M g N m n q K l v1 room a false w) : w.heap[B]? = w0.heap[B]? :=
  h.block hW.lt (fun e => (hW.neRow hk e).1 rfl)
theorem rowI.cell (hW : WhIs S w0 B M g N m n q) (hk : K < 192) {a : Bool} (h : rowI S w0 B M g N m n q K l v1 room a false w) (i : Nat) : w.cell? ⟨B, i, none⟩ = w0.cell? ⟨B, i, none⟩ ∧ w.frozen? ⟨B, i, none⟩ = w0.frozen? ⟨B, i, none⟩ := by
  have := rowI.blockB hW hk h
  exact ⟨World.cell?_of_block this, by simp [World.frozen?, this]⟩
theorem rowI.size {a : Bool} (h : rowI S w0 B M g N m n q K l v1 room a false w) : w0.heap.size ≤ w.heap.size := by
  by_cases hr : a = true ∧ room
  · exact ((h.2 rfl).1 hr.1 hr.2).2.size
  · exact ((h.2 rfl).2 (fun e hr' => hr ⟨e, hr'⟩)).size
theorem rowI.grow {w' : World} {row : Option Nat} (hW : WhIs S w0 B M g N m n q) (hk : K < 192) (h : rowI S w0 B M g N m n q K l v1 room false false w) (hg : w.grownBy w' row) (hrow : ∀ b, row = some b → rowB g K b ∧ room) (hown : room → rowOwn w' v1 l) :
    rowI S w0 B M g N m n q K l v1 room true false w' ∧ But (Olds S w0) w w' := by
  have hb := (h.2 rfl).2 (fun e => by cases e)
  refine ⟨⟨(fun h => by cases h), fun _ => ⟨fun _ hr => ⟨hown hr, (But.of_below (S := rowB g K) hb).then_ (But.of_grown (S := fun b => row = some b) hg (fun r e _ => e)) (fun b e _ => (hrow b e).1)⟩, fun hn => ?_⟩⟩, But.of_grown hg (fun r e _ => ?_)⟩
  · exact hb.trans ⟨hg.os, hg.tape, hg.output, hg.size, fun k hk' => hg.block k (Nat.lt_of_lt_of_le hk' hb.size) (fun e => hn rfl (hrow k e.symm).2)⟩
  · have := (hrow r e).1
    exact ⟨hW.rows.inS K r hk this, own_lt (hW.rows.own K hk) this⟩
theorem rowI.store (hW : WhIs S w0 B M g N m n q) (hk : K < 192) (hcl : ∀ k, w0.heap.size ≤ k → S k) (hv1 : room → ∃ row c, v1 = .slice (some ⟨row, 0, none⟩) l.length c ∧ rowB g K row)
    (h : rowI S w0 B M g N m n q K l v1 room true false w) (hR : rowR room v1 l w0 v w) {O : Nat} (hO : 2 + K = O) :
    ∃ b c, v = .slice (some ⟨b, 0, none⟩) l.length c ∧ w.cell? ⟨B, O, none⟩ = some (g K) ∧ w.frozen? ⟨B, O, none⟩ = false ∧ But (Olds S w0) w (w.setCell ⟨B, O, none⟩ v) ∧ rowI S w0 B M g N m n q K l v1 room true true (w.setCell ⟨B, O, none⟩ v) := by
  subst hO
  have hc := rowI.cell hW hk h (2 + K)
  have key : ∃ b c, v = .slice (some ⟨b, 0, none⟩) l.length c ∧ (∃ T : Nat → Prop, But T w0 w ∧ (∀ b, T b → b < w0.heap.size → (g K).ownBlock = some b)) ∧ rowOwn w v l ∧ (∀ b, v.ownBlock = some b → (g K).ownBlock = some b ∨ (w0.heap.size ≤ b ∧ S b)) := by
    by_cases hr : room
    · obtain ⟨row, c, e, hb⟩ := hv1 hr
      obtain ⟨h1, h2⟩ := (h.2 rfl).1 rfl hr
      rw [hR.1 hr]
      exact ⟨row, c, e, ⟨_, h2, fun b hb _ => hb⟩, h1, fun b hb' => by rw [e] at hb'; cases hb'; exact .inl hb⟩
    · obtain ⟨b, c, e, h0, h1⟩ := hR.2 hr
      have h2 := (h.2 rfl).2 (fun _ => hr)
      exact ⟨b, c, e, ⟨fun _ => False, But.of_below h2, fun _ h => h.elim⟩, h1, fun x hx => by rw [e] at hx; cases hx; exact .inr ⟨h0, hcl _ h0⟩⟩
  obtain ⟨b, c, e, ⟨T, hT, hT2⟩, h1, h2⟩ := key
  obtain ⟨f1, f2⟩ := hW.rowTurn hk hT hT2 h1 h2
  exact ⟨b, c, e, hc.1.trans (hW.c2 hk), hc.2.trans (hW.fz _), But.set _ (p := ⟨B, 2 + K, none⟩) ⟨hW.sB, hW.lt⟩ _, ⟨fun _ => ⟨_, f1, f2⟩, fun h => by cases h⟩⟩
end
theorem WhIs.keptRow {S : Nat → Prop} {w0 w : World} {B M N n K : Nat} {g : Nat → Value} {m : Mp} {q : Nat → List Int} (h : WhIs S w0 B M g N m n q) (hk : K < 192) (hb : But (fun x => x = B ∨ rowB g K x) w0 w) : Kept S w0 w :=
  ⟨hb.mono (fun x hx => by
    rcases hx with rfl | hx
    · exact h.sB
    · exact h.rows.inS K x hk hx), fun k cur t f e h1 h2 => (hb.block k (block_lt e) (fun e2 => by
    rcases e2 with rfl | e2
    · obtain ⟨cur', hb', _⟩ := h.blk
      rw [hb'] at e
      simp only [Option.some.injEq, Obj.cells.injEq] at e
      exact h1 e.2.1.symm
    · obtain ⟨cur', hc⟩ := own_cells (h.rows.own K hk) e2
      rw [hc] at e
      simp only [Option.some.injEq, Obj.cells.injEq] at e
      exact h2 e.2.1.symm)).trans e⟩
theorem stepOf_delete {P : Program} {ops : Array Oper} {Q : Exit → Act → World → Prop} {o : Oper} {K : Act → World → Prop} {a : Act} {w w' : World} {v vx v' : Value} (s x : Operand) (t t2 : TypeId)
    (ho : o.op = .call { callee := .builtin .delete, args := #[s, x], argTypes := #[t, t2] }) (hg : o.guard = none) (hs : a.eval s = v) (hx : a.eval x = vx)
    (hr : (Builtin.delete_ #[t, t2] o.type #[v, vx]).run P w = .ok v' w') (h : K (a.put o.dst v') w') : Go.Rel.stepOf P ops Q o K a w := by
  unfold Go.Rel.stepOf
  rw [if_pos (by simp [Region.wanted, hg])]
  unfold Oper.wp execOp
  simp only [ho, resolve, invoke, builtin, Sem.run_bind, Sem.run_pure, Result.andThen_ok, List.map_toArray, List.map_cons, List.map_nil, hs, hx, hr]
  exact h
theorem int_info : (Try.prog.info? 3).map (fun i => (i.zero, i.size, i.bytes)) = some (some (.int .i64 0), 1, 8) := by kernel_rfl
/-- The row of slot K with room for one more, or without. -/
theorem row_room {w : World} {u : Value} {l : List Int} (h : rowOwn w u l) : ∃ (room : Prop) (v1 : Value), (room → ∃ b c, u = .slice (some ⟨b, 0, none⟩) l.length c ∧ l.length + 1 ≤ c ∧ v1 = .slice (some ⟨b, 0, none⟩) (l.length + 1) c) ∧ (¬ room → u = .slice none 0 0 ∨ ∃ b c, u = .slice (some ⟨b, 0, none⟩) l.length c ∧ ¬ l.length + 1 ≤ c) := by
  rcases h.2 with ⟨rfl, _⟩ | ⟨b, c, cur, rfl, _⟩
  · exact ⟨False, .slice none 0 0, fun h => h.elim, fun _ => .inl rfl⟩
  · by_cases hr : l.length + 1 ≤ c
    · exact ⟨True, _, fun _ => ⟨b, c, rfl, hr, rfl⟩, fun h => absurd trivial h⟩
    · exact ⟨False, .slice none 0 0, fun h => h.elim, fun _ => .inr ⟨b, c, rfl, hr⟩⟩
/-- append of one number to slot K's row. -/
theorem rowI.append {S : Nat → Prop} {w0 w : World} {B M N n K : Nat} {g : Nat → Value} {m : Mp} {q : Nat → List Int} {v1 : Value} {room : Prop} {id : Int} (hW : WhIs S w0 B M g N m n q) (hk : K < 192)
    (hr1 : room → ∃ b c, g K = .slice (some ⟨b, 0, none⟩) (q K).length c ∧ (q K).length + 1 ≤ c ∧ v1 = .slice (some ⟨b, 0, none⟩) ((q K).length + 1) c)
    (hr2 : ¬ room → g K = .slice none 0 0 ∨ ∃ b c, g K = .slice (some ⟨b, 0, none⟩) (q K).length c ∧ ¬ (q K).length + 1 ≤ c) (hq : (q K).length ≤ 4096)
    (h : rowI S w0 B M g N m n q K (q K ++ [id]) v1 room false false w) {X : Nat} (hX2 : w.cell? ⟨X, 0, none⟩ = some (.int .i64 id)) (ty : TypeId) :
    ∃ v' w', (Builtin.append_ #[35, 35] ty #[g K, .slice (some ⟨X, 0, none⟩) 1 1]).run Try.prog w = .ok v' w' ∧ But (Olds S w0) w w' ∧ rowI S w0 B M g N m n q K (q K ++ [id]) v1 room true false w' ∧ rowR room v1 (q K ++ [id]) w0 v' w' := by
  obtain ⟨i0, hi, hz0, hz1, hz2⟩ := info_parts int_info
  have hb := (h.2 rfl).2 (fun e => by cases e)
  have hown := bown_keep (hW.rows.own K hk) hb
  have hown2 := bown_keep (hW.rows.own K hk) hb
  have hnews : ∀ j u, [(Value.int .i64 id)][j]? = some u → w.cell? ((⟨X, 0, none⟩ : Addr).add j) = some u := fun j u hj => by
    match j, hj with
    | 0, hj => simp at hj; subst hj; simpa [Addr.add] using hX2
  have happ : (q K ++ [id]).map encZ = (q K).map encZ ++ [Value.int .i64 id] := by simp [encZ]
  have hlen : (q K ++ [id]).length = (q K).length + 1 := by simp
  obtain ⟨v', w', hrun, ho, hg, _, hloc⟩ := run_append_own_at (P := Try.prog) w 0 35 ty 3 i0 (.int .i64 0) 1 8 Try.underlying35 hi hz0 hz1 hz2 rfl (by decide) _ _ _ hown ⟨X, 0, none⟩ 1 1 [.int .i64 id] rfl hnews (fun u hu => by obtain rfl := List.mem_singleton.1 hu; rfl) (by unfold maxLen; omega) (by omega) (Nat.zero_le _)
  refine ⟨v', w', hrun, ?_⟩
  by_cases hr : room
  · obtain ⟨b, c, e, hle, e1⟩ := hr1 hr
    rw [e] at hrun hg hown
    rcases hown.2 with ⟨e0, _⟩ | ⟨b', c', cur, e0, _, hh, hnc, hcm, hcs, ht⟩
    · cases e0
    · simp only [Value.slice.injEq, Option.some.injEq, Addr.mk.injEq, true_and, and_true] at e0
      obtain ⟨rfl, rfl⟩ := e0
      have hr2 := run_append_room (P := Try.prog) w 35 ty 3 i0 Try.underlying35 hi b (q K).length c cur hh ⟨X, 0, none⟩ 1 1 [.int .i64 id] (by rw [hz1]; rfl) hnews (fun u hu => by obtain rfl := List.mem_singleton.1 hu; rfl) hle (by rw [hz1]; simp; omega)
      rw [hrun] at hr2
      simp only [Result.ok.injEq] at hr2
      have ev : v' = v1 := by rw [e1]; exact hr2.1
      have ho' : rowOwn w' v1 (q K ++ [id]) := by rw [← ev, rowOwn, happ, hlen]; exact ho
      obtain ⟨f1, f2⟩ := rowI.grow hW hk h hg (fun b2 e2 => ⟨by rw [rowB, e]; exact e2, hr⟩) (fun _ => ho')
      exact ⟨f2, f1, fun _ => ev, fun h => absurd hr h⟩
  · have hnew : w.grownBy w' none ∧ v'.ownBlock = some w.heap.size := by
      rcases hr2 hr with e | ⟨b, c, e, hle⟩
      · rw [e] at hrun hg hown hloc
        have h0 : (q K).length = 0 := by
          rcases hown.2 with ⟨_, e2⟩ | ⟨_, _, _, e2, _⟩
          · exact e2
          · cases e2
        refine ⟨⟨hg.os, hg.tape, hg.output, hg.size, fun k hk' _ => hg.block k hk' (by simp [Value.ownBlock])⟩, ?_⟩
        rcases hloc with e2 | e2
        · exfalso
          rcases ho.2 with ⟨_, e3⟩ | ⟨_, _, _, e3, _⟩
          · omega
          · rw [e3] at e2; cases e2
        · exact e2
      · rw [e] at hrun hown
        have holds : ∀ j u, ((q K).map encZ)[j]? = some u → w.cell? ((⟨b, 0, none⟩ : Addr).add j) = some u := hown.cells (g := b) rfl
        have hr3 := run_append_grow (P := Try.prog) w 35 ty 3 i0 (.int .i64 0) Try.underlying35 hi hz0 ⟨b, 0, none⟩ (q K).length c ((q K).map encZ) (by rw [hz1]; simp) holds ⟨X, 0, none⟩ 1 1 [.int .i64 id] (by rw [hz1]; rfl) hnews (by omega) (by omega) (growslice_fits (by omega) (by rw [hz2]; omega))
        rw [hrun] at hr3
        simp only [Result.ok.injEq] at hr3
        obtain ⟨rfl, rfl⟩ := hr3
        exact ⟨⟨rfl, rfl, rfl, by simp, fun k hk' _ => heap_alloc_old _ _ hk'⟩, rfl⟩
    obtain ⟨f1, f2⟩ := rowI.grow hW hk h hnew.1 (fun b2 e2 => by cases e2) (fun h => absurd h hr)
    refine ⟨f2, f1, fun h => absurd h hr, fun _ => ?_⟩
    rcases ho.2 with ⟨_, e3⟩ | ⟨b, c, cur, e3, _⟩
    · omega
    · have : b = w.heap.size := by rw [e3] at hnew; simpa [Value.ownBlock] using hnew.2
      refine ⟨b, c, by rw [hlen]; exact e3, by rw [this]; exact hb.size, ?_⟩
      rw [rowOwn, happ, hlen]; exact ho
end Go.Proofs.Ytcekpkjibabjmaa
