/-
  How a field is read by its access (layer 20).
-/
import Derived.Test.YtbhhalkpghcflaaZj24
import Derived.Test.YtbhhalkpghcflaaZj29
import Derived.Test.YtbhhalkpghcflaaZj13
namespace Go.Proofs.Ytbhhalkpghcflaa
open Go.RowKit Go.Rel
set_option linter.unusedSimpArgs false
set_option linter.unusedVariables false

/-- What is known while a field is read: the reader, the box, the access's own box. -/
structure Rz (S : Nat → Prop) (R B o b : Nat) (w0 : World) (s : St) (cur : Array Value) (w : World) : Prop where
  rd : RdAt S w R s
  box : w.heap[B]? = some (.cells cur TCm (0, 0))
  ptr : w.cell? ⟨b, 0, none⟩ = some (.pointer (some ⟨B, o, none⟩))
  but : But (fun k => k = R ∨ k = B) w0 w
theorem Rz.drew {S : Nat → Prop} {R B o b : Nat} {w0 w : World} {s : St} {cur : Array Value} (h : Rz S R B o b w0 s cur w) : Rz S R B o b w0 s cur { w with drawn := w.drawn + 1 } := ⟨h.rd.below (Below.refl _ w).drew, h.box, h.ptr, h.but.drew⟩
theorem Rz.read {S : Nat → Prop} {R B o b : Nat} {w0 w w' : World} {s s' : St} {cur : Array Value} (h : Rz S R B o b w0 s cur w) (hB : B ≠ R) (hb : b ≠ R) (hr : RdAt S w' R s') (hw : But (fun k => k = R) w w') : Rz S R B o b w0 s' cur w' :=
  ⟨hr, (hw.block B (block_lt h.box) hB).trans h.box, (hw.cell (World.block_lt_of_cell? _ _ h.ptr) hb).trans h.ptr, h.but.trans (hw.mono fun k hk => .inl hk)⟩
theorem Rz.set {S : Nat → Prop} {R B o b : Nat} {w0 w : World} {s : St} {cur : Array Value} (h : Rz S R B o b w0 s cur w) (hS : S B) (hB : B ≠ R) (hb : b ≠ B) (v : Value) : Rz S R B o b w0 s (cur.setIfInBounds o v) (w.setCell ⟨B, o, none⟩ v) :=
  ⟨h.rd.but (S' := fun k => k = B) (But.set (S := fun k => k = B) w (p := ⟨B, o, none⟩) rfl v) (fun k hk => hk ▸ hS) (fun e => hB e.symm), block_set h.box o v, by
    have := But.set (S := fun k => k = B) w (p := ⟨B, o, none⟩) rfl v
    exact (this.cell (World.block_lt_of_cell? _ _ h.ptr) hb).trans h.ptr, h.but.trans (But.set (S := fun k => k = R ∨ k = B) w (p := ⟨B, o, none⟩) (.inr rfl) v)⟩
theorem Rz.cellB {S : Nat → Prop} {R B o b : Nat} {w0 w : World} {s : St} {cur : Array Value} (h : Rz S R B o b w0 s cur w) (ho : o < cur.size) : (∃ u, w.cell? ⟨B, o, none⟩ = some u) ∧ w.frozen? ⟨B, o, none⟩ = false := by
  refine ⟨⟨cur[o], ?_⟩, ?_⟩
  · rw [cell_of_row w B o cur TCm (0, 0) h.box, Array.getElem?_eq_getElem ho]
  · unfold World.frozen?
    rw [h.box]
    simp
theorem st_int (w : World) (p : Addr) (z : Int) (h : (∃ u, w.cell? p = some u) ∧ w.frozen? p = false) : (storeVar 3 p (.int .i64 z)).run Try.prog w = .ok () (w.setCell p (.int .i64 z)) := by
  obtain ⟨⟨u, hc⟩, hf⟩ := h
  simp [storeVar, go_sem, hc, hf]
theorem st_str (w : World) (p : Addr) (z : ByteArray) (h : (∃ u, w.cell? p = some u) ∧ w.frozen? p = false) : (storeVar 9 p (.string z)).run Try.prog w = .ok () (w.setCell p (.string z)) := by
  obtain ⟨⟨u, hc⟩, hf⟩ := h
  simp [storeVar, go_sem, hc, hf]
theorem st_texts (w : World) (p : Addr) (A : Option Addr) (n c : Nat) (h : (∃ u, w.cell? p = some u) ∧ w.frozen? p = false) : (storeVar 22 p (.slice A n c)).run Try.prog w = .ok () (w.setCell p (.slice A n c)) := by
  obtain ⟨⟨u, hc⟩, hf⟩ := h
  simp [storeVar, go_sem, hc, hf]
theorem st_subs (w : World) (p : Addr) (A : Option Addr) (n c : Nat) (h : (∃ u, w.cell? p = some u) ∧ w.frozen? p = false) : (storeVar 24 p (.slice A n c)).run Try.prog w = .ok () (w.setCell p (.slice A n c)) := by
  obtain ⟨⟨u, hc⟩, hf⟩ := h
  simp [storeVar, go_sem, hc, hf]
theorem st_flag (w : World) (p : Addr) (z : Bool) (h : (∃ u, w.cell? p = some u) ∧ w.frozen? p = false) : (storeVar 4 p (.bool z)).run Try.prog w = .ok () (w.setCell p (.bool z)) := by
  obtain ⟨⟨u, hc⟩, hf⟩ := h
  simp [storeVar, go_sem, hc, hf]
theorem st_idx (w : World) (p : Addr) (z : Int) (h : (∃ u, w.cell? p = some u) ∧ w.frozen? p = false) : (storeVar 23 p (.int .u64 z)).run Try.prog w = .ok () (w.setCell p (.int .u64 z)) := by
  obtain ⟨⟨u, hc⟩, hf⟩ := h
  simp [storeVar, go_sem, hc, hf]
/-- What a field's reading leaves. -/
def ReadF (S : Nat → Prop) (R B o : Nat) (w : World) (s : St) (cur : Array Value) (v : Value) (e : Ending) (w' : World) : Prop := e = .returned (.tuple #[]) ∧ RdAt S w' R s ∧ w'.heap[B]? = some (.cells (cur.setIfInBounds o v) TCm (0, 0)) ∧ But (fun k => k = R ∨ k = B) w w'
end Go.Proofs.Ytbhhalkpghcflaa
