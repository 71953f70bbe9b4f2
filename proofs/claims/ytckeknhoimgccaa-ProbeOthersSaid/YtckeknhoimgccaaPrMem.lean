/-
  Layer 12's memory: the program's ring and the document's, behind their pointers; rows of nodes.
-/
import Derived.Test.YtckeknhoimgccaaEOrder
import Derived.Test.YtckeknhoimgccaaPrPlus
namespace Go.Proofs.Ytckeknhoimgccaa
open Go.RowKit

abbrev TG : TypeId := 59
abbrev TW : TypeId := 29
def nV (z : Int) : Value := .int .i64 z
theorem nV_one (xs : List Int) : ∀ u ∈ xs.map nV, u.oneCell' = true := fun u hu => by
  obtain ⟨z, _, rfl⟩ := List.mem_map.1 hu
  rfl
/-- A row of nodes that the call itself has made. -/
def IRow (w : World) (xs : List Int) (e : Ending) (w' : World) : Prop :=
  ∃ A c, e = .returned (.slice A xs.length c) ∧ RV w' A xs.length (xs.map nV) ∧ xs.length ≤ c ∧ c ≤ maxLen ∧ (A = none → c = 0) ∧ (∀ b off, A = some ⟨b, off, none⟩ → w.heap.size ≤ b) ∧ Below w.heap.size w w'
theorem IRow.of_own {w w' : World} {base : Nat} {v : Value} {xs : List Int} (h : w'.ownsRow base 3 1 v xs.length (xs.map nV)) (hb : w.heap.size ≤ base) (hw : Below w.heap.size w w') : IRow w xs (.returned v) w' := by
  obtain ⟨A, c, rfl, hR, hnil, hnc, hm, hbase⟩ := RV.own h
  exact ⟨A, c, rfl, hR, hnc, hm, hnil, fun b off e => Nat.le_trans hb (hbase b off e), hw⟩
theorem IRow.drewn {w w' : World} {xs : List Int} {e : Ending} {n : Nat} (h : IRow (w.drewN n) xs e w') : IRow w xs e w' := by
  obtain ⟨A, c, e, h1, h2, h3, h4, h5, h6⟩ := h
  exact ⟨A, c, e, h1, h2, h3, h4, h5, (below_drewN (Below.refl _ w) n).trans h6⟩

/-! ### Rings -/
/-- A ring's cells: the program's (p), the document's. -/
def ringC (p : Bool) (v : Value) (n : Int) : Obj := if p then .cells #[.bool true, v, .int .i64 n] TG (0, 0) else .cells #[v, .int .i64 n] TW (0, 0)
/-- Where the place lies. -/
def po (p : Bool) : Nat := if p then 2 else 1
/-- Where the list lies. -/
def pl (p : Bool) : Nat := if p then 1 else 0
structure RgIs (p : Bool) (S : Nat → Prop) (w : World) (B : Nat) (A : Option Addr) (c : Nat) (g : Rg) : Prop where
  mine : S B
  blk : w.heap[B]? = some (ringC p (.slice A g.row.length c) (g.at_ : Int))
  row : RVn S w A g.row.length (g.row.map nV)
  le : g.row.length ≤ c
  max : c ≤ maxLen
  nil : A = none → c = 0
/-- The ring g behind block B. -/
def RgAt (p : Bool) (S : Nat → Prop) (w : World) (B : Nat) (g : Rg) : Prop := g.ok ∧ ∃ A c, RgIs p S w B A c g
section
variable {p : Bool} {S S' : Nat → Prop} {w w' : World} {B : Nat} {A : Option Addr} {c : Nat} {g : Rg}
theorem ringC_cells (p : Bool) (v : Value) (n : Int) : ∃ cs T, ringC p v n = .cells cs T (0, 0) ∧ cs[pl p]? = some v ∧ cs[po p]? = some (.int .i64 n) ∧ cs.setIfInBounds (po p) (.int .i64 n) = cs := by
  cases p
  · exact ⟨_, _, rfl, rfl, rfl, rfl⟩
  · exact ⟨_, _, rfl, rfl, rfl, rfl⟩
theorem RgIs.lt (h : RgIs p S w B A c g) : B < w.heap.size := block_lt h.blk
theorem RgIs.but (h : RgIs p S w B A c g) (hb : But S' w w') (hS : ∀ k, S' k → S k) (hB : ¬ S' B) : RgIs p S w' B A c g :=
  ⟨h.mine, (hb.block B h.lt hB).trans h.blk, h.row.but (hb.mono hS), h.le, h.max, h.nil⟩
theorem RgIs.below (h : RgIs p S w B A c g) (hb : Below w.heap.size w w') : RgIs p S w' B A c g := h.but (S' := fun _ => False) (But.of_below hb) (fun _ h => h.elim) (fun h => h)
theorem RgIs.narrow (h : RgIs p S w B A c g) (hs : ∀ k, k < w.heap.size → S' k → S k) (hB : S' B) : RgIs p S' w B A c g := ⟨hB, h.blk, h.row.narrow hs, h.le, h.max, h.nil⟩
theorem RgIs.cl (h : RgIs p S w B A c g) : w.cell? ⟨B, pl p, none⟩ = some (.slice A g.row.length c) := by
  obtain ⟨cs, T, e, h1, _, _⟩ := ringC_cells p (.slice A g.row.length c) (g.at_ : Int)
  rw [cell_of_row _ _ _ cs T _ (by rw [h.blk, e])]
  exact h1
theorem RgIs.co (h : RgIs p S w B A c g) : w.cell? ⟨B, po p, none⟩ = some (.int .i64 (g.at_ : Int)) := by
  obtain ⟨cs, T, e, _, h1, _⟩ := ringC_cells p (.slice A g.row.length c) (g.at_ : Int)
  rw [cell_of_row _ _ _ cs T _ (by rw [h.blk, e])]
  exact h1
theorem RgIs.froz (h : RgIs p S w B A c g) (i : Nat) : w.frozen? ⟨B, i, none⟩ = false := by
  obtain ⟨cs, T, e, _, h1, _⟩ := ringC_cells p (.slice A g.row.length c) (g.at_ : Int)
  have hb := h.blk
  rw [e] at hb
  simp [World.frozen?, hb]
theorem RgIs.built (h : RgIs true S w B A c g) : w.cell? ⟨B, 0, none⟩ = some (.bool true) := by
  rw [cell_of_row _ _ _ _ _ _ (show w.heap[B]? = some (.cells #[.bool true, .slice A g.row.length c, .int .i64 (g.at_ : Int)] TG (0, 0)) from h.blk)]
  rfl
theorem ringC_setAt {v : Value} {n m : Int} (h : w.heap[B]? = some (ringC p v n)) : (w.setCell ⟨B, po p, none⟩ (.int .i64 m)).heap[B]? = some (ringC p v m) := by
  cases p
  · exact (block_set (cur := #[v, .int .i64 n]) h 1 _).trans rfl
  · exact (block_set (cur := #[.bool true, v, .int .i64 n]) h 2 _).trans rfl
theorem ringC_setRow {v v' : Value} {n : Int} (h : w.heap[B]? = some (ringC p v n)) : (w.setCell ⟨B, pl p, none⟩ v').heap[B]? = some (ringC p v' n) := by
  cases p
  · exact (block_set (cur := #[v, .int .i64 n]) h 0 _).trans rfl
  · exact (block_set (cur := #[.bool true, v, .int .i64 n]) h 1 _).trans rfl
theorem But.set_ (S : Nat → Prop) (w : World) (B i : Nat) (v : Value) (h : S B) : But S w (w.setCell ⟨B, i, none⟩ v) := But.set (S := S) w (p := ⟨B, i, none⟩) h v
/-- The place is set. -/
theorem RgIs.setAt (h : RgIs p S w B A c g) (k : Nat) : RgIs p S (w.setCell ⟨B, po p, none⟩ (.int .i64 (k : Int))) B A c ⟨g.row, k⟩ :=
  ⟨h.mine, ringC_setAt h.blk, h.row.but (But.set_ S w B _ _ h.mine), h.le, h.max, h.nil⟩
/-- The list is set. -/
theorem RgIs.setRow (h : RgIs p S w B A c g) {A' : Option Addr} {c' : Nat} {row : List Int} (hr : RVn S w A' row.length (row.map nV)) (h1 : row.length ≤ c') (h2 : c' ≤ maxLen) (h3 : A' = none → c' = 0) : RgIs p S (w.setCell ⟨B, pl p, none⟩ (.slice A' row.length c')) B A' c' ⟨row, g.at_⟩ :=
  ⟨h.mine, ringC_setRow h.blk, hr.but (But.set_ S w B _ _ h.mine), h1, h2, h3⟩
/-- A node of the list. -/
theorem RgIs.node (h : RgIs p S w B A c g) {k : Nat} (hk : k < g.row.length) : ∃ b off, A = some ⟨b, off, none⟩ ∧ b < w.heap.size ∧ w.cell? ⟨b, off + k, none⟩ = some (.int .i64 g.row[k]) := by
  obtain ⟨b, off, e, hb, hc⟩ := h.row.1.at_ hk
  rw [List.getElem_map] at hc
  exact ⟨b, off, e, hb, hc⟩
theorem RgAt.but (h : RgAt p S w B g) (hb : But S' w w') (hS : ∀ k, S' k → S k) (hB : ¬ S' B) : RgAt p S w' B g := by
  obtain ⟨h0, A, c, h1⟩ := h
  exact ⟨h0, A, c, h1.but hb hS hB⟩
theorem RgAt.below (h : RgAt p S w B g) (hb : Below w.heap.size w w') : RgAt p S w' B g := h.but (S' := fun _ => False) (But.of_below hb) (fun _ h => h.elim) (fun h => h)
theorem RgAt.lt (h : RgAt p S w B g) : B < w.heap.size := by
  obtain ⟨_, A, c, h1⟩ := h
  exact h1.lt
theorem RgAt.mine (h : RgAt p S w B g) : S B := by
  obtain ⟨_, A, c, h1⟩ := h
  exact h1.mine
theorem RgAt.narrow (h : RgAt p S w B g) (hs : ∀ k, k < w.heap.size → S' k → S k) (hB : S' B) : RgAt p S' w B g := by
  obtain ⟨h0, A, c, h1⟩ := h
  exact ⟨h0, A, c, h1.narrow hs hB⟩
end
/-- A ring that is not there, or that New did not make. -/
def NoRg (w : World) (v : Value) : Prop := v = .pointer none ∨ ∃ B, v = .pointer (some ⟨B, 0, none⟩) ∧ w.heap[B]? = some (.cells #[.bool false, .slice none 0 0, .int .i64 0] TG (0, 0))
theorem NoRg.below {w w' : World} {v : Value} (h : NoRg w v) (hb : Below w.heap.size w w') : NoRg w' v := h.imp id fun ⟨B, e, hh⟩ => ⟨B, e, (hb.block B (block_lt hh)).trans hh⟩
/-- A list that came in, or that the call has made, outside S. -/
structure Lst (S : Nat → Prop) (w : World) (A : Option Addr) (n c : Nat) (xs : List Int) : Prop where
  rv : RVn S w A n (xs.map nV)
  le : n ≤ c
  max : n ≤ 9223372036854775807
theorem Lst.len {S : Nat → Prop} {w : World} {A : Option Addr} {n c : Nat} {xs : List Int} (h : Lst S w A n c xs) : xs.length = n := by simpa using h.rv.1.1
theorem Lst.but {S S' : Nat → Prop} {w w' : World} {A : Option Addr} {n c : Nat} {xs : List Int} (h : Lst S w A n c xs) (hb : But S' w w') (hS : ∀ k, S' k → S k) : Lst S w' A n c xs := ⟨h.rv.but (hb.mono hS), h.le, h.max⟩
theorem Lst.below {S : Nat → Prop} {w w' : World} {A : Option Addr} {n c : Nat} {xs : List Int} (h : Lst S w A n c xs) (hb : Below w.heap.size w w') : Lst S w' A n c xs := h.but (S' := fun _ => False) (But.of_below hb) (fun _ h => h.elim)
theorem Lst.node {S : Nat → Prop} {w : World} {A : Option Addr} {n c : Nat} {xs : List Int} (h : Lst S w A n c xs) {k : Nat} (hk : k < n) : ∃ b off, A = some ⟨b, off, none⟩ ∧ b < w.heap.size ∧ w.cell? ⟨b, off + k, none⟩ = some (.int .i64 (xs[k]'(by have := h.len; omega))) := by
  obtain ⟨b, off, e, hb, hc⟩ := h.rv.1.at_ hk
  rw [List.getElem_map] at hc
  exact ⟨b, off, e, hb, hc⟩
end Go.Proofs.Ytckeknhoimgccaa
