/-
  A list of rows behind a pointer as the document keeps it (how many there may be, the rows, the last index), whatever the rows: enc says a row's k cells, T the struct's type. Nothing of any program stands here.
-/
import Derived.Test.YtnobpbbedclbkaaZj6
namespace Go.Proofs.Ytnobpbbedclbkaa
open Go.RowKit
set_option linter.unusedSimpArgs false
set_option linter.unusedVariables false

structure Ls (α : Type) where
  most : Nat
  l : List α
  last : Nat
def Ls.raise {α : Type} (t : Ls α) (i : Nat) : Ls α := { t with last := max t.last i }
theorem Ls.raise_max {α : Type} {t : Ls α} {i : Nat} (h : t.last < i) : t.raise i = { t with last := i } := by
  unfold Ls.raise
  rw [Nat.max_eq_right (Nat.le_of_lt h)]
theorem Ls.raise_same {α : Type} {t : Ls α} {i : Nat} (h : ¬ t.last < i) : t.raise i = t := by
  unfold Ls.raise
  rw [Nat.max_eq_left (by omega)]
section
variable {α : Type} (enc : α → List Value) (z : Nat) (T : TypeId)
/-- The document's list t behind block B, its rows in S. -/
structure DcIs (S : Nat → Prop) (w : World) (B : Nat) (A : Option Addr) (c : Nat) (t : Ls α) : Prop where
  mine : S B
  blk : w.heap[B]? = some (.cells #[.int .i64 (t.most : Int), .slice A t.l.length c, .int .u64 (t.last : Int)] T (0, 0))
  row : SK enc z w A t.l.length t.l
  own : ∀ b off, A = some ⟨b, off, none⟩ → 0 < t.l.length → S b ∧ b ≠ B
  le : t.l.length ≤ c
  max : c ≤ maxLen
variable {enc z T} {S S' : Nat → Prop} {w w' : World} {B : Nat} {A : Option Addr} {c : Nat} {t : Ls α}
theorem DcIs.lt (h : DcIs enc z T S w B A c t) : B < w.heap.size := block_lt h.blk
theorem DcIs.but (h : DcIs enc z T S w B A c t) (hb : But S' w w') (hS : ∀ k, S' k → ¬ S k) : DcIs enc z T S w' B A c t :=
  ⟨h.mine, (hb.block B h.lt fun e => hS B e h.mine).trans h.blk, h.row.but hb fun b off e hn q => hS b q (h.own b off e hn).1, h.own, h.le, h.max⟩
theorem DcIs.below (h : DcIs enc z T S w B A c t) (hb : Below w.heap.size w w') : DcIs enc z T S w' B A c t := h.but (S' := fun _ => False) (But.of_below hb) (fun _ h => h.elim)
theorem DcIs.narrow (h : DcIs enc z T S w B A c t) (hs : ∀ k, k < w.heap.size → S k → S' k) : DcIs enc z T S' w B A c t :=
  ⟨hs _ h.lt h.mine, h.blk, h.row, fun b off e hn => by
    obtain ⟨b', off', e', hb, _⟩ := h.row.at_ (j := 0) hn hn
    rw [e] at e'
    cases e'
    exact ⟨hs b hb (h.own b off e hn).1, (h.own b off e hn).2⟩, h.le, h.max⟩
theorem DcIs.c0 (h : DcIs enc z T S w B A c t) : w.cell? ⟨B, 0, none⟩ = some (.int .i64 (t.most : Int)) := by rw [cell_of_row _ _ _ _ _ _ h.blk]; rfl
theorem DcIs.c1 (h : DcIs enc z T S w B A c t) : w.cell? ⟨B, 1, none⟩ = some (.slice A t.l.length c) := by rw [cell_of_row _ _ _ _ _ _ h.blk]; rfl
theorem DcIs.c2 (h : DcIs enc z T S w B A c t) : w.cell? ⟨B, 2, none⟩ = some (.int .u64 (t.last : Int)) := by rw [cell_of_row _ _ _ _ _ _ h.blk]; rfl
theorem DcIs.froz (h : DcIs enc z T S w B A c t) (i : Nat) : w.frozen? ⟨B, i, none⟩ = false := by
  have hb := h.blk
  simp [World.frozen?, hb]
/-- The last index is set. -/
theorem DcIs.setLast (h : DcIs enc z T S w B A c t) (n : Nat) : DcIs enc z T S (w.setCell ⟨B, 2, none⟩ (.int .u64 (n : Int))) B A c { t with last := n } :=
  ⟨h.mine, block_set (cur := #[.int .i64 (t.most : Int), .slice A t.l.length c, .int .u64 (t.last : Int)]) h.blk 2 _, h.row.but (S := (· = B)) (But.set (S := (· = B)) w (p := ⟨B, 2, none⟩) rfl _) (fun b off e hn => (h.own b off e hn).2), h.own, h.le, h.max⟩
/-- The rows are set: a row of the call's own. -/
theorem DcIs.setRows (h : DcIs enc z T S w B A c t) {l : List α} {A' : Option Addr} {c' : Nat} (hr : SK enc z w A' l.length l) (ho : ∀ b off, A' = some ⟨b, off, none⟩ → 0 < l.length → S b ∧ b ≠ B) (h1 : l.length ≤ c') (h2 : c' ≤ maxLen) : DcIs enc z T S (w.setCell ⟨B, 1, none⟩ (.slice A' l.length c')) B A' c' { t with l := l } :=
  ⟨h.mine, block_set (cur := #[.int .i64 (t.most : Int), .slice A t.l.length c, .int .u64 (t.last : Int)]) h.blk 1 _, hr.but (S := (· = B)) (But.set (S := (· = B)) w (p := ⟨B, 1, none⟩) rfl _) (fun b off e hn => (ho b off e hn).2), ho, h1, h2⟩
end
end Go.Proofs.Ytnobpbbedclbkaa
