/-
  Layer 15's memory: rows of four cells, and the document's table behind its pointer.
-/
import Derived.Test.YtphjlcogjalidaaSK
import Derived.Test.YtphjlcogjalidaaTbPlain
namespace Go.Proofs.Ytphjlcogjalidaa
open Go.RowKit

abbrev TD : TypeId := 43
abbrev TDR : TypeId := 35
/-- A row's cells, of ints. -/
def trC (r : Rw Int) : List Value := [.string r.key, .int .i64 r.val, .int .u64 (r.made : Int), .int .u64 (r.ix : Int)]
/-- A row as a value. -/
def trV (r : Rw Int) : Value := .agg #[.string r.key, .int .i64 r.val, .int .u64 (r.made : Int), .int .u64 (r.ix : Int)]
theorem trC_len (r : Rw Int) : (trC r).length = 4 := rfl
theorem trC_one (r : Rw Int) : ∀ u ∈ trC r, u.oneCell' = true := fun u hu => by
  simp only [trC, List.mem_cons, List.not_mem_nil, or_false] at hu
  rcases hu with rfl | rfl | rfl | rfl <;> rfl
/-- A row of no key. -/
def noRw : Rw Int := ⟨⟨#[]⟩, 0, 0, 0⟩
theorem tr_cells {w : World} {b o : Nat} {r : Rw Int} (h : ItAt trC w b o r) : w.cell? ⟨b, o, none⟩ = some (.string r.key) ∧ w.cell? ⟨b, o + 1, none⟩ = some (.int .i64 r.val) ∧ w.cell? ⟨b, o + 2, none⟩ = some (.int .u64 (r.made : Int)) ∧ w.cell? ⟨b, o + 3, none⟩ = some (.int .u64 (r.ix : Int)) :=
  ⟨h 0 _ rfl, h 1 _ rfl, h 2 _ rfl, h 3 _ rfl⟩
theorem blk4 {w : World} {B : Nat} {a b c d : Value} {t : TypeId} (h : w.heap[B]? = some (.cells #[a, b, c, d] t (0, 0))) : w.cell? ⟨B, 0, none⟩ = some a ∧ w.cell? ⟨B, 1, none⟩ = some b ∧ w.cell? ⟨B, 2, none⟩ = some c ∧ w.cell? ⟨B, 3, none⟩ = some d := by
  refine ⟨?_, ?_, ?_, ?_⟩ <;> (rw [cell_of_row _ _ _ _ _ _ h]; rfl)
theorem set4_blk {W : World} {X : Nat} {u0 u1 u2 u3 : Value} {t : TypeId} (h : W.heap[X]? = some (.cells #[u0, u1, u2, u3] t (0, 0))) (a b c d : Value) :
    ((((W.setCell ⟨X, 0, none⟩ a).setCell ⟨X, 1, none⟩ b).setCell ⟨X, 2, none⟩ c).setCell ⟨X, 3, none⟩ d).heap[X]? = some (.cells #[a, b, c, d] t (0, 0)) := block_set (block_set (block_set (block_set h 0 a) 1 b) 2 c) 3 d
theorem blk_froz {W : World} {X : Nat} {cur : Array Value} {t : TypeId} (h : W.heap[X]? = some (.cells cur t (0, 0))) (i : Nat) : W.frozen? ⟨X, i, none⟩ = false := by simp [World.frozen?, h]
theorem below1 (w : World) (cs : Array Value) (T : TypeId) : Below w.heap.size w (w.alloc (.cells cs T)) := (Below.refl _ w).alloc (Nat.le_refl _) _
theorem below_set4 {X : Nat} {w0 w : World} (h : Below X w0 w) (a b c d : Value) : Below X w0 ((((w.setCell ⟨X, 0, none⟩ a).setCell ⟨X, 1, none⟩ b).setCell ⟨X, 2, none⟩ c).setCell ⟨X, 3, none⟩ d) :=
  (((h.setCell (Nat.le_refl X) _).setCell (Nat.le_refl X) _).setCell (Nat.le_refl X) _).setCell (Nat.le_refl X) _
theorem but_set4 (X : Nat) (w : World) (a b c d : Value) : But (· = X) w ((((w.setCell ⟨X, 0, none⟩ a).setCell ⟨X, 1, none⟩ b).setCell ⟨X, 2, none⟩ c).setCell ⟨X, 3, none⟩ d) :=
  (((But.set (S := (· = X)) w (p := ⟨X, 0, none⟩) rfl a).trans (But.set (S := (· = X)) _ (p := ⟨X, 1, none⟩) rfl b)).trans (But.set (S := (· = X)) _ (p := ⟨X, 2, none⟩) rfl c)).trans (But.set (S := (· = X)) _ (p := ⟨X, 3, none⟩) rfl d)
theorem tr_info : (Try.prog.info? 35).map (fun i => (i.zero, i.size, i.bytes)) = some (some (.agg #[.string ⟨#[]⟩, .int .i64 0, .int .u64 0, .int .u64 0]), 4, 40) := by kernel_rfl
abbrev trRow (w : World) (base : Nat) (v : Value) (l : List (Rw Int)) : Prop := rowK trC 35 4 w base v l
/-- append of a row to a row of the call's own. -/
theorem wpList_append_tr {w : World} {ops : Array Oper} {rest : List Oper} {o : Oper} {a : Act} {Q : Exit → Act → World → Prop} (hgd : o.guard = none) (s x : Operand)
    (ho : o.op = .call { callee := .builtin .append, args := #[s, x], argTypes := #[40, 40] })
    (base : Nat) (v : Value) (l : List (Rw Int)) (hs : a.eval s = v) (hown : trRow w base v l) (X : Nat) (y : Rw Int) (hx : a.eval x = .slice (some ⟨X, 0, none⟩) 1 1) (hc : ItAt trC w X 0 y)
    (hl : l.length ≤ 1000) (hbase : base ≤ w.heap.size)
    (h : Hid (∀ v' w', trRow w' base v' (l ++ [y]) → w.grownBy w' v.ownBlock → wpList Try.prog ops Q rest (a.put o.dst v') w')) : wpList Try.prog ops Q (o :: rest) a w := by
  obtain ⟨i0, hi, hz0, hz1, hz2⟩ := info_parts tr_info
  exact wpList_append_k hgd s x _ ho i0 _ 40 Try.underlying40 hi hz0 hz1 hz2 rfl (by decide) trC_len trC_one base v l hs hown X y hx hc (by unfold maxLen; omega) (by omega) hbase h
/-- A row that was just laid. -/
theorem tr_new (w : World) (r : Rw Int) (T : TypeId) : ItAt trC (w.alloc (.cells #[.string r.key, .int .i64 r.val, .int .u64 (r.made : Int), .int .u64 (r.ix : Int)] T)) w.heap.size 0 r := ItAt.of_new r _ rfl T
theorem trRow.snoc_below {w0 wr w' : World} {base : Nat} {v : Value} {l : List (Rw Int)} (h : trRow wr base v l) (hb : Below base w0 wr) (hB : base ≤ wr.heap.size) {o : Obj} (hg : (wr.alloc o).grownBy w' v.ownBlock) : Below base w0 w' :=
  (hb.alloc hB o).grown hg (by simp; omega) fun _ e => (h.from _ e).1
/-- The document's table t behind block B, its rows in S. -/
structure RtIs (S : Nat → Prop) (w : World) (B : Nat) (A : Option Addr) (c : Nat) (t : Tb Int) : Prop where
  mine : S B
  blk : w.heap[B]? = some (.cells #[.int .i64 (t.most : Int), .slice A t.l.length c, .int .u64 (t.last : Int)] TD (0, 0))
  row : SK trC 4 w A t.l.length t.l
  own : ∀ b off, A = some ⟨b, off, none⟩ → 0 < t.l.length → S b ∧ b ≠ B
  le : t.l.length ≤ c
  max : c ≤ maxLen
def RtAt (S : Nat → Prop) (w : World) (B : Nat) (t : Tb Int) : Prop := t.Ok ∧ ∃ A c, RtIs S w B A c t
section
variable {S S' : Nat → Prop} {w w' : World} {B : Nat} {A : Option Addr} {c : Nat} {t : Tb Int}
theorem RtIs.lt (h : RtIs S w B A c t) : B < w.heap.size := block_lt h.blk
theorem RtIs.but (h : RtIs S w B A c t) (hb : But S' w w') (hS : ∀ k, S' k → ¬ S k) : RtIs S w' B A c t :=
  ⟨h.mine, (hb.block B h.lt fun e => hS B e h.mine).trans h.blk, h.row.but hb fun b off e hn z => hS b z (h.own b off e hn).1, h.own, h.le, h.max⟩
theorem RtIs.below (h : RtIs S w B A c t) (hb : Below w.heap.size w w') : RtIs S w' B A c t := h.but (S' := fun _ => False) (But.of_below hb) (fun _ h => h.elim)
theorem RtIs.narrow (h : RtIs S w B A c t) (hs : ∀ k, k < w.heap.size → S k → S' k) : RtIs S' w B A c t :=
  ⟨hs _ h.lt h.mine, h.blk, h.row, fun b off e hn => by
    obtain ⟨b', off', e', hb, _⟩ := h.row.at_ (j := 0) hn hn
    rw [e] at e'
    cases e'
    exact ⟨hs b hb (h.own b off e hn).1, (h.own b off e hn).2⟩, h.le, h.max⟩
theorem RtIs.c0 (h : RtIs S w B A c t) : w.cell? ⟨B, 0, none⟩ = some (.int .i64 (t.most : Int)) := by rw [cell_of_row _ _ _ _ _ _ h.blk]; rfl
theorem RtIs.c1 (h : RtIs S w B A c t) : w.cell? ⟨B, 1, none⟩ = some (.slice A t.l.length c) := by rw [cell_of_row _ _ _ _ _ _ h.blk]; rfl
theorem RtIs.c2 (h : RtIs S w B A c t) : w.cell? ⟨B, 2, none⟩ = some (.int .u64 (t.last : Int)) := by rw [cell_of_row _ _ _ _ _ _ h.blk]; rfl
theorem RtIs.froz (h : RtIs S w B A c t) (i : Nat) : w.frozen? ⟨B, i, none⟩ = false := by
  have hb := h.blk
  simp [World.frozen?, hb]
/-- The last index is set. -/
theorem RtIs.setLast (h : RtIs S w B A c t) (n : Nat) : RtIs S (w.setCell ⟨B, 2, none⟩ (.int .u64 (n : Int))) B A c { t with last := n } :=
  ⟨h.mine, block_set (cur := #[.int .i64 (t.most : Int), .slice A t.l.length c, .int .u64 (t.last : Int)]) h.blk 2 _, h.row.but (S := (· = B)) (But.set (S := (· = B)) w (p := ⟨B, 2, none⟩) rfl _) (fun b off e hn => (h.own b off e hn).2), h.own, h.le, h.max⟩
/-- The rows are set: a row of the call's own. -/
theorem RtIs.setRows (h : RtIs S w B A c t) {l : List (Rw Int)} {A' : Option Addr} {c' : Nat} (hr : SK trC 4 w A' l.length l) (ho : ∀ b off, A' = some ⟨b, off, none⟩ → 0 < l.length → S b ∧ b ≠ B) (h1 : l.length ≤ c') (h2 : c' ≤ maxLen) : RtIs S (w.setCell ⟨B, 1, none⟩ (.slice A' l.length c')) B A' c' { t with l := l } :=
  ⟨h.mine, block_set (cur := #[.int .i64 (t.most : Int), .slice A t.l.length c, .int .u64 (t.last : Int)]) h.blk 1 _, hr.but (S := (· = B)) (But.set (S := (· = B)) w (p := ⟨B, 1, none⟩) rfl _) (fun b off e hn => (ho b off e hn).2), ho, h1, h2⟩
theorem RtAt.but (h : RtAt S w B t) (hb : But S' w w') (hS : ∀ k, S' k → ¬ S k) : RtAt S w' B t := by
  obtain ⟨h0, A, c, h1⟩ := h
  exact ⟨h0, A, c, h1.but hb hS⟩
theorem RtAt.below (h : RtAt S w B t) (hb : Below w.heap.size w w') : RtAt S w' B t := h.but (S' := fun _ => False) (But.of_below hb) (fun _ h => h.elim)
theorem RtAt.lt (h : RtAt S w B t) : B < w.heap.size := by
  obtain ⟨_, A, c, h1⟩ := h
  exact h1.lt
end
end Go.Proofs.Ytphjlcogjalidaa
