/-
  What the document's Get carries along (layer 13): its reader, the message that is being read, its row of updates.
-/
import Derived.Test.YtjbemjnofnifaaaZj35
import Derived.Test.YtjbemjnofnifaaaZj36
namespace Go.Proofs.Ytjbemjnofnifaaa
open Go.RowKit
set_option linter.unusedSimpArgs false
set_option linter.unusedVariables false

def mgC (m : Ms) (v : Value) : Array Value := #[.int .i64 m.kind, .int .u32 (m.seq : Int), .int .i64 m.src, .int .i64 m.tgt, .bool m.rep, v]
/-- The reader at B stands at s, the message in M is m, its updates in the row v of the call's own. -/
structure Rg3 (w : World) (X M B : Nat) (s : St) (m : Ms) (v : Value) (wr : World) : Prop where
  rd : RfAt (fun k => w.heap.size ≤ k) wr B s
  mg : wr.heap[M]? = some (.cells (mgC m v) 25 (0, 0))
  row : upRow wr (B + 1) v m.us
  out : wr.heap[X]? = some (.cells #[.int .i64 0, .int .u32 0, .int .i64 0, .int .i64 0, .bool false, .slice none 0 0] 25 (0, 0))
  below : Below w.heap.size w wr
  size : B + 1 ≤ wr.heap.size
  far : w.heap.size ≤ X ∧ X < M ∧ M < B
theorem Rg3.cells {w wr : World} {X M B : Nat} {s : St} {m : Ms} {v : Value} (h : Rg3 w X M B s m v wr) : wr.cell? ⟨M, 0, none⟩ = some (.int .i64 m.kind) ∧ wr.cell? ⟨M, 1, none⟩ = some (.int .u32 (m.seq : Int)) ∧ wr.cell? ⟨M, 2, none⟩ = some (.int .i64 m.src) ∧ wr.cell? ⟨M, 3, none⟩ = some (.int .i64 m.tgt) ∧ wr.cell? ⟨M, 4, none⟩ = some (.bool m.rep) ∧ wr.cell? ⟨M, 5, none⟩ = some v := blk6 h.mg
/-- A read. -/
theorem Rg3.read {w wr w1 : World} {X M B : Nat} {s s1 : St} {m : Ms} {v u : Value} {e : Ending} (h : Rg3 w X M B s m v wr) (hr : ReadsF (fun k => w.heap.size ≤ k) B wr u s1 e w1) : Rg3 w X M B s1 m v w1 := by
  obtain ⟨_, h2, h3⟩ := hr
  have hf := h.far
  exact ⟨h2, (h3.block M (block_lt h.mg) (by omega)).trans h.mg, own_but h.row h3 (fun j hj hs => by have := (h.row.lt j hj).1; omega), (h3.block X (block_lt h.out) (by omega)).trans h.out,
    h.below.trans (h3.below h.below.size (fun k hk e => by omega)), Nat.le_trans h.size h3.size, h.far⟩
/-- A field of the message is stored. -/
theorem Rg3.store {w wr : World} {X M B : Nat} {s : St} {m m2 : Ms} {v v2 : Value} (h : Rg3 w X M B s m v wr) (i : Nat) (u : Value) (hm : (mgC m v).setIfInBounds i u = mgC m2 v2) (hrow : upRow wr (B + 1) v2 m2.us) : Rg3 w X M B s m2 v2 (wr.setCell ⟨M, i, none⟩ u) := by
  have hbt : But (fun k => k = M) wr (wr.setCell ⟨M, i, none⟩ u) := But.set (S := fun k => k = M) wr (p := ⟨M, i, none⟩) rfl u
  have hf := h.far
  refine ⟨h.rd.but hbt (fun k hk => by omega) (by omega), ?_, own_but hrow hbt (fun j hj hs => by have := (hrow.lt j hj).1; omega), (hbt.block X (block_lt h.out) (by omega)).trans h.out,
    h.below.trans (hbt.below h.below.size (fun k hk e => by omega)), Nat.le_trans h.size hbt.size, h.far⟩
  rw [block_set h.mg i u, hm]
/-- New memory alone. -/
theorem Rg3.kept {w wr w1 : World} {X M B : Nat} {s : St} {m : Ms} {v : Value} (h : Rg3 w X M B s m v wr) (hb : Below wr.heap.size wr w1) : Rg3 w X M B s m v w1 :=
  ⟨h.rd.below hb, (hb.block M (block_lt h.mg)).trans h.mg, bown_keep h.row hb, (hb.block X (block_lt h.out)).trans h.out, h.below.trans (hb.mono h.below.size), Nat.le_trans h.size hb.size, h.far⟩
/-- The row has grown. -/
theorem Rg3.grown {w wr w1 : World} {X M B : Nat} {s : St} {m : Ms} {v : Value} (h : Rg3 w X M B s m v wr) (hg : wr.grownBy w1 v.ownBlock) : Rg3 w X M B s { m with us := [] } (.slice none 0 0) (w1.setCell ⟨M, 5, none⟩ (.slice none 0 0)) := by
  have hbt : But (fun k => B + 1 ≤ k) wr w1 := But.of_grown hg (fun r hr _ => (h.row.lt r hr).1)
  have hf := h.far
  have hr := h.rd.but hbt (fun k hk => by omega) (by omega)
  have h1 : w1.heap[M]? = some (.cells (mgC m v) 25 (0, 0)) := (hbt.block M (block_lt h.mg) (by omega)).trans h.mg
  have hb2 : But (fun k => k = M) w1 (w1.setCell ⟨M, 5, none⟩ (.slice none 0 0)) := But.set (S := fun k => k = M) w1 (p := ⟨M, 5, none⟩) rfl _
  have h2 : w1.heap[X]? = _ := (hbt.block X (block_lt h.out) (by omega)).trans h.out
  refine ⟨hr.but hb2 (fun k hk => by omega) (by omega), by rw [block_set h1 5 _]; rfl, upRow.nil _ _, (hb2.block X (block_lt h2) (by omega)).trans h2, ?_, Nat.le_trans h.size (Nat.le_trans hbt.size hb2.size), h.far⟩
  exact (h.below.trans (hbt.below h.below.size (fun k hk e => by omega))).trans (hb2.below (Nat.le_trans h.below.size hbt.size) (fun k hk e => by omega))
/-- An update more. -/
theorem Rg3.more {w wr w1 : World} {X M B : Nat} {s : St} {m : Ms} {v v2 : Value} {u : Up} (h : Rg3 w X M B s m v wr) (hg : wr.grownBy w1 v.ownBlock) (hrow : upRow w1 (B + 1) v2 (m.us ++ [u])) : Rg3 w X M B s { m with us := m.us ++ [u] } v2 (w1.setCell ⟨M, 5, none⟩ v2) := by
  have hbt : But (fun k => B + 1 ≤ k) wr w1 := But.of_grown hg (fun r hr _ => (h.row.lt r hr).1)
  have hf := h.far
  have hr := h.rd.but hbt (fun k hk => by omega) (by omega)
  have h1 : w1.heap[M]? = some (.cells (mgC m v) 25 (0, 0)) := (hbt.block M (block_lt h.mg) (by omega)).trans h.mg
  have hb2 : But (fun k => k = M) w1 (w1.setCell ⟨M, 5, none⟩ v2) := But.set (S := fun k => k = M) w1 (p := ⟨M, 5, none⟩) rfl _
  have h2 : w1.heap[X]? = _ := (hbt.block X (block_lt h.out) (by omega)).trans h.out
  refine ⟨hr.but hb2 (fun k hk => by omega) (by omega), by rw [block_set h1 5 _]; rfl, own_but hrow hb2 (fun j hj hs => by have := (hrow.lt j hj).1; omega), (hb2.block X (block_lt h2) (by omega)).trans h2, ?_, Nat.le_trans h.size (Nat.le_trans hbt.size hb2.size), h.far⟩
  exact (h.below.trans (hbt.below h.below.size (fun k hk e => by omega))).trans (hb2.below (Nat.le_trans h.below.size hbt.size) (fun k hk e => by omega))
theorem Rg3.froz {w wr : World} {X M B : Nat} {s : St} {m : Ms} {v : Value} (h : Rg3 w X M B s m v wr) (i : Nat) : wr.frozen? ⟨M, i, none⟩ = false := blk_froz h.mg i
/-- The message as a value. -/
theorem Rg3.mi {w wr : World} {X M B : Nat} {s : St} {m : Ms} {v : Value} (h : Rg3 w X M B s m v wr) : ∃ x : Mi, x.m = m ∧ v = .slice x.us.A x.us.l.length x.us.c ∧ (UsOk wr x.us ∧ TyU wr x.us) ∧ ∀ b off, x.us.A = some ⟨b, off, none⟩ → B + 1 ≤ b := by
  obtain ⟨A, c, e, hu, hn, hty⟩ := UsOk.of_row h.row
  exact ⟨⟨m.kind, m.seq, m.src, m.tgt, m.rep, ⟨A, c, m.us⟩⟩, rfl, e, ⟨hu, hty⟩, hn⟩
theorem fnum_of {S : Nat → Prop} {B most : Nat} {w w1 : World} {s : St} {e : Ending} (h : ReadsF S B w (u64V ((itNum most).out s)) ((itNum most).next s) e w1) : ∃ z : Nat, z = (itNum most).out s ∧ z ≤ most ∧ e = .returned (.int .u64 (z : Int)) := ⟨_, rfl, num_out_le _ _, h.1⟩
/-- The first error stays. -/
theorem ups_stop {k n : Nat} {t : St} (hk : k ≤ n) (he : (upsNext k t).e ≠ 0) : upsNext n t = upsNext k t := by
  have : ∀ (j k : Nat) (t : St), (upsNext k t).e ≠ 0 → upsNext (k + j) t = upsNext k t := by
    intro j
    induction j with
    | zero => intro k t _; rfl
    | succ j ih =>
      intro k t h
      rw [show k + (j + 1) = (k + j) + 1 by omega, upsNext_snoc, ih k t h, upNext_err h]
  have e := this (n - k) k t he
  rwa [show k + (n - k) = n by omega] at e
theorem doneS_err {s : St} (h : s.e ≠ 0) : doneS s ≠ 0 := by
  unfold doneS
  rw [if_neg (fun e => h e.1)]
  exact h
theorem Rg3.mgGrown {w wr w1 : World} {X M B : Nat} {s : St} {m : Ms} {v : Value} (h : Rg3 w X M B s m v wr) (hg : wr.grownBy w1 v.ownBlock) : w1.heap[M]? = some (.cells (mgC m v) 25 (0, 0)) := by
  have hbt : But (fun k => B + 1 ≤ k) wr w1 := But.of_grown hg (fun r hr _ => (h.row.lt r hr).1)
  have hf := h.far
  exact (hbt.block M (block_lt h.mg) (by omega)).trans h.mg
theorem rg3_start (w : World) (A : Option Addr) (n c : Nat) (xs : List UInt8) (hB : BodyAt w A c xs) (hn : xs.length = n) (k : Nat) (o : Obj) :
    Rg3 w (w.heap.size + 1) (w.heap.size + 1 + 1) (w.heap.size + 1 + 1 + 1) ⟨xs, 0⟩ (startM (k : Int)) (.slice none 0 0) ((((w.alloc o).alloc (.cells #[.int .i64 0, .int .u32 0, .int .i64 0, .int .i64 0, .bool false, .slice none 0 0] 25)).alloc (.cells #[.int .i64 (k : Int), .int .u32 0, .int .i64 0, .int .i64 0, .bool false, .slice none 0 0] 25)).alloc (.cells #[.slice A n c, .int .i64 0] 79)) := by
  subst hn
  obtain ⟨hrb, hnc, hnil, hm⟩ := hB
  generalize hW : (((w.alloc o).alloc (.cells #[.int .i64 0, .int .u32 0, .int .i64 0, .int .i64 0, .bool false, .slice none 0 0] 25)).alloc (.cells #[.int .i64 (k : Int), .int .u32 0, .int .i64 0, .int .i64 0, .bool false, .slice none 0 0] 25)).alloc (.cells #[.slice A xs.length c, .int .i64 0] 79) = W
  have hs : W.heap.size = w.heap.size + 1 + 1 + 1 + 1 := by rw [← hW]; simp
  have hb : Below w.heap.size w W := by
    rw [← hW]
    exact ((below2 w _ _).alloc (by simp; omega) _).alloc (by simp; omega) _
  have h1 := heap_alloc_new (w.alloc o) (.cells #[.int .i64 0, .int .u32 0, .int .i64 0, .int .i64 0, .bool false, .slice none 0 0] 25)
  have h2 := heap_alloc_new ((w.alloc o).alloc (.cells #[.int .i64 0, .int .u32 0, .int .i64 0, .int .i64 0, .bool false, .slice none 0 0] 25)) (.cells #[.int .i64 (k : Int), .int .u32 0, .int .i64 0, .int .i64 0, .bool false, .slice none 0 0] 25)
  have h3 := heap_alloc_new (((w.alloc o).alloc (.cells #[.int .i64 0, .int .u32 0, .int .i64 0, .int .i64 0, .bool false, .slice none 0 0] 25)).alloc (.cells #[.int .i64 (k : Int), .int .u32 0, .int .i64 0, .int .i64 0, .bool false, .slice none 0 0] 25)) (.cells #[.slice A xs.length c, .int .i64 0] 79)
  simp only [World.size_alloc] at h1 h2 h3
  rw [hW] at h3
  have h2' := ((below1 _ (.cells #[.slice A xs.length c, .int .i64 0] 79)).block (w.heap.size + 1 + 1) (by simp)).trans h2
  rw [hW] at h2'
  have h1' := ((below2 _ (.cells #[.int .i64 (k : Int), .int .u32 0, .int .i64 0, .int .i64 0, .bool false, .slice none 0 0] 25) (.cells #[.slice A xs.length c, .int .i64 0] 79)).block (w.heap.size + 1) (by simp)).trans h1
  rw [hW] at h1'
  refine ⟨⟨by omega, A, xs.length, c, h3, ⟨hrb.below hb, fun b off e hn0 hle => ?_⟩, hnc, hnil, by show xs.length ≤ _; omega⟩, h2', upRow.nil _ _, h1', hb, by omega, by omega⟩
  obtain ⟨b', off', e', hlt, _⟩ := hrb.2 hn0
  rw [e] at e'
  simp only [Option.some.injEq, Addr.mk.injEq] at e'
  omega
end Go.Proofs.Ytjbemjnofnifaaa
