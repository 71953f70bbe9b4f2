/-
  The box of a command that comes in (layer 20).
-/
import Derived.Test.YtbhhalkpghcflaaZj15
namespace Go.Proofs.Ytbhhalkpghcflaa
open Go.RowKit
set_option linter.unusedSimpArgs false
set_option linter.unusedVariables false

theorem bx_cell {w : World} {B : Nat} {cur : Array Value} {t : TypeId} (h : w.heap[B]? = some (.cells cur t (0, 0))) (i : Nat) (v : Value) (hv : cur[i]? = some v) : w.cell? ⟨B, i, none⟩ = some v := by
  rw [cell_of_row w B i cur t (0, 0) h]
  exact hv
/-- A whole row is loaded, where a guard lets it. -/
theorem wpList_load_midg {P : Program} {ops : Array Oper} {rest : List Oper} {op : Oper} {a : Act} {w : World} {Q : Exit → Act → World → Prop} (hgd : Region.wanted op (yielded ops a.tmps) = true) (ty : TypeId) (x : Operand) (ho : op.op = .load ty x)
    (b o : Nat) (hx : a.eval x = .pointer (some ⟨b, o, none⟩)) (cs : List Value) (d : TypeDesc) (hc : w.rangeAt b o cs)
    (hu : P.underlying ty = some d) (hd : d.isRow = true) (hi : (P.info? ty).map (·.size) = some cs.length)
    (h : wpList P ops Q rest (a.put op.dst (.agg cs.toArray)) w) : wpList P ops Q (op :: rest) a w :=
  wpList_step fun K hK => by
    rw [if_pos hgd]
    exact wp_load_mid ty x ho b o hx cs d hc hu hd hi (hK _ _ h)
/-- The box of the command that came in. -/
def Bx (w : World) (N : Nat) (x : CmW) : Prop := w.heap[N]? = some (.cells #[.int .i64 x.kind, .int .i64 x.node, .int .i64 x.port, .int .i64 x.status, .string ⟨x.id.toArray⟩, .string ⟨x.name.toArray⟩, .string ⟨x.svc.toArray⟩, .string ⟨x.note.toArray⟩, .string ⟨x.key.toArray⟩, .string ⟨x.val.toArray⟩, .string ⟨x.src.toArray⟩, .string ⟨x.dst.toArray⟩, .slice x.tA x.tn x.tc, .bool x.allow, .int .u64 (x.old : Int), .int .u64 (x.ses : Int), .slice x.sA x.sn x.sc] TCm (0, 0))
section
variable {w w' : World} {N : Nat} {x : CmW}
theorem Bx.new (w : World) (x : CmW) : Bx (w.alloc (.cells #[.int .i64 x.kind, .int .i64 x.node, .int .i64 x.port, .int .i64 x.status, .string ⟨x.id.toArray⟩, .string ⟨x.name.toArray⟩, .string ⟨x.svc.toArray⟩, .string ⟨x.note.toArray⟩, .string ⟨x.key.toArray⟩, .string ⟨x.val.toArray⟩, .string ⟨x.src.toArray⟩, .string ⟨x.dst.toArray⟩, .slice x.tA x.tn x.tc, .bool x.allow, .int .u64 (x.old : Int), .int .u64 (x.ses : Int), .slice x.sA x.sn x.sc] TCm)) w.heap.size x := heap_alloc_new w _
theorem Bx.lt (h : Bx w N x) : N < w.heap.size := block_lt h
theorem Bx.below (h : Bx w N x) {B : Nat} (hb : Below B w w') (hN : N < B) : Bx w' N x := (hb.block N hN).trans h
theorem Bx.item (h : Bx w N x) : ItAt cmC w N 0 x := fun i u hu => by
  rw [Nat.zero_add, cell_of_row w N i _ TCm (0, 0) h]
  rw [← Array.getElem?_toList]
  exact hu
theorem Bx.c0 (h : Bx w N x) : w.cell? ⟨N, 0, none⟩ = some (.int .i64 x.kind) := bx_cell h 0 _ rfl
theorem Bx.c1 (h : Bx w N x) : w.cell? ⟨N, 1, none⟩ = some (.int .i64 x.node) := bx_cell h 1 _ rfl
theorem Bx.c2 (h : Bx w N x) : w.cell? ⟨N, 2, none⟩ = some (.int .i64 x.port) := bx_cell h 2 _ rfl
theorem Bx.c3 (h : Bx w N x) : w.cell? ⟨N, 3, none⟩ = some (.int .i64 x.status) := bx_cell h 3 _ rfl
theorem Bx.c12 (h : Bx w N x) : w.cell? ⟨N, 12, none⟩ = some (.slice x.tA x.tn x.tc) := bx_cell h 12 _ rfl
theorem Bx.c13 (h : Bx w N x) : w.cell? ⟨N, 13, none⟩ = some (.bool x.allow) := bx_cell h 13 _ rfl
theorem Bx.c14 (h : Bx w N x) : w.cell? ⟨N, 14, none⟩ = some (.int .u64 (x.old : Int)) := bx_cell h 14 _ rfl
theorem Bx.c15 (h : Bx w N x) : w.cell? ⟨N, 15, none⟩ = some (.int .u64 (x.ses : Int)) := bx_cell h 15 _ rfl
theorem Bx.c16 (h : Bx w N x) : w.cell? ⟨N, 16, none⟩ = some (.slice x.sA x.sn x.sc) := bx_cell h 16 _ rfl
end
end Go.Proofs.Ytbhhalkpghcflaa
