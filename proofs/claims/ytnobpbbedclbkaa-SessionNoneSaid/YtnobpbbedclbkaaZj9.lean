/-
  A step of layer 18's laws. Nothing of any program stands here.
-/
import Derived.Test.YtnobpbbedclbkaaZj8
namespace Go.Proofs.Ytnobpbbedclbkaa
open Go.RowKit
set_option linter.unusedSimpArgs false
set_option linter.unusedVariables false

structure NSt where
  kind : Int
  node : Int
  id : Nat
  ix : Nat
def stC (s : NSt) : List Value := [.int .i64 s.kind, .int .i64 s.node, .int .u64 (s.id : Int), .int .u64 (s.ix : Int)]
structure NSt.Ok (s : NSt) : Prop where
  id : s.id < 18446744073709551616
  ix : s.ix < 18446744073709551616
theorem st_blk {w : World} {B : Nat} {v0 v1 v2 v3 : Value} {t : TypeId} (h : w.heap[B]? = some (.cells #[v0, v1, v2, v3] t (0, 0))) : w.cell? ⟨B, 0, none⟩ = some v0 ∧ w.cell? ⟨B, 1, none⟩ = some v1 ∧ w.cell? ⟨B, 2, none⟩ = some v2 ∧ w.cell? ⟨B, 3, none⟩ = some v3 :=
  ⟨cellsN h 0 _ rfl, cellsN h 1 _ rfl, cellsN h 2 _ rfl, cellsN h 3 _ rfl⟩
theorem st_cells {w : World} {b o : Nat} {s : NSt} (h : ItAt stC w b o s) : w.cell? ⟨b, o, none⟩ = some (.int .i64 s.kind) ∧ w.cell? ⟨b, o + 1, none⟩ = some (.int .i64 s.node) ∧ w.cell? ⟨b, o + 2, none⟩ = some (.int .u64 (s.id : Int)) ∧ w.cell? ⟨b, o + 3, none⟩ = some (.int .u64 (s.ix : Int)) :=
  ⟨h 0 _ rfl, h 1 _ rfl, h 2 _ rfl, h 3 _ rfl⟩
/-- What a step makes of sessions. -/
def NSt.after (s : NSt) (t : Sm) : Sm := if s.kind = 0 then (t.openS s.node s.ix).2 else if s.kind = 1 then (t.closeS s.id s.ix).2 else if s.kind = 2 then (t.closeN s.node s.ix).2 else t
end Go.Proofs.Ytnobpbbedclbkaa
