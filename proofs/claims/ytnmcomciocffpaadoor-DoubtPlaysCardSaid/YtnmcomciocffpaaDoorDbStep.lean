/-
  What comes into layer 11's laws: a plan, a step.
-/
import Derived.Test.YtnmcomciocffpaaDoorDbRef
import Derived.Test.YtnmcomciocffpaaDoorSK
import Derived.Test.YtnmcomciocffpaaDoorRelI
import Derived.Test.YtnmcomciocffpaaDoorRelMore
namespace Go.Proofs.YtnmcomciocffpaaDoor
open Go.RowKit
structure Pln where
  least : Int
  most : Int
  want : Int
  from_ : Int
structure St where
  kind : Int
  from_ : Int
def stC (x : St) : List Value := [.int .i64 x.kind, .int .i64 x.from_]
theorem ItAt.st {w : World} {b o : Nat} {x : St} (h : ItAt stC w b o x) : w.cell? ⟨b, o, none⟩ = some (.int .i64 x.kind) ∧ w.cell? ⟨b, o + 1, none⟩ = some (.int .i64 x.from_) := ⟨h 0 _ rfl, h 1 _ rfl⟩
abbrev TP : TypeId := 23
theorem blk4 {W : World} {X : Nat} {a b c d : Value} {t : TypeId} (h : W.heap[X]? = some (.cells #[a, b, c, d] t (0, 0))) : W.cell? ⟨X, 0, none⟩ = some a ∧ W.cell? ⟨X, 1, none⟩ = some b ∧ W.cell? ⟨X, 2, none⟩ = some c ∧ W.cell? ⟨X, 3, none⟩ = some d := by
  refine ⟨?_, ?_, ?_, ?_⟩ <;> (rw [cell_of_row _ _ _ _ _ _ h]; rfl)
/-- Nothing that was there changes. -/
abbrev NoS : Nat → Prop := fun _ => False
end Go.Proofs.YtnmcomciocffpaaDoor
