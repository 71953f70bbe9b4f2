/-
  What a step of the law is, and a slice of them in memory (layer 4).
-/
import Derived.Test.YtgjgndpeopiifaaDMem
namespace Go.Proofs.Ytgjgndpeopiifaa
open Go.RowKit
/-- A row of values outside S. -/
def RVn (S : Nat → Prop) (w : World) (A : Option Addr) (n : Nat) (xs : List Value) : Prop := RV w A n xs ∧ ∀ b off, A = some ⟨b, off, none⟩ → 0 < n → ¬ S b
theorem RVn.but {S : Nat → Prop} {w w' : World} {A : Option Addr} {n : Nat} {xs : List Value} (h : RVn S w A n xs) (hb : But S w w') : RVn S w' A n xs := ⟨h.1.but hb h.2, h.2⟩
/-- What a step is. -/
structure Stp where
  kind : Int
  many : Int
  most : Int
  num : Nat
def okStp (s : Stp) : Prop := s.many ≤ 9223372036854775807 ∧ s.most ≤ 9223372036854775807 ∧ s.num < 256 ^ 8
/-- The step x lies at ⟨b, o⟩. -/
def StpAt (w : World) (b o : Nat) (x : Stp) : Prop := w.cell? ⟨b, o, none⟩ = some (.int .i64 x.kind) ∧ w.cell? ⟨b, o + 1, none⟩ = some (.int .i64 x.many) ∧ w.cell? ⟨b, o + 2, none⟩ = some (.int .i64 x.most) ∧ w.cell? ⟨b, o + 3, none⟩ = some (.int .u64 (x.num : Int))
/-- The slice value '.slice A n c' reads as the steps ss. -/
def SSt (w : World) (A : Option Addr) (n : Nat) (ss : List Stp) : Prop :=
  ss.length = n ∧ (0 < n → ∃ b off, A = some ⟨b, off, none⟩ ∧ b < w.heap.size ∧ ∀ j (h : j < ss.length), StpAt w b (off + j * 4) ss[j])
theorem SSt.zero (w : World) (A : Option Addr) : SSt w A 0 [] := ⟨rfl, fun h => absurd h (by omega)⟩
end Go.Proofs.Ytgjgndpeopiifaa
