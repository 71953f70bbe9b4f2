/-
  What a step of the law is, and a slice of them in memory (layer 6).
-/
import Derived.Test.YtcekpkjibabjmaaKMem
namespace Go.Proofs.Ytcekpkjibabjmaa
open Go.RowKit
/-- What a step is. -/
structure Stp where
  kind : Int
  id : Int
  n : Int
def okStp (s : Stp) : Prop := (-9223372036854775808 ≤ s.kind ∧ s.kind ≤ 9223372036854775807) ∧ (-9223372036854775808 ≤ s.id ∧ s.id ≤ 9223372036854775807) ∧ (-9223372036854775808 ≤ s.n ∧ s.n ≤ 9223372036854775807)
/-- It lies at ⟨b, o⟩. -/
def StpAt (w : World) (b o : Nat) (x : Stp) : Prop := w.cell? ⟨b, o, none⟩ = some (.int .i64 x.kind) ∧ w.cell? ⟨b, o + 1, none⟩ = some (.int .i64 x.id) ∧ w.cell? ⟨b, o + 2, none⟩ = some (.int .i64 x.n)
/-- The slice value '.slice A n c' reads as the steps ss. -/
def SStp (w : World) (A : Option Addr) (n : Nat) (ss : List Stp) : Prop :=
  ss.length = n ∧ (0 < n → ∃ b off, A = some ⟨b, off, none⟩ ∧ b < w.heap.size ∧ ∀ j (h : j < ss.length), StpAt w b (off + j * 3) ss[j])
theorem SStp.zero (w : World) (A : Option Addr) : SStp w A 0 [] := ⟨rfl, fun h => absurd h (by omega)⟩
theorem StpAt.of_block {w w' : World} {b o : Nat} {x : Stp} (h : StpAt w b o x) (hb : w'.heap[b]? = w.heap[b]?) : StpAt w' b o x := by
  obtain ⟨h0, h1, h2⟩ := h
  exact ⟨(World.cell?_of_block (a := ⟨b, o, none⟩) hb).trans h0, (World.cell?_of_block (a := ⟨b, o + 1, none⟩) hb).trans h1, (World.cell?_of_block (a := ⟨b, o + 2, none⟩) hb).trans h2⟩
end Go.Proofs.Ytcekpkjibabjmaa
