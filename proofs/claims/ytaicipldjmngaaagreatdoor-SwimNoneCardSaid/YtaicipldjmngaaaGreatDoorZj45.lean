import Derived.Test.YtaicipldjmngaaaGreatDoorZj41
namespace Go.Proofs.YtaicipldjmngaaaGreatDoor.sp
open Go.RowKit
set_option linter.unusedSimpArgs false
set_option linter.unusedVariables false
noncomputable def errUM (xs : List UInt8) (fs : List Fr) (r : List UInt8) : Nat := if errUn xs fs r ≠ 0 then errUn xs fs r else errsM fs
def UmPost (w : World) (xs : List UInt8) (fs : List Fr) (r : List UInt8) (e : Ending) (w' : World) : Prop :=
  Below w.heap.size w w' ∧ ((errUM xs fs r ≠ 0 ∧ e = .returned (.tuple #[.slice none 0 0, .int .i64 (errUM xs fs r : Int)])) ∨
    (errUM xs fs r = 0 ∧ ∃ A c l, e = .returned (.tuple #[.slice A l.length c, .int .i64 0]) ∧ Mis w' A l.length c l ∧ l.map Mi.m = fs.map msF))
def UmNew (w : World) (xs : List UInt8) (fs : List Fr) (r : List UInt8) (e : Ending) (w' : World) : Prop :=
  Below w.heap.size w w' ∧ ((errUM xs fs r ≠ 0 ∧ e = .returned (.tuple #[.slice none 0 0, .int .i64 (errUM xs fs r : Int)])) ∨
    (errUM xs fs r = 0 ∧ ∃ A c l, e = .returned (.tuple #[.slice A l.length c, .int .i64 0]) ∧ Mis w' A l.length c l ∧ l.map Mi.m = fs.map msF ∧ (∀ b off, A = some ⟨b, off, none⟩ → w.heap.size ≤ b) ∧ ∀ x ∈ l, ∀ b off, x.us.A = some ⟨b, off, none⟩ → w.heap.size ≤ b))
theorem UmNew.post {w w' : World} {xs : List UInt8} {fs : List Fr} {r : List UInt8} {e : Ending} (h : UmNew w xs fs r e w') : UmPost w xs fs r e w' :=
  ⟨h.1, h.2.imp id (fun ⟨h0, A, c, l, h1, h2, h3, _⟩ => ⟨h0, A, c, l, h1, h2, h3⟩)⟩
end Go.Proofs.YtaicipldjmngaaaGreatDoor.sp
