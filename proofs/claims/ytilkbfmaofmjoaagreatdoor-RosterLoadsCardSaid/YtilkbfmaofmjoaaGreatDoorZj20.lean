import Derived.Test.YtilkbfmaofmjoaaGreatDoorZj8
import Derived.Test.YtilkbfmaofmjoaaGreatDoorZj19
import Derived.Test.YtilkbfmaofmjoaaGreatDoorZj17
namespace Go.Proofs.YtilkbfmaofmjoaaGreatDoor
open Go.RowKit Go.Rel
set_option linter.unusedSimpArgs false
set_option linter.unusedVariables false
def Laid {α : Type} (enc : Rw α → List Value) (k : Nat) (T : TypeId) (S2 : Nat → Prop) (W0 : World) (B : Nat) (t : Tb α) (l2 : List (Rw α)) (W : World) : Prop := ∃ A2 c2, PtIs enc k T (fun k => S2 k ∨ W0.heap.size ≤ k) W B A2 c2 { t with l := l2 } ∧ But (· = B) W0 W
theorem PtIs.stored {α : Type} {enc : Rw α → List Value} {k : Nat} {T E : TypeId} {S2 : Nat → Prop} {W0 w' : World} {B : Nat} {A : Option Addr} {c : Nat} {t : Tb α} {l2 : List (Rw α)} {A9 : Option Addr} {c9 : Nat} (hit9 : PtIs enc k T S2 w' B A c t) (hB : OldB W0 B) (ha : Below W0.heap.size W0 w') (hr : rowK enc E k w' W0.heap.size (.slice A9 l2.length c9) l2) (hsk9 : SK enc k w' A9 l2.length l2) (hl9 : l2.length ≤ c9) (hm9 : c9 ≤ maxLen) (hn9 : ∀ b off, A9 = some ⟨b, off, none⟩ → W0.heap.size ≤ b) :
    Laid enc k T S2 W0 B t l2 (w'.setCell ⟨B, 2, none⟩ (.slice A9 l2.length c9)) :=
  ⟨A9, c9, hit9.fresh (fun b off e _ => hn9 b off e) hsk9 hl9 hm9 (SK.row0 hr) (fun b off e _ => by have h1 := hn9 b off e; unfold OldB at hB; omega), (But.of_below ha).trans (But.set (S := (· = B)) w' (p := ⟨B, 2, none⟩) rfl (.slice A9 l2.length c9))⟩
end Go.Proofs.YtilkbfmaofmjoaaGreatDoor
namespace Go.Proofs.YtilkbfmaofmjoaaGreatDoor
open Go.RowKit Go.Rel
set_option linter.unusedSimpArgs false
set_option linter.unusedVariables false
theorem run_cat3 {p_ : Prop} (h_ : p_ := by
  have e : joinP [⟨A, c, t.l.take a⟩, ⟨some ⟨Y, 0, none⟩, 1, [r]⟩, ⟨tailA kN A b c, c - b, t.l.drop b⟩] = t.l.take a ++ r :: t.l.drop b := by simp [joinP]
  have := concat_any Z _ W (h.three ha hb rfl ky kz) (by simp) (by rw [e]; simp; omega)
  rw [e] at this
  exact this) : p_ := h_
end Go.Proofs.YtilkbfmaofmjoaaGreatDoor
