/-
  How Put and Drop lay the new rows: the pieces joined, and stored.
-/
import Derived.Test.YtnobpbbedclbkaaZj16
import Derived.Test.YtnobpbbedclbkaaZj22
import Derived.Test.YtnobpbbedclbkaaZj23
namespace Go.Proofs.Ytnobpbbedclbkaa.Sx
open Go.RowKit Go.Rel
set_option linter.unusedSimpArgs false
set_option linter.unusedVariables false

theorem cat3 {S : Nat → Prop} {W : World} {B : Nat} {A : Option Addr} {c : Nat} {t : Tb Int} (h : TIs S W B A c t) {a b : Nat} (ha : a ≤ t.l.length) (hb : b ≤ t.l.length) (hab : a ≤ b) (h64 : t.l.length ≤ 64) (r : Rw Int) {Z Y : Nat}
    (kz : W.heap[Z]? = some (.cells #[.slice A a c, .slice (some ⟨Y, 0, none⟩) 1 1, .slice (tailA 4 A b c) (t.l.length - b) (c - b)] 78 (0, 0))) (ky : W.heap[Y]? = some (.cells #[.string r.key, .int .i64 r.val, .int .u64 (r.made : Int), .int .u64 (r.ix : Int)] 65 (0, 0))) :
    Calls Try.prog 41 #[.slice (some ⟨Z, 0, none⟩) 3 3] W fun e w' => ∃ v, e = .returned v ∧ twRow w' W.heap.size v (t.l.take a ++ r :: t.l.drop b) ∧ Below W.heap.size W w' := by
  have e : joinP [⟨A, c, t.l.take a⟩, ⟨some ⟨Y, 0, none⟩, 1, [r]⟩, ⟨tailA 4 A b c, c - b, t.l.drop b⟩] = t.l.take a ++ r :: t.l.drop b := by simp [joinP]
  have := concat_any Z _ W (h.three ha hb rfl ky kz) (by simp) (by rw [e]; simp; omega)
  rw [e] at this
  exact this
theorem cat2 {S : Nat → Prop} {W : World} {B : Nat} {A : Option Addr} {c : Nat} {t : Tb Int} (h : TIs S W B A c t) {a b : Nat} (ha : a ≤ t.l.length) (hb : b ≤ t.l.length) (hab : a ≤ b) (h64 : t.l.length ≤ 64) {Z : Nat}
    (kz : W.heap[Z]? = some (.cells #[.slice A a c, .slice (tailA 4 A b c) (t.l.length - b) (c - b)] 78 (0, 0))) :
    Calls Try.prog 41 #[.slice (some ⟨Z, 0, none⟩) 2 2] W fun e w' => ∃ v, e = .returned v ∧ twRow w' W.heap.size v (t.l.take a ++ t.l.drop b) ∧ Below W.heap.size W w' := by
  have e : joinP [⟨A, c, t.l.take a⟩, ⟨tailA 4 A b c, c - b, t.l.drop b⟩] = t.l.take a ++ t.l.drop b := by simp [joinP]
  have := concat_any Z _ W (h.two ha hb kz) (by simp) (by rw [e]; simp; omega)
  rw [e] at this
  exact this
/-- The table behind the store of the new rows. -/
def Laid (S2 : Nat → Prop) (W0 : World) (B : Nat) (t : Tb Int) (l2 : List (Rw Int)) (W : World) : Prop := ∃ A2 c2, TIs (fun k => S2 k ∨ W0.heap.size ≤ k) W B A2 c2 { t with l := l2 } ∧ But (· = B) W0 W
theorem _root_.Go.Proofs.Ytnobpbbedclbkaa.PtIs.stored {S2 : Nat → Prop} {W0 w' : World} {B : Nat} {A : Option Addr} {c : Nat} {t : Tb Int} {l2 : List (Rw Int)} {A9 : Option Addr} {c9 : Nat} (hit9 : TIs S2 w' B A c t) (hB : OldB W0 B) (ha : Below W0.heap.size W0 w') (hr : twRow w' W0.heap.size (.slice A9 l2.length c9) l2) (hsk9 : SK trC 4 w' A9 l2.length l2) (hl9 : l2.length ≤ c9) (hm9 : c9 ≤ maxLen) (hn9 : ∀ b off, A9 = some ⟨b, off, none⟩ → W0.heap.size ≤ b) :
    Laid S2 W0 B t l2 (w'.setCell ⟨B, 2, none⟩ (.slice A9 l2.length c9)) :=
  ⟨A9, c9, hit9.fresh (fun b off e _ => hn9 b off e) hsk9 hl9 hm9 (SK.row0 hr) (fun b off e _ => by have h1 := hn9 b off e; unfold OldB at hB; omega), (But.of_below ha).trans (But.set (S := (· = B)) w' (p := ⟨B, 2, none⟩) rfl (.slice A9 l2.length c9))⟩
end Go.Proofs.Ytnobpbbedclbkaa.Sx
