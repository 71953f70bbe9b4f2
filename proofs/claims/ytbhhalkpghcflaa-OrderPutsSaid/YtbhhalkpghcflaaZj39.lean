/-
  The document's Right over a command and its commands (layer 20).
-/
import Derived.Test.YtbhhalkpghcflaaZj38
import Derived.Test.YtbhhalkpghcflaaZj25
namespace Go.Proofs.Ytbhhalkpghcflaa
open Go.RowKit
set_option linter.unusedSimpArgs false
set_option linter.unusedVariables false

theorem rright_sub {w : World} {y : Sub} (h : Cm0 w y.1 y.2) (h18 : y.1.kind ≠ 18) : Calls Try.prog 9 #[cmV y.1] w fun e w' => e = .returned (.bool (right0 y.1 y.2)) ∧ Below w.heap.size w w' := by
  have h1 := rright_gen y.1 y.2 [] w h (fun hs => by
    have hx : hasX y.1.kind 15 = false := by
      unfold hasX
      by_cases hk : y.1.kind < 1 ∨ 18 < y.1.kind
      · have := maskN_bit y.1.kind (i := 15) (by decide)
        rw [← this, maskN_out hk, Nat.zero_testBit]
      · have : ∀ n : Nat, n < 18 → hasB n 15 = false := by decide
        exact this _ (by omega)
    unfold subsN at hs
    rw [hx] at hs
    simp only [Bool.or_false, Bool.and_eq_true, decide_eq_true_eq] at hs
    exact ⟨⟨hs.2.symm, fun h => absurd h (by omega)⟩, (fun y hy => by cases hy), (fun y hy => by cases hy)⟩)
  rw [show right1 y.1 y.2 [] = right0 y.1 y.2 by unfold right1 right0; simp] at h1
  exact h1
theorem rRight_any (x : CmW) (tags : List (List UInt8)) (subs : List Sub) (w : World) (h : Cm1 w x tags subs) : Calls Try.prog 9 #[cmV x] w (YesB (cmdOk x tags subs) w) := by
  rw [← right1_is h.top.len h.len (fun y hy => (h.each y hy).len)]
  exact rright_gen x tags subs w h.top (fun _ => ⟨h.row, fun y hy => (h.each y hy).small.kind, fun y hy w' hb h18 => rright_sub ((h.each y hy).below hb) h18⟩)
end Go.Proofs.Ytbhhalkpghcflaa
