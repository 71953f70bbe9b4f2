/-
  Whatever bytes are read as the document says: the law sodalitylaw20.OrderGets returns true for every input, and changes nothing.
-/
import Derived.Test.YtbhhalkpghcflaaZj47
import Derived.Test.YtbhhalkpghcflaaZj49
namespace Go.Proofs.Ytbhhalkpghcflaa
open Go.Joins Go.ChangeShapes Go.WideShapes Go.ChangeAt Go.RowKit

set_option maxRecDepth 100000 in
theorem orderGets_lifted (os : Os) (started : os.Started) (H : Type) (enc : TypeId × Value → H) :
    ReturnsInHanded {} Try.checked os 5 .any (Rows.orderGetsSpec.pre6 enc Try.prog Try.f5 Rows.orderGetsRow.domain false) (Rows.orderGetsSpec.post enc Try.prog Try.f5 false true false false) := by
  refine returnsInHanded_of_change_sized (C := Try.checked) own started (by kernel_rfl) Try.func5
    (ChangeSpec.witness6 (enc := enc) (C := Try.checked) false ⟨#[], #[.slice none 0 0], []⟩ 8 (by kernel_rfl) (by kernel_rfl) (by kernel_rfl) (by kernel_rfl)) ?_
  intro W base args ds gs before hval0 hW _ hsz _
  have hval : ∀ (j : Nat) t v, Try.f5.params[j]? = some t → args[j]? = some v → Value.okWide Try.prog W .any base t v := hval0
  have hW' := hW
  obtain ⟨p, q, hA0, hV, rfl, _, _⟩ := hW
  have hA : DataW.TrodAll enc Try.prog W 0 (fun _ => true) true Try.f5.params.toList args.toList ds p := hA0
  rw [Try.params5] at hA hval
  obtain ⟨v0, d0, rfl, rfl, h0⟩ := trodAll_one hA
  obtain ⟨rfl, rfl⟩ := trodVars_none hV
  have k0' := h0
  have lt0 : ∀ x ∈ p, x.block < W.heap.size := by obtain ⟨m, hm⟩ := k0'; exact DataW.trod_lt m _ _ _ hm
  obtain ⟨a0, len0, cap0, rfl⟩ := okWide_slice Try.underlying32 (hval 0 32 v0 rfl rfl)
  obtain ⟨xs0, hR0, hcap0, hmx0, hnil0⟩ : ∃ xs, RB W a0 len0 xs ∧ len0 ≤ cap0 ∧ cap0 ≤ maxLen ∧ (a0 = none → cap0 = 0) := by obtain ⟨m, hm⟩ := h0; exact RB.opened hm
  have hlen0 : len0 ≤ 140737488351232 := by
    obtain ⟨m, hm⟩ := h0
    obtain ⟨_, _, _, _, h⟩ : ∃ xs, RB W a0 len0 xs ∧ (a0 = none → cap0 = 0) ∧ len0 ≤ cap0 ∧ len0 ≤ 140737488351232 := RB.arg hm hsz (j := 0) rfl rfl
    exact h
  obtain rfl : xs0.length = len0 := hR0.1
  refine (gets_law (.slice a0 xs0.length cap0) xs0 W ⟨a0, cap0, rfl, hR0, hnil0, hcap0, hmx0⟩ (by omega)).mono fun e W' ⟨he, hb⟩ => ?_
  subst he
  exact ⟨_, rfl, _, _, _, [], _, [], hW', trodAll_mk1 (shut_bool Try.underlying4 _), trodAll_mk1 (Below.trod laidOut (by kernel_rfl) (of_decide_eq_true (by kernel_rfl)) k0' hb lt0), rfl, hb.frame _, fun h => by cases h⟩

theorem orderGets_holds : Rows.OrderGetsSaid :=
  OpenClaim.holds_of_wide 5 Try.f5 rfl rfl rfl rfl rfl rfl rfl ⟨rfl, rfl, rfl, rfl, rfl⟩ rfl rfl rfl rfl rfl (by kernel_rfl) Try.func5 (by kernel_rfl)
    (of_decide_eq_true (by kernel_rfl)) (by unfold Func.isWrapper; first | (rw [if_pos (by decide +kernel)]; kernel_rfl) | (rw [if_neg (by decide +kernel)]; exact ⟨rfl, rfl⟩))
    (fun os started H enc _ => orderGets_lifted os started H enc)
end Go.Proofs.Ytbhhalkpghcflaa
