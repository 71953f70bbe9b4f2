/-
  As long as indexes rise, no row was made behind the index at which it was turned last, and none is above the last index: the law sodalitylaw15.TableRises returns true for every input, and changes nothing. No condition beyond the row's own.
-/
import Derived.Test.YtphjlcogjalidaaRisesLaw15
import Derived.Test.YtphjlcogjalidaaKFrame
import Derived.Test.YtphjlcogjalidaaTbFrame
import Derived.Test.YtphjlcogjalidaaTpPrg
namespace Go.Proofs.Ytphjlcogjalidaa
open Go.Joins Go.ChangeShapes Go.WideShapes Go.ChangeAt Go.RowKit

set_option maxRecDepth 100000 in
theorem tableRises_lifted (os : Os) (started : os.Started) (H : Type) (enc : TypeId × Value → H) :
    ReturnsInHanded {} Try.checked os 5 .any (Rows.tableRisesSpec.pre6 enc Try.prog Try.f5 Rows.tableRisesRow.domain false) (Rows.tableRisesSpec.post enc Try.prog Try.f5 false true false false) := by
  refine returnsInHanded_of_change_sized (C := Try.checked) own started (by kernel_rfl) Try.func5
    (ChangeSpec.witness6 (enc := enc) (C := Try.checked) false ⟨#[], #[.slice none 0 0], []⟩ 8 (by kernel_rfl) (by kernel_rfl) (by kernel_rfl) (by kernel_rfl)) ?_
  intro W base args ds gs before hval0 hW _ hsz _
  have hval : ∀ (j : Nat) t v, Try.f5.params[j]? = some t → args[j]? = some v → Value.okWide Try.prog W .any base t v := hval0
  have hW' := hW
  obtain ⟨p, q, hA0, hV, rfl, _, _⟩ := hW
  have hA : DataW.TrodAll enc Try.prog W 0 (fun _ => true) true Try.f5.params.toList args.toList ds p := hA0
  rw [Try.params5] at hA hval
  obtain ⟨v0, d0, rfl, rfl, h0⟩ := trodAll_one hA
  obtain ⟨rfl, rfl⟩ := trodVars_none hV
  have k0' := h0
  have lt0 : ∀ x ∈ p, x.block < W.heap.size := by obtain ⟨m, hm⟩ := k0'; exact DataW.trod_lt m _ _ _ hm
  obtain ⟨s0, rfl, hs0⟩ := Came.arg_slice tstC (by decide) Try.underlying22 (by kernel_rfl) (hval 0 22 v0 rfl rfl) h0 hsz (j := 0) rfl rfl (N := Rows.uptoBulk d0) (Nat.le_refl _)
  refine (rises_walk prg s0.A s0.l.length s0.c s0.l W (tst_sk hs0.1) (fun x hx => tst_ok (hs0.2.1 x hx)) (Nat.le_trans hs0.2.2.1 hs0.2.2.2.1)).mono fun e W' ⟨he, hb⟩ => ?_
  subst he
  exact ⟨_, rfl, _, _, _, [], _, [], hW', trodAll_mk1 (shut_bool Try.underlying4 _), trodAll_mk1 (Below.trod laidOut (by kernel_rfl) (of_decide_eq_true (by kernel_rfl)) k0' hb lt0), rfl, hb.frame _, fun h => by cases h⟩

theorem tableRises_holds : Rows.TableRisesSaid :=
  OpenClaim.holds_of_wide 5 Try.f5 rfl rfl rfl rfl rfl rfl rfl ⟨rfl, rfl, rfl, rfl, rfl⟩ rfl rfl rfl rfl rfl (by kernel_rfl) Try.func5 (by kernel_rfl)
    (of_decide_eq_true (by kernel_rfl)) (by unfold Func.isWrapper; first | (rw [if_pos (by decide +kernel)]; kernel_rfl) | (rw [if_neg (by decide +kernel)]; exact ⟨rfl, rfl⟩))
    (fun os started H enc _ => tableRises_lifted os started H enc)
end Go.Proofs.Ytphjlcogjalidaa
