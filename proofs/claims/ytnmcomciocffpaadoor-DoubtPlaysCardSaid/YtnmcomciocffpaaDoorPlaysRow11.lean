/-
  Whoever confirms it, and whatever ticks go by, a doubt lasts, and is due, as the document says: the law sodalitylaw11.DoubtPlays returns true for every input, and changes nothing. Condition: the table of constants sodality/doubt.scale holds what the program's own text lays in it when the call begins (the card ties it).
-/
import Derived.Test.YtnmcomciocffpaaDoorPlaysLaw11
import Derived.Test.YtnmcomciocffpaaDoorKFrame
import Derived.Test.YtnmcomciocffpaaDoorDbFrame
import Derived.Test.YtnmcomciocffpaaDoorTie
import Derived.Test.YtnmcomciocffpaaDoorCards
import Derived.SevenTiedAt
import Derived.MakeChecks
import Derived.LaidMore
namespace Go.Proofs.YtnmcomciocffpaaDoor
open Go.Joins Go.ChangeShapes Go.WideShapes Go.ChangeAt Go.RowKit

set_option maxRecDepth 100000 in
theorem doubtPlays_lifted (os : Os) (started : os.Started) (H : Type) (enc : TypeId × Value → H) :
    ReturnsInHanded {} Tryd.checked os 4 .any (fun w args => (Rows.doubtPlaysSpec.pre enc Tryd.prog Tryd.f4 [] false w args ∧ laidMetH Tryd.prog Rows.doubtPlaysRow.laid w) ∧ sizedMet enc Tryd.prog Tryd.f4 (OpenSpec.ofChange Rows.doubtPlaysSpec) false w args)
      (Rows.doubtPlaysSpec.post enc Tryd.prog Tryd.f4 false true false false) := by
  refine returnsInHanded_of_change_and (C := Tryd.checked) (X := fun w _ => laidMetH Tryd.prog Rows.doubtPlaysRow.laid w) (fun _ _ _ hh h => h.of_heap hh) own started (by kernel_rfl) Tryd.func4
    (ChangeSpec.witness_shaped (enc := enc) (C := Tryd.checked) (os := os) (X := fun w _ => laidMetH Tryd.prog Rows.doubtPlaysRow.laid w) false (World.laidAll Tryd.prog os Rows.doubtPlaysRow.laid) #[.agg #[.int .i64 0, .int .i64 0, .int .i64 0, .int .i64 0], .slice none 0 0] 8 (World.laidAll_os _ _ _)
      (World.shaped_of_ZipB (by kernel_rfl) (by kernel_rfl)) (by kernel_rfl) (by kernel_rfl) (by kernel_rfl)
      (by rw [MakeChecks.laidMetH_plain _ _ _ (by kernel_rfl)]; exact laidMet_laidAll _ (by kernel_rfl) (by kernel_rfl))) ?_
  intro W base args ds gs before hval0 hW _ hsz hL _
  have hval : ∀ (j : Nat) t v, Tryd.f4.params[j]? = some t → args[j]? = some v → Value.okWide Tryd.prog W .any base t v := hval0
  have hW' := hW
  obtain ⟨p, q, hA0, hV, rfl, _, _⟩ := hW
  have hA : DataW.TrodAll enc Tryd.prog W 0 (fun _ => true) true Tryd.f4.params.toList args.toList ds p := hA0
  rw [Tryd.params4] at hA hval
  obtain ⟨v0, v1, d0, d1, p0, p1, rfl, rfl, rfl, h0, h1⟩ := trodAll_two hA
  obtain ⟨rfl, rfl⟩ := trodVars_none hV
  have k0' := h0
  have lt0 : ∀ x ∈ p0, x.block < W.heap.size := by obtain ⟨m, hm⟩ := k0'; exact DataW.trod_lt m _ _ _ hm
  obtain ⟨s0, rfl, hs0⟩ := Came.arg_struct plnC Tryd.underlying23 (hval 0 23 v0 rfl rfl) h0 hsz (j := 0) rfl rfl (N := Rows.uptoBulk d0) (Nat.le_refl _)
  have k1' := h1
  have lt1 : ∀ x ∈ p1, x.block < W.heap.size := by obtain ⟨m, hm⟩ := k1'; exact DataW.trod_lt m _ _ _ hm
  obtain ⟨s1, rfl, hs1⟩ := Came.arg_slice stpC (by decide) Tryd.underlying27 (by kernel_rfl) (hval 1 27 v1 rfl rfl) h1 hsz (j := 1) rfl rfl (N := Rows.uptoBulk d1) (Nat.le_refl _)
  have hsc := scIs_of hL
  refine (plays_walk s0 hs0.2.2.2 s1.A s1.l.length s1.c s1.l W hsc hs1.1 (fun x hx => (hs1.2.1 x hx).2) (Nat.le_trans hs1.2.2.1 hs1.2.2.2.1)).mono fun e W' ⟨he, hb⟩ => ?_
  subst he
  exact ⟨_, rfl, _, _, _, [], _, [], hW', trodAll_mk1 (shut_bool Tryd.underlying4 _), trodAll_mk2 (Below.trod laidOut (by kernel_rfl) (of_decide_eq_true (by kernel_rfl)) k0' hb lt0) (Below.trod laidOut (by kernel_rfl) (of_decide_eq_true (by kernel_rfl)) k1' hb lt1), rfl, hb.frame _, fun h => by cases h⟩

theorem doubtPlays_row : Rows.DoubtPlaysSaid :=
  OpenClaim.holds_of_wide 4 Tryd.f4 rfl rfl rfl rfl rfl rfl rfl ⟨rfl, rfl, rfl, rfl, rfl⟩ rfl rfl rfl rfl rfl (by kernel_rfl) Tryd.func4 (by kernel_rfl)
    (of_decide_eq_true (by kernel_rfl)) (by unfold Func.isWrapper; first | (rw [if_pos (by decide +kernel)]; kernel_rfl) | (rw [if_neg (by decide +kernel)]; exact ⟨rfl, rfl⟩))
    (fun os started H enc _ => doubtPlays_lifted os started H enc)
theorem doubtPlays_holds : Rows.DoubtPlaysCardSaid :=
  Claim7.holds_tied_plain_at .later [] [.data] true Rows.doubtPlaysCard.stood.harness false
    doubtPlays_row (fun _ h => by cases h) (by kernel_rfl) (fun _ h => by cases h) doubtPlays_row_tie rfl ⟨rfl, rfl⟩ (by kernel_rfl) rfl
    (fun f fn hf hfn => by
      obtain rfl : f = 4 := Option.some.inj ((show Tryd.prog.funcNamed Rows.doubtPlaysRow.func = some 4 by kernel_rfl).symm.trans hf) |>.symm
      obtain rfl : fn = Tryd.f4 := (Option.some.inj (Tryd.func4.symm.trans hfn)).symm
      exact ⟨by kernel_rfl, fun j t ht => by
        rw [Tryd.params4] at ht
        have hm : t ∈ [23, 27] := by simpa using Array.mem_of_getElem? ht
        have hall : ([23, 27].all fun u => !Tryd.prog.wantsStandIn u) = true := by kernel_rfl
        exact (show Tryd.prog.wantsStandIn t = false by simpa using List.all_eq_true.1 hall t hm)⟩)
    (by kernel_rfl)
#print axioms doubtPlays_holds
end Go.Proofs.YtnmcomciocffpaaDoor
