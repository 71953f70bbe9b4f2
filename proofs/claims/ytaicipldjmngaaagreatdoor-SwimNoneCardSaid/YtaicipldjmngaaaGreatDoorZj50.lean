import Derived.Test.YtaicipldjmngaaaGreatDoorZj49
import Derived.Test.YtaicipldjmngaaaGreatDoorZj35
import Derived.Test.YtaicipldjmngaaaGreatDoorTie
import Derived.Test.YtaicipldjmngaaaGreatDoorCards
import Derived.SevenTiedAt
import Derived.MakeChecks
import Derived.LaidMore
namespace Go.Proofs.YtaicipldjmngaaaGreatDoor.dr
end Go.Proofs.YtaicipldjmngaaaGreatDoor.dr
namespace Go.Proofs.YtaicipldjmngaaaGreatDoor.wh
end Go.Proofs.YtaicipldjmngaaaGreatDoor.wh
namespace Go.Proofs.YtaicipldjmngaaaGreatDoor.ro
end Go.Proofs.YtaicipldjmngaaaGreatDoor.ro
namespace Go.Proofs.YtaicipldjmngaaaGreatDoor.ru
end Go.Proofs.YtaicipldjmngaaaGreatDoor.ru
namespace Go.Proofs.YtaicipldjmngaaaGreatDoor.db
end Go.Proofs.YtaicipldjmngaaaGreatDoor.db
namespace Go.Proofs.YtaicipldjmngaaaGreatDoor.pr
end Go.Proofs.YtaicipldjmngaaaGreatDoor.pr
namespace Go.Proofs.YtaicipldjmngaaaGreatDoor.sp
end Go.Proofs.YtaicipldjmngaaaGreatDoor.sp
namespace Go.Proofs.YtaicipldjmngaaaGreatDoor.sw
open Go.Proofs.YtaicipldjmngaaaGreatDoor.dr Go.Proofs.YtaicipldjmngaaaGreatDoor.wh Go.Proofs.YtaicipldjmngaaaGreatDoor.ro Go.Proofs.YtaicipldjmngaaaGreatDoor.ru Go.Proofs.YtaicipldjmngaaaGreatDoor.db Go.Proofs.YtaicipldjmngaaaGreatDoor.pr Go.Proofs.YtaicipldjmngaaaGreatDoor.sp
open Go.Joins Go.ChangeShapes Go.WideShapes Go.ChangeAt Go.RowKit
set_option maxRecDepth 100000 in
theorem swimNone_lifted (os : Os) (started : os.Started) (H : Type) (enc : TypeId × Value → H) :
    ReturnsInHanded {} Tryz.checked os 4 .any (fun w args => (Rows.swimNoneSpec.pre enc Tryz.prog Tryz.f4 [] false w args ∧ laidMetH Tryz.prog Rows.swimNoneRow.laid w) ∧ sizedMet enc Tryz.prog Tryz.f4 (OpenSpec.ofChange Rows.swimNoneSpec) false w args)
      (Rows.swimNoneSpec.post enc Tryz.prog Tryz.f4 false true false false) := by
  refine returnsInHanded_of_change_and (C := Tryz.checked) (X := fun w _ => laidMetH Tryz.prog Rows.swimNoneRow.laid w) (fun _ _ _ hh h => h.of_heap hh) own started (by kernel_rfl) Tryz.func4
    (ChangeSpec.witness_shaped (enc := enc) (C := Tryz.checked) (os := os) (X := fun w _ => laidMetH Tryz.prog Rows.swimNoneRow.laid w) false (World.laidAll Tryz.prog os Rows.swimNoneRow.laid) #[.agg #[.int .i64 0, .int .i64 0, .slice none 0 0], .int .i64 0] 8 (World.laidAll_os _ _ _)
      (World.shaped_of_ZipB (by kernel_rfl) (by kernel_rfl)) (by kernel_rfl) (by kernel_rfl) (by kernel_rfl)
      (by rw [MakeChecks.laidMetH_plain _ _ _ (by kernel_rfl)]; exact laidMet_laidAll _ (by kernel_rfl) (by kernel_rfl))) ?_
  intro W base args ds gs before hval0 hW _ hsz hL _
  have hval : ∀ (j : Nat) t v, Tryz.f4.params[j]? = some t → args[j]? = some v → Value.okWide Tryz.prog W .any base t v := hval0
  have hW' := hW
  obtain ⟨p, q, hA0, hV, rfl, _, _⟩ := hW
  have hA : DataW.TrodAll enc Tryz.prog W 0 (fun _ => true) true Tryz.f4.params.toList args.toList ds p := hA0
  rw [Tryz.params4] at hA hval
  obtain ⟨v0, v1, d0, d1, p0, p1, rfl, rfl, rfl, h0, h1⟩ := trodAll_two hA
  obtain ⟨rfl, rfl⟩ := trodVars_none hV
  have k0' := h0
  have lt0 : ∀ x ∈ p0, x.block < W.heap.size := by obtain ⟨m, hm⟩ := k0'; exact DataW.trod_lt m _ _ _ hm
  obtain ⟨s0, rfl, hs0⟩ := Came.arg_struct pktC Tryz.underlying29 (hval 0 29 v0 rfl rfl) h0 hsz (j := 0) rfl rfl (N := Rows.uptoBulk d0) (Nat.le_refl _)
  have k1' := h1
  have lt1 : ∀ x ∈ p1, x.block < W.heap.size := by obtain ⟨m, hm⟩ := k1'; exact DataW.trod_lt m _ _ _ hm
  obtain ⟨z1, rfl, wz1⟩ := int_arg Tryz.underlying3 (hval 1 3 v1 rfl rfl) h1
  have hz1 : -9223372036854775808 ≤ z1 ∧ z1 ≤ 9223372036854775807 := by simpa [Lit.wf, IntKind.min, IntKind.max, IntKind.signed, IntKind.bits] using wz1
  have hsc := scIs_of hL
  refine (none_walk ⟨s0.src, s0.dst, s0.b.A, s0.b.l.length, s0.b.c⟩ z1 hz1 W hsc).mono fun e W' ⟨he, hb⟩ => ?_
  subst he
  exact ⟨_, rfl, _, _, _, [], _, [], hW', trodAll_mk1 (shut_bool Tryz.underlying4 _), trodAll_mk2 (Below.trod laidOut (by kernel_rfl) (of_decide_eq_true (by kernel_rfl)) k0' hb lt0) (Below.trod laidOut (by kernel_rfl) (of_decide_eq_true (by kernel_rfl)) k1' hb lt1), rfl, hb.frame _, fun h => by cases h⟩
theorem swimNone_row : Rows.SwimNoneSaid :=
  OpenClaim.holds_of_wide 4 Tryz.f4 rfl rfl rfl rfl rfl rfl rfl ⟨rfl, rfl, rfl, rfl, rfl⟩ rfl rfl rfl rfl rfl (by kernel_rfl) Tryz.func4 (by kernel_rfl)
    (of_decide_eq_true (by kernel_rfl)) (by unfold Func.isWrapper; first | (rw [if_pos (by decide +kernel)]; kernel_rfl) | (rw [if_neg (by decide +kernel)]; exact ⟨rfl, rfl⟩))
    (fun os started H enc _ => swimNone_lifted os started H enc)
theorem swimNone_holds : Rows.SwimNoneCardSaid :=
  Claim7.holds_tied_plain_at .later [] [.data] true Rows.swimNoneCard.stood.harness false
    swimNone_row (fun _ h => by cases h) (by kernel_rfl) (fun _ h => by cases h) swimNone_row_tie rfl ⟨rfl, rfl⟩ (by kernel_rfl) rfl
    (fun f fn hf hfn => by
      obtain rfl : f = 4 := Option.some.inj ((show Tryz.prog.funcNamed Rows.swimNoneRow.func = some 4 by kernel_rfl).symm.trans hf) |>.symm
      obtain rfl : fn = Tryz.f4 := (Option.some.inj (Tryz.func4.symm.trans hfn)).symm
      exact ⟨by kernel_rfl, fun j t ht => by
        rw [Tryz.params4] at ht
        have hm : t ∈ [29, 3] := by simpa using Array.mem_of_getElem? ht
        have hall : ([29, 3].all fun u => !Tryz.prog.wantsStandIn u) = true := by kernel_rfl
        exact (show Tryz.prog.wantsStandIn t = false by simpa using List.all_eq_true.1 hall t hm)⟩)
    (by kernel_rfl)
#print axioms swimNone_holds
end Go.Proofs.YtaicipldjmngaaaGreatDoor.sw
