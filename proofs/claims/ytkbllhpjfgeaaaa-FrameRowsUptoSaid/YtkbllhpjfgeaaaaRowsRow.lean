/-
  Of any bytes all frames are told with which they begin, where they end, and why: the law sodalitylaw03.FrameRows returns true for every bytes of bulk at most the bounded statement's number, and changes nothing.
-/
import Derived.Test.YtkbllhpjfgeaaaaRowsLaw
import Derived.Test.YtkbllhpjfgeaaaaFFrame
import Derived.JoinedCond
namespace Go.Proofs.Ytkbllhpjfgeaaaa
open Go.ChangeShapes Go.WideShapes Go.ChangeAt Go.RowKit

/-- A slice of bytes within the bound. -/
theorem one_within {H : Type} {len0 : Nat} {d0 : DataW H} (hk : Rows.uptoSmall H [d0] = true) (h0 : len0 = 0 ∨ ∃ el sp, d0 = .slice el sp ∧ el.length = len0) : len0 ≤ 1048576 := by
  have hl : ∀ l : List (DataW H), l.length ≤ Rows.uptoBulkAll l := by
    intro l
    induction l with
    | nil => exact Nat.zero_le _
    | cons d r ih =>
      have : 1 ≤ Rows.uptoBulk d := by
        cases d with
        | lit x => cases x <;> simp [Rows.uptoBulk]
        | _ => simp [Rows.uptoBulk]
      simp only [Rows.uptoBulkAll, List.length_cons]
      omega
  have h : Rows.uptoBulk d0 ≤ 1048576 := by
    have := of_decide_eq_true hk
    simpa only [Rows.uptoBulkAll, Nat.add_zero] using this
  rcases h0 with rfl | ⟨el, sp, rfl, rfl⟩
  · exact Nat.zero_le _
  · have := hl el
    simp only [Rows.uptoBulk] at h
    omega

set_option maxRecDepth 100000 in
theorem frameRows_lifted (os : Os) (started : os.Started) (H : Type) (enc : TypeId × Value → H) (F : Stop.Interp) :
    ReturnsInHanded {} Try.checked os 5 .any ((Rows.OpenSpec.upto Rows.frameRowsSpec).pre6 enc Try.prog Try.f5 Rows.frameRowsUptoRow.domain false) (((Rows.OpenSpec.upto Rows.frameRowsSpec).at F).post enc Try.prog Try.f5 false true false false) := by
  refine returnsInHanded_of_cond (C := Try.checked) (s := Rows.OpenSpec.upto Rows.frameRowsSpec) (k := Rows.uptoSmall) rfl own started (by kernel_rfl) Try.func5
    (OpenSpec.witness (enc := enc) (C := Try.checked) (s := Rows.OpenSpec.upto Rows.frameRowsSpec) (k := Rows.uptoSmall) rfl false ⟨#[], #[.slice none 0 0], []⟩ 8 (by kernel_rfl) (by kernel_rfl) (by kernel_rfl)
      (x := ([.nil], [], [])) (by kernel_rfl) rfl (by kernel_rfl)) ?_
  intro W base args ds gs before hval0 hW _ hk0 _
  have hval : ∀ (j : Nat) t v, Try.f5.params[j]? = some t → args[j]? = some v → Value.okWide Try.prog W .any base t v := hval0
  have hW' := hW
  obtain ⟨p, q, hA0, hV, rfl, _, _⟩ := hW
  have hA : DataW.TrodAll enc Try.prog W 0 (fun _ => true) true Try.f5.params.toList args.toList ds p := hA0
  rw [Try.params5] at hA hval
  obtain ⟨v0, d0, rfl, rfl, h0⟩ := trodAll_one hA
  obtain ⟨rfl, rfl⟩ := trodVars_none hV
  obtain ⟨a0, len0, cap0, rfl⟩ := okWide_slice Try.underlying22 (hval 0 22 v0 rfl rfl)
  have k0 := h0
  have lt0 : ∀ x ∈ p, x.block < W.heap.size := by obtain ⟨m, hm⟩ := k0; exact DataW.trod_lt m _ _ _ hm
  obtain ⟨xs0, hR0, hcap0, _, hnil0⟩ : ∃ xs, RB W a0 len0 xs ∧ len0 ≤ cap0 ∧ cap0 ≤ maxLen ∧ (a0 = none → cap0 = 0) := by obtain ⟨m, hm⟩ := h0; exact RB.opened hm
  have w0 : len0 = 0 ∨ ∃ el sp, d0 = .slice el sp ∧ el.length = len0 := by obtain ⟨m, hm⟩ := h0; exact RB.weighed hm
  have hk : Rows.uptoSmall H [d0] = true := by simpa using hk0
  refine (rows_walk a0 len0 cap0 xs0 W hR0 hnil0 hcap0 (one_within hk w0)).mono fun e W' ⟨he, hb⟩ => ?_
  subst he
  exact ⟨_, rfl, _, _, _, [], _, [], hW', trodAll_mk1 (shut_bool Try.underlying4 _), trodAll_mk1 (Below.trod laidOut (by kernel_rfl) (of_decide_eq_true (by kernel_rfl)) k0 hb lt0), rfl, hb.frame _, fun h => by cases h⟩

theorem frameRows_holds : Rows.FrameRowsUptoSaid :=
  OpenClaim.holds_of_cond 5 Try.f5 rfl rfl rfl rfl rfl rfl rfl ⟨rfl, rfl, rfl, rfl, rfl⟩ rfl rfl rfl rfl rfl (by kernel_rfl) Try.func5 (by kernel_rfl)
    (of_decide_eq_true (by kernel_rfl)) (by unfold Func.isWrapper; first | (rw [if_pos (by decide +kernel)]; kernel_rfl) | (rw [if_neg (by decide +kernel)]; exact ⟨rfl, rfl⟩))
    (fun os started H enc _ F => frameRows_lifted os started H enc F)
end Go.Proofs.Ytkbllhpjfgeaaaa
