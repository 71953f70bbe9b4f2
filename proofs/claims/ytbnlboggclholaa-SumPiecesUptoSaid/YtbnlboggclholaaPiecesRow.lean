/-
  Any bytes, in any pieces, have the document's sum; and one sum goes on where another one ended: the law sodalitylaw02.SumPieces returns true for every two texts that are together of bulk at most the bounded statement's number, and changes nothing.
-/
import Derived.Test.YtbnlboggclholaaPiecesLaw
import Derived.Test.YtbnlboggclholaaSFrame
import Derived.JoinedCond
namespace Go.Proofs.Ytbnlboggclholaa
open Go.ChangeShapes Go.WideShapes Go.ChangeAt Go.RowKit

/-- Two slices of bytes within the bound: their lengths together. -/
theorem two_within {H : Type} {len0 len1 : Nat} {d0 d1 : DataW H} (hk : Rows.uptoSmall H [d0, d1] = true) (h0 : len0 = 0 ∨ ∃ el sp, d0 = .slice el sp ∧ el.length = len0) (h1 : len1 = 0 ∨ ∃ el sp, d1 = .slice el sp ∧ el.length = len1) : len0 + len1 ≤ 1048576 := by
  have hl : ∀ l : List (DataW H), l.length ≤ Rows.uptoBulkAll l := by
    intro l
    induction l with
    | nil => exact Nat.zero_le _
    | cons d r ih =>
      have : 1 ≤ Rows.uptoBulk d := by
        cases d with
        | lit x => cases x <;> simp [Rows.uptoBulk]
        | _ => simp [Rows.uptoBulk]
      simp only [Rows.uptoBulkAll, List.length_cons]
      omega
  have h : Rows.uptoBulk d0 + Rows.uptoBulk d1 ≤ 1048576 := by
    have := of_decide_eq_true hk
    simpa only [Rows.uptoBulkAll, Nat.add_zero] using this
  have b : ∀ {n : Nat} {d : DataW H}, (n = 0 ∨ ∃ el sp, d = .slice el sp ∧ el.length = n) → n ≤ Rows.uptoBulk d := by
    rintro n d (rfl | ⟨el, sp, rfl, rfl⟩)
    · exact Nat.zero_le _
    · have := hl el
      simp only [Rows.uptoBulk]
      omega
  have := b h0
  have := b h1
  omega

set_option maxRecDepth 100000 in
theorem sumPieces_lifted (C : Con) (os : Os) (started : os.Started) (H : Type) (enc : TypeId × Value → H) (F : Stop.Interp) :
    ReturnsInHanded {} Try.checked os 3 .any ((Rows.OpenSpec.upto Rows.sumPiecesSpec).pre6 enc Try.prog Try.f3 Rows.sumPiecesUptoRow.domain false) (((Rows.OpenSpec.upto Rows.sumPiecesSpec).at F).post enc Try.prog Try.f3 false true false false) := by
  refine returnsInHanded_of_cond (C := Try.checked) (s := Rows.OpenSpec.upto Rows.sumPiecesSpec) (k := Rows.uptoSmall) rfl own started (by kernel_rfl) Try.func3
    (OpenSpec.witness (enc := enc) (C := Try.checked) (s := Rows.OpenSpec.upto Rows.sumPiecesSpec) (k := Rows.uptoSmall) rfl false ⟨#[], #[.slice none 0 0, .slice none 0 0], []⟩ 8 (by kernel_rfl) (by kernel_rfl) (by kernel_rfl)
      (x := ([.nil, .nil], [], [])) (by kernel_rfl) rfl (by kernel_rfl)) ?_
  intro W base args ds gs before hval0 hW _ hk0 _
  have hval : ∀ (j : Nat) t v, Try.f3.params[j]? = some t → args[j]? = some v → Value.okWide Try.prog W .any base t v := hval0
  have hW' := hW
  obtain ⟨p, q, hA0, hV, rfl, _, _⟩ := hW
  have hA : DataW.TrodAll enc Try.prog W 0 (fun _ => true) true Try.f3.params.toList args.toList ds p := hA0
  rw [Try.params3] at hA hval
  obtain ⟨v0, v1, d0, d1, p0, p1, rfl, rfl, rfl, h0, h1⟩ := trodAll_two hA
  obtain ⟨rfl, rfl⟩ := trodVars_none hV
  obtain ⟨a0, len0, cap0, rfl⟩ := okWide_slice Try.underlying22 (hval 0 22 v0 rfl rfl)
  obtain ⟨a1, len1, cap1, rfl⟩ := okWide_slice Try.underlying22 (hval 1 22 v1 rfl rfl)
  have k0 := h0
  have k1 := h1
  have lt0 : ∀ x ∈ p0, x.block < W.heap.size := by obtain ⟨m, hm⟩ := k0; exact DataW.trod_lt m _ _ _ hm
  have lt1 : ∀ x ∈ p1, x.block < W.heap.size := by obtain ⟨m, hm⟩ := k1; exact DataW.trod_lt m _ _ _ hm
  obtain ⟨xs0, hR0, _, _, hnil0⟩ : ∃ xs, RB W a0 len0 xs ∧ len0 ≤ cap0 ∧ cap0 ≤ maxLen ∧ (a0 = none → cap0 = 0) := by obtain ⟨m, hm⟩ := h0; exact RB.opened hm
  obtain ⟨xs1, hR1, _, _, hnil1⟩ : ∃ xs, RB W a1 len1 xs ∧ len1 ≤ cap1 ∧ cap1 ≤ maxLen ∧ (a1 = none → cap1 = 0) := by obtain ⟨m, hm⟩ := h1; exact RB.opened hm
  have w0 : len0 = 0 ∨ ∃ el sp, d0 = .slice el sp ∧ el.length = len0 := by obtain ⟨m, hm⟩ := h0; exact RB.weighed hm
  have w1 : len1 = 0 ∨ ∃ el sp, d1 = .slice el sp ∧ el.length = len1 := by obtain ⟨m, hm⟩ := h1; exact RB.weighed hm
  have hk : Rows.uptoSmall H [d0, d1] = true := by simpa using hk0
  have hb2 := two_within hk w0 w1
  refine (pieces_walk C a0 len0 cap0 xs0 a1 len1 cap1 xs1 W hR0 hnil0 hR1 hnil1 (by omega)).mono fun e W' ⟨he, hb⟩ => ?_
  subst he
  exact ⟨_, rfl, _, _, _, [], _, [], hW', trodAll_mk1 (shut_bool Try.underlying4 _), trodAll_mk2 (Below.trod laidOut (by kernel_rfl) (of_decide_eq_true (by kernel_rfl)) k0 hb lt0) (Below.trod laidOut (by kernel_rfl) (of_decide_eq_true (by kernel_rfl)) k1 hb lt1), rfl, hb.frame _, fun h => by cases h⟩

theorem sumPiecesUpto_row (C : Con) : Rows.SumPiecesUptoSaid :=
  OpenClaim.holds_of_cond 3 Try.f3 rfl rfl rfl rfl rfl rfl rfl ⟨rfl, rfl, rfl, rfl, rfl⟩ rfl rfl rfl rfl rfl (by kernel_rfl) Try.func3 (by kernel_rfl)
    (of_decide_eq_true (by kernel_rfl)) (by unfold Func.isWrapper; first | (rw [if_pos (by decide +kernel)]; kernel_rfl) | (rw [if_neg (by decide +kernel)]; exact ⟨rfl, rfl⟩))
    (fun os started H enc _ F => sumPieces_lifted C os started H enc F)
end Go.Proofs.Ytbnlboggclholaa
