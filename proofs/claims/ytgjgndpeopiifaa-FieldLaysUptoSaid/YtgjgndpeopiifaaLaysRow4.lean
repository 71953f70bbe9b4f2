/-
  Any number, text, flag and list has the document's bytes, behind whatever stands there: the law sodalitylaw04.FieldLays returns true for every input of bulk at most the bounded statement's number, and changes nothing.
-/
import Derived.Test.YtgjgndpeopiifaaLaysLaw4
import Derived.Test.YtgjgndpeopiifaaDFrame
namespace Go.Proofs.Ytgjgndpeopiifaa
open Go.Joins Go.ChangeShapes Go.WideShapes Go.ChangeAt Go.RowKit

set_option maxRecDepth 100000 in
theorem fieldLays_lifted (os : Os) (started : os.Started) (H : Type) (enc : TypeId × Value → H) (F : Stop.Interp) :
    ReturnsInHanded {} Try.checked os 3 .any ((Rows.OpenSpec.upto Rows.fieldLaysSpec).pre6 enc Try.prog Try.f3 Rows.fieldLaysUptoRow.domain false) (((Rows.OpenSpec.upto Rows.fieldLaysSpec).at F).post enc Try.prog Try.f3 false true false false) := by
  refine returnsInHanded_of_cond (C := Try.checked) (s := Rows.OpenSpec.upto Rows.fieldLaysSpec) (k := Rows.uptoSmall) rfl own started (by kernel_rfl) Try.func3
    (OpenSpec.witness (enc := enc) (C := Try.checked) (s := Rows.OpenSpec.upto Rows.fieldLaysSpec) (k := Rows.uptoSmall) rfl false ⟨#[], #[.slice none 0 0, .int .u64 0, .agg #[.string ⟨#[]⟩, .bool false, .slice none 0 0, .slice none 0 0]], []⟩ 8 (by kernel_rfl) (by kernel_rfl) (by kernel_rfl)
      (x := ([.nil, .lit (.int .u64 0), .agg [.lit (.string []), .lit (.bool false), .nil, .nil]], [], [])) (by kernel_rfl) rfl (by kernel_rfl)) ?_
  intro W base args ds gs before hval0 hW _ hk0 _
  have hval : ∀ (j : Nat) t v, Try.f3.params[j]? = some t → args[j]? = some v → Value.okWide Try.prog W .any base t v := hval0
  have hW' := hW
  obtain ⟨p, q, hA0, hV, rfl, _, _⟩ := hW
  have hA : DataW.TrodAll enc Try.prog W 0 (fun _ => true) true Try.f3.params.toList args.toList ds p := hA0
  rw [Try.params3] at hA hval
  obtain ⟨v0, v1, v2, d0, d1, d2, p0, p1, p2, rfl, rfl, rfl, h0, h1, h2⟩ := trodAll_three hA
  obtain ⟨rfl, rfl⟩ := trodVars_none hV
  have hku : Rows.uptoSmall H [d0, d1, d2] = true := by simpa using hk0
  have hkb := of_decide_eq_true hku
  simp only [Rows.uptoBulkAll] at hkb
  have k0' := h0
  have lt0 : ∀ x ∈ p0, x.block < W.heap.size := by obtain ⟨m, hm⟩ := k0'; exact DataW.trod_lt m _ _ _ hm
  obtain ⟨a0, len0, cap0, rfl⟩ := okWide_slice Try.underlying22 (hval 0 22 v0 rfl rfl)
  obtain ⟨xs0, hR0, hcap0, _, hnil0⟩ : ∃ xs, RB W a0 len0 xs ∧ len0 ≤ cap0 ∧ cap0 ≤ maxLen ∧ (a0 = none → cap0 = 0) := by obtain ⟨m, hm⟩ := h0; exact RB.opened hm
  have hlen0 : len0 ≤ 1048576 := by
    have w0 : len0 = 0 ∨ ∃ el sp, d0 = .slice el sp ∧ el.length = len0 := by obtain ⟨m, hm⟩ := h0; exact RB.weighed hm
    rcases w0 with h | ⟨el, sp, h, h'⟩
    · omega
    · rw [h] at hkb
      simp only [Rows.uptoBulk] at hkb
      have := bulk_len el
      omega
  have k1' := h1
  have lt1 : ∀ x ∈ p1, x.block < W.heap.size := by obtain ⟨m, hm⟩ := k1'; exact DataW.trod_lt m _ _ _ hm
  obtain ⟨k1, e1, hk1⟩ : ∃ k : Nat, v1 = .int .u64 (k : Int) ∧ k < 256 ^ 8 := by
    obtain ⟨m, hm⟩ := h1
    obtain ⟨k, e, _, wk⟩ := DataW.trod_int Try.underlying23 hm
    have hk : 0 ≤ k ∧ k ≤ 18446744073709551615 := by simpa [Lit.wf, IntKind.min, IntKind.max, IntKind.signed, IntKind.bits] using wk
    exact ⟨k.toNat, by rw [show ((k.toNat : Nat) : Int) = k by omega]; obtain ⟨z, rfl⟩ := okWide_int Try.underlying23 (hval 1 23 v1 rfl rfl); simpa [Value.cells] using e, by omega⟩
  subst e1
  have k2' := h2
  have lt2 : ∀ x ∈ p2, x.block < W.heap.size := by obtain ⟨m, hm⟩ := k2'; exact DataW.trod_lt m _ _ _ hm
  obtain ⟨s2, is2, B2, m2, c2, l2, D2, q2, e2, ns2, rfl, hs2, hl2, hm2, hbl2, hn2, hq2, hbn2, hlt2⟩ := item_arg (hval 2 27 v2 rfl rfl) h2 (by omega)
  refine (lays_walk a0 len0 cap0 xs0 k1 s2 is2 B2 m2 c2 l2 D2 q2 e2 ns2 W hR0 hnil0 hcap0 hlen0 hk1 hs2 hl2 hm2 hbl2 hn2 hq2 hbn2 hlt2).mono fun e W' ⟨he, hb⟩ => ?_
  subst he
  exact ⟨_, rfl, _, _, _, [], _, [], hW', trodAll_mk1 (shut_bool Try.underlying4 _), trodAll_mk3 (Below.trod laidOut (by kernel_rfl) (of_decide_eq_true (by kernel_rfl)) k0' hb lt0) (Below.trod laidOut (by kernel_rfl) (of_decide_eq_true (by kernel_rfl)) k1' hb lt1) (Below.trod laidOut (by kernel_rfl) (of_decide_eq_true (by kernel_rfl)) k2' hb lt2), rfl, hb.frame _, fun h => by cases h⟩

theorem fieldLays_holds : Rows.FieldLaysUptoSaid :=
  OpenClaim.holds_of_cond 3 Try.f3 rfl rfl rfl rfl rfl rfl rfl ⟨rfl, rfl, rfl, rfl, rfl⟩ rfl rfl rfl rfl rfl (by kernel_rfl) Try.func3 (by kernel_rfl)
    (of_decide_eq_true (by kernel_rfl)) (by unfold Func.isWrapper; first | (rw [if_pos (by decide +kernel)]; kernel_rfl) | (rw [if_neg (by decide +kernel)]; exact ⟨rfl, rfl⟩))
    (fun os started H enc _ F => fieldLays_lifted os started H enc F)
end Go.Proofs.Ytgjgndpeopiifaa
