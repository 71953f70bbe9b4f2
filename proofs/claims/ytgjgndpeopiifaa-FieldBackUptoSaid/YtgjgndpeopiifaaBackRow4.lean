/-
  What was laid is read as it was, in its order: the law sodalitylaw04.FieldBack returns true for every input of bulk at most the bounded statement's number, and changes nothing.
-/
import Derived.Test.YtgjgndpeopiifaaBackLaw4
import Derived.Test.YtgjgndpeopiifaaDFrame
namespace Go.Proofs.Ytgjgndpeopiifaa
open Go.Joins Go.ChangeShapes Go.WideShapes Go.ChangeAt Go.RowKit

set_option maxRecDepth 100000 in
theorem fieldBack_lifted (os : Os) (started : os.Started) (H : Type) (enc : TypeId × Value → H) (F : Stop.Interp) :
    ReturnsInHanded {} Try.checked os 5 .any ((Rows.OpenSpec.upto Rows.fieldBackSpec).pre6 enc Try.prog Try.f5 Rows.fieldBackUptoRow.domain false) (((Rows.OpenSpec.upto Rows.fieldBackSpec).at F).post enc Try.prog Try.f5 false true false false) := by
  refine returnsInHanded_of_cond (C := Try.checked) (s := Rows.OpenSpec.upto Rows.fieldBackSpec) (k := Rows.uptoSmall) rfl own started (by kernel_rfl) Try.func5
    (OpenSpec.witness (enc := enc) (C := Try.checked) (s := Rows.OpenSpec.upto Rows.fieldBackSpec) (k := Rows.uptoSmall) rfl false ⟨#[], #[.int .u64 0, .agg #[.string ⟨#[]⟩, .bool false, .slice none 0 0, .slice none 0 0], .slice none 0 0], []⟩ 8 (by kernel_rfl) (by kernel_rfl) (by kernel_rfl)
      (x := ([.lit (.int .u64 0), .agg [.lit (.string []), .lit (.bool false), .nil, .nil], .nil], [], [])) (by kernel_rfl) rfl (by kernel_rfl)) ?_
  intro W base args ds gs before hval0 hW _ hk0 _
  have hval : ∀ (j : Nat) t v, Try.f5.params[j]? = some t → args[j]? = some v → Value.okWide Try.prog W .any base t v := hval0
  have hW' := hW
  obtain ⟨p, q, hA0, hV, rfl, _, _⟩ := hW
  have hA : DataW.TrodAll enc Try.prog W 0 (fun _ => true) true Try.f5.params.toList args.toList ds p := hA0
  rw [Try.params5] at hA hval
  obtain ⟨v0, v1, v2, d0, d1, d2, p0, p1, p2, rfl, rfl, rfl, h0, h1, h2⟩ := trodAll_three hA
  obtain ⟨rfl, rfl⟩ := trodVars_none hV
  have hku : Rows.uptoSmall H [d0, d1, d2] = true := by simpa using hk0
  have hkb := of_decide_eq_true hku
  simp only [Rows.uptoBulkAll] at hkb
  have k0' := h0
  have lt0 : ∀ x ∈ p0, x.block < W.heap.size := by obtain ⟨m, hm⟩ := k0'; exact DataW.trod_lt m _ _ _ hm
  obtain ⟨k0, e0, hk0⟩ : ∃ k : Nat, v0 = .int .u64 (k : Int) ∧ k < 256 ^ 8 := by
    obtain ⟨m, hm⟩ := h0
    obtain ⟨k, e, _, wk⟩ := DataW.trod_int Try.underlying23 hm
    have hk : 0 ≤ k ∧ k ≤ 18446744073709551615 := by simpa [Lit.wf, IntKind.min, IntKind.max, IntKind.signed, IntKind.bits] using wk
    exact ⟨k.toNat, by rw [show ((k.toNat : Nat) : Int) = k by omega]; obtain ⟨z, rfl⟩ := okWide_int Try.underlying23 (hval 0 23 v0 rfl rfl); simpa [Value.cells] using e, by omega⟩
  subst e0
  have k1' := h1
  have lt1 : ∀ x ∈ p1, x.block < W.heap.size := by obtain ⟨m, hm⟩ := k1'; exact DataW.trod_lt m _ _ _ hm
  obtain ⟨s1, is1, B1, m1, c1, l1, D1, q1, e1, ns1, rfl, hs1, hl1, hm1, hbl1, hn1, hq1, hbn1, hlt1⟩ := item_arg (hval 1 27 v1 rfl rfl) h1 (by omega)
  have k2' := h2
  have lt2 : ∀ x ∈ p2, x.block < W.heap.size := by obtain ⟨m, hm⟩ := k2'; exact DataW.trod_lt m _ _ _ hm
  obtain ⟨a2, len2, cap2, rfl⟩ := okWide_slice Try.underlying22 (hval 2 22 v2 rfl rfl)
  obtain ⟨xs2, hR2, hcap2, _, hnil2⟩ : ∃ xs, RB W a2 len2 xs ∧ len2 ≤ cap2 ∧ cap2 ≤ maxLen ∧ (a2 = none → cap2 = 0) := by obtain ⟨m, hm⟩ := h2; exact RB.opened hm
  have hlen2 : len2 ≤ 1048576 := by
    have w0 : len2 = 0 ∨ ∃ el sp, d2 = .slice el sp ∧ el.length = len2 := by obtain ⟨m, hm⟩ := h2; exact RB.weighed hm
    rcases w0 with h | ⟨el, sp, h, h'⟩
    · omega
    · rw [h] at hkb
      simp only [Rows.uptoBulk] at hkb
      have := bulk_len el
      omega
  refine (back4_walk k0 s1 is1 B1 m1 c1 l1 D1 q1 e1 ns1 a2 len2 cap2 xs2 W hk0 hs1 hl1 hm1 hbl1 hn1 hq1 hbn1 hlt1 hR2 hnil2 hcap2 hlen2).mono fun e W' ⟨he, hb⟩ => ?_
  subst he
  exact ⟨_, rfl, _, _, _, [], _, [], hW', trodAll_mk1 (shut_bool Try.underlying4 _), trodAll_mk3 (Below.trod laidOut (by kernel_rfl) (of_decide_eq_true (by kernel_rfl)) k0' hb lt0) (Below.trod laidOut (by kernel_rfl) (of_decide_eq_true (by kernel_rfl)) k1' hb lt1) (Below.trod laidOut (by kernel_rfl) (of_decide_eq_true (by kernel_rfl)) k2' hb lt2), rfl, hb.frame _, fun h => by cases h⟩

theorem fieldBack_holds : Rows.FieldBackUptoSaid :=
  OpenClaim.holds_of_cond 5 Try.f5 rfl rfl rfl rfl rfl rfl rfl ⟨rfl, rfl, rfl, rfl, rfl⟩ rfl rfl rfl rfl rfl (by kernel_rfl) Try.func5 (by kernel_rfl)
    (of_decide_eq_true (by kernel_rfl)) (by unfold Func.isWrapper; first | (rw [if_pos (by decide +kernel)]; kernel_rfl) | (rw [if_neg (by decide +kernel)]; exact ⟨rfl, rfl⟩))
    (fun os started H enc _ F => fieldBack_lifted os started H enc F)
end Go.Proofs.Ytgjgndpeopiifaa
