/-
  List of the program's queue, walked (layer 10).
-/
import Derived.Test.YtphkaohcfgmmkaaRuSorted
namespace Go.Proofs.Ytphkaohcfgmmkaa
open Go.RowKit Go.Maps
set_option linter.unusedSimpArgs false
set_option linter.unusedVariables false

theorem wpList_append_rm {w : World} {ops : Array Oper} {rest : List Oper} {o : Oper} {a : Act} {Q : Exit → Act → World → Prop} (hgd : o.guard = none) (s x : Operand)
    (ho : o.op = .call { callee := .builtin .append, args := #[s, x], argTypes := #[25, 25] })
    (base : Nat) (v : Value) (l : List Ru) (hs : a.eval s = v) (hown : rmRow w base v l) (X : Nat) (y : Ru) (hx : a.eval x = .slice (some ⟨X, 0, none⟩) 1 1) (hc : ItAt rmC w X 0 y)
    (hl : l.length ≤ 1000) (hbase : base ≤ w.heap.size)
    (h : Hid (∀ v' w', rmRow w' base v' (l ++ [y]) → w.grownBy w' v.ownBlock → wpList Try.prog ops Q rest (a.put o.dst v') w')) : wpList Try.prog ops Q (o :: rest) a w := by
  obtain ⟨i0, hi, hz0, hz1, hz2⟩ := info_parts rm_info
  exact wpList_append_k hgd s x _ ho i0 _ 32 Try.underlying25 hi hz0 hz1 hz2 rfl (by decide) rmC_len rmC_one base v l hs hown X y hx hc (by unfold maxLen; omega) (by omega) hbase h
theorem rm_new (w : World) (x : Ru) (T : TypeId) : ItAt rmC (w.alloc (.cells #[.int .i64 x.u.node, .int .u32 (x.u.inc : Int), .int .i64 x.u.st, .int .i64 (x.sent : Int)] T)) w.heap.size 0 x := ItAt.of_new x _ rfl T
/-- A row of rumors is told; what was there is as it was. -/
def ListPost (w : World) (L : List Ru) (e : Ending) (w' : World) : Prop := ∃ v, e = .returned v ∧ rmRow w' w.heap.size v L ∧ Below w.heap.size w w'
theorem list_no (v : Value) (w : World) (h : NoQu w v) : Calls Try.prog 7 #[v] w fun e w' => e = .returned (.slice none 0 0) ∧ w = w' := by
  have HM := Lib.hid (made_no v w h)
  clear h
  go_enter Try.func7, Try.ntmps7
  go_wp2_with fail
  refine HM.out.mono ?_
  rintro e w' ⟨rfl, rfl⟩
  go_wp2
  go_ret
  exact ⟨rfl, rfl⟩
set_option maxHeartbeats 8000000 in
theorem list_any {B M : Nat} {q : Qu} (w : World) (h : QuAt w B M q) : Calls Try.prog 7 #[.pointer (some ⟨B, 0, none⟩)] w (ListPost w q.L) := by
  have HM := Lib.hid (made_yes w h)
  have HS := Lib.hid (sorted_any w h)
  have h8 := h.few
  obtain ⟨L, hL⟩ : ∃ L, q.L = L := ⟨_, rfl⟩
  rw [hL] at h8 HS ⊢
  clear h hL
  go_enter Try.func7, Try.ntmps7
  go_wp2_with fail
  refine HM.out.mono ?_
  rintro e w' ⟨rfl, rfl⟩
  clear HM
  go_wp2_with fail
  refine HS.out.mono ?_
  rintro e w1 ⟨v, rfl, hrow, hb1⟩
  obtain ⟨A, c, rfl, hSK, hnc, hm, _⟩ := SK.of_row ruC_len hrow
  obtain ⟨n, hn⟩ : ∃ n, L.length = n := ⟨_, rfl⟩
  rw [hn] at hSK hnc h8
  rw [hn]
  have hn8 : (n : Int) ≤ 8 := by omega
  have HN := Lib.hid hn
  have HSK := Lib.hid hSK
  have HB1 := Lib.hid hb1
  clear hrow hSK hb1 hm HS hn
  go_wp2
  go_loopw [3, 12] (fun v i wr => ∃ k : Nat, k ≤ n ∧ i = .int .i64 (k : Int) ∧ Hid (rmRow wr w1.heap.size v (L.take k)) ∧ Hid (Below w1.heap.size w1 wr)) (fun _ i _ => n - (intOf i).toNat)
  case atStart => exact ⟨0, Nat.zero_le _, rfl, Lib.hid (rowK.nil _ _), Lib.hid (Below.refl _ _)⟩
  case round =>
    obtain ⟨k, hk, rfl, HV, HB⟩ := hrel
    obtain ⟨v, rfl⟩ : ∃ v, v = u3 := ⟨_, rfl⟩
    by_cases hlt : k < n
    · have hkl : k < L.length := by have := HN.out; omega
      obtain ⟨b, off, rfl, hbl, hit⟩ := (HSK.out.below HB.out).at_ hlt hkl
      obtain ⟨x, hx⟩ : ∃ x, L[k] = x := ⟨_, rfl⟩
      rw [hx] at hit
      have HTk := Lib.hid (show L.take (k + 1) = L.take k ++ [x] by rw [List.take_succ_eq_append_getElem hkl, hx])
      obtain ⟨c0, c1, c2, c3, c4⟩ := hit.ru
      have q1 : (k : Int) < (n : Int) := by omega
      have q0 : (0 : Int) ≤ (k : Int) := by omega
      have hb' := below1 wr (.cells #[.int .i64 x.u.node, .int .u32 (x.u.inc : Int), .int .i64 x.u.st, .int .i64 (x.sent : Int), .int .i64 (x.wh : Int)] 53)
      have hn' := heap_alloc_new wr (.cells #[.int .i64 x.u.node, .int .u32 (x.u.inc : Int), .int .i64 x.u.st, .int .i64 (x.sent : Int), .int .i64 (x.wh : Int)] 53)
      obtain ⟨V, hV⟩ : ∃ V, wr.heap.size = V := ⟨_, rfl⟩
      obtain ⟨W2, hW2⟩ : ∃ W2, wr.alloc (.cells #[.int .i64 x.u.node, .int .u32 (x.u.inc : Int), .int .i64 x.u.st, .int .i64 (x.sent : Int), .int .i64 (x.wh : Int)] 53) = W2 := ⟨_, rfl⟩
      have hs2 : W2.heap.size = V + 1 := by rw [← hW2, ← hV]; simp
      rw [hW2] at hb' hn'
      rw [hV] at hn'
      have HV2 := Lib.hid (HV.out.below hb')
      have HB2 := Lib.hid (HB.out.trans (hb'.mono HB.out.size))
      have HS2 := Lib.hid hs2
      have HN2 := Lib.hid hn'
      have HW2 := Lib.hid hW2
      have HVs := Lib.hid hV
      clear hit hx hb' hn' hW2 hV hs2
      go_wp2_with (at_builtin; rw [HW2.out]; refine wpList_append_rm rfl _ _ rfl w1.heap.size _ (L.take k) rfl ?qa (wr.heap.size + 1) x rfl ?qb ?qc ?qd ?_)
      case qa => exact HV2.out.below (below1 _ _)
      case qb =>
        have := rm_new W2 x 36
        rw [HS2.out, ← HVs.out] at this
        exact this
      case qc => rw [List.length_take]; omega
      case qd => have := HB2.out.size; simp; omega
      refine Lib.hid ?_
      intro v2 w3 hown3 hg3
      have HV3 := Lib.hid hown3
      have HB3 : Hid (Below w1.heap.size w1 w3) := Lib.hid ((HB2.out.alloc HB2.out.size _).grown hg3 (by have := HB2.out.size; simp; omega) (fun r hr => (rowK.from HV.out r hr).1))
      clear hown3 hg3 c0 c1 c2 c3 c4
      go_wp2
      go_roundw
      case rel => exact ⟨k + 1, by omega, by go_num, by rw [HTk.out]; exact HV3, HB3⟩
      case measure => simp [intOf]; omega
    · go_wp2
      go_ret
      obtain rfl : k = n := by omega
      have e : L.take k = L := List.take_of_length_le (by have := HN.out; omega)
      have h1 := HV.out
      rw [e] at h1
      exact ⟨v, rfl, rowK.base_le h1 HB1.out.size, HB1.out.trans (HB.out.mono HB1.out.size)⟩
end Go.Proofs.Ytphkaohcfgmmkaa
