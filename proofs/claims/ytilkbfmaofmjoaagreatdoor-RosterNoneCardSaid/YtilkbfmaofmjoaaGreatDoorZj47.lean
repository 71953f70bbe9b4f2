/-
  The calls at no roster (layer 19).
-/
import Derived.Test.YtilkbfmaofmjoaaGreatDoorZj46
import Derived.Test.YtilkbfmaofmjoaaGreatDoorZj39
import Derived.Laws.StructEq
import Derived.ChangeKeysEq
namespace Go.Proofs.YtilkbfmaofmjoaaGreatDoor
open Go.RowKit Go.Rel
set_option linter.unusedSimpArgs false
set_option linter.unusedVariables false

section
variable {w : World} {p : Option Addr}
theorem rnode_no (node : Int) (addr : ByteArray) (i : Nat) (h : NoRo w p) : Calls Tryz.prog 28 #[.pointer p, .int .i64 node, .string addr, .int .u64 (i : Int)] w fun e w' => e = .returned (.int .i64 1) ∧ Below w.heap.size w w' := by
  have HM := Lib.hid (made_no h)
  clear h
  go_enter Tryz.func28, Tryz.ntmps28
  go_wp2_with fail
  refine HM.out.mono ?_
  rintro e w2 ⟨rfl, hb⟩
  have HB2 := Lib.hid hb
  clear hb
  go_wp2
  go_ret
  exact ⟨rfl, HB2.out⟩
theorem rdropnode_no (node : Int) (i : Nat) (h : NoRo w p) : Calls Tryz.prog 29 #[.pointer p, .int .i64 node, .int .u64 (i : Int)] w fun e w' => e = .returned (.int .i64 1) ∧ Below w.heap.size w w' := by
  have HM := Lib.hid (made_no h)
  clear h
  go_enter Tryz.func29, Tryz.ntmps29
  go_wp2_with fail
  refine HM.out.mono ?_
  rintro e w2 ⟨rfl, hb⟩
  have HB2 := Lib.hid hb
  clear hb
  go_wp2
  go_ret
  exact ⟨rfl, HB2.out⟩
theorem rservice_no (x : Rw SvW) (i : Nat) (h : NoRo w p) : Calls Tryz.prog 30 #[.pointer p, svV x, .int .u64 (i : Int)] w fun e w' => e = .returned (.int .i64 1) ∧ Below w.heap.size w w' := by
  have b0 := below1 w #[.int .i64 x.val.a.node, .string x.val.a.id, .string x.val.a.name, .slice x.val.A x.val.n x.val.c, .int .i64 x.val.a.port, .int .u64 (x.made : Int), .int .u64 (x.ix : Int)] TSv
  obtain ⟨w1, hw1⟩ : ∃ w1, w.alloc (.cells #[.int .i64 x.val.a.node, .string x.val.a.id, .string x.val.a.name, .slice x.val.A x.val.n x.val.c, .int .i64 x.val.a.port, .int .u64 (x.made : Int), .int .u64 (x.ix : Int)] TSv) = w1 := ⟨_, rfl⟩
  rw [hw1] at b0
  have HM := Lib.hid (made_no (h.below b0))
  have HB := Lib.hid b0
  have HW := Lib.hid hw1
  unfold svV
  clear h b0 hw1
  go_enter Tryz.func30, Tryz.ntmps30
  go_wp2_with fail
  rw [HW.out]
  refine HM.out.mono ?_
  rintro e w2 ⟨rfl, hb⟩
  have HB2 := Lib.hid (HB.out.trans (hb.mono HB.out.size))
  clear hb
  go_wp2
  go_ret
  exact ⟨rfl, HB2.out⟩
theorem rdropservice_no (node : Int) (nid : ByteArray) (i : Nat) (h : NoRo w p) : Calls Tryz.prog 31 #[.pointer p, .int .i64 node, .string nid, .int .u64 (i : Int)] w fun e w' => e = .returned (.int .i64 1) ∧ Below w.heap.size w w' := by
  have HM := Lib.hid (made_no h)
  clear h
  go_enter Tryz.func31, Tryz.ntmps31
  go_wp2_with fail
  refine HM.out.mono ?_
  rintro e w2 ⟨rfl, hb⟩
  have HB2 := Lib.hid hb
  clear hb
  go_wp2
  go_ret
  exact ⟨rfl, HB2.out⟩
theorem rcheck_no (x : Rw CkA) (i : Nat) (h : NoRo w p) : Calls Tryz.prog 20 #[.pointer p, ckV x, .int .u64 (i : Int)] w fun e w' => e = .returned (.int .i64 1) ∧ Below w.heap.size w w' := by
  have b0 := below1 w #[.int .i64 x.val.node, .string x.val.id, .string x.val.svc, .string x.val.note, .int .i64 x.val.status, .int .u64 (x.made : Int), .int .u64 (x.ix : Int)] TCk
  obtain ⟨w1, hw1⟩ : ∃ w1, w.alloc (.cells #[.int .i64 x.val.node, .string x.val.id, .string x.val.svc, .string x.val.note, .int .i64 x.val.status, .int .u64 (x.made : Int), .int .u64 (x.ix : Int)] TCk) = w1 := ⟨_, rfl⟩
  rw [hw1] at b0
  have HM := Lib.hid (made_no (h.below b0))
  have HB := Lib.hid b0
  have HW := Lib.hid hw1
  unfold ckV
  clear h b0 hw1
  go_enter Tryz.func20, Tryz.ntmps20
  go_wp2_with fail
  rw [HW.out]
  refine HM.out.mono ?_
  rintro e w2 ⟨rfl, hb⟩
  have HB2 := Lib.hid (HB.out.trans (hb.mono HB.out.size))
  clear hb
  go_wp2
  go_ret
  exact ⟨rfl, HB2.out⟩
theorem rdropcheck_no (node : Int) (nid : ByteArray) (i : Nat) (h : NoRo w p) : Calls Tryz.prog 21 #[.pointer p, .int .i64 node, .string nid, .int .u64 (i : Int)] w fun e w' => e = .returned (.int .i64 1) ∧ Below w.heap.size w w' := by
  have HM := Lib.hid (made_no h)
  clear h
  go_enter Tryz.func21, Tryz.ntmps21
  go_wp2_with fail
  refine HM.out.mono ?_
  rintro e w2 ⟨rfl, hb⟩
  have HB2 := Lib.hid hb
  clear hb
  go_wp2
  go_ret
  exact ⟨rfl, HB2.out⟩
theorem rcopy_no  (h : NoRo w p) : Calls Tryz.prog 32 #[.pointer p] w fun e w' => e = .returned (.pointer none) ∧ Below w.heap.size w w' := by
  have HM := Lib.hid (made_no h)
  clear h
  go_enter Tryz.func32, Tryz.ntmps32
  go_wp2_with fail
  refine HM.out.mono ?_
  rintro e w2 ⟨rfl, hb⟩
  have HB2 := Lib.hid hb
  clear hb
  go_wp2
  go_ret
  exact ⟨rfl, HB2.out⟩
end
end Go.Proofs.YtilkbfmaofmjoaaGreatDoor
/-
  Of, walked (layer 19).
-/
namespace Go.Proofs.YtilkbfmaofmjoaaGreatDoor
open Go.RowKit Go.Rel
set_option linter.unusedSimpArgs false
set_option linter.unusedVariables false

/-- What Of tells. -/
def OfPost (w : World) (nv nc : Nat) (ls : List (Rw SvA)) (lc : List (Rw CkA)) (e : Ending) (w' : World) : Prop := ∃ A1 c1 l1 A2 c2, e = .returned (.tuple #[.slice A1 nv c1, .slice A2 nc c2]) ∧ SK svC 7 w' A1 nv l1 ∧ SvL w' l1 ls ∧ SK ckC 7 w' A2 nc lc ∧ Below w.heap.size w w'
def rofE (Xt : Nat) (k : ByteArray) (p2 : Option Addr) (p3 : Option Addr) : Nat → Value
  | 0 => .pointer (some ⟨Xt, 1, none⟩)
  | 1 => .pointer p2
  | 2 | 8 => .string k
  | 4 => .agg #[.func (.func 92) #[] #[], .func (.func 93) #[] #[]]
  | 6 => .pointer (some ⟨Xt, 2, none⟩)
  | 7 => .pointer p3
  | 10 => .agg #[.func (.func 96) #[] #[], .func (.func 97) #[] #[]]
  | _ => undef
set_option maxHeartbeats 4000000 in
set_option maxRecDepth 100000 in
theorem rof_walk {w : World} {q p1 p2 p3 : Option Addr} {lv : List (Rw SvW)} {lc : List (Rw CkW)} (node : Int) (hn : -9223372036854775808 ≤ node ∧ node ≤ 9223372036854775807) (hp : PwIs w) (hnv : lv.length ≤ 64) (hnc : lc.length ≤ 64) (ht : ∀ r ∈ lv, Tx w r.val.A r.val.n r.val.c r.val.a.tags ∧ r.val.n ≤ 4)
    (hT : ∀ W, Below w.heap.size w W → Calls Tryz.prog 43 #[.pointer q] W fun e w' => e = .returned (.agg #[.pointer p1, .pointer p2, .pointer p3]) ∧ Below W.heap.size W w')
    (hU : ∀ W, Below w.heap.size w W → Calls Tryz.prog 53 #[.pointer p2, .string (keyO node noT)] W (Vt.New W lv)) (hC : ∀ W, Below w.heap.size w W → Calls Tryz.prog 54 #[.pointer p3, .string (keyO node noT)] W (Ct.New W lc)) :
    Calls Tryz.prog 19 #[.pointer q, .int .i64 node] w (OfPost w lv.length lc.length (lv.map (rwMap fun v => v.a)) (lc.map (rwMap fun v => v.a))) := by
  have HKy := Lib.hid (rkey_any node noT w hn (by decide) hp)
  have HT := Lib.hid hT
  have G1 := Lib.hid hU
  have G2 := Lib.hid hC
  have HTx := Lib.hid ht
  obtain ⟨nv, hv⟩ : ∃ nv, lv.length = nv := ⟨_, rfl⟩
  obtain ⟨nc, hc⟩ : ∃ nc, lc.length = nc := ⟨_, rfl⟩
  rw [hv, hc]
  rw [hv] at hnv
  rw [hc] at hnc
  have HN := Lib.hid (And.intro hv (And.intro hc (And.intro hnv hnc)))
  clear hn hp hT hU hC ht hv hc hnv hnc
  go_enter Tryz.func19, Tryz.ntmps19
  go_wp2_with fail
  refine HKy.out.mono ?_
  rintro e w1 ⟨rfl, hb⟩
  obtain ⟨k, hk⟩ : ∃ k, keyO node noT = k := ⟨_, rfl⟩
  have HB1 := Lib.hid hb
  rw [hk] at G1 G2 ⊢
  clear hb hk
  go_wp2_with fail
  refine (HT.out w1 HB1.out).mono ?_
  rintro e w2 ⟨rfl, hb⟩
  obtain ⟨Xt, hXt⟩ : ∃ Xt, w2.heap.size = Xt := ⟨_, rfl⟩
  have b2 := below1 w2 #[.pointer p1, .pointer p2, .pointer p3] TRo
  have k2 := heap_alloc_new w2 (.cells #[.pointer p1, .pointer p2, .pointer p3] TRo)
  have HB : Hid (Below w.heap.size w (w2.alloc (.cells #[.pointer p1, .pointer p2, .pointer p3] TRo))) := Lib.hid (HB1.out.trans ((hb.trans (b2.mono hb.size)).mono HB1.out.size))
  clear hb b2 HT
  go_wp2_with fail
  obtain ⟨W0, hW0⟩ : ∃ W0, w2.alloc (.cells #[.pointer p1, .pointer p2, .pointer p3] TRo) = W0 := ⟨_, rfl⟩
  rw [hW0] at HB k2
  rw [hXt] at k2
  have HKt := Lib.hid k2
  have HLt := Lib.hid (block_lt k2)
  have HUv := Lib.hid (fun W (hW : Below W0.heap.size W0 W) => (by
    refine (G1.out W (HB.out.trans (hW.mono HB.out.size))).mono fun e w' ⟨A, c, q1, q2, _, _, _, q3⟩ => ⟨A, c, q1, q2, q3⟩ : Calls Tryz.prog 53 #[.pointer p2, .string k] W fun e w' => ∃ A c, e = .returned (.slice A lv.length c) ∧ SK Vt.trC 10 w' A lv.length lv ∧ Below W.heap.size W w'))
  have HUc := Lib.hid (fun W (hW : Below W0.heap.size W0 W) => (by
    refine (G2.out W (HB.out.trans (hW.mono HB.out.size))).mono fun e w' ⟨A, c, q1, q2, _, _, _, q3⟩ => ⟨A, c, q1, q2, q3⟩ : Calls Tryz.prog 54 #[.pointer p3, .string k] W fun e w' => ∃ A c, e = .returned (.slice A lc.length c) ∧ SK Ct.trC 10 w' A lc.length lc ∧ Below W.heap.size W w'))
  have HOv := Lib.hid ofService_any
  have HOc := Lib.hid ofCheck_any
  have HRv := Lib.hid (fun W (hW : Below W0.heap.size W0 W) A c (hS : SK Vt.trC 10 W A nv lv) => (by
    have := rowsService_any (c := c) W hS (fun r hr => ⟨(HTx.out r hr).1.below (HB.out.trans (hW.mono HB.out.size)), (HTx.out r hr).2⟩) HN.out.2.2.1
    refine this.mono fun e w' ⟨l', ⟨A2, c2, q1, q2, _, _, _, q3⟩, q4⟩ => ⟨A2, c2, l', ?_, ?_, q4, q3⟩
    · rw [q1, q4.len, List.length_map, HN.out.1]
    · rw [q4.len, List.length_map, HN.out.1] at q2; exact q2 : Calls Tryz.prog 46 #[.slice A nv c, kdService] W fun e w' => ∃ A2 c2 l', e = .returned (.slice A2 nv c2) ∧ SK svC 7 w' A2 nv l' ∧ SvL w' l' (lv.map (rwMap fun v => v.a)) ∧ Below W.heap.size W w'))
  have HRc := Lib.hid (fun W (hW : Below W0.heap.size W0 W) A c (hS : SK Ct.trC 10 W A nc lc) => (by
    have := rowsCheck_any (c := c) W hS HN.out.2.2.2
    refine this.mono fun e w' ⟨A2, c2, q1, q2, _, _, _, q3⟩ => ⟨A2, c2, ?_, ?_, q3⟩
    · rw [q1, List.length_map, HN.out.2.1]
    · rw [List.length_map, HN.out.2.1] at q2; exact q2 : Calls Tryz.prog 49 #[.slice A nc c, kdCheck] W fun e w' => ∃ A2 c2, e = .returned (.slice A2 nc c2) ∧ SK ckC 7 w' A2 nc (lc.map (rwMap fun v => v.a)) ∧ Below W.heap.size W w'))
  rw [HN.out.1] at HUv
  rw [HN.out.2.1] at HUc
  unfold kdService at HOv HRv
  unfold kdCheck at HOc HRc
  rw [hW0]
  clear k2 hW0 hXt G1 G2
  have hre : ∀ w : World, ((fun a b : World => Below a.heap.size a b)) w w := (fun w => Below.refl _ w)
  have hrd : ∀ (f : Nat → Bool) w i, i ≠ 3 → (fun (_ : Nat → Bool) (w : World) => Below W0.heap.size W0 w) f w → (fun (_ : Nat → Bool) (w : World) => Below W0.heap.size W0 w) (Go.Rel.upd f i) w := (fun _ _ _ _ h => h)
  refine Go.Rel.wp_tab (by kernel_rfl) (by kernel_rfl) (fun (_ : Nat → Bool) (w : World) => Below W0.heap.size W0 w) ((fun a b : World => Below a.heap.size a b)) hre ((fun _ _ _ h k => h.trans (k.mono h.size))) ((⟨rfl, rfl, rfl, Nat.le_refl _, fun _ _ => rfl⟩)) ⟨rfl, rfl, rfl, Nat.le_refl _, fun _ _ => rfl⟩ (rofE Xt k p2 p3) (fun | 3, v, w => ∃ A c, v = .slice A nv c ∧ SK Vt.trC 10 w A nv lv | 5, v, w => ∃ A c l', v = .slice A nv c ∧ SK svC 7 w A nv l' ∧ SvL w l' (lv.map (rwMap fun v => v.a)) | 9, v, w => ∃ A c, v = .slice A nc c ∧ SK Ct.trC 10 w A nc lc | 11, v, w => ∃ A c, v = .slice A nc c ∧ SK ckC 7 w A nc (lc.map (rwMap fun v => v.a)) | 12, v, w => ∃ A c l', v = .slice A nv c ∧ SK svC 7 w A nv l' ∧ SvL w l' (lv.map (rwMap fun v => v.a)) | 13, v, w => ∃ A c, v = .slice A nc c ∧ SK ckC 7 w A nc (lc.map (rwMap fun v => v.a)) | _, _, _ => True) (fun i => ([3, 5, 9, 11, 12, 13] : List Nat).contains i) (fun i => ([1, 3, 4, 5, 7, 9, 10, 11, 12, 13] : List Nat).contains i) (by kernel_rfl) (fun i v w w' h g => by revert h; split <;> intro h <;> first | exact h | trivial | (obtain ⟨A, c, e, k⟩ := h; exact ⟨A, c, e, k.below g⟩) | (obtain ⟨A, c, l', e, k1, k2⟩ := h; exact ⟨A, c, l', e, k1.below g, k2.below g⟩)) 3 rfl hrd ?_ (Go.Rel.AllOf.get ?_) ?_
  · repeat (refine .cons (by first | exact Go.Rel.pure_sp rfl | exact Go.Rel.pure_yes (by kernel_rfl) (fun _ => by kernel_rfl) | exact Go.Rel.pure_no (by kernel_rfl) rfl) ?_)
    exact .nil
  · refine ⟨?_, ?_, ?_, ?_, ?_, ?_, ?_, ?_, ?_, ?_, trivial⟩
    · exact SpecOk.ld hrd hre (q := .pointer (some ⟨Xt, 1, none⟩)) (h := fun _ w' hI _ _ _ _ => by have cc := p3_blk ((hI.block Xt HLt.out).trans HKt.out); go_simp; rfl)
    · refine SpecOk.call 53 #[.pointer p2, .string k] rfl (by kernel_rfl) (fun _ => by kernel_rfl) fun _ w' hI _ _ _ _ => ?_
      refine (HUv.out w' hI).mono ?_
      rintro e9 w9 ⟨A9, c9, rfl, s9, hb9⟩
      exact ⟨_, rfl, hb9, (hI.trans (hb9.mono hI.size)), ⟨A9, c9, rfl, s9⟩⟩
    · refine SpecOk.call 48 #[] rfl (by kernel_rfl) (fun _ => by kernel_rfl) fun _ w' hI _ _ _ _ => ?_
      refine (HOv.out w').mono ?_
      rintro e9 w9 ⟨rfl, hb9⟩
      exact ⟨_, rfl, hb9, (hI.trans (hb9.mono hI.size)), rfl⟩
    · refine SpecOk.gen (fun e => [(15, e 3), (16, .agg #[.func (.func 92) #[] #[], .func (.func 93) #[] #[]])]) rfl rfl (fun _ => by kernel_rfl) fun f w' e hI hf hdesc hanc hle hX K hK => ?_
      obtain ⟨A3, c3, e3, s3⟩ := hX 3 rfl rfl
      simp only [e3]
      go_simp
      refine (HRv.out w' hI A3 c3 s3).mono ?_
      rintro e9 w9 ⟨A9, c9, l9, rfl, k1, k2, hb9⟩
      exact hK _ _ hb9 (hI.trans (hb9.mono hI.size)) ⟨A9, c9, l9, rfl, k1, k2⟩
    · exact SpecOk.ld hrd hre (q := .pointer (some ⟨Xt, 2, none⟩)) (h := fun _ w' hI _ _ _ _ => by have cc := p3_blk ((hI.block Xt HLt.out).trans HKt.out); go_simp; rfl)
    · refine SpecOk.call 54 #[.pointer p3, .string k] rfl (by kernel_rfl) (fun _ => by kernel_rfl) fun _ w' hI _ _ _ _ => ?_
      refine (HUc.out w' hI).mono ?_
      rintro e9 w9 ⟨A9, c9, rfl, s9, hb9⟩
      exact ⟨_, rfl, hb9, (hI.trans (hb9.mono hI.size)), ⟨A9, c9, rfl, s9⟩⟩
    · refine SpecOk.call 51 #[] rfl (by kernel_rfl) (fun _ => by kernel_rfl) fun _ w' hI _ _ _ _ => ?_
      refine (HOc.out w').mono ?_
      rintro e9 w9 ⟨rfl, hb9⟩
      exact ⟨_, rfl, hb9, (hI.trans (hb9.mono hI.size)), rfl⟩
    · refine SpecOk.gen (fun e => [(21, e 9), (22, .agg #[.func (.func 96) #[] #[], .func (.func 97) #[] #[]])]) rfl rfl (fun _ => by kernel_rfl) fun f w' e hI hf hdesc hanc hle hX K hK => ?_
      obtain ⟨A9, c9, e9, s9⟩ := hX 9 rfl rfl
      simp only [e9]
      go_simp
      refine (HRc.out w' hI A9 c9 s9).mono ?_
      rintro e9 w9 ⟨A9, c9, rfl, k1, hb9⟩
      exact hK _ _ hb9 (hI.trans (hb9.mono hI.size)) ⟨A9, c9, rfl, k1⟩
    · refine SpecOk.gen (fun e => [(17, e 5)]) rfl rfl (fun _ => by kernel_rfl) fun f w' e hI hf hdesc hanc hle hX K hK => ?_
      obtain ⟨A5, c5, l5, e5, s5, t5⟩ := hX 5 rfl rfl
      simp only [e5]
      go_simp
      exact hK _ _ (Below.refl _ _) hI ⟨A5, c5, l5, rfl, s5, t5⟩
    · refine SpecOk.gen (fun e => [(23, e 11)]) rfl rfl (fun _ => by kernel_rfl) fun f w' e hI hf hdesc hanc hle hX K hK => ?_
      obtain ⟨A11, c11, e11, s11⟩ := hX 11 rfl rfl
      simp only [e11]
      go_simp
      exact hK _ _ (Below.refl _ _) hI ⟨A11, c11, rfl, s11⟩
  · intro f w3 e hall hJ hle hv
    obtain ⟨A1, c1, l1, v1, s1, t1⟩ := hv 12 rfl
    obtain ⟨A2, c2, v2, s2⟩ := hv 13 rfl
    simp only [Go.Rel.finL, List.setIfInBounds_toArray, List.set_cons_succ, List.set_cons_zero]
    rw [show e 12 = .slice A1 nv c1 from v1, show e 13 = .slice A2 nc c2 from v2]
    have HS := Lib.hid (And.intro s1 (And.intro t1 s2))
    have HJ := Lib.hid hJ
    clear hv hall hle hJ v1 v2 s1 s2 t1
    go_wp2
    go_ret2
    exact ⟨A1, c1, l1, A2, c2, rfl, HS.out.1, HS.out.2.1, HS.out.2.2, HB.out.trans (HJ.out.mono HB.out.size)⟩
end Go.Proofs.YtilkbfmaofmjoaaGreatDoor
/-
  Health, walked (layer 19).
-/
namespace Go.Proofs.YtilkbfmaofmjoaaGreatDoor
open Go.RowKit
set_option linter.unusedSimpArgs false
set_option linter.unusedVariables false

theorem worst_snoc (svc : ByteArray) (m : Int) (l : List (Rw CkA)) (x : Rw CkA) : worst svc m (l ++ [x]) = if forSvc svc x.val then max (worst svc m l) x.val.status else worst svc m l := by
  unfold worst
  rw [List.foldl_append]
  rfl
/-- The services, the checks of a node. -/
def Ro.svcOf (d : Ro) (node : Int) : List (Rw SvA) := d.s.l.filter fun r => decide (r.val.node = node)
def Ro.chkOf (d : Ro) (node : Int) : List (Rw CkA) := d.c.l.filter fun r => decide (r.val.node = node)
theorem RoOk.und_s {m : Nat} {d : Ro} (h : RoOk m d) (node : Int) : undR d.s.l (keyO node noT) = d.svcOf node := by
  unfold undR Ro.svcOf
  apply List.filter_congr
  intro r hr
  obtain ⟨a, b, _⟩ := h.sr r hr
  rw [a]
  exact und_is b.node
theorem RoOk.und_c {m : Nat} {d : Ro} (h : RoOk m d) (node : Int) : undR d.c.l (keyO node noT) = d.chkOf node := by
  unfold undR Ro.chkOf
  apply List.filter_congr
  intro r hr
  obtain ⟨a, b, _⟩ := h.cr r hr
  rw [a]
  exact und_is b.node
theorem key_sz {node : Int} (h : -9223372036854775808 ≤ node ∧ node ≤ 9223372036854775807) : (keyO node noT).size ≤ maxLen := by
  have h2 := Lib.itoa_length_le node h.1 h.2
  have e : (keyO node noT).size = (Lib.itoa node).length + 1 := by
    rw [← data_len, keyO_list]
    unfold keyL
    simp
  rw [e]
  unfold maxLen
  omega
theorem rof_any {S : Nat → Prop} {w : World} {B B1 B2 B3 m : Nat} {d : Ro} (node : Int) (h : RoAt S w B B1 B2 B3 m d) (hn : -9223372036854775808 ≤ node ∧ node ≤ 9223372036854775807) : Calls Tryz.prog 19 #[.pointer (some ⟨B, 0, none⟩), .int .i64 node] w fun e w' => OfPost w (d.svcOf node).length (d.chkOf node).length (d.svcOf node) (d.chkOf node) e w' := by
  obtain ⟨hok, T1, T2, T3, h, e1, e2, e3⟩ := h
  have g2 : d.svcOf node = (undR T2.l (keyO node noT)).map (rwMap fun v => v.a) := by
    rw [← hok.und_s, ← e2]
    exact undR_map _ _ _
  have g3 : d.chkOf node = (undR T3.l (keyO node noT)).map (rwMap fun v => v.a) := by
    rw [← hok.und_c, ← e3]
    exact undR_map _ _ _
  have l2 := Nat.le_trans (und_length T2.l (keyO node noT)) (Nat.le_trans h.t2.1.len h.t2.1.most.2)
  have l3 := Nat.le_trans (und_length T3.l (keyO node noT)) (Nat.le_trans h.t3.1.len h.t3.1.most.2)
  rw [g2, g3, List.length_map, List.length_map]
  exact rof_walk (p1 := some ⟨B1, 0, none⟩) (p2 := some ⟨B2, 0, none⟩) (p3 := some ⟨B3, 0, none⟩) node hn h.pw l2 l3 (fun r hr => ⟨(h.tg r (List.mem_filter.1 hr).1).tx, tg_n hok h.tg e2 (List.mem_filter.1 hr).1⟩) (fun W hW => tables_is (h.below hW).ptr) (fun W hW => Vt.under_t _ (h.below hW).t2 (key_sz hn)) fun W hW => Ct.under_t _ (h.below hW).t3 (key_sz hn)
theorem rof_no {w : World} {p : Option Addr} (node : Int) (h : NoRo w p) (hp : PwIs w) (hn : -9223372036854775808 ≤ node ∧ node ≤ 9223372036854775807) : Calls Tryz.prog 19 #[.pointer p, .int .i64 node] w fun e w' => OfPost w 0 0 [] [] e w' :=
  rof_walk (lv := []) (lc := []) (p1 := none) (p2 := none) (p3 := none) node hn hp (by simp) (by simp) (by simp) (fun W hW => tables_no (h.below hW)) (fun W hW => Vt.under_no _ (q := none) ⟨.inl rfl⟩ (key_sz hn)) fun W hW => Ct.under_no _ (q := none) ⟨.inl rfl⟩ (key_sz hn)
set_option maxHeartbeats 4000000 in
set_option maxRecDepth 100000 in
theorem rhealth_walk {w : World} {q : Option Addr} {nv nc : Nat} {ls : List (Rw SvA)} {lc : List (Rw CkA)} (node : Int) (svc : ByteArray) (hnc : nc ≤ 64) (hO : Calls Tryz.prog 19 #[.pointer q, .int .i64 node] w fun e w' => OfPost w nv nc ls lc e w') : Calls Tryz.prog 13 #[.pointer q, .int .i64 node, .string svc] w fun e w' => e = .returned (.int .i64 (worst svc 0 lc)) ∧ Below w.heap.size w w' := by
  have HO := Lib.hid hO
  clear hO
  go_enter Tryz.func13, Tryz.ntmps13
  go_wp2_with fail
  refine HO.out.mono ?_
  rintro e w1 ⟨A1, c1, l1, A2, c2, rfl, _, _, hS, hb⟩
  have HS := Lib.hid hS
  have HL := Lib.hid hS.1
  have HB := Lib.hid hb
  clear hS hb HO
  go_wp2_with fail
  go_loopw [7, 20] (fun vv iv wr => ∃ k : Nat, k ≤ nc ∧ iv = .int .i64 (k : Int) ∧ vv = .int .i64 (worst svc 0 (lc.take k)) ∧ Hid (Below w1.heap.size w1 wr)) (fun _ iv _ => nc - (intOf iv).toNat)
  case atStart => exact ⟨0, Nat.zero_le _, rfl, rfl, Lib.hid (Below.refl _ _)⟩
  case round =>
    obtain ⟨k, hk, rfl, rfl, hb⟩ := hrel
    by_cases hlt : k < nc
    · have hkl : k < lc.length := by rw [HL.out]; exact hlt
      obtain ⟨b, off, rfl, hbl, hit⟩ := (HS.out.below hb.out).at_ hlt hkl
      have hst : worst svc 0 (lc.take (k + 1)) = if forSvc svc lc[k].val then max (worst svc 0 (lc.take k)) lc[k].val.status else worst svc 0 (lc.take k) := by rw [List.take_succ_eq_append_getElem hkl, worst_snoc]
      obtain ⟨x, hx⟩ : ∃ x, lc[k] = x := ⟨_, rfl⟩
      rw [hx] at hit hst
      obtain ⟨wv, hwv⟩ : ∃ wv, worst svc 0 (lc.take k) = wv := ⟨_, rfl⟩
      rw [hwv] at hst ⊢
      have cc := ck_cells hit
      have HB2 : Hid (Below w1.heap.size w1 (wr.alloc (.cells #[.int .i64 x.val.node, .string x.val.id, .string x.val.svc, .string x.val.note, .int .i64 x.val.status, .int .u64 (x.made : Int), .int .u64 (x.ix : Int)] TCk))) := Lib.hid (hb.out.alloc hb.out.size _)
      by_cases q1 : x.val.svc = noT
      · have hq : x.val.svc.toList = [] := by rw [q1]; exact noT_list
        have hf : forSvc svc x.val = true := by unfold forSvc; rw [text_same.2 q1]; rfl
        rw [hf, if_pos rfl] at hst
        have HSt := Lib.hid hst
        clear hit hst hx hwv hf q1
        go_wp2
        go_roundw
        case rel => exact ⟨k + 1, by omega, by go_num, by rw [HSt.out], HB2⟩
        case measure => simp [intOf]; omega
      · have hq : ¬ x.val.svc.toList = [] := fun e => q1 (text_same.1 (by rw [e, noT_list]; rfl))
        have hqi : x.val.svc.toList.isEmpty = false := by rw [Bool.eq_false_iff]; exact fun e => hq (by simpa using e)
        cases q2 : (x.val.svc.toList == svc.toList) with
        | true =>
          have hf : forSvc svc x.val = true := by unfold forSvc; rw [q2]; simp
          rw [hf, if_pos rfl] at hst
          have HSt := Lib.hid hst
          clear hit hst hx hwv hf q1
          go_wp2
          go_roundw
          case rel => exact ⟨k + 1, by omega, by go_num, by rw [HSt.out], HB2⟩
          case measure => simp [intOf]; omega
        | false =>
          have hf : forSvc svc x.val = false := by unfold forSvc; rw [q2, text_other.2 q1]; rfl
          rw [hf, if_neg (by simp)] at hst
          have HSt := Lib.hid hst
          clear hit hst hx hwv hf q1
          go_wp2
          go_roundw
          case rel => exact ⟨k + 1, by omega, by go_num, by rw [HSt.out], HB2⟩
          case measure => simp [intOf]; omega
    · obtain rfl : k = nc := by omega
      have ht : lc.take k = lc := List.take_of_length_le (by rw [HL.out]; omega)
      rw [ht]
      clear ht
      go_wp2
      go_ret
      exact ⟨rfl, HB.out.trans (hb.out.mono HB.out.size)⟩
theorem rhealth_any {S : Nat → Prop} {w : World} {B B1 B2 B3 m : Nat} {d : Ro} (node : Int) (svc : ByteArray) (h : RoAt S w B B1 B2 B3 m d) (hn : -9223372036854775808 ≤ node ∧ node ≤ 9223372036854775807) : Calls Tryz.prog 13 #[.pointer (some ⟨B, 0, none⟩), .int .i64 node, .string svc] w fun e w' => e = .returned (.int .i64 (d.health node svc)) ∧ Below w.heap.size w w' :=
  rhealth_walk node svc (Nat.le_trans (List.length_filter_le _ _) (Nat.le_trans h.ok.cok.len h.ok.cok.most.2)) (rof_any node h hn)
theorem rhealth_no {w : World} {p : Option Addr} (node : Int) (svc : ByteArray) (h : NoRo w p) (hp : PwIs w) (hn : -9223372036854775808 ≤ node ∧ node ≤ 9223372036854775807) : Calls Tryz.prog 13 #[.pointer p, .int .i64 node, .string svc] w fun e w' => e = .returned (.int .i64 0) ∧ Below w.heap.size w w' :=
  rhealth_walk node svc (Nat.zero_le _) (rof_no node h hp hn)
end Go.Proofs.YtilkbfmaofmjoaaGreatDoor
/-
  The law's own check that a roster works, walked (layer 19).
-/
namespace Go.Proofs.YtilkbfmaofmjoaaGreatDoor
open Go.RowKit
set_option linter.unusedSimpArgs false
set_option linter.unusedVariables false

theorem forSvc_eq (s : ByteArray) (v : CkA) : forSvc s v = (decide (v.svc = noT) || decide (v.svc = s)) := by
  unfold forSvc
  rw [Bool.eq_iff_iff]
  simp only [Bool.or_eq_true, text_same, decide_eq_true_eq]
def wkN : NdA := ⟨1, ⟨#[120]⟩⟩
def wkS : Rw SvW := (⟨noT, ⟨⟨1, ⟨#[119, 101, 98, 45, 49]⟩, ⟨#[119, 101, 98]⟩, [], 0⟩, none, 0, 0, 0, 0⟩, 0, 0⟩ : Rw SvW)
def wkC : Rw CkA := (⟨noT, ⟨1, ⟨#[99]⟩, ⟨#[119, 101, 98, 45, 49]⟩, ⟨#[]⟩, 2⟩, 0, 0⟩ : Rw CkA)
theorem wk_plain : ∃ d1 d2 d3, (Ro.new 9).node wkN 3 = (0, d1) ∧ d1.service wkS.val.a 4 = (0, d2) ∧ d2.check wkC.val 5 = (0, d3) ∧ d3.health 1 ⟨#[119, 101, 98, 45, 49]⟩ = 2 ∧ d3.health 1 ⟨#[100, 98]⟩ = 0 := by
  have hn : NdOk wkN := ⟨by decide, by decide⟩
  have hs : SvOk wkS.val.a := ⟨by decide, by decide, by decide, by decide, by decide⟩
  have hc : CkOk wkC.val := ⟨by decide, by decide, by decide, .inr (by decide), by decide⟩
  obtain ⟨k1, hk1⟩ : ∃ k, wkN.key = k := ⟨_, rfl⟩
  obtain ⟨k2, hk2⟩ : ∃ k, wkS.val.a.key = k := ⟨_, rfl⟩
  obtain ⟨k3, hk3⟩ : ∃ k, wkC.val.key = k := ⟨_, rfl⟩
  have e1 : (Ro.new 9).node wkN 3 = (0, ⟨⟨9, [⟨k1, wkN, 3, 3⟩], 3⟩, ⟨9, [], 0⟩, ⟨9, [], 0⟩⟩) := by
    unfold Ro.node
    rw [wrongN_ok.2 hn, hk1]
    rfl
  have t1 : ∀ (s : Tb SvA) (c : Tb CkA), Ro.there ⟨⟨9, [⟨k1, wkN, 3, 3⟩], 3⟩, s, c⟩ 1 = true := fun s c => getR_iff.2 ⟨_, List.mem_singleton.2 rfl, hk1.symm⟩
  have e2 : Ro.service ⟨⟨9, [⟨k1, wkN, 3, 3⟩], 3⟩, ⟨9, [], 0⟩, ⟨9, [], 0⟩⟩ wkS.val.a 4 = (0, ⟨⟨9, [⟨k1, wkN, 3, 3⟩], 3⟩, ⟨9, [⟨k2, wkS.val.a, 4, 4⟩], 4⟩, ⟨9, [], 0⟩⟩) := by
    unfold Ro.service
    rw [wrongS_ok.2 ⟨hs, t1 _ _⟩, hk2]
    rfl
  have t2 : Ro.has ⟨⟨9, [⟨k1, wkN, 3, 3⟩], 3⟩, ⟨9, [⟨k2, wkS.val.a, 4, 4⟩], 4⟩, ⟨9, [], 0⟩⟩ 1 ⟨#[119, 101, 98, 45, 49]⟩ = true := getR_iff.2 ⟨_, List.mem_singleton.2 rfl, hk2.symm⟩
  have e3 : Ro.check ⟨⟨9, [⟨k1, wkN, 3, 3⟩], 3⟩, ⟨9, [⟨k2, wkS.val.a, 4, 4⟩], 4⟩, ⟨9, [], 0⟩⟩ wkC.val 5 = (0, ⟨⟨9, [⟨k1, wkN, 3, 3⟩], 3⟩, ⟨9, [⟨k2, wkS.val.a, 4, 4⟩], 4⟩, ⟨9, [⟨k3, wkC.val, 5, 5⟩], 5⟩⟩) := by
    unfold Ro.check
    rw [wrongC_ok.2 ⟨hc, t1 _ _, .inr t2⟩, hk3]
    rfl
  exact ⟨_, _, _, e1, e2, e3, by unfold Ro.health worst; simp only [forSvc_eq]; rfl, by unfold Ro.health worst; simp only [forSvc_eq]; rfl⟩
set_option maxHeartbeats 4000000 in
set_option maxRecDepth 100000 in
theorem works_any (w : World) (hp : PwIs w) : Calls Tryz.prog 15 #[] w fun e w' => e = .returned (.bool true) ∧ Below w.heap.size w w' := by
  obtain ⟨d1, d2, d3, e1, e2, e3, e4, e5⟩ := wk_plain
  have HE1 := Lib.hid e1
  have HE2 := Lib.hid e2
  have HE3 := Lib.hid e3
  have HE4 := Lib.hid (And.intro e4 e5)
  have HN := Lib.hid (rnew_any 9 w (by decide) hp)
  clear e1 e2 e3 e4 e5 hp
  go_enter Tryz.func15, Tryz.ntmps15
  go_wp2_with fail
  refine HN.out.mono ?_
  rintro e w1 ⟨B, B1, B2, B3, rfl, h, hb⟩
  have HB : Hid (∀ w2, But (Ch3 B1 B2 B3) w1 w2 → Below w.heap.size w w2) := Lib.hid fun w2 h2 => hb.trans (h2.below hb.size fun k hk e => by have := (h.ch k e).1; have := (h.ch k e).2.2.1; omega)
  have hx := rnode_any 1 ⟨#[120]⟩ 3 h (by decide) (by decide) (by decide)
  rw [show (⟨1, ⟨#[120]⟩⟩ : NdA) = wkN from rfl, show mostT 9 = 9 from rfl, HE1.out] at hx
  have HX := Lib.hid hx
  clear h hb hx HN
  go_wp2_with fail
  refine HX.out.mono ?_
  rintro e w2 ⟨rfl, h, hb⟩
  have HB2 := Lib.hid hb
  have hx := rservice_any wkS 4 h ⟨by decide, by decide, by decide, by decide, Tx.none_ _, by simp [Small, wkS]⟩ (by decide)
  rw [HE2.out] at hx
  have HX2 := Lib.hid hx
  unfold svV wkS at HX2
  clear h hb hx HX
  go_wp2_with fail
  refine HX2.out.mono ?_
  rintro e w3 ⟨rfl, h, hb⟩
  have HB3 := Lib.hid (HB2.out.trans hb)
  have hx := rcheck_any wkC 5 h ⟨by decide, by decide, by decide, by decide, by decide⟩ (by decide)
  rw [HE3.out] at hx
  have HX3 := Lib.hid hx
  unfold ckV wkC at HX3
  clear h hb hx HX2
  go_wp2_with fail
  refine HX3.out.mono ?_
  rintro e w4 ⟨rfl, h, hb⟩
  have HB4 := Lib.hid (HB.out _ (HB3.out.trans hb))
  have HA := Lib.hid h
  have hx := rhealth_any 1 ⟨#[119, 101, 98, 45, 49]⟩ h (by decide)
  rw [HE4.out.1] at hx
  have HX4 := Lib.hid hx
  clear h hb hx HX3
  go_wp2_with fail
  refine HX4.out.mono ?_
  rintro e w5 ⟨rfl, hb⟩
  have hx := rhealth_any 1 ⟨#[100, 98]⟩ (HA.out.below hb) (by decide)
  rw [HE4.out.2] at hx
  have HX5 := Lib.hid hx
  have HB5 := Lib.hid (HB4.out.trans (hb.mono HB4.out.size))
  clear hb hx HX4
  go_wp2_with fail
  refine HX5.out.mono ?_
  rintro e w6 ⟨rfl, hb⟩
  have HB6 := Lib.hid (HB5.out.trans (hb.mono HB5.out.size))
  clear hb HX5
  go_wp2
  go_ret
  exact ⟨rfl, HB6.out⟩
end Go.Proofs.YtilkbfmaofmjoaaGreatDoor
/-
  Three last indexes compared (layer 19).
-/
namespace Go.Proofs.YtilkbfmaofmjoaaGreatDoor
open Go.RowKit
set_option linter.unusedSimpArgs false
set_option linter.unusedVariables false

theorem la_cells : Tryz.prog.cellsOf 29 = 1 := by kernel_rfl
theorem la_plain : Tryz.prog.plainKey 29 = true := by kernel_rfl
theorem la_info : (Tryz.prog.info? 29).isSome = true := by kernel_rfl
theorem la_und : Tryz.prog.underlying 55 = some (.array 3 29) := by kernel_rfl
theorem la_int (a b : Nat) (w : World) : (Op.equalIn 9999 29 (.int .u64 (a : Int)) (.int .u64 (b : Int))).run Tryz.prog w = .ok (decide (a = b)) w := by
  rw [run_equalIn_int w 9998 _ _ _ _ _ (show Tryz.prog.underlying 29 = some (.int .u64) by kernel_rfl)]
  congr 1
  rw [Bool.eq_iff_iff]
  simp only [beq_iff_eq, decide_eq_true_eq]
  omega
set_option maxRecDepth 100000 in
theorem la_eq (a b c a2 b2 c2 : Nat) (w : World) : (Op.equalIn 10000 55 (.agg #[.int .u64 (a : Int), .int .u64 (b : Int), .int .u64 (c : Int)]) (.agg #[.int .u64 (a2 : Int), .int .u64 (b2 : Int), .int .u64 (c2 : Int)])).run Tryz.prog w = .ok (decide (a = a2) && (decide (b = b2) && decide (c = c2))) w := by
  obtain ⟨i, hi⟩ := Option.isSome_iff_exists.1 la_info
  rw [run_equalIn_array w 9999 _ _ la_und hi, la_cells]
  have p0 := la_int a a2 w
  have p1 := la_int b b2 w
  have p2 := la_int c c2 w
  have hr : List.range 3 = [0, 1, 2] := rfl
  rw [hr]
  have hp : ∀ (x y z : Nat) (k : Nat) (v : Value), #[Value.int .u64 (x : Int), .int .u64 (y : Int), .int .u64 (z : Int)][k]? = some v → (part 29 #[Value.int .u64 (x : Int), .int .u64 (y : Int), .int .u64 (z : Int)] k).run Tryz.prog w = .ok v w := by
    intro x y z k v hv
    exact run_part_plain w la_plain hv
  have q0 := hp a b c 0 (.int .u64 (a : Int)) rfl
  have q1 := hp a b c 1 (.int .u64 (b : Int)) rfl
  have q2 := hp a b c 2 (.int .u64 (c : Int)) rfl
  have r0 := hp a2 b2 c2 0 (.int .u64 (a2 : Int)) rfl
  have r1 := hp a2 b2 c2 1 (.int .u64 (b2 : Int)) rfl
  have r2 := hp a2 b2 c2 2 (.int .u64 (c2 : Int)) rfl
  clear hp hr hi
  generalize #[Value.int .u64 (a : Int), .int .u64 (b : Int), .int .u64 (c : Int)] = xs at q0 q1 q2 ⊢
  generalize #[Value.int .u64 (a2 : Int), .int .u64 (b2 : Int), .int .u64 (c2 : Int)] = ys at r0 r1 r2 ⊢
  generalize decide (a = a2) = x0 at p0 ⊢
  generalize decide (b = b2) = x1 at p1 ⊢
  generalize decide (c = c2) = x2 at p2 ⊢
  simp only [Op.eqItems, Sem.run_bind, Nat.mul_one, q0, q1, q2, r0, r1, r2, Result.andThen_ok, p0, p1, p2]
  cases x0 <;> cases x1 <;> cases x2 <;> simp [p0, p1, p2, q1, q2, r1, r2]
theorem la_zero (w : World) : (Op.equalIn 10000 55 (.agg #[.int .u64 0, .int .u64 0, .int .u64 0]) (.agg #[.int .u64 0, .int .u64 0, .int .u64 0])).run Tryz.prog w = .ok true w := la_eq 0 0 0 0 0 0 w
theorem la_guard : Tryz.prog.eqGuardType Tryz.prog.depth 55 = false := by kernel_rfl
end Go.Proofs.YtilkbfmaofmjoaaGreatDoor
/-
  What is not there, and what no call made, has no nodes: the law RosterNone, walked (layer 19).
-/
namespace Go.Proofs.YtilkbfmaofmjoaaGreatDoor
open Go.RowKit
set_option linter.unusedSimpArgs false
set_option linter.unusedVariables false

set_option maxHeartbeats 8000000 in
set_option maxRecDepth 100000 in
theorem none_walk (x : RSt) (w : World) (hx : x.Ok w) (hp : PwIs w) : Calls Tryz.prog 8 #[stV x] w fun e w' => e = .returned (.bool true) ∧ Below w.heap.size w w' := by
  have HPw := Lib.hid hp
  have HIn := Lib.hid hx
  clear hx hp
  obtain ⟨X, hX⟩ : ∃ X, w.heap.size = X := ⟨_, rfl⟩
  obtain ⟨W1, hW1⟩ : ∃ W1, w.alloc (.cells #[.int .i64 x.kind, .int .i64 x.node, .string x.text, .int .i64 x.s.val.a.node, .string x.s.val.a.id, .string x.s.val.a.name, .slice x.s.val.A x.s.val.n x.s.val.c, .int .i64 x.s.val.a.port, .int .u64 (x.s.made : Int), .int .u64 (x.s.ix : Int), .int .i64 x.c.val.node, .string x.c.val.id, .string x.c.val.svc, .string x.c.val.note, .int .i64 x.c.val.status, .int .u64 (x.c.made : Int), .int .u64 (x.c.ix : Int), .int .u64 (x.ix : Int)] TRs) = W1 := ⟨_, rfl⟩
  obtain ⟨W3, hW3⟩ : ∃ W3, (W1.alloc (.cells #[.pointer none, .pointer none, .pointer none] TRo)).alloc (.cells #[.pointer none, .pointer (some ⟨X + 1, 0, none⟩)] 23) = W3 := ⟨_, rfl⟩
  have s1 : W1.heap.size = X + 1 := by rw [← hW1]; simp [hX]
  have k0 : W1.heap[X]? = some (.cells #[.int .i64 x.kind, .int .i64 x.node, .string x.text, .int .i64 x.s.val.a.node, .string x.s.val.a.id, .string x.s.val.a.name, .slice x.s.val.A x.s.val.n x.s.val.c, .int .i64 x.s.val.a.port, .int .u64 (x.s.made : Int), .int .u64 (x.s.ix : Int), .int .i64 x.c.val.node, .string x.c.val.id, .string x.c.val.svc, .string x.c.val.note, .int .i64 x.c.val.status, .int .u64 (x.c.made : Int), .int .u64 (x.c.ix : Int), .int .u64 (x.ix : Int)] TRs (0, 0)) := by rw [← hW1, ← hX]; exact heap_alloc_new w _
  have s2 : (W1.alloc (.cells #[.pointer none, .pointer none, .pointer none] TRo)).heap.size = X + 2 := by simp [s1]
  have j1 : (W1.alloc (.cells #[.pointer none, .pointer none, .pointer none] TRo)).heap[X + 1]? = some (.cells #[.pointer none, .pointer none, .pointer none] TRo (0, 0)) := by rw [← s1]; exact heap_alloc_new W1 _
  have k1 : W3.heap[X + 1]? = some (.cells #[.pointer none, .pointer none, .pointer none] TRo (0, 0)) := by
    rw [← hW3]
    exact ((below1 _ _ _).block (X + 1) (by omega)).trans j1
  have k2 : W3.heap[X + 2]? = some (.cells #[.pointer none, .pointer (some ⟨X + 1, 0, none⟩)] 23 (0, 0)) := by rw [← hW3, ← s2]; exact heap_alloc_new _ _
  have b3 : Below W1.heap.size W1 W3 := by rw [← hW3]; exact (below1 W1 _ _).alloc (by simp) _
  have HB3 : Hid (Below w.heap.size w W3) := Lib.hid ((by rw [← hW1]; exact below1 _ _ _ : Below w.heap.size w W1).trans (b3.mono (by omega)))
  have HK0 := Lib.hid ((b3.block X (by omega)).trans k0)
  have HK1 := Lib.hid k1
  have HK2 := Lib.hid k2
  have HW1 := Lib.hid hW1
  have HW3 := Lib.hid hW3
  have HX := Lib.hid hX
  unfold stV
  clear hX hW1 hW3 s1 k0 s2 j1 k1 k2 b3
  go_enter Tryz.func8, Tryz.ntmps8
  go_wp2_with fail
  rw [HW1.out, HX.out, HW3.out]
  go_loopw [5] (fun iv wr => ∃ k : Nat, k ≤ 2 ∧ iv = .int .i64 (k : Int) ∧ Hid (Below W3.heap.size W3 wr)) (fun iv _ => 2 - (intOf iv).toNat)
  case atStart => exact ⟨0, by omega, rfl, Lib.hid (Below.refl _ _)⟩
  case round =>
    obtain ⟨k, hk, rfl, hb⟩ := hrel
    by_cases hlt : k < 2
    · have kr0 := (hb.out.block X (block_lt HK0.out)).trans HK0.out
      have kr1 := (hb.out.block (X + 1) (block_lt HK1.out)).trans HK1.out
      have kr2 := (hb.out.block (X + 2) (block_lt HK2.out)).trans HK2.out
      obtain ⟨p, hp, hno⟩ : ∃ p : Option Addr, wr.cell? ⟨X + 2, k, none⟩ = some (.pointer p) ∧ NoRo wr p := by
        rcases (show k = 0 ∨ k = 1 by omega) with rfl | rfl
        · exact ⟨none, cellsN kr2 0 _ rfl, ⟨.inl rfl⟩⟩
        · exact ⟨some ⟨X + 1, 0, none⟩, cellsN kr2 1 _ rfl, ⟨.inr ⟨X + 1, rfl, kr1⟩⟩⟩
      have cc := st_blk kr0
      have g0 : (0 : Int) ≤ (k : Int) := by omega
      have g1 : (k : Int) < 2 := by omega
      have HNo := Lib.hid hno
      have HKr := Lib.hid kr0
      have hz0 := HB3.out.size
      have HBr : Hid (Below W3.heap.size W3 wr) := hb
      have HPr : Hid (PwIs wr) := Lib.hid ((HPw.out.below HB3.out).below hb.out)
      have HNd := HIn.out.node
      have HNn := Lib.hid HIn.out.node
      clear kr0 kr1 kr2 hno HNd
      go_wp2_with fail
      refine (rof_no x.node HNo.out HPr.out HNn.out).mono ?_
      rintro e w0 ⟨A1, c1, l1, A2, c2, rfl, _, _, _, hb0⟩
      have HB0 : Hid (Below wr.heap.size wr w0) := Lib.hid hb0
      have kr4 := (hb0.block X (block_lt HKr.out)).trans HKr.out
      clear cc hb0 hp
      have cc := st_blk kr4
      clear kr4
      go_wp2_with fail
      refine (rnode_no x.node ⟨#[]⟩ 1 (HNo.out.below HB0.out)).mono ?_
      rintro e w1 ⟨rfl, hbn⟩
      have HB1 : Hid (Below wr.heap.size wr w1) := Lib.hid (HB0.out.trans (hbn.mono HB0.out.size))
      have kr4 := (HB1.out.block X (block_lt HKr.out)).trans HKr.out
      clear cc hbn
      have cc := st_blk kr4
      clear kr4
      go_wp2_with fail
      refine (rdropnode_no x.node 1 (HNo.out.below HB1.out)).mono ?_
      rintro e w2 ⟨rfl, hbn⟩
      have HB2 : Hid (Below wr.heap.size wr w2) := Lib.hid (HB1.out.trans (hbn.mono HB1.out.size))
      have kr4 := (HB2.out.block X (block_lt HKr.out)).trans HKr.out
      clear cc hbn
      have cc := st_blk kr4
      clear kr4
      have hsx := rservice_no x.s 1 (HNo.out.below HB2.out)
      unfold svV at hsx
      go_wp2_with fail
      refine (hsx).mono ?_
      rintro e w3 ⟨rfl, hbn⟩
      have HB3 : Hid (Below wr.heap.size wr w3) := Lib.hid (HB2.out.trans (hbn.mono HB2.out.size))
      have kr4 := (HB3.out.block X (block_lt HKr.out)).trans HKr.out
      clear cc hbn
      have cc := st_blk kr4
      clear kr4
      clear hsx
      go_wp2_with fail
      refine (rdropservice_no x.node x.text 1 (HNo.out.below HB3.out)).mono ?_
      rintro e w4 ⟨rfl, hbn⟩
      have HB4 : Hid (Below wr.heap.size wr w4) := Lib.hid (HB3.out.trans (hbn.mono HB3.out.size))
      have kr4 := (HB4.out.block X (block_lt HKr.out)).trans HKr.out
      clear cc hbn
      have cc := st_blk kr4
      clear kr4
      have hcx := rcheck_no x.c 1 (HNo.out.below HB4.out)
      unfold ckV at hcx
      go_wp2_with fail
      refine (hcx).mono ?_
      rintro e w5 ⟨rfl, hbn⟩
      have HB5 : Hid (Below wr.heap.size wr w5) := Lib.hid (HB4.out.trans (hbn.mono HB4.out.size))
      have kr4 := (HB5.out.block X (block_lt HKr.out)).trans HKr.out
      clear cc hbn
      have cc := st_blk kr4
      clear kr4
      clear hcx
      go_wp2_with fail
      refine (rdropcheck_no x.node x.text 1 (HNo.out.below HB5.out)).mono ?_
      rintro e w6 ⟨rfl, hbn⟩
      have HB6 : Hid (Below wr.heap.size wr w6) := Lib.hid (HB5.out.trans (hbn.mono HB5.out.size))
      have kr4 := (HB6.out.block X (block_lt HKr.out)).trans HKr.out
      clear cc hbn
      have cc := st_blk kr4
      clear kr4
      go_wp2_with fail
      refine (rnodes_no (HNo.out.below HB6.out)).mono ?_
      rintro e w7 ⟨A9, c9, rfl, _, _, _, _, hbn⟩
      have HB7 : Hid (Below wr.heap.size wr w7) := Lib.hid (HB6.out.trans (hbn.mono HB6.out.size))
      have kr4 := (HB7.out.block X (block_lt HKr.out)).trans HKr.out
      clear cc hbn
      have cc := st_blk kr4
      clear kr4
      go_wp2_with fail
      refine (rservices_no (HNo.out.below HB7.out)).mono ?_
      rintro e w8 ⟨l9, ⟨A9, c9, rfl, _, _, _, _, hbn⟩, s9⟩
      have HB8 : Hid (Below wr.heap.size wr w8) := Lib.hid (HB7.out.trans (hbn.mono HB7.out.size))
      have kr4 := (HB8.out.block X (block_lt HKr.out)).trans HKr.out
      clear cc hbn
      have cc := st_blk kr4
      clear kr4
      have hl9 : l9 = [] := List.eq_nil_of_length_eq_zero s9.len
      subst hl9
      clear s9
      go_wp2_with fail
      refine (rchecks_no (HNo.out.below HB8.out)).mono ?_
      rintro e w9 ⟨A9, c9, rfl, _, _, _, _, hbn⟩
      have HB9 : Hid (Below wr.heap.size wr w9) := Lib.hid (HB8.out.trans (hbn.mono HB8.out.size))
      have kr4 := (HB9.out.block X (block_lt HKr.out)).trans HKr.out
      clear cc hbn
      have cc := st_blk kr4
      clear kr4
      go_wp2_with fail
      refine (rhealth_no x.node x.text (HNo.out.below HB9.out) (HPr.out.below HB9.out) HNn.out).mono ?_
      rintro e w10 ⟨rfl, hbn⟩
      have HB10 : Hid (Below wr.heap.size wr w10) := Lib.hid (HB9.out.trans (hbn.mono HB9.out.size))
      have kr4 := (HB10.out.block X (block_lt HKr.out)).trans HKr.out
      clear cc hbn
      have cc := st_blk kr4
      clear kr4
      go_wp2_with fail
      refine (rlast_no (HNo.out.below HB10.out)).mono ?_
      rintro e w11 ⟨rfl, hbn⟩
      have HB11 : Hid (Below wr.heap.size wr w11) := Lib.hid (HB10.out.trans (hbn.mono HB10.out.size))
      have kr4 := (HB11.out.block X (block_lt HKr.out)).trans HKr.out
      clear cc hbn
      have cc := st_blk kr4
      clear kr4
      have ug := la_guard
      have ue := la_zero
      go_wp2_with fail
      refine (rcopy_no (HNo.out.below HB11.out)).mono ?_
      rintro e w12 ⟨rfl, hbn⟩
      have HB12 : Hid (Below wr.heap.size wr w12) := Lib.hid (HB11.out.trans (hbn.mono HB11.out.size))
      have kr4 := (HB12.out.block X (block_lt HKr.out)).trans HKr.out
      clear cc hbn
      have cc := st_blk kr4
      clear kr4
      clear ug ue
      go_wp2
      go_roundw
      case rel => exact ⟨k + 1, by omega, by go_num, Lib.hid (HBr.out.trans (HB12.out.mono HBr.out.size))⟩
      case measure => simp [intOf]; omega
    · obtain rfl : k = 2 := by omega
      have HBr : Hid (Below w.heap.size w wr) := Lib.hid (HB3.out.trans (hb.out.mono HB3.out.size))
      have cc := (hb.out.block (X + 2) (block_lt HK2.out)).trans HK2.out
      clear cc
      go_wp2_with fail
      refine (works_any wr (HPw.out.below HBr.out)).mono ?_
      rintro e w9 ⟨rfl, hb9⟩
      have HB9 := Lib.hid (HBr.out.trans (hb9.mono HBr.out.size))
      clear hb9
      go_wp2
      go_ret
      exact ⟨rfl, HB9.out⟩
end Go.Proofs.YtilkbfmaofmjoaaGreatDoor
