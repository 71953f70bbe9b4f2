/-
  A step of the law (layer 16): Copy; any step.
-/
import Derived.Test.YtohnkagabpefdaaGreatDoorZj40
namespace Go.Proofs.YtohnkagabpefdaaGreatDoor
open Go.RowKit Go.Rel
set_option linter.unusedSimpArgs false
set_option linter.unusedVariables false

/-- What changes of none that was. -/
theorem But.of_new {S : Nat → Prop} {w w' : World} {n : Nat} (h : But (fun k => n ≤ k) w w') (hn : w.heap.size ≤ n) : But S w w' := But.of_below (h.below (Nat.le_refl _) fun k hk e => by omega)
/-- Something else has changed. -/
theorem Both.apart {O : Nat → Prop} {Bp Bt Bd : Nat} {tp td : Tb Kp} {w w' : World} {Y : Nat} (h : Both O w Bp Bt tp Bd td) (hb : But (· = Y) w w') (hY : ¬ O Y) (hM : ¬ 0 = Y) : Both O w' Bp Bt tp Bd td := by
  obtain ⟨Sp, Sd, h1, h2, h3, h4, h5, h6, h7⟩ := h
  have hz := hb.size
  exact ⟨Sp, Sd, h1.but hb fun k e z => hY (by rw [← show k = Y from e]; exact (h3 k z).1), h2.but hb fun k e z => hY (by rw [← show k = Y from e]; exact (h4 k z).1), fun k hk => ⟨(h3 k hk).1, by have := (h3 k hk).2.1; omega, (h3 k hk).2.2⟩, fun k hk => ⟨(h4 k hk).1, by have := (h4 k hk).2; omega⟩, fun k hk => h5 k (by omega), h6.but hb hM, h7⟩
def ksC (Bc : Nat) (Bd : Nat) (Ad : Option Addr) (cd : Nat) (lst : Nat) (m : List En) : Nat → Value
  | 0 | 9 => .pointer (some ⟨Bc, 0, none⟩)
  | 2 | 3 | 11 | 12 => .pointer (some ⟨Bd, 0, none⟩)
  | 4 => .pointer (some ⟨Bd, 1, none⟩)
  | 5 => .slice Ad m.length cd
  | 6 => .bool true
  | 7 | 8 | 15 | 16 => .bool false
  | 10 | 14 => .int .u64 (lst : Int)
  | 13 => .pointer (some ⟨Bd, 2, none⟩)
  | _ => undef
set_option maxHeartbeats 4000000 in
set_option maxRecDepth 100000 in
theorem step_copy {O : Nat → Prop} {Bp Bt Bd : Nat} {t : Tb Kp} (s : KSt) (w : World) (h : Both O w Bp Bt t Bd t) (hs : s.Ok) (hk : s.kind = 8) :
    Calls Tryz.prog 9 #[.pointer (some ⟨Bp, 0, none⟩), .pointer (some ⟨Bd, 0, none⟩), stV s] w (StepPost O w Bp Bt Bd t) := by
  obtain ⟨kind, key, val, old, ses, ix⟩ := s
  simp only at hk
  subst hk
  unfold stV
  simp only
  have hky : key.size ≤ maxLen := hs.key
  have hv : val.size ≤ maxLen := hs.val
  have hi : ix < 18446744073709551616 := hs.ix
  obtain ⟨X, hX⟩ : ∃ X, w.heap.size = X := ⟨_, rfl⟩
  obtain ⟨W1, hW⟩ : ∃ W1, w.alloc (.cells #[.int .i64 8, .string key, .string val, .int .u64 (old : Int), .int .u64 (ses : Int), .int .u64 (ix : Int)] TS) = W1 := ⟨_, rfl⟩
  have hb0 : Below w.heap.size w W1 := by rw [← hW]; exact below1 _ _ _
  have k0 : W1.heap[X]? = some (.cells #[.int .i64 8, .string key, .string val, .int .u64 (old : Int), .int .u64 (ses : Int), .int .u64 (ix : Int)] TS (0, 0)) := by rw [← hW, ← hX]; exact heap_alloc_new w _
  obtain ⟨O2, hO2⟩ : ∃ O2 : Nat → Prop, O2 = fun k => O k ∧ k ≠ X := ⟨_, rfl⟩
  have hb1 : Both O2 W1 Bp Bt t Bd t := by rw [hO2]; exact h.box hb0 (X := X) (by omega) (block_lt k0)
  have HOx : Hid (¬ O2 X) := Lib.hid (by rw [hO2]; exact fun z => z.2 rfl)
  have HOO : Hid (∀ k, O2 k → O k) := Lib.hid (by rw [hO2]; exact fun k z => z.1)
  have HMx := Lib.hid h.mx.2
  obtain ⟨m, hm⟩ : ∃ m, t.l = m := ⟨_, rfl⟩
  obtain ⟨lst, hlst⟩ : ∃ lst, t.last = lst := ⟨_, rfl⟩
  have HMl : Hid (m.length ≤ maxLen) := Lib.hid (by
    obtain ⟨Sp, k1⟩ := h.read
    have h1 := k1.ok.ok.len
    have h2 := k1.ok.ok.most
    rw [← hm]
    unfold maxLen
    omega)
  have HTm := Lib.hid hm
  have HLst := Lib.hid hlst
  have HKy := Lib.hid hky
  have HI := Lib.hid hi
  have hxl : X < W1.heap.size := block_lt k0
  have HXl := Lib.hid hxl
  have HCp : Hid (Calls Tryz.prog 33 #[.pointer (some ⟨Bp, 0, none⟩)] W1 fun e w2 => ∃ Bc Btc Sc, e = .returned (.pointer (some ⟨Bc, 0, none⟩)) ∧ W1.heap.size ≤ Bc ∧ W1.heap.size ≤ Btc ∧ KvAt Sc w2 Bc Btc t ∧ Below W1.heap.size W1 w2) := Lib.hid (by
    obtain ⟨Sp, k1⟩ := hb1.read
    refine (kcopy_any k1).mono ?_
    rintro e w2 ⟨Bc, Btc, e1, g1, g2, g3, g4⟩
    exact ⟨Bc, Btc, _, e1, g1, g2, g3, g4⟩)
  have HB1 := Lib.hid hb1
  have HK0 := Lib.hid k0
  have HB0 := Lib.hid hb0
  have HW := Lib.hid hW
  have HX := Lib.hid hX
  obtain ⟨d0, d1, d2, d3, d4, d5⟩ := Kt.blk k0
  clear h hs hky hv hi hX hW hb0 k0 hO2 hb1 hm hlst hxl
  go_enter Tryz.func9, Tryz.ntmps9
  go_wp2_with fail
  rw [HW.out, HX.out]
  go_wp2_with fail
  clear d0 d1 d2 d3 d4 d5
  refine HCp.out.mono ?_
  rintro e W2 ⟨Bc, Btc, Sc, rfl, hBc, hBtc, hkc, hb2⟩
  have hbo : Both (fun k => O2 k ∧ k ≠ Btc) W2 Bp Bt t Bd t := HB1.out.box hb2 hBtc hkc.tlt
  obtain ⟨Sd, Ad, cd, -, hri⟩ := hbo.ref
  have HRf := Lib.hid hri
  have HKc := Lib.hid hkc
  have HBo := Lib.hid hbo
  have HX2 := Lib.hid ((hb2.block X (HXl.out)).trans HK0.out)
  have HMB : Hid (¬ 0 = Btc) := Lib.hid fun e => by
    have h1 := HB1.out.mx.1.lt
    omega
  have HBtc := Lib.hid hBtc
  have HB02 : Hid (Below w.heap.size w W2) := Lib.hid (HB0.out.trans (hb2.mono HB0.out.size))
  have HCl : Hid (∀ w', Below W2.heap.size W2 w' → Calls Tryz.prog 14 #[.pointer (some ⟨Bc, 0, none⟩), .string ⟨#[]⟩] w' fun e w2 => ∃ A c, e = .returned (.slice A m.length c) ∧ SK enC 6 w2 A m.length m ∧ Below w'.heap.size w' w2) := Lib.hid fun w' hw => by
    refine (klist_any ⟨#[]⟩ (hkc.below hw) (by decide)).mono ?_
    rw [und_all, HTm.out]
    rintro e w2 ⟨A, c, e1, s1, _, _, _, b1⟩
    exact ⟨A, c, e1, s1, b1⟩
  have HLa : Hid (∀ w', Below W2.heap.size W2 w' → Calls Tryz.prog 12 #[.pointer (some ⟨Bc, 0, none⟩)] w' fun e w2 => e = .returned (.int .u64 (lst : Int)) ∧ w' = w2) := Lib.hid fun w' hw => by
    rw [← HLst.out]
    exact klast_any (hkc.below hw)
  clear hbo hri hkc hb2 hBc hBtc HCp
  go_wp2_with fail
  have hre : ∀ w : World, ((fun a b : World => Below a.heap.size a b)) w w := (fun w => Below.refl _ w)
  have hrd : ∀ (f : Nat → Bool) w i, i ≠ 1 → (fun (_ : Nat → Bool) (w : World) => Below W2.heap.size W2 w) f w → (fun (_ : Nat → Bool) (w : World) => Below W2.heap.size W2 w) (Go.Rel.upd f i) w := (fun _ _ _ _ h => h)
  refine Go.Rel.wp_tab (by kernel_rfl) (by kernel_rfl) (fun (_ : Nat → Bool) (w : World) => Below W2.heap.size W2 w) ((fun a b : World => Below a.heap.size a b)) hre ((fun _ _ _ h k => h.trans (k.mono h.size))) ((⟨rfl, rfl, rfl, Nat.le_refl _, fun _ _ => rfl⟩)) ⟨rfl, rfl, rfl, Nat.le_refl _, fun _ _ => rfl⟩ (ksC Bc Bd Ad cd lst m) (fun | 1, v, w => ∃ A c, v = .slice A m.length c ∧ SK enC 6 w A m.length m | _, _, _ => True) (fun i => ([1] : List Nat).contains i) (fun i => ([1, 5, 6, 10, 14, 15] : List Nat).contains i) (by kernel_rfl) (fun i v w w' h g => by revert h; split <;> intro h <;> first | exact h | trivial | (obtain ⟨A, c, e, k⟩ := h; exact ⟨A, c, e, k.below g⟩)) 1 rfl hrd ?_ (Go.Rel.AllOf.get ?_) ?_
  · repeat (refine .cons (by first | exact Go.Rel.pure_sp rfl | exact Go.Rel.pure_yes (by kernel_rfl) (fun _ => by kernel_rfl) | exact Go.Rel.pure_no (by kernel_rfl) rfl) ?_)
    exact .nil
  · refine ⟨?_, ?_, ?_, ?_, ?_, ?_, trivial⟩
    · refine SpecOk.call 14 #[.pointer (some ⟨Bc, 0, none⟩), .string { data := #[] }] rfl (by kernel_rfl) (fun _ => by kernel_rfl) fun _ w' hI _ _ _ _ => ?_
      refine (HCl.out w' hI).mono ?_
      rintro e9 w9 ⟨A9, c9, rfl, s9, hb9⟩
      exact ⟨_, rfl, hb9, (hI.trans (hb9.mono hI.size)), ⟨A9, c9, rfl, s9⟩⟩
    · exact SpecOk.ld hrd hre (q := .pointer (some ⟨Bd, 1, none⟩)) (h := fun _ w' hI _ _ _ _ => by have hri := HRf.out.below hI; have c1 := hri.c1; rw [HTm.out] at c1; go_simp; rfl)
    · refine SpecOk.gen (fun e => [(163, e 1), (167, .slice Ad m.length cd)]) rfl rfl (fun _ => by kernel_rfl) fun f w' e hI hf hdesc hanc hle hX K hK => ?_
      obtain ⟨A3, c3, e3, s3⟩ := hX 1 rfl rfl
      have hri := HRf.out.below hI
      have s5 := hri.row
      rw [HTm.out] at s5
      go_simp
      refine (rsame_any A3 _ c3 m Ad cd w' s3 s5 HMl.out).mono ?_
      rintro e9 w9 ⟨rfl, hb9⟩
      exact hK _ _ hb9 (hI.trans (hb9.mono hI.size)) rfl
    · refine SpecOk.call 12 #[.pointer (some ⟨Bc, 0, none⟩)] rfl (by kernel_rfl) (fun _ => by kernel_rfl) fun _ w' hI _ _ _ _ => ?_
      refine (HLa.out w' hI).mono ?_
      rintro e9 w9 ⟨rfl, rfl⟩
      exact ⟨_, rfl, (Below.refl _ _), hI, rfl⟩
    · exact SpecOk.ld hrd hre (q := .pointer (some ⟨Bd, 2, none⟩)) (h := fun _ w' hI _ _ _ _ => by have hri := HRf.out.below hI; have c2 := hri.c2; rw [HLst.out] at c2; go_simp; rfl)
    · refine SpecOk.gen (fun e => [(172, .int .u64 (lst : Int)), (176, .int .u64 (lst : Int))]) rfl rfl (fun _ => by kernel_rfl) fun f w' e hI hf hdesc hanc hle hX K hK => ?_
      have hq : ((lst : Int) != (lst : Int)) = false := by simp
      go_simp
      exact hK _ _ (hre _) (hrd f w' 15 (by decide) hI) rfl
  · intro f w3 e hall hJ hle hv
    have HJ := Lib.hid hJ
    have v9 := hv 16 rfl
    simp only [Go.Rel.finL, List.setIfInBounds_toArray, List.set_cons_succ, List.set_cons_zero]
    rw [show e 16 = .bool false from v9]
    have hk3 := HKc.out.below hJ
    have hbo3 := HBo.out.below hJ
    have HBo3 := Lib.hid hbo3
    have hx3 := (hJ.block X (block_lt HX2.out)).trans HX2.out
    have HX3 := Lib.hid hx3
    obtain ⟨f0, f1, f2, f3, f4, f5⟩ := Kt.blk hx3
    have HSet := Lib.hid (kset_any key ⟨#[111, 116, 104, 101, 114]⟩ ix hk3 hbo3.mx.1 HI.out HKy.out (by decide))
    obtain ⟨r1, hr1⟩ : ∃ r, kSet t key ⟨#[111, 116, 104, 101, 114]⟩ ix = r := ⟨_, rfl⟩
    rw [hr1] at HSet
    have HXB : Hid (¬ X = Btc) := Lib.hid fun e => by have h1 := HXl.out; have h2 := HBtc.out; omega
    clear hv hall hJ hle v9 hk3 hbo3 hx3 hr1
    go_wp2_with fail
    refine HSet.out.mono ?_
    rintro e w4 ⟨rfl, hk4, hb4⟩
    have hbo4 := HBo3.out.apart hb4 (fun z => z.2 rfl) HMB.out
    have hx4 := (hb4.block X (block_lt HX3.out) HXB.out).trans HX3.out
    have HBo4 := Lib.hid hbo4
    have HX4 := Lib.hid hx4
    have HFree := Lib.hid (kfree_any ses ix hk4 hbo4.mx.1 HMB.out HI.out)
    have HB4 := Lib.hid hb4
    clear f0 f1 f2 f3 f4 f5
    obtain ⟨f0, f1, f2, f3, f4, f5⟩ := Kt.blk hx4
    clear hk4 hb4 hbo4 hx4 HSet
    go_wp2_with fail
    refine HFree.out.mono ?_
    rintro e w5 ⟨A5, c5, rfl, -, -, S5, hk5, -, -, hb5⟩
    have hbo5 := HBo4.out.apart hb5 (fun z => z.2 rfl) HMB.out
    have hx5 := (hb5.block X (block_lt HX4.out) HXB.out).trans HX4.out
    have HBo5 := Lib.hid hbo5
    have HDel : Hid (Calls Tryz.prog 24 #[.pointer (some ⟨Bc, 0, none⟩), .string key, .int .u64 18446744073709551615] w5 fun e w6 => ∃ n, e = .returned (.int .i64 n) ∧ But (· = Btc) w5 w6) := Lib.hid (by
      refine (kdel_any key 18446744073709551615 hk5 hbo5.mx.1 (by decide) HKy.out).mono ?_
      rintro e w6 ⟨e1, _, b1⟩
      exact ⟨_, e1, b1⟩)
    have HB5 := Lib.hid hb5
    clear f0 f1 f2 f3 f4 f5
    obtain ⟨f0, f1, f2, f3, f4, f5⟩ := Kt.blk hx5
    clear hk5 hb5 hbo5 hx5 HFree
    go_wp2_with fail
    refine HDel.out.mono ?_
    rintro e w6 ⟨n6, rfl, hb6⟩
    have HBo6 := Lib.hid ((HBo5.out.apart hb6 (fun z => z.2 rfl) HMB.out).wide (fun k z => HOO.out k z.1) HMx.out)
    have HL : Hid (But O w w6) := Lib.hid (by
      have q3 : But (fun k => W1.heap.size ≤ k) w w6 := (But.of_below (HB02.out.trans (HJ.out.mono HB02.out.size))).trans (((HB4.out.trans HB5.out).trans hb6).mono fun k e => by rw [show k = Btc from e]; exact HBtc.out)
      exact q3.of_new HB0.out.size)
    clear hb6 HDel f0 f1 f2 f3 f4 f5
    go_wp2
    go_ret
    exact ⟨rfl, HBo6.out, HL.out⟩
set_option maxHeartbeats 4000000 in
set_option maxRecDepth 100000 in
theorem step_rest {O : Nat → Prop} {Bp Bt Bd : Nat} {t : Tb Kp} (s : KSt) (w : World) (h : Both O w Bp Bt t Bd t) (hs : s.Ok) (hk : s.kind < 0 ∨ 8 < s.kind) :
    Calls Tryz.prog 9 #[.pointer (some ⟨Bp, 0, none⟩), .pointer (some ⟨Bd, 0, none⟩), stV s] w (StepPost O w Bp Bt Bd t) := by
  obtain ⟨kind, key, val, old, ses, ix⟩ := s
  simp only at hk
  unfold stV
  simp only
  have hky : key.size ≤ maxLen := hs.key
  have hv : val.size ≤ maxLen := hs.val
  have hi : ix < 18446744073709551616 := hs.ix
  obtain ⟨X, hX⟩ : ∃ X, w.heap.size = X := ⟨_, rfl⟩
  obtain ⟨W1, hW⟩ : ∃ W1, w.alloc (.cells #[.int .i64 kind, .string key, .string val, .int .u64 (old : Int), .int .u64 (ses : Int), .int .u64 (ix : Int)] TS) = W1 := ⟨_, rfl⟩
  have hb0 : Below w.heap.size w W1 := by rw [← hW]; exact below1 _ _ _
  have k0 : W1.heap[X]? = some (.cells #[.int .i64 kind, .string key, .string val, .int .u64 (old : Int), .int .u64 (ses : Int), .int .u64 (ix : Int)] TS (0, 0)) := by rw [← hW, ← hX]; exact heap_alloc_new w _
  obtain ⟨O2, hO2⟩ : ∃ O2 : Nat → Prop, O2 = fun k => O k ∧ k ≠ X := ⟨_, rfl⟩
  have hb1 : Both O2 W1 Bp Bt t Bd t := by rw [hO2]; exact h.box hb0 (X := X) (by omega) (block_lt k0)
  have HOx : Hid (¬ O2 X) := Lib.hid (by rw [hO2]; exact fun z => z.2 rfl)
  have HOO : Hid (∀ k, O2 k → O k) := Lib.hid (by rw [hO2]; exact fun k z => z.1)
  have HMx := Lib.hid h.mx.2
  have hn : ∀ j : Int, 0 ≤ j → j ≤ 8 → (kind == j) = false := fun j h1 h2 => by rw [beq_eq_false_iff_ne]; omega
  have n0 := hn 0 (by decide) (by decide)
  have n1 := hn 1 (by decide) (by decide)
  have n2 := hn 2 (by decide) (by decide)
  have n3 := hn 3 (by decide) (by decide)
  have n4 := hn 4 (by decide) (by decide)
  have n5 := hn 5 (by decide) (by decide)
  have n6 := hn 6 (by decide) (by decide)
  have n7 := hn 7 (by decide) (by decide)
  have n8 := hn 8 (by decide) (by decide)
  have HB1 := Lib.hid hb1
  have HK0 := Lib.hid k0
  have HB0 := Lib.hid hb0
  have HW := Lib.hid hW
  have HX := Lib.hid hX
  obtain ⟨d0, d1, d2, d3, d4, d5⟩ := Kt.blk k0
  clear h hs hky hv hi hX hW k0 hO2 hk hn
  go_enter Tryz.func9, Tryz.ntmps9
  go_wp2_with fail
  rw [HW.out, HX.out]
  go_wp2
  go_ret
  exact ⟨rfl, hb1.wide HOO.out HMx.out, But.of_below hb0⟩
theorem step_any {O : Nat → Prop} {Bp Bt Bd : Nat} {t : Tb Kp} (s : KSt) (w : World) (h : Both O w Bp Bt t Bd t) (hs : s.Ok) :
    Calls Tryz.prog 9 #[.pointer (some ⟨Bp, 0, none⟩), .pointer (some ⟨Bd, 0, none⟩), stV s] w (StepPost O w Bp Bt Bd (s.after t)) := by
  unfold KSt.after
  by_cases h0 : s.kind = 0
  · rw [if_pos h0]; exact step_set s w h hs h0
  by_cases h1 : s.kind = 1
  · rw [if_neg h0, if_pos h1]; exact step_cas s w h hs h1
  by_cases h2 : s.kind = 2
  · rw [if_neg h0, if_neg h1, if_pos h2]; exact step_del s w h hs h2
  by_cases h3 : s.kind = 3
  · rw [if_neg h0, if_neg h1, if_neg h2, if_pos h3]; exact step_delCas s w h hs h3
  by_cases h4 : s.kind = 4
  · rw [if_neg h0, if_neg h1, if_neg h2, if_neg h3, if_pos h4]; exact step_lock s w h hs h4
  by_cases h5 : s.kind = 5
  · rw [if_neg h0, if_neg h1, if_neg h2, if_neg h3, if_neg h4, if_pos h5]; exact step_unlock s w h hs h5
  by_cases h6 : s.kind = 6
  · rw [if_neg h0, if_neg h1, if_neg h2, if_neg h3, if_neg h4, if_neg h5, if_pos h6]; exact step_free s w h hs h6
  rw [if_neg h0, if_neg h1, if_neg h2, if_neg h3, if_neg h4, if_neg h5, if_neg h6]
  by_cases h7 : s.kind = 7
  · exact step_list s w h hs h7
  by_cases h8 : s.kind = 8
  · exact step_copy s w h hs h8
  exact step_rest s w h hs (by omega)
end Go.Proofs.YtohnkagabpefdaaGreatDoor
