import Derived.Test.YtilkbfmaofmjoaaGreatDoorZj19
namespace Go.Proofs.YtilkbfmaofmjoaaGreatDoor
open Go.RowKit Go.Rel
set_option linter.unusedSimpArgs false
set_option linter.unusedVariables false
set_option maxHeartbeats 8000000 in
set_option maxRecDepth 100000 in
theorem run_drop_any {p_ : Prop} (h_ : p_ := by
  obtain ⟨X, hX⟩ : ∃ X, w.heap.size = X := ⟨_, rfl⟩
  obtain ⟨S2, hS2⟩ : ∃ S2 : Nat → Prop, S2 = fun k => S k ∧ k < X := ⟨_, rfl⟩
  have hn : TAt S2 w B t := h.narrow fun j hj hs => by rw [hS2]; exact ⟨hs, hX ▸ hj⟩
  have HS2 := Lib.hid hS2
  have HAt := Lib.hid h
  have HMd := Lib.hid (made_yes hn)
  have HF := Lib.hid (find_any k hn)
  have HX := Lib.hid hX
  obtain ⟨hok, A, c, h1⟩ := hn
  have h64 : t.l.length ≤ 64 := Nat.le_trans hok.len hok.most.2
  have hmost := hok.most.1
  have HT := Lib.hid h1
  have HOk := Lib.hid hok
  have HR := Lib.hid hok.rise
  obtain ⟨L, hL⟩ : ∃ L, t.l.length = L := ⟨_, rfl⟩
  rw [hL] at h64
  have HL := Lib.hid hL
  obtain ⟨pl, hpl⟩ : ∃ pl, plc t.l k = pl := ⟨_, rfl⟩
  obtain ⟨hv, hhv⟩ : ∃ hv, hasB t.l k = hv := ⟨_, rfl⟩
  rw [hpl, hhv] at HF
  rw [show (getR t.l k).isSome = hv from hhv]
  have HPl := Lib.hid hpl
  have HHv := Lib.hid hhv
  rw [hX]
  clear h hX hL hok h1 hpl hhv hS2
  go_enter f_Drop, n_Drop
  go_wp2_with fail
  refine HMd.out.mono ?_
  rintro e w' ⟨rfl, rfl⟩
  clear HMd
  go_wp2_with fail
  refine HF.out.mono ?_
  rintro e W0 ⟨rfl, hb0⟩
  have hpt := HT.out.below hb0
  have HB0 := Lib.hid hb0
  clear hb0 HF HT
  cases hv with
  | false =>
    clear hpt
    go_wp2
    go_ret
    have hF : (getR t.l k).isSome = false := HHv.out
    unfold Tb.dropT
    rw [if_neg (by rw [hF]; simp)]
    exact ⟨rfl, (HAt.out.below HB0.out).narrow fun j _ hs => .inl hs, But.of_below HB0.out⟩
  | true =>
    obtain ⟨hpL, hke, -⟩ := hasB_lt HR.out HHv.out
    have hpL' : pl < L := by rw [← HL.out, ← HPl.out]; exact hpL
    obtain ⟨pa, hae⟩ : ∃ pa, pl = pa := ⟨_, rfl⟩
    obtain ⟨pb, hbe⟩ : ∃ pb, pl + 1 = pb := ⟨_, rfl⟩
    have hab : pa ≤ L ∧ pb ≤ L ∧ pa ≤ pb := by omega
    obtain ⟨l2, hl2⟩ : ∃ l2, t.l.take pa ++ t.l.drop pb = l2 := ⟨_, rfl⟩
    have HOff : Hid (offR t.l k = l2) := Lib.hid (by
      rw [off_has HR.out ⟨hpL, hke⟩, HPl.out, List.eraseIdx_eq_take_drop_succ, hbe, hae, hl2])
    have HWr : Hid (IntKind.i64.wrap ((pa : Int) + 1) = (pb : Int)) := Lib.hid (by rw [IntKind.wrap_i64]; omega)
    rw [hae]
    have HC := Lib.hid (fun W (hw : Below W0.heap.size W0 W) => (show W.cell? ⟨B, 2, none⟩ = some (.slice A L c) by have := (hpt.below hw).c2; rw [HL.out] at this; exact this))
    have HC2 := Lib.hid (fun W (hw : Below W0.heap.size W0 W) => hpt.below hw)
    have HCat := Lib.hid (fun W (hw : Below W0.heap.size W0 W) (Z : Nat) (kz : W.heap[Z]? = some (.cells #[.slice A pa c, .slice (tailA kN A pb c) (L - pb) (c - pb)] tSR (0, 0))) => (by rw [← HL.out] at kz; have := cat2 (hpt.below hw) (a := pa) (b := pb) (by rw [HL.out]; exact hab.1) (by rw [HL.out]; exact hab.2.1) hab.2.2 (by rw [HL.out]; exact h64) kz; rw [hl2] at this; exact this : Calls Tryz.prog gCat #[.slice (some ⟨Z, 0, none⟩) 2 2] W fun e w' => ∃ v, e = .returned v ∧ twRow w' W.heap.size v l2 ∧ Below W.heap.size W w'))
    have HSz := Lib.hid (show (A = none ∨ ∃ g, A = some ⟨g, 0, none⟩) ∧ pa ≤ c ∧ pb ≤ L ∧ L ≤ c from ⟨hpt.or, by have := hpt.le; rw [HL.out] at this; omega, hab.2.1, by have := hpt.le; rw [HL.out] at this; exact this⟩)
    have HBl : Hid (OldB W0 B) := Lib.hid hpt.lt
    clear hpt hl2 hab hpL hke hae hbe
    go_wp2_with fail
    have hre : ∀ w : World, (But (OldB W0)) w w := (fun w => But.refl _ w)
    have hrd : ∀ (f : Nat → Bool) w i, i ≠ 18 → (TI 18 W0 (Laid trC kN tT S2 W0 B t l2)) f w → (TI 18 W0 (Laid trC kN tT S2 W0 B t l2)) (Go.Rel.upd f i) w := (fun _ _ _ hi h => h.read hi)
    refine Go.Rel.wp_tab (by kernel_rfl) (by kernel_rfl) (TI 18 W0 (Laid trC kN tT S2 W0 B t l2)) (But (OldB W0)) hre ((fun _ _ _ h k => h.trans k)) (OldB.drew) TI.start (dropE B A L c pa pb) (fun | 14, v, w => ∃ Z, v = .slice (some ⟨Z, 0, none⟩) 2 2 ∧ W0.heap.size ≤ Z ∧ w.heap[Z]? = some (.cells #[.slice A pa c, .slice (tailA kN A pb c) (L - pb) (c - pb)] tSR (0, 0)) | 15, v, w => twRow w W0.heap.size v l2 | 18, v, w => True | _, _, _ => True) (fun i => ([14, 15, 18] : List Nat).contains i) (fun i => ([4, 6, 10, 12, 13, 14, 15, 18] : List Nat).contains i) (by kernel_rfl) (fun i v w w' h g => by revert h; split <;> intro h <;> first | exact h | trivial | (obtain ⟨Z, e, hz, k⟩ := h; exact ⟨Z, e, hz, (g.block Z (block_lt k) (by unfold OldB; omega)).trans k⟩) | exact own_old h g) 18 rfl hrd ?_ (Go.Rel.AllOf.get ?_) ?_
    · repeat (refine .cons (by first | exact Go.Rel.pure_sp rfl | exact Go.Rel.pure_yes (by kernel_rfl) (fun _ => by kernel_rfl) | exact Go.Rel.pure_no (by kernel_rfl) rfl) ?_)
      exact .nil
    · refine ⟨?_, ?_, ?_, ?_, ?_, ?_, ?_, ?_, trivial⟩
      · exact SpecOk.ld hrd hre (q := .pointer (some ⟨B, 2, none⟩)) (h := fun _ w' hI _ hdesc _ _ => by have cc := HC.out w' (hI.ahead (hdesc 60 18 (by kernel_rfl))); go_simp; rfl)
      · exact SpecOk.slice (q := .slice A L c) hrd hre (fun _ => run_head _ HSz.out.1 HSz.out.2.1)
      · exact SpecOk.ld hrd hre (q := .pointer (some ⟨B, 2, none⟩)) (h := fun _ w' hI _ hdesc _ _ => by have cc := HC.out w' (hI.ahead (hdesc 60 18 (by kernel_rfl))); go_simp; rfl)
      · refine SpecOk.gen (fun e => [(31, .int .i64 (pa : Int))]) rfl rfl (fun _ => by kernel_rfl) fun f w' e hI hf hdesc hanc hle hX K hK => ?_
        have hwr := HWr.out
        go_simp
        exact hK _ _ (hre _) (hrd f w' 12 (by decide) hI) rfl
      · exact SpecOk.slice (q := .slice A L c) hrd hre (fun _ => run_tail _ HSz.out.2.2.1 HSz.out.2.2.2)
      · refine SpecOk.gen (fun e => [(26, .slice A pa c), (33, .slice (tailA kN A pb c) (L - pb) (c - pb))]) rfl rfl (fun _ => by kernel_rfl) fun f w' e hI hf hdesc hanc hle hX K hK => ?_
        have zL : f 18 = false := hdesc 60 18 (by kernel_rfl)
        go_simp
        exact hK _ _ (But.of_below (below1 _ _ _)) (hI.below zL (below1 _ _ _) (by decide)) ⟨_, rfl, (hI.ahead zL).size, heap_alloc_new w' _⟩
      · refine SpecOk.gen (fun e => [(34, e 14)]) rfl rfl (fun _ => by kernel_rfl) fun f w' e hI hf hdesc hanc hle hX K hK => ?_
        obtain ⟨Z14, e14, g14, k14⟩ := hX 14 rfl rfl
        simp only [e14]
        have zL : f 18 = false := hdesc 60 18 (by kernel_rfl)
        go_simp
        refine (HCat.out w' (hI.ahead zL) Z14 k14).mono ?_
        rintro e w2 ⟨v2, rfl, hr2, hb2⟩
        exact hK _ _ (But.of_below hb2) (hI.below zL hb2 (by decide)) (bown_base hr2 (hI.ahead zL).size)
      · refine SpecOk.gen (fun e => [(37, .pointer (some ⟨B, 2, none⟩)), (35, e 15)]) rfl rfl (fun _ => by kernel_rfl) fun f w' e hI hf hdesc hanc hle hX K hK => ?_
        obtain h15 := hX 15 rfl rfl
        obtain ⟨A9, c9, e9, hsk9, hl9, hm9, hn9⟩ := SK.of_row trC_len h15
        rw [e9] at h15
        simp only [e9]
        have hit9 := HC2.out w' (hI.ahead hf)
        have cB := hit9.c2
        have zB := hit9.froz 2
        go_simp
        exact hK undef _ (But.set w' (p := ⟨B, 2, none⟩) HBl.out (.slice A9 l2.length c9)) (TI.last (hit9.stored HBl.out (hI.ahead hf) h15 hsk9 hl9 hm9 (fun b off e => hn9 b off e))) trivial
    · intro f w1 e hall hJ hle hv
      have HP1 := Lib.hid (hJ.done_ (hall 18 (by decide)))
      clear hJ hall hle hv
      simp only [Go.Rel.finL, List.setIfInBounds_toArray, List.set_cons_succ, List.set_cons_zero]
      obtain ⟨A3, c3, hp1, hbt⟩ := HP1.out
      have HRs := Lib.hid (raise_is i hp1 hmost)
      have HBt := Lib.hid hbt
      clear hp1 hbt HP1 HCat HC HC2 HSz
      go_wp2_with fail
      refine HRs.out.mono ?_
      rintro e w2 ⟨rfl, hp2, hb2⟩
      have HP2 := Lib.hid hp2
      have HBt2 := Lib.hid (HBt.out.trans hb2)
      clear hp2 hb2 HRs
      go_wp2
      go_ret
      have hF : (getR t.l k).isSome = true := HHv.out
      unfold Tb.dropT
      rw [if_pos hF]
      refine ⟨rfl, ⟨HOk.out.drop k hi, A3, c3, ?_⟩, (But.of_below HB0.out).trans HBt2.out⟩
      have e : t.drop k i = ({ t with l := l2 } : Tb VL).raise i := by
        unfold Tb.drop Tb.raise
        rw [HOff.out]
      rw [e]
      refine HP2.out.narrow fun j hj hs => ?_
      rcases hs with hs | hs
      · rw [HS2.out] at hs
        exact .inl hs.1
      · refine .inr ?_
        have := HB0.out.size
        have := HX.out
        omega) : p_ := h_
end Go.Proofs.YtilkbfmaofmjoaaGreatDoor
