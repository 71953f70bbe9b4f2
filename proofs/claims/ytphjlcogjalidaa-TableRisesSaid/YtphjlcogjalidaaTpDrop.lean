/-
  Drop, walked (layer 15).
-/
import Derived.Test.YtphjlcogjalidaaTpPut
import Derived.Test.YtphjlcogjalidaaTbPrg
namespace Go.Proofs.Ytphjlcogjalidaa
open Go.RowKit
set_option linter.unusedSimpArgs false
set_option linter.unusedVariables false

def dropR (S : Nat → Prop) (B : Nat) (W0 : World) (A : Option Addr) (L : Nat) (c : Nat) (pa : Nat) (pb : Nat) (l2 : List (Rw Int)) : Nat → Value → World → Prop
  | 0, v, _ => v = .pointer (some ⟨B, 0, none⟩)
  | 1, v, _ => v = .pointer (some ⟨B, 0, none⟩)
  | 2, v, _ => v = .pointer (some ⟨B, 0, none⟩)
  | 3, v, _ => v = .pointer (some ⟨B, 2, none⟩)
  | 4, v, _ => v = .slice A L c
  | 5, v, _ => v = .int .i64 (pa : Int)
  | 6, v, _ => v = .slice A pa c
  | 7, v, _ => v = .pointer (some ⟨B, 0, none⟩)
  | 8, v, _ => v = .pointer (some ⟨B, 0, none⟩)
  | 9, v, _ => v = .pointer (some ⟨B, 2, none⟩)
  | 10, v, _ => v = .slice A L c
  | 11, v, _ => v = .int .i64 (pa : Int)
  | 12, v, _ => v = .int .i64 ((pa : Int) + 1)
  | 13, v, _ => v = .slice (tailA A pb c) (L - pb) (c - pb)
  | 14, v, w => ∃ Z2, v = .slice (some ⟨Z2, 0, none⟩) 2 2 ∧ W0.heap.size ≤ Z2 ∧ w.heap[Z2]? = some (.cells #[.slice A pa c, .slice (tailA A pb c) (L - pb) (c - pb)] 39 (0, 0))
  | 15, v, w => twRow w W0.heap.size v l2
  | 16, v, _ => v = .pointer (some ⟨B, 0, none⟩)
  | 17, v, _ => v = .pointer (some ⟨B, 2, none⟩)
  | 18, v, w => True
  | _, _, _ => True
theorem dropR_stable (B : Nat) (W0 : World) (A : Option Addr) (L : Nat) (c : Nat) (pa : Nat) (pb : Nat) (l2 : List (Rw Int)) : ∀ i v w w', dropR (OldB W0) B W0 A L c pa pb l2 i v w → But (OldB W0) w w' → dropR (OldB W0) B W0 A L c pa pb l2 i v w'
  | 0, _, _, _, h, _ | 1, _, _, _, h, _ | 2, _, _, _, h, _ | 3, _, _, _, h, _ | 4, _, _, _, h, _ | 5, _, _, _, h, _ | 6, _, _, _, h, _ | 7, _, _, _, h, _ | 8, _, _, _, h, _ | 9, _, _, _, h, _ | 10, _, _, _, h, _ | 11, _, _, _, h, _ | 12, _, _, _, h, _ | 13, _, _, _, h, _ | 16, _, _, _, h, _ | 17, _, _, _, h, _ => h
  | 14, _, _, _, h, g => by obtain ⟨Z, e, hz, k⟩ := h; exact ⟨Z, e, hz, (g.block Z (block_lt k) (by unfold OldB; omega)).trans k⟩
  | 15, _, _, _, h, g => own_old h g
  | 18, _, _, _, h, g => trivial
  | _ + 19, _, _, _, h, _ => h
/-- What the rows' pieces make without one. -/
theorem cat2 {S : Nat → Prop} {W : World} {B : Nat} {A : Option Addr} {c : Nat} {t : Tb Int} (h : PtIs S W B A c t) {a b : Nat} (ha : a ≤ t.l.length) (hb : b ≤ t.l.length) (hab : a ≤ b) (h64 : t.l.length ≤ 64) (Z : Nat)
    (kz : W.heap[Z]? = some (.cells #[.slice A a c, .slice (tailA A b c) (t.l.length - b) (c - b)] 39 (0, 0))) :
    Calls Try.prog 31 #[.slice (some ⟨Z, 0, none⟩) 2 2] W fun e w' => ∃ v, e = .returned v ∧ twRow w' W.heap.size v (t.l.take a ++ t.l.drop b) ∧ Below W.heap.size W w' := by
  have h1 := h.head ha
  have h3 := h.tail hb
  have hp : Pcs W Z [⟨A, c, t.l.take a⟩, ⟨tailA A b c, c - b, t.l.drop b⟩] := by
    refine ⟨fun j hj => ?_, fun p hp => ?_, block_lt kz⟩
    · have hl1 : (t.l.take a).length = a := by rw [List.length_take]; omega
      have hl3 : (t.l.drop b).length = t.l.length - b := List.length_drop
      rw [cell_of_row _ _ _ _ _ _ kz]
      match j, hj with
      | 0, _ => simp [hl1]
      | 1, _ => simp
      | n + 2, hj => exact absurd hj (by simp)
    · simp only [List.mem_cons, List.not_mem_nil, or_false] at hp
      rcases hp with rfl | rfl
      · exact h1
      · exact h3
  have e : joinP [⟨A, c, t.l.take a⟩, ⟨tailA A b c, c - b, t.l.drop b⟩] = t.l.take a ++ t.l.drop b := by simp [joinP]
  have := concat_any Z _ W hp (by simp) (by rw [e]; simp; omega)
  rw [e] at this
  exact this
set_option maxHeartbeats 8000000 in
set_option maxRecDepth 100000 in
theorem drop_any {S : Nat → Prop} {w : World} {B : Nat} {t : Tb Int} (k : ByteArray) (i : Nat) (h : PtAt S w B t) (hi : i < 18446744073709551616) :
    Calls Try.prog 19 #[.pointer (some ⟨B, 0, none⟩), .string k, .int .u64 (i : Int)] w fun e w' => e = .returned (.bool (getR t.l k).isSome) ∧ PtAt (fun k => S k ∨ w.heap.size ≤ k) w' B (t.dropT k i) ∧ But (· = B) w w' := by
  obtain ⟨X, hX⟩ : ∃ X, w.heap.size = X := ⟨_, rfl⟩
  obtain ⟨S2, hS2⟩ : ∃ S2 : Nat → Prop, S2 = fun k => S k ∧ k < X := ⟨_, rfl⟩
  have hn : PtAt S2 w B t := h.narrow fun j hj hs => by rw [hS2]; exact ⟨hs, hX ▸ hj⟩
  have HS2 := Lib.hid hS2
  have HAt := Lib.hid h
  have HMd := Lib.hid (made_yes hn)
  have HF := Lib.hid (find_any k hn)
  have HX := Lib.hid hX
  obtain ⟨hok, A, c, h1⟩ := hn
  have h64 : t.l.length ≤ 64 := Nat.le_trans hok.len hok.most.2
  have hmost := hok.most.1
  have hlst := hok.lst
  have HT := Lib.hid h1
  have HOk := Lib.hid hok
  have HR := Lib.hid hok.rise
  obtain ⟨L, hL⟩ : ∃ L, t.l.length = L := ⟨_, rfl⟩
  rw [hL] at h64
  have HL := Lib.hid hL
  obtain ⟨pl, hpl⟩ : ∃ pl, plc t.l k = pl := ⟨_, rfl⟩
  obtain ⟨hv, hhv⟩ : ∃ hv, hasB t.l k = hv := ⟨_, rfl⟩
  rw [hpl, hhv] at HF
  rw [show (getR t.l k).isSome = hv from hhv]
  have HPl := Lib.hid hpl
  have HHv := Lib.hid hhv
  have HHs : Hid ((getR t.l k).isSome = hv) := Lib.hid hhv
  rw [hX]
  clear h hX hL hok h1 hpl hhv hS2
  go_enter Try.func19, Try.ntmps19
  go_wp2_with fail
  refine HMd.out.mono ?_
  rintro e w' ⟨rfl, rfl⟩
  clear HMd
  go_wp2_with fail
  refine HF.out.mono ?_
  rintro e W0 ⟨rfl, hb0⟩
  have HB0 : Hid (Below X w W0) := Lib.hid (by rw [← HX.out]; exact hb0)
  have hpt := HT.out.below hb0
  clear hb0 HF HT
  cases hv with
  | false =>
    clear hpt
    go_wp2
    go_ret
    have hF := HHs.out
    unfold Tb.dropT
    rw [if_neg (by rw [hF]; simp)]
    refine ⟨rfl, ?_, ?_⟩
    · have := HB0.out
      rw [← HX.out] at this
      exact (HAt.out.below this).narrow fun j _ hs => .inl hs
    · have := HB0.out
      rw [← HX.out] at this
      exact But.of_below this
  | true =>
    have hq := HHv.out
    have hpL : pl < t.l.length := by
      rw [← HPl.out]
      rcases Nat.lt_or_ge (plc t.l k) t.l.length with e | e
      · exact e
      · rw [hasB_end HR.out (by omega)] at hq; cases hq
    have hpL' : pl < L := by rw [← HL.out]; exact hpL
    have hhas : hasR t.l k := by
      have hp := HPl.out
      subst hp
      refine ⟨hpL, ?_⟩
      rw [hasB_at HR.out hpL] at hq
      exact text_same.1 hq
    have HOff : Hid (offR t.l k = t.l.take pl ++ t.l.drop (pl + 1)) := Lib.hid (by
      rw [off_has HR.out hhas, HPl.out, List.eraseIdx_eq_take_drop_succ])
    obtain ⟨pa, hae⟩ : ∃ pa, pl = pa := ⟨_, rfl⟩
    obtain ⟨pb, hbe⟩ : ∃ pb, pl + 1 = pb := ⟨_, rfl⟩
    have HPb : Hid ((pa : Int) + 1 = (pb : Int)) := Lib.hid (by omega)
    have HWr : Hid (IntKind.i64.wrap ((pa : Int) + 1) = (pa : Int) + 1) := Lib.hid (by rw [IntKind.wrap_i64]; omega)
    have hab : pa ≤ L ∧ pb ≤ L ∧ pa ≤ pb := by omega
    rw [hbe, hae] at HOff
    rw [hae]
    have hlt0 := hpt.lt
    obtain ⟨l2, hl2⟩ : ∃ l2, t.l.take pa ++ t.l.drop pb = l2 := ⟨_, rfl⟩
    have HC := Lib.hid (fun W (hw : Below W0.heap.size W0 W) => (show W.cell? ⟨B, 2, none⟩ = some (.slice A L c) by have := (hpt.below hw).c2; rw [HL.out] at this; exact this))
    have HC2 := Lib.hid (fun W (hw : Below W0.heap.size W0 W) => hpt.below hw)
    have HCat := Lib.hid (fun W (hw : Below W0.heap.size W0 W) (Z : Nat) (kz : W.heap[Z]? = some (.cells #[.slice A pa c, .slice (tailA A pb c) (L - pb) (c - pb)] 39 (0, 0))) => (by rw [← HL.out] at kz; have := cat2 (hpt.below hw) (a := pa) (b := pb) (by rw [HL.out]; exact hab.1) (by rw [HL.out]; exact hab.2.1) hab.2.2 (by rw [HL.out]; exact h64) Z kz; rw [hl2] at this; exact this : Calls Try.prog 31 #[.slice (some ⟨Z, 0, none⟩) 2 2] W fun e w' => ∃ v, e = .returned v ∧ twRow w' W.heap.size v l2 ∧ Below W.heap.size W w'))
    have HSz := Lib.hid (show (A = none ∨ ∃ g, A = some ⟨g, 0, none⟩) ∧ pa ≤ c ∧ pb ≤ L ∧ L ≤ c from ⟨hpt.or, by have := hpt.le; rw [HL.out] at this; omega, hab.2.1, by have := hpt.le; rw [HL.out] at this; exact this⟩)
    have HBl : Hid (OldB W0 B) := Lib.hid hlt0
    rw [hl2] at HOff
    clear hpt hlt0 hl2 hab hq hpL hhas hae hbe
    go_wp2_with fail
    refine Go.Rel.wp_region_states (by kernel_rfl) (by kernel_rfl) (by kernel_rfl) (by kernel_rfl) (TI 18 W0 (fun W => ∃ A2 c2, PtIs (fun k => S2 k ∨ W0.heap.size ≤ k) W B A2 c2 { t with l := l2 } ∧ But (· = B) W0 W)) (But (OldB W0)) (fun _ _ _ h k => h.trans k) OldB.drew TI.start (dropR (OldB W0) B W0 A L c pa pb l2) (dropR_stable B W0 A L c pa pb l2) ?hs1 ?he1
    case hs1 =>
      refine (.cons ?_ (.cons ?_ (.cons ?_ (.cons ?_ (.cons ?_ (.cons ?_ (.cons ?_ (.cons ?_ (.cons ?_ (.cons ?_ (.cons ?_ (.cons ?_ (.cons ?_ (.cons ?_ (.cons ?_ (.cons ?_ (.cons ?_ (.cons ?_ (.cons ?_ .nil)))))))))))))))))))
      · intro f a w' hI hf hanc hdesc hle hs' hd K hK
        have f0 : a.tmps[0]? = some (.pointer (some ⟨B, 0, none⟩)) := hs'.2.2 0 (by kernel_rfl)
        unfold Go.Rel.stepOf
        go_simp
        exact hK _ _ (But.refl _ _) (hI.read (j := 0) (by decide)) rfl
      · intro f a w' hI hf hanc hdesc hle hs' hd K hK
        have f0 : a.tmps[0]? = some (.pointer (some ⟨B, 0, none⟩)) := hs'.2.2 0 (by kernel_rfl)
        unfold Go.Rel.stepOf
        go_simp
        exact hK _ _ (But.refl _ _) (hI.read (j := 1) (by decide)) rfl
      · intro f a w' hI hf hanc hdesc hle hs' hd K hK
        obtain ⟨_, t1, rfl⟩ := hd 1 21 (by kernel_rfl)
        unfold Go.Rel.stepOf
        go_simp
        exact hK _ _ (But.refl _ _) (hI.read (j := 2) (by decide)) rfl
      · intro f a w' hI hf hanc hdesc hle hs' hd K hK
        obtain ⟨_, t2, rfl⟩ := hd 2 22 (by kernel_rfl)
        unfold Go.Rel.stepOf
        go_simp
        exact hK _ _ (But.refl _ _) (hI.read (j := 3) (by decide)) rfl
      · intro f a w' hI hf hanc hdesc hle hs' hd K hK
        obtain ⟨_, t3, rfl⟩ := hd 3 23 (by kernel_rfl)
        have zL : f 18 = false := hdesc 60 18 (by kernel_rfl)
        have cc := HC.out w' (hI.ahead zL)
        unfold Go.Rel.stepOf
        go_simp
        exact hK _ _ (But.refl _ _) (hI.read (j := 4) (by decide)) rfl
      · intro f a w' hI hf hanc hdesc hle hs' hd K hK
        have f7 : a.tmps[7]? = some (.int .i64 (pa : Int)) := hs'.2.2 7 (by kernel_rfl)
        unfold Go.Rel.stepOf
        go_simp
        exact hK _ _ (But.refl _ _) (hI.read (j := 5) (by decide)) rfl
      · intro f a w' hI hf hanc hdesc hle hs' hd K hK
        obtain ⟨_, t4, rfl⟩ := hd 4 24 (by kernel_rfl)
        obtain ⟨_, t5, rfl⟩ := hd 5 25 (by kernel_rfl)
        have zL : f 18 = false := hdesc 60 18 (by kernel_rfl)
        refine stepOf_slice 39 (.tmp 24) none (some (.tmp 25)) none rfl rfl (w' := w') (v := .slice A pa c) ?_ (hK _ _ (But.refl _ _) (hI.read (j := 6) (by decide)) rfl)
        simp only [Act.eval, Option.map_some, Option.map_none, t4, t5, Array.getD_eq_getD_getElem?, Option.getD_some]
        exact run_head w' HSz.out.1 HSz.out.2.1
      · intro f a w' hI hf hanc hdesc hle hs' hd K hK
        have f0 : a.tmps[0]? = some (.pointer (some ⟨B, 0, none⟩)) := hs'.2.2 0 (by kernel_rfl)
        unfold Go.Rel.stepOf
        go_simp
        exact hK _ _ (But.refl _ _) (hI.read (j := 7) (by decide)) rfl
      · intro f a w' hI hf hanc hdesc hle hs' hd K hK
        obtain ⟨_, t7, rfl⟩ := hd 7 27 (by kernel_rfl)
        unfold Go.Rel.stepOf
        go_simp
        exact hK _ _ (But.refl _ _) (hI.read (j := 8) (by decide)) rfl
      · intro f a w' hI hf hanc hdesc hle hs' hd K hK
        obtain ⟨_, t8, rfl⟩ := hd 8 28 (by kernel_rfl)
        unfold Go.Rel.stepOf
        go_simp
        exact hK _ _ (But.refl _ _) (hI.read (j := 9) (by decide)) rfl
      · intro f a w' hI hf hanc hdesc hle hs' hd K hK
        obtain ⟨_, t9, rfl⟩ := hd 9 29 (by kernel_rfl)
        have zL : f 18 = false := hdesc 60 18 (by kernel_rfl)
        have cc := HC.out w' (hI.ahead zL)
        unfold Go.Rel.stepOf
        go_simp
        exact hK _ _ (But.refl _ _) (hI.read (j := 10) (by decide)) rfl
      · intro f a w' hI hf hanc hdesc hle hs' hd K hK
        have f7 : a.tmps[7]? = some (.int .i64 (pa : Int)) := hs'.2.2 7 (by kernel_rfl)
        unfold Go.Rel.stepOf
        go_simp
        exact hK _ _ (But.refl _ _) (hI.read (j := 11) (by decide)) rfl
      · intro f a w' hI hf hanc hdesc hle hs' hd K hK
        obtain ⟨_, t11, rfl⟩ := hd 11 31 (by kernel_rfl)
        have hwr := HWr.out
        unfold Go.Rel.stepOf
        go_simp
        exact hK _ _ (But.refl _ _) (hI.read (j := 12) (by decide)) rfl
      · intro f a w' hI hf hanc hdesc hle hs' hd K hK
        obtain ⟨_, t10, rfl⟩ := hd 10 30 (by kernel_rfl)
        obtain ⟨_, t12, rfl⟩ := hd 12 32 (by kernel_rfl)
        have zL : f 18 = false := hdesc 60 18 (by kernel_rfl)
        refine stepOf_slice 39 (.tmp 30) (some (.tmp 32)) none none rfl rfl (w' := w') (v := .slice (tailA A pb c) (L - pb) (c - pb)) ?_ (hK _ _ (But.refl _ _) (hI.read (j := 13) (by decide)) rfl)
        simp only [Act.eval, Option.map_some, Option.map_none, t10, t12, Array.getD_eq_getD_getElem?, Option.getD_some]
        rw [HPb.out]; exact run_tail w' HSz.out.2.2.1 HSz.out.2.2.2
      · intro f a w' hI hf hanc hdesc hle hs' hd K hK
        obtain ⟨_, t6, rfl⟩ := hd 6 26 (by kernel_rfl)
        obtain ⟨_, t13, rfl⟩ := hd 13 33 (by kernel_rfl)
        have zL : f 18 = false := hdesc 60 18 (by kernel_rfl)
        unfold Go.Rel.stepOf
        go_simp
        exact hK _ _ (But.of_below (below1 _ _ _)) (hI.below zL (below1 _ _ _) (by decide)) ⟨_, rfl, (hI.ahead zL).size, heap_alloc_new w' _⟩
      · intro f a w' hI hf hanc hdesc hle hs' hd K hK
        obtain ⟨_, t14, Z14, rfl, g14, k14⟩ := hd 14 34 (by kernel_rfl)
        have zL : f 18 = false := hdesc 60 18 (by kernel_rfl)
        unfold Go.Rel.stepOf
        go_simp
        refine (HCat.out w' (hI.ahead zL) Z14 k14).mono ?_
        rintro e w2 ⟨v2, rfl, hr2, hb2⟩
        exact hK _ _ (But.of_below hb2) (hI.below zL hb2 (by decide)) (bown_base hr2 (hI.ahead zL).size)
      · intro f a w' hI hf hanc hdesc hle hs' hd K hK
        obtain ⟨_, t0, rfl⟩ := hd 0 20 (by kernel_rfl)
        unfold Go.Rel.stepOf
        go_simp
        exact hK _ _ (But.refl _ _) (hI.read (j := 16) (by decide)) rfl
      · intro f a w' hI hf hanc hdesc hle hs' hd K hK
        obtain ⟨_, t16, rfl⟩ := hd 16 36 (by kernel_rfl)
        unfold Go.Rel.stepOf
        go_simp
        exact hK _ _ (But.refl _ _) (hI.read (j := 17) (by decide)) rfl
      · intro f a w' hI hf hanc hdesc hle hs' hd K hK
        obtain ⟨_, t17, rfl⟩ := hd 17 37 (by kernel_rfl)
        obtain ⟨_, t15, h15⟩ := hd 15 35 (by kernel_rfl)
        obtain ⟨A9, c9, e9, hsk9, hl9, hm9, hn9⟩ := SK.of_row trC_len h15
        subst e9
        have hit9 := HC2.out w' (hI.ahead hf)
        have cB := hit9.c2
        have zB := hit9.froz 2
        unfold Go.Rel.stepOf
        go_simp
        exact hK undef _ (But.set w' (p := ⟨B, 2, none⟩) HBl.out (.slice A9 l2.length c9)) (TI.last ⟨A9, c9, (hit9.fresh (fun b off e _ => hn9 b off e) hsk9 hl9 hm9 (SK.row0 h15) (fun b off e _ => by have h1 := hn9 b off e; have h2 := HBl.out; unfold OldB at h2; omega)), (But.of_below (hI.ahead hf)).trans (But.set (S := (· = B)) w' (p := ⟨B, 2, none⟩) rfl (.slice A9 l2.length c9))⟩) trivial
    case he1 =>
      intro f a w1 hall hJ hle hs' hR'
      have HP1 := Lib.hid (hJ.done_ (hall 18 (by decide)))
      clear hJ hall hle
      obtain ⟨v20, s20, _⟩ := hR' 0 20 (by kernel_rfl)
      obtain ⟨v21, s21, _⟩ := hR' 1 21 (by kernel_rfl)
      obtain ⟨v22, s22, _⟩ := hR' 2 22 (by kernel_rfl)
      obtain ⟨v23, s23, _⟩ := hR' 3 23 (by kernel_rfl)
      obtain ⟨v24, s24, _⟩ := hR' 4 24 (by kernel_rfl)
      obtain ⟨v25, s25, _⟩ := hR' 5 25 (by kernel_rfl)
      obtain ⟨v26, s26, _⟩ := hR' 6 26 (by kernel_rfl)
      obtain ⟨v27, s27, _⟩ := hR' 7 27 (by kernel_rfl)
      obtain ⟨v28, s28, _⟩ := hR' 8 28 (by kernel_rfl)
      obtain ⟨v29, s29, _⟩ := hR' 9 29 (by kernel_rfl)
      obtain ⟨v30, s30, _⟩ := hR' 10 30 (by kernel_rfl)
      obtain ⟨v31, s31, _⟩ := hR' 11 31 (by kernel_rfl)
      obtain ⟨v32, s32, _⟩ := hR' 12 32 (by kernel_rfl)
      obtain ⟨v33, s33, _⟩ := hR' 13 33 (by kernel_rfl)
      obtain ⟨v34, s34, _⟩ := hR' 14 34 (by kernel_rfl)
      obtain ⟨v35, s35, _⟩ := hR' 15 35 (by kernel_rfl)
      obtain ⟨v36, s36, _⟩ := hR' 16 36 (by kernel_rfl)
      obtain ⟨v37, s37, _⟩ := hR' 17 37 (by kernel_rfl)
      have e := hs'.shape
      simp only [List.toList_toArray, List.foldl, Go.Rel.reset, Array.getD_eq_getD_getElem?, s20, s21, s22, s23, s24, s25, s26, s27, s28, s29, s30, s31, s32, s33, s34, s35, s36, s37, Option.getD_some] at e
      simp at e
      clear hR' hs' s20 s21 s22 s23 s24 s25 s26 s27 s28 s29 s30 s31 s32 s33 s34 s35 s36 s37
      subst e
      obtain ⟨A3, c3, hp1, hbt⟩ := HP1.out
      have HRs := Lib.hid (raise_is i hp1 hmost hlst hi)
      have HBt := Lib.hid hbt
      clear hp1 hbt HP1 HCat HC HC2 HSz
      go_wp2_with fail
      refine HRs.out.mono ?_
      rintro e w2 ⟨rfl, hp2, hb2⟩
      have HP2 := Lib.hid hp2
      have HBt2 := Lib.hid (HBt.out.trans hb2)
      clear hp2 hb2 HRs
      go_wp2
      go_ret
      have hF := HHs.out
      unfold Tb.dropT
      rw [if_pos hF]
      have hbw : But (· = B) w W0 := But.of_below (by rw [HX.out]; exact HB0.out)
      refine ⟨rfl, ⟨HOk.out.drop k hi, A3, c3, ?_⟩, hbw.trans HBt2.out⟩
      have e : t.drop k i = ({ t with l := l2 } : Tb Int).raise i := by
        unfold Tb.drop Tb.raise
        rw [HOff.out]
      rw [e]
      refine HP2.out.narrow fun j hj hs => ?_
      rcases hs with hs | hs
      · rw [HS2.out] at hs
        exact .inl hs.1
      · refine .inr ?_
        have := HB0.out.size
        have := HX.out
        have := HBt2.out.size
        omega
end Go.Proofs.Ytphjlcogjalidaa
