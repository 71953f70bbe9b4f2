/-
  A step of the law (layer 15): a copy goes its own way.
-/
import Derived.Test.YtphjlcogjalidaaTbStep
import Derived.Test.YtphjlcogjalidaaRelI
import Derived.Test.YtphjlcogjalidaaRelMore
import Derived.Test.YtphjlcogjalidaaTbStepC
import Derived.Test.YtphjlcogjalidaaTbTrio
namespace Go.Proofs.Ytphjlcogjalidaa
open Go.RowKit
set_option linter.unusedSimpArgs false
set_option linter.unusedVariables false
def tbCo (S : Nat → Prop) (Bp : Nat) (Bd : Nat) (X : Nat) (Bc : Nat) (M : List (Rw Int)) (lst : Nat) : Nat → Value → World → Prop
  | 0, v, _ => v = .pointer (some ⟨Bc, 0, none⟩)
  | 1, v, w => RowsV S w v M
  | 2, v, _ => v = .pointer (some ⟨Bd, 0, none⟩)
  | 3, v, _ => v = .pointer (some ⟨Bd, 0, none⟩)
  | 4, v, _ => v = .pointer (some ⟨Bd, 1, none⟩)
  | 5, v, w => RowsV S w v M
  | 6, v, _ => v = .bool true
  | 7, v, _ => v = .bool false
  | 8, v, _ => v = .bool false
  | 9, v, _ => v = .pointer (some ⟨Bc, 0, none⟩)
  | 10, v, _ => v = .int .u64 (lst : Int)
  | 11, v, _ => v = .pointer (some ⟨Bd, 0, none⟩)
  | 12, v, _ => v = .pointer (some ⟨Bd, 0, none⟩)
  | 13, v, _ => v = .pointer (some ⟨Bd, 2, none⟩)
  | 14, v, _ => v = .int .u64 (lst : Int)
  | 15, v, _ => v = .bool false
  | 16, v, _ => v = .bool false
  | _, _, _ => True
theorem tbCo_stable (S : Nat → Prop) (Bp : Nat) (Bd : Nat) (X : Nat) (Bc : Nat) (M : List (Rw Int)) (lst : Nat) : ∀ i v w w', tbCo S Bp Bd X Bc M lst i v w → But S w w' → tbCo S Bp Bd X Bc M lst i v w'
  | 0, _, _, _, h, _ | 2, _, _, _, h, _ | 3, _, _, _, h, _ | 4, _, _, _, h, _ | 6, _, _, _, h, _ | 7, _, _, _, h, _ | 8, _, _, _, h, _ | 9, _, _, _, h, _ | 10, _, _, _, h, _ | 11, _, _, _, h, _ | 12, _, _, _, h, _ | 13, _, _, _, h, _ | 14, _, _, _, h, _ | 15, _, _, _, h, _ | 16, _, _, _, h, _ => h
  | 1, _, _, _, h, g => h.but g
  | 5, _, _, _, h, g => h.but g
  | _ + 17, _, _, _, h, _ => h
section
variable {P : (Nat → Prop) → World → Nat → Tb Int → Prop} {O : Nat → Prop} {Bp Bd : Nat} {t : Tb Int}
set_option maxHeartbeats 8000000 in
theorem step_copy (C : Prg P) (s : TSt) (w : World) (h : Both P O w Bp t Bd t) (hs : s.ok) (hk : s.kind = 4) :
    Calls Try.prog 9 #[.pointer (some ⟨Bp, 0, none⟩), .pointer (some ⟨Bd, 0, none⟩), tsV s] w (StepPost P O w Bp Bd t) := by
  obtain ⟨k, key, v, i⟩ := s
  simp only at hk
  subst hk
  unfold tsV
  simp only
  have hky : key.size ≤ maxLen := hs.key
  have hv : -9223372036854775808 ≤ v ∧ v ≤ 9223372036854775807 := hs.v
  have hi : i < 18446744073709551616 := hs.ix
  obtain ⟨X, hX⟩ : ∃ X, w.heap.size = X := ⟨_, rfl⟩
  obtain ⟨W, hW⟩ : ∃ W, w.alloc (.cells #[.int .i64 4, .string key, .int .i64 v, .int .u64 (i : Int)] TS) = W := ⟨_, rfl⟩
  have hb0 : Below w.heap.size w W := by rw [← hW]; exact below1 _ _ _
  have hs0 : W.heap.size = X + 1 := by rw [← hW, ← hX]; simp
  have k0 : W.heap[X]? = some (.cells #[.int .i64 4, .string key, .int .i64 v, .int .u64 (i : Int)] TS (0, 0)) := by rw [← hW, ← hX]; exact heap_alloc_new w _
  have h1 := h.box C hb0 (X := X) (by omega) (by omega)
  have HC := Lib.hid C
  have HB0 := Lib.hid hb0
  have HS0 := Lib.hid hs0
  have HK0 := Lib.hid k0
  have HW := Lib.hid hW
  have HX := Lib.hid hX
  have H1 := Lib.hid h1
  obtain ⟨d0, d1, d2, d3⟩ := blk4 k0
  obtain ⟨O2, hO2⟩ : ∃ O2 : Nat → Prop, O2 = fun k => O k ∧ k ≠ X := ⟨_, rfl⟩
  have HOX : Hid (¬ O2 X) := Lib.hid (by rw [hO2]; exact fun e => e.2 rfl)
  have HOO : Hid (∀ k, O2 k → O k) := Lib.hid (by rw [hO2]; exact fun k h => h.1)
  have H2 : Hid (Both P O2 W Bp t Bd t) := Lib.hid (by rw [hO2]; exact h1)
  clear hO2
  obtain ⟨M, hM⟩ : ∃ M, t.l = M := ⟨_, rfl⟩
  obtain ⟨lst, hlst⟩ : ∃ n, t.last = n := ⟨_, rfl⟩
  have HMl := Lib.hid hM
  have HLst := Lib.hid hlst
  have HCp := Lib.hid (both_copy C H2.out)
  have HLi : Hid (∀ w' {Bc}, Trio P O2 w' Bp t Bd t Bc t → Calls Try.prog 15 #[.pointer (some ⟨Bc, 0, none⟩)] w' fun e w2 => ∃ v, e = .returned v ∧ RowsV NoB w2 v M ∧ Below w'.heap.size w' w2) := Lib.hid fun w' Bc h => by
    obtain ⟨S, hp⟩ := h.third
    rw [← hM]
    refine (C.list w' hp).mono ?_
    rintro e w2 ⟨A, c, rfl, hs, _, _, _, hb⟩
    exact ⟨_, rfl, ⟨A, c, rfl, hs, fun _ _ _ h => h⟩, hb⟩
  have HLa : Hid (∀ w' {Bc}, Trio P O2 w' Bp t Bd t Bc t → Calls Try.prog 13 #[.pointer (some ⟨Bc, 0, none⟩)] w' fun e w2 => e = .returned (.int .u64 (lst : Int)) ∧ Below w'.heap.size w' w2) := Lib.hid fun w' Bc h => by
    obtain ⟨S, hp⟩ := h.third
    rw [← hlst]
    exact C.last w' hp
  have hml : M.length ≤ maxLen := by
    obtain ⟨S, hp⟩ := h.read
    have ho := C.ok hp
    have := ho.len
    have := ho.most.2
    rw [← hM]
    unfold maxLen
    omega
  have HSm : Hid (∀ (w' : World) A c A2 c2, SK trC 4 w' A M.length M → SK trC 4 w' A2 M.length M → Calls Try.prog 12 #[.slice A M.length c, .slice A2 M.length c2] w' fun e w2 => e = .returned (.bool true) ∧ Below w'.heap.size w' w2) := Lib.hid fun w' A c A2 c2 h1 h2 => by
    rw [← (sameT_iff M M).2 rfl]
    exact same_any A _ c M A2 _ c2 M w' h1 h2 hml
  clear hM hml hlst
  clear C h h1 hs hX hW hb0 hs0 k0
  go_enter Try.func9, Try.ntmps9
  go_wp2_with fail
  rw [HW.out, HX.out]
  go_wp2_with fail
  refine HCp.out.mono ?_
  rintro e w1 ⟨Bc, rfl, ht1, hb1⟩
  have k1 := (hb1.block X (by have := HS0.out; omega)).trans HK0.out
  have HT1 := Lib.hid ht1
  have HB1 := Lib.hid (hb1.mono (Nat.le_refl _))
  have HK1 := Lib.hid k1
  clear ht1 hb1 k1 HCp d0 d1 d2 d3
  go_wp2_with fail
  refine Go.Rel.wp_region_states (by kernel_rfl) (by kernel_rfl) (by kernel_rfl) (by kernel_rfl) (fun _ w => Trio P O2 w Bp t Bd t Bc t ∧ w.heap[X]? = some (.cells #[.int .i64 4, .string key, .int .i64 v, .int .u64 (i : Int)] TS (0, 0))) (But NoB) (fun _ _ _ h k => h.trans k) ((But.refl _ _).drew) ⟨HT1.out.below HC.out ((Below.refl _ _).drew), HK1.out⟩ (tbCo NoB Bp Bd X Bc M lst) (tbCo_stable NoB Bp Bd X Bc M lst) ?hsq ?heq
  case hsq =>
    refine (.cons ?_ (.cons ?_ (.cons ?_ (.cons ?_ (.cons ?_ (.cons ?_ (.cons ?_ (.cons ?_ (.cons ?_ (.cons ?_ (.cons ?_ (.cons ?_ (.cons ?_ (.cons ?_ (.cons ?_ (.cons ?_ (.cons ?_ .nil)))))))))))))))))
    · intro f a w' hI hf hanc hdesc hle hs' hd K hK
      have f11 : a.tmps[11]? = some (.pointer (some ⟨Bc, 0, none⟩)) := hs'.2.2 11 (by kernel_rfl)
      unfold Go.Rel.stepOf
      go_simp
      exact hK _ _ (But.refl _ _) (hI) rfl
    · intro f a w' hI hf hanc hdesc hle hs' hd K hK
      obtain ⟨_, t0, rfl⟩ := hd 0 88 (by kernel_rfl)
      unfold Go.Rel.stepOf
      go_simp
      refine (HLi.out w' hI.1).mono ?_
      rintro e w2 ⟨v, rfl, hv5, hb5⟩
      exact hK _ _ (But.of_below hb5) ⟨hI.1.below HC.out hb5, (hb5.block X (block_lt hI.2)).trans hI.2⟩ hv5
    · intro f a w' hI hf hanc hdesc hle hs' hd K hK
      have f1 : a.tmps[1]? = some (.pointer (some ⟨Bd, 0, none⟩)) := hs'.2.2 1 (by kernel_rfl)
      unfold Go.Rel.stepOf
      go_simp
      exact hK _ _ (But.refl _ _) (hI) rfl
    · intro f a w' hI hf hanc hdesc hle hs' hd K hK
      obtain ⟨_, t2, rfl⟩ := hd 2 90 (by kernel_rfl)
      unfold Go.Rel.stepOf
      go_simp
      exact hK _ _ (But.refl _ _) (hI) rfl
    · intro f a w' hI hf hanc hdesc hle hs' hd K hK
      obtain ⟨_, t3, rfl⟩ := hd 3 91 (by kernel_rfl)
      unfold Go.Rel.stepOf
      go_simp
      exact hK _ _ (But.refl _ _) (hI) rfl
    · intro f a w' hI hf hanc hdesc hle hs' hd K hK
      obtain ⟨_, t4, rfl⟩ := hd 4 92 (by kernel_rfl)
      obtain ⟨Sd, hok, A9, c9, hri⟩ := hI.1.both.ref
      have c2 := hri.c2
      rw [HLst.out] at c2
      obtain ⟨Sd, hok, A9, c9, hri⟩ := hI.1.both.ref
      have c1 := hri.c1
      have hrw := hri.row
      rw [HMl.out] at c1 hrw
      unfold Go.Rel.stepOf
      go_simp
      exact hK _ _ (But.refl _ _) hI ⟨_, _, rfl, hrw, fun _ _ _ h => h⟩
    · intro f a w' hI hf hanc hdesc hle hs' hd K hK
      obtain ⟨_, t1, A1, c1, rfl, k1, n1⟩ := hd 1 89 (by kernel_rfl)
      obtain ⟨_, t5, A5, c5, rfl, k5, n5⟩ := hd 5 93 (by kernel_rfl)
      unfold Go.Rel.stepOf
      go_simp
      refine (HSm.out w' A1 c1 A5 c5 k1 k5).mono ?_
      rintro e w2 ⟨rfl, hb5⟩
      exact hK _ _ (But.of_below hb5) ⟨hI.1.below HC.out hb5, (hb5.block X (block_lt hI.2)).trans hI.2⟩ rfl
    · intro f a w' hI hf hanc hdesc hle hs' hd K hK
      obtain ⟨_, t6, rfl⟩ := hd 6 94 (by kernel_rfl)
      unfold Go.Rel.stepOf
      go_simp
      exact hK _ _ (But.refl _ _) (hI) rfl
    · intro f a w' hI hf hanc hdesc hle hs' hd K hK
      obtain ⟨_, t7, rfl⟩ := hd 7 95 (by kernel_rfl)
      unfold Go.Rel.stepOf
      go_simp
      exact hK _ _ (But.refl _ _) (hI) rfl
    · intro f a w' hI hf hanc hdesc hle hs' hd K hK
      obtain ⟨_, tg, rfl⟩ := hd 8 96 (by kernel_rfl)
      have f11 : a.tmps[11]? = some (.pointer (some ⟨Bc, 0, none⟩)) := hs'.2.2 11 (by kernel_rfl)
      unfold Go.Rel.stepOf
      go_simp
      exact hK _ _ (But.refl _ _) (hI) rfl
    · intro f a w' hI hf hanc hdesc hle hs' hd K hK
      obtain ⟨_, tg, rfl⟩ := hd 8 96 (by kernel_rfl)
      obtain ⟨_, t9, rfl⟩ := hd 9 97 (by kernel_rfl)
      unfold Go.Rel.stepOf
      go_simp
      refine (HLa.out w' hI.1).mono ?_
      rintro e w2 ⟨rfl, hb5⟩
      exact hK _ _ (But.of_below hb5) ⟨hI.1.below HC.out hb5, (hb5.block X (block_lt hI.2)).trans hI.2⟩ rfl
    · intro f a w' hI hf hanc hdesc hle hs' hd K hK
      obtain ⟨_, tg, rfl⟩ := hd 8 96 (by kernel_rfl)
      have f1 : a.tmps[1]? = some (.pointer (some ⟨Bd, 0, none⟩)) := hs'.2.2 1 (by kernel_rfl)
      unfold Go.Rel.stepOf
      go_simp
      exact hK _ _ (But.refl _ _) (hI) rfl
    · intro f a w' hI hf hanc hdesc hle hs' hd K hK
      obtain ⟨_, tg, rfl⟩ := hd 8 96 (by kernel_rfl)
      obtain ⟨_, t11, rfl⟩ := hd 11 99 (by kernel_rfl)
      unfold Go.Rel.stepOf
      go_simp
      exact hK _ _ (But.refl _ _) (hI) rfl
    · intro f a w' hI hf hanc hdesc hle hs' hd K hK
      obtain ⟨_, tg, rfl⟩ := hd 8 96 (by kernel_rfl)
      obtain ⟨_, t12, rfl⟩ := hd 12 100 (by kernel_rfl)
      unfold Go.Rel.stepOf
      go_simp
      exact hK _ _ (But.refl _ _) (hI) rfl
    · intro f a w' hI hf hanc hdesc hle hs' hd K hK
      obtain ⟨_, tg, rfl⟩ := hd 8 96 (by kernel_rfl)
      obtain ⟨_, t13, rfl⟩ := hd 13 101 (by kernel_rfl)
      obtain ⟨Sd, hok, A9, c9, hri⟩ := hI.1.both.ref
      have c2 := hri.c2
      rw [HLst.out] at c2
      unfold Go.Rel.stepOf
      go_simp
      exact hK _ _ (But.refl _ _) (hI) rfl
    · intro f a w' hI hf hanc hdesc hle hs' hd K hK
      obtain ⟨_, tg, rfl⟩ := hd 8 96 (by kernel_rfl)
      obtain ⟨_, t10, rfl⟩ := hd 10 98 (by kernel_rfl)
      obtain ⟨_, t14, rfl⟩ := hd 14 102 (by kernel_rfl)
      unfold Go.Rel.stepOf
      go_simp
      exact hK _ _ (But.refl _ _) (hI) rfl
    · intro f a w' hI hf hanc hdesc hle hs' hd K hK
      obtain ⟨_, t8, rfl⟩ := hd 8 96 (by kernel_rfl)
      obtain ⟨_, t15, rfl⟩ := hd 15 103 (by kernel_rfl)
      unfold Go.Rel.stepOf
      go_simp
      exact hK _ _ (But.refl _ _) (hI) rfl
  case heq =>
    intro f a w4 hall hI hle hs' hR'
    have HT4 := Lib.hid hI.1
    have HK4 := Lib.hid hI.2
    have HB4 : Hid (But O w w4) := Lib.hid ((But.of_below (HB0.out.trans (HB1.out.mono HB0.out.size))).trans (hle.mono fun k (h : NoB k) => h.elim))
    clear hI hle hall
    obtain ⟨v88, s88, _⟩ := hR' 0 88 (by kernel_rfl)
    obtain ⟨v89, s89, _⟩ := hR' 1 89 (by kernel_rfl)
    obtain ⟨v90, s90, _⟩ := hR' 2 90 (by kernel_rfl)
    obtain ⟨v91, s91, _⟩ := hR' 3 91 (by kernel_rfl)
    obtain ⟨v92, s92, _⟩ := hR' 4 92 (by kernel_rfl)
    obtain ⟨v93, s93, _⟩ := hR' 5 93 (by kernel_rfl)
    obtain ⟨v94, s94, _⟩ := hR' 6 94 (by kernel_rfl)
    obtain ⟨v95, s95, _⟩ := hR' 7 95 (by kernel_rfl)
    obtain ⟨v96, s96, _⟩ := hR' 8 96 (by kernel_rfl)
    obtain ⟨v97, s97, _⟩ := hR' 9 97 (by kernel_rfl)
    obtain ⟨v98, s98, _⟩ := hR' 10 98 (by kernel_rfl)
    obtain ⟨v99, s99, _⟩ := hR' 11 99 (by kernel_rfl)
    obtain ⟨v100, s100, _⟩ := hR' 12 100 (by kernel_rfl)
    obtain ⟨v101, s101, _⟩ := hR' 13 101 (by kernel_rfl)
    obtain ⟨v102, s102, _⟩ := hR' 14 102 (by kernel_rfl)
    obtain ⟨v103, s103, _⟩ := hR' 15 103 (by kernel_rfl)
    obtain ⟨_, s104, rfl⟩ := hR' 16 104 (by kernel_rfl)
    have e := hs'.shape
    simp only [List.toList_toArray, List.foldl, Go.Rel.reset, Array.getD_eq_getD_getElem?, s88, s89, s90, s91, s92, s93, s94, s95, s96, s97, s98, s99, s100, s101, s102, s103, s104, Option.getD_some] at e
    simp at e
    clear hR' hs' s88 s89 s90 s91 s92 s93 s94 s95 s96 s97 s98 s99 s100 s101 s102 s103 s104
    subst e
    obtain ⟨f0, f1, f2, f3⟩ := blk4 HK4.out
    obtain ⟨pr, pn, hp⟩ := putV_form t key (wrap64 (v + 1)) i
    have HP := Lib.hid (trio_put HC.out key (wrap64 (v + 1)) i HT4.out hi hky)
    rw [hp] at HP
    clear hp
    go_wp2_with fail
    refine HP.out.mono ?_
    rintro e w5 ⟨rfl, ht5, hb5⟩
    have k5 := (hb5.block X (block_lt HK4.out) HOX.out).trans HK4.out
    have HP2 := Lib.hid (trio_drop HC.out key i ht5 hi hky)
    have HB5 := Lib.hid (HB4.out.trans (hb5.mono HOO.out))
    have HK5 := Lib.hid k5
    clear HP ht5 hb5 k5 f0 f1 f2 f3
    obtain ⟨f0, f1, f2, f3⟩ := blk4 HK5.out
    go_wp2_with fail
    refine HP2.out.mono ?_
    rintro e w6 ⟨rfl, ht6, hb6⟩
    have HP3 : Hid (Calls Try.prog 20 #[.pointer (some ⟨Bc, 0, none⟩), .int .u64 18446744073709551615] w6 fun e w' => e = .returned (.tuple #[]) ∧ Trio P O2 w' Bp t Bd t Bc _ ∧ But O2 w6 w') := Lib.hid (trio_raise HC.out 18446744073709551615 ht6 (by decide))
    have HB6 := Lib.hid (HB5.out.trans (hb6.mono HOO.out))
    clear HP2 ht6 hb6 f0 f1 f2 f3
    go_wp2_with fail
    refine HP3.out.mono ?_
    rintro e w7 ⟨rfl, ht7, hb7⟩
    have HB7 := Lib.hid (HB6.out.trans (hb7.mono HOO.out))
    have HT7 := Lib.hid (ht7.both.wide HOO.out)
    clear HP3 ht7 hb7
    go_wp2
    go_ret
    exact ⟨rfl, HT7.out, HB7.out⟩
end
end Go.Proofs.Ytphjlcogjalidaa
