/-
  A step of the law (layer 15): Drop of both.
-/
import Derived.Test.YtphjlcogjalidaaTbStep
import Derived.Test.YtphjlcogjalidaaRelI
import Derived.Test.YtphjlcogjalidaaRelMore
namespace Go.Proofs.Ytphjlcogjalidaa
open Go.RowKit
set_option linter.unusedSimpArgs false
set_option linter.unusedVariables false
def tbDr (_ : Nat → Prop) (Bp : Nat) (Bd : Nat) (X : Nat) (key : ByteArray) (ix : Nat) (bb : Bool) : Nat → Value → World → Prop
  | 0, v, _ => v = .pointer (some ⟨Bp, 0, none⟩)
  | 1, v, _ => v = .pointer (some ⟨X, 1, none⟩)
  | 2, v, _ => v = .string key
  | 3, v, _ => v = .pointer (some ⟨X, 3, none⟩)
  | 4, v, _ => v = .int .u64 (ix : Int)
  | 5, v, _ => v = .bool bb
  | 6, v, _ => v = .pointer (some ⟨Bd, 0, none⟩)
  | 7, v, _ => v = .pointer (some ⟨X, 1, none⟩)
  | 8, v, _ => v = .string key
  | 9, v, _ => v = .pointer (some ⟨X, 3, none⟩)
  | 10, v, _ => v = .int .u64 (ix : Int)
  | 11, v, _ => v = .bool bb
  | 12, v, _ => v = .bool true
  | 13, v, _ => v = .bool true
  | _, _, _ => True
theorem tbDr_stable (S : Nat → Prop) (Bp : Nat) (Bd : Nat) (X : Nat) (key : ByteArray) (ix : Nat) (bb : Bool) : ∀ i v w w', tbDr S Bp Bd X key ix bb i v w → But S w w' → tbDr S Bp Bd X key ix bb i v w'
  | 0, _, _, _, h, _ | 1, _, _, _, h, _ | 2, _, _, _, h, _ | 3, _, _, _, h, _ | 4, _, _, _, h, _ | 5, _, _, _, h, _ | 6, _, _, _, h, _ | 7, _, _, _, h, _ | 8, _, _, _, h, _ | 9, _, _, _, h, _ | 10, _, _, _, h, _ | 11, _, _, _, h, _ | 12, _, _, _, h, _ | 13, _, _, _, h, _ => h
  | _ + 14, _, _, _, h, _ => h
/-- A slice that reads as M, outside S. -/
def RowsV (S : Nat → Prop) (w : World) (v : Value) (M : List (Rw Int)) : Prop := ∃ A c, v = .slice A M.length c ∧ SK trC 4 w A M.length M ∧ ∀ b off, A = some ⟨b, off, none⟩ → ¬ S b
theorem RowsV.but {S : Nat → Prop} {w w' : World} {v : Value} {M : List (Rw Int)} (h : RowsV S w v M) (hb : But S w w') : RowsV S w' v M := by
  obtain ⟨A, c, e, h1, h2⟩ := h
  exact ⟨A, c, e, h1.but hb fun b off e _ => h2 b off e, h2⟩
def NoB : Nat → Prop := fun _ => False
def tbUn (S : Nat → Prop) (Bp : Nat) (Bd : Nat) (X : Nat) (key : ByteArray) (ix : Nat) (M : List (Rw Int)) : Nat → Value → World → Prop
  | 0, v, _ => v = .pointer (some ⟨Bp, 0, none⟩)
  | 1, v, _ => v = .pointer (some ⟨X, 1, none⟩)
  | 2, v, _ => v = .string key
  | 3, v, w => RowsV S w v M
  | 4, v, _ => v = .pointer (some ⟨Bd, 0, none⟩)
  | 5, v, _ => v = .pointer (some ⟨X, 1, none⟩)
  | 6, v, _ => v = .string key
  | 7, v, w => RowsV S w v M
  | 8, v, _ => v = .bool true
  | 9, v, _ => v = .bool true
  | _, _, _ => True
theorem tbUn_stable (S : Nat → Prop) (Bp : Nat) (Bd : Nat) (X : Nat) (key : ByteArray) (ix : Nat) (M : List (Rw Int)) : ∀ i v w w', tbUn S Bp Bd X key ix M i v w → But S w w' → tbUn S Bp Bd X key ix M i v w'
  | 0, _, _, _, h, _ | 1, _, _, _, h, _ | 2, _, _, _, h, _ | 4, _, _, _, h, _ | 5, _, _, _, h, _ | 6, _, _, _, h, _ | 8, _, _, _, h, _ | 9, _, _, _, h, _ => h
  | 3, _, _, _, h, g => h.but g
  | 7, _, _, _, h, g => h.but g
  | _ + 10, _, _, _, h, _ => h
section
variable {P : (Nat → Prop) → World → Nat → Tb Int → Prop} {O : Nat → Prop} {Bp Bd : Nat} {t : Tb Int}
set_option maxHeartbeats 8000000 in
theorem step_drop (C : Prg P) (s : TSt) (w : World) (h : Both P O w Bp t Bd t) (hs : s.ok) (hk : s.kind = 1) :
    Calls Try.prog 9 #[.pointer (some ⟨Bp, 0, none⟩), .pointer (some ⟨Bd, 0, none⟩), tsV s] w (StepPost P O w Bp Bd (t.dropT s.key s.ix)) := by
  obtain ⟨k, key, v, i⟩ := s
  simp only at hk
  subst hk
  unfold tsV
  simp only
  have hky : key.size ≤ maxLen := hs.key
  have hv : -9223372036854775808 ≤ v ∧ v ≤ 9223372036854775807 := hs.v
  have hi : i < 18446744073709551616 := hs.ix
  obtain ⟨X, hX⟩ : ∃ X, w.heap.size = X := ⟨_, rfl⟩
  obtain ⟨W, hW⟩ : ∃ W, w.alloc (.cells #[.int .i64 1, .string key, .int .i64 v, .int .u64 (i : Int)] TS) = W := ⟨_, rfl⟩
  have hb0 : Below w.heap.size w W := by rw [← hW]; exact below1 _ _ _
  have hs0 : W.heap.size = X + 1 := by rw [← hW, ← hX]; simp
  have k0 : W.heap[X]? = some (.cells #[.int .i64 1, .string key, .int .i64 v, .int .u64 (i : Int)] TS (0, 0)) := by rw [← hW, ← hX]; exact heap_alloc_new w _
  have h1 := h.box C hb0 (X := X) (by omega) (by omega)
  have HC := Lib.hid C
  have HB0 := Lib.hid hb0
  have HS0 := Lib.hid hs0
  have HK0 := Lib.hid k0
  have HW := Lib.hid hW
  have HX := Lib.hid hX
  have H1 := Lib.hid h1
  obtain ⟨d0, d1, d2, d3⟩ := blk4 k0
  obtain ⟨O2, hO2⟩ : ∃ O2 : Nat → Prop, O2 = fun k => O k ∧ k ≠ X := ⟨_, rfl⟩
  have HOX : Hid (¬ O2 X) := Lib.hid (by rw [hO2]; exact fun e => e.2 rfl)
  have HOO : Hid (∀ k, O2 k → O k) := Lib.hid (by rw [hO2]; exact fun k h => h.1)
  have H2 : Hid (Both P O2 W Bp t Bd t) := Lib.hid (by rw [hO2]; exact h1)
  clear hO2
  obtain ⟨bb, hbb⟩ : ∃ bb, (getR t.l key).isSome = bb := ⟨_, rfl⟩
  obtain ⟨t', ht'⟩ : ∃ t', t.dropT key i = t' := ⟨_, rfl⟩
  have HD : Hid (∀ (w' : World) (td : Tb Int), Both P O2 w' Bp t Bd td → Calls Try.prog 19 #[.pointer (some ⟨Bp, 0, none⟩), .string key, .int .u64 (i : Int)] w' fun e w2 => e = .returned (.bool bb) ∧ Both P O2 w2 Bp t' Bd td ∧ But O2 w' w2) := Lib.hid fun w' td h => by rw [← hbb, ← ht']; exact both_drop C key i h hi hky
  have HRd : Hid (∀ (w' : World) (tp : Tb Int), Both P O2 w' Bp tp Bd t → Calls Try.prog 24 #[.pointer (some ⟨Bd, 0, none⟩), .string key, .int .u64 (i : Int)] w' fun e w2 => e = .returned (.bool bb) ∧ Both P O2 w2 Bp tp Bd t' ∧ But O2 w' w2) := Lib.hid fun w' tp h => by rw [← hbb, ← ht']; exact both_rdrop C key i h hi
  rw [ht']
  clear hbb ht'
  clear C h h1 hs hX hW hb0 hs0 k0
  go_enter Try.func9, Try.ntmps9
  go_wp2_with fail
  rw [HW.out, HX.out]
  refine Go.Rel.wp_region_states (by kernel_rfl) (by kernel_rfl) (by kernel_rfl) (by kernel_rfl) (fun f w => Both P O2 w Bp (if f 5 = true then t' else t) Bd (if f 11 = true then t' else t) ∧ w.heap[X]? = some (.cells #[.int .i64 1, .string key, .int .i64 v, .int .u64 (i : Int)] TS (0, 0))) (But O2) (fun _ _ _ h k => h.trans k) ((But.refl _ _).drew) ⟨H2.out.below HC.out ((Below.refl _ _).drew), HK0.out⟩ (tbDr O2 Bp Bd X key i bb) (tbDr_stable O2 Bp Bd X key i bb) ?hsq ?heq
  case hsq =>
    refine (.cons ?_ (.cons ?_ (.cons ?_ (.cons ?_ (.cons ?_ (.cons ?_ (.cons ?_ (.cons ?_ (.cons ?_ (.cons ?_ (.cons ?_ (.cons ?_ (.cons ?_ (.cons ?_ .nil))))))))))))))
    · intro f a w' hI hf hanc hdesc hle hs' hd K hK
      have f0 : a.tmps[0]? = some (.pointer (some ⟨Bp, 0, none⟩)) := hs'.2.2 0 (by kernel_rfl)
      unfold Go.Rel.stepOf
      go_simp
      exact hK _ _ (But.refl _ _) (hI) rfl
    · intro f a w' hI hf hanc hdesc hle hs' hd K hK
      have f5 : a.tmps[5]? = some (.pointer (some ⟨X, 0, none⟩)) := hs'.2.2 5 (by kernel_rfl)
      unfold Go.Rel.stepOf
      go_simp
      exact hK _ _ (But.refl _ _) (hI) rfl
    · intro f a w' hI hf hanc hdesc hle hs' hd K hK
      obtain ⟨_, t1, rfl⟩ := hd 1 51 (by kernel_rfl)
      obtain ⟨f0, f1, f2, f3⟩ := blk4 hI.2
      unfold Go.Rel.stepOf
      go_simp
      exact hK _ _ (But.refl _ _) (hI) rfl
    · intro f a w' hI hf hanc hdesc hle hs' hd K hK
      have f5 : a.tmps[5]? = some (.pointer (some ⟨X, 0, none⟩)) := hs'.2.2 5 (by kernel_rfl)
      unfold Go.Rel.stepOf
      go_simp
      exact hK _ _ (But.refl _ _) (hI) rfl
    · intro f a w' hI hf hanc hdesc hle hs' hd K hK
      obtain ⟨_, t3, rfl⟩ := hd 3 53 (by kernel_rfl)
      obtain ⟨f0, f1, f2, f3⟩ := blk4 hI.2
      unfold Go.Rel.stepOf
      go_simp
      exact hK _ _ (But.refl _ _) (hI) rfl
    · intro f a w' hI hf hanc hdesc hle hs' hd K hK
      obtain ⟨_, t0, rfl⟩ := hd 0 50 (by kernel_rfl)
      obtain ⟨_, t2, rfl⟩ := hd 2 52 (by kernel_rfl)
      obtain ⟨_, t4, rfl⟩ := hd 4 54 (by kernel_rfl)
      have hst := hI.1
      rw [hf] at hst
      unfold Go.Rel.stepOf
      go_simp
      refine (HD.out w' _ hst).mono ?_
      rintro e w2 ⟨rfl, hr5, hb5⟩
      exact hK _ _ (hb5.mono fun k h => h) ⟨hr5, (hb5.block X (block_lt hI.2) HOX.out).trans hI.2⟩ rfl
    · intro f a w' hI hf hanc hdesc hle hs' hd K hK
      have f1 : a.tmps[1]? = some (.pointer (some ⟨Bd, 0, none⟩)) := hs'.2.2 1 (by kernel_rfl)
      unfold Go.Rel.stepOf
      go_simp
      exact hK _ _ (But.refl _ _) (hI) rfl
    · intro f a w' hI hf hanc hdesc hle hs' hd K hK
      have f5 : a.tmps[5]? = some (.pointer (some ⟨X, 0, none⟩)) := hs'.2.2 5 (by kernel_rfl)
      unfold Go.Rel.stepOf
      go_simp
      exact hK _ _ (But.refl _ _) (hI) rfl
    · intro f a w' hI hf hanc hdesc hle hs' hd K hK
      obtain ⟨_, t7, rfl⟩ := hd 7 57 (by kernel_rfl)
      obtain ⟨f0, f1, f2, f3⟩ := blk4 hI.2
      unfold Go.Rel.stepOf
      go_simp
      exact hK _ _ (But.refl _ _) (hI) rfl
    · intro f a w' hI hf hanc hdesc hle hs' hd K hK
      have f5 : a.tmps[5]? = some (.pointer (some ⟨X, 0, none⟩)) := hs'.2.2 5 (by kernel_rfl)
      unfold Go.Rel.stepOf
      go_simp
      exact hK _ _ (But.refl _ _) (hI) rfl
    · intro f a w' hI hf hanc hdesc hle hs' hd K hK
      obtain ⟨_, t9, rfl⟩ := hd 9 59 (by kernel_rfl)
      obtain ⟨f0, f1, f2, f3⟩ := blk4 hI.2
      unfold Go.Rel.stepOf
      go_simp
      exact hK _ _ (But.refl _ _) (hI) rfl
    · intro f a w' hI hf hanc hdesc hle hs' hd K hK
      obtain ⟨_, t6, rfl⟩ := hd 6 56 (by kernel_rfl)
      obtain ⟨_, t8, rfl⟩ := hd 8 58 (by kernel_rfl)
      obtain ⟨_, t10, rfl⟩ := hd 10 60 (by kernel_rfl)
      have hst := hI.1
      rw [hf] at hst
      unfold Go.Rel.stepOf
      go_simp
      refine (HRd.out w' _ hst).mono ?_
      rintro e w2 ⟨rfl, hr5, hb5⟩
      exact hK _ _ (hb5.mono fun k h => h) ⟨hr5, (hb5.block X (block_lt hI.2) HOX.out).trans hI.2⟩ rfl
    · intro f a w' hI hf hanc hdesc hle hs' hd K hK
      obtain ⟨_, t5, rfl⟩ := hd 5 55 (by kernel_rfl)
      obtain ⟨_, t11, rfl⟩ := hd 11 61 (by kernel_rfl)
      unfold Go.Rel.stepOf
      go_simp
      exact hK _ _ (But.refl _ _) (hI) rfl
    · intro f a w' hI hf hanc hdesc hle hs' hd K hK
      obtain ⟨_, t12, rfl⟩ := hd 12 62 (by kernel_rfl)
      unfold Go.Rel.stepOf
      go_simp
      exact hK _ _ (But.refl _ _) (hI) rfl
  case heq =>
    intro f a w4 hall hI hle hs' hR'
    have hf1 := hall 5 (by decide)
    have hf2 := hall 11 (by decide)
    have HI4 : Hid (Both P O w4 Bp t' Bd t') := Lib.hid (by
      have h := hI.1
      simp only [hf1, hf2, if_true] at h
      exact h.wide HOO.out)
    have HB4 : Hid (But O w w4) := Lib.hid ((But.of_below HB0.out).trans (hle.mono HOO.out))
    clear hI hle hall hf1 hf2
    obtain ⟨v50, s50, _⟩ := hR' 0 50 (by kernel_rfl)
    obtain ⟨v51, s51, _⟩ := hR' 1 51 (by kernel_rfl)
    obtain ⟨v52, s52, _⟩ := hR' 2 52 (by kernel_rfl)
    obtain ⟨v53, s53, _⟩ := hR' 3 53 (by kernel_rfl)
    obtain ⟨v54, s54, _⟩ := hR' 4 54 (by kernel_rfl)
    obtain ⟨v55, s55, _⟩ := hR' 5 55 (by kernel_rfl)
    obtain ⟨v56, s56, _⟩ := hR' 6 56 (by kernel_rfl)
    obtain ⟨v57, s57, _⟩ := hR' 7 57 (by kernel_rfl)
    obtain ⟨v58, s58, _⟩ := hR' 8 58 (by kernel_rfl)
    obtain ⟨v59, s59, _⟩ := hR' 9 59 (by kernel_rfl)
    obtain ⟨v60, s60, _⟩ := hR' 10 60 (by kernel_rfl)
    obtain ⟨v61, s61, _⟩ := hR' 11 61 (by kernel_rfl)
    obtain ⟨v62, s62, _⟩ := hR' 12 62 (by kernel_rfl)
    obtain ⟨_, s6, rfl⟩ := hR' 13 6 (by kernel_rfl)
    have e := hs'.shape
    simp only [List.toList_toArray, List.foldl, Go.Rel.reset, Array.getD_eq_getD_getElem?, s50, s51, s52, s53, s54, s55, s56, s57, s58, s59, s60, s61, s62, s6, Option.getD_some] at e
    simp at e
    clear hR' hs' s50 s51 s52 s53 s54 s55 s56 s57 s58 s59 s60 s61 s62 s6
    subst e
    go_wp2
    go_ret
    exact ⟨rfl, HI4.out, HB4.out⟩
set_option maxHeartbeats 8000000 in
theorem step_under (C : Prg P) (s : TSt) (w : World) (h : Both P O w Bp t Bd t) (hs : s.ok) (hk : s.kind = 3) :
    Calls Try.prog 9 #[.pointer (some ⟨Bp, 0, none⟩), .pointer (some ⟨Bd, 0, none⟩), tsV s] w (StepPost P O w Bp Bd t) := by
  obtain ⟨k, key, v, i⟩ := s
  simp only at hk
  subst hk
  unfold tsV
  simp only
  have hky : key.size ≤ maxLen := hs.key
  have hv : -9223372036854775808 ≤ v ∧ v ≤ 9223372036854775807 := hs.v
  have hi : i < 18446744073709551616 := hs.ix
  obtain ⟨X, hX⟩ : ∃ X, w.heap.size = X := ⟨_, rfl⟩
  obtain ⟨W, hW⟩ : ∃ W, w.alloc (.cells #[.int .i64 3, .string key, .int .i64 v, .int .u64 (i : Int)] TS) = W := ⟨_, rfl⟩
  have hb0 : Below w.heap.size w W := by rw [← hW]; exact below1 _ _ _
  have hs0 : W.heap.size = X + 1 := by rw [← hW, ← hX]; simp
  have k0 : W.heap[X]? = some (.cells #[.int .i64 3, .string key, .int .i64 v, .int .u64 (i : Int)] TS (0, 0)) := by rw [← hW, ← hX]; exact heap_alloc_new w _
  have h1 := h.box C hb0 (X := X) (by omega) (by omega)
  have HC := Lib.hid C
  have HB0 := Lib.hid hb0
  have HS0 := Lib.hid hs0
  have HK0 := Lib.hid k0
  have HW := Lib.hid hW
  have HX := Lib.hid hX
  have H1 := Lib.hid h1
  obtain ⟨d0, d1, d2, d3⟩ := blk4 k0
  obtain ⟨O2, hO2⟩ : ∃ O2 : Nat → Prop, O2 = fun k => O k ∧ k ≠ X := ⟨_, rfl⟩
  have HOO : Hid (∀ k, O2 k → O k) := Lib.hid (by rw [hO2]; exact fun k h => h.1)
  have H2 : Hid (Both P O2 W Bp t Bd t) := Lib.hid (by rw [hO2]; exact h1)
  clear hO2
  obtain ⟨M, hM⟩ : ∃ M, undR t.l key = M := ⟨_, rfl⟩
  have HU : Hid (∀ w', Both P O2 w' Bp t Bd t → Calls Try.prog 21 #[.pointer (some ⟨Bp, 0, none⟩), .string key] w' fun e w2 => ∃ v, e = .returned v ∧ RowsV NoB w2 v M ∧ Below w'.heap.size w' w2) := Lib.hid fun w' h => by
    obtain ⟨S, hp⟩ := h.read
    rw [← hM]
    refine (C.under key w' hp hky).mono ?_
    rintro e w2 ⟨A, c, rfl, hs, _, _, _, hb⟩
    exact ⟨_, rfl, ⟨A, c, rfl, hs, fun _ _ _ h => h⟩, hb⟩
  have HUd : Hid (∀ w', Both P O2 w' Bp t Bd t → Calls Try.prog 26 #[.pointer (some ⟨Bd, 0, none⟩), .string key] w' fun e w2 => ∃ v, e = .returned v ∧ RowsV NoB w2 v M ∧ Below w'.heap.size w' w2) := Lib.hid fun w' h => by
    obtain ⟨S, hp⟩ := h.ref
    rw [← hM]
    refine (runderT_any key w' hp hky).mono ?_
    rintro e w2 ⟨v, rfl, hr, hb⟩
    obtain ⟨A, c, e, hs, _⟩ := SK.of_row trC_len hr
    exact ⟨_, rfl, ⟨A, c, e, hs, fun _ _ _ h => h⟩, hb⟩
  have hml : M.length ≤ maxLen := by
    obtain ⟨S, hp⟩ := h.read
    have ho := C.ok hp
    have := und_length t.l key
    have := ho.len
    have := ho.most.2
    rw [← hM]
    unfold maxLen
    omega
  have HSm : Hid (∀ (w' : World) A c A2 c2, SK trC 4 w' A M.length M → SK trC 4 w' A2 M.length M → Calls Try.prog 12 #[.slice A M.length c, .slice A2 M.length c2] w' fun e w2 => e = .returned (.bool true) ∧ Below w'.heap.size w' w2) := Lib.hid fun w' A c A2 c2 h1 h2 => by
    rw [← (sameT_iff M M).2 rfl]
    exact same_any A _ c M A2 _ c2 M w' h1 h2 hml
  clear hM hml
  clear C h h1 hs hX hW hb0 hs0 k0
  go_enter Try.func9, Try.ntmps9
  go_wp2_with fail
  rw [HW.out, HX.out]
  refine Go.Rel.wp_region_states (by kernel_rfl) (by kernel_rfl) (by kernel_rfl) (by kernel_rfl) (fun _ w => Both P O2 w Bp t Bd t ∧ w.heap[X]? = some (.cells #[.int .i64 3, .string key, .int .i64 v, .int .u64 (i : Int)] TS (0, 0))) (But NoB) (fun _ _ _ h k => h.trans k) ((But.refl _ _).drew) ⟨H2.out.below HC.out ((Below.refl _ _).drew), HK0.out⟩ (tbUn NoB Bp Bd X key i M) (tbUn_stable NoB Bp Bd X key i M) ?hsq ?heq
  case hsq =>
    refine (.cons ?_ (.cons ?_ (.cons ?_ (.cons ?_ (.cons ?_ (.cons ?_ (.cons ?_ (.cons ?_ (.cons ?_ (.cons ?_ .nil))))))))))
    · intro f a w' hI hf hanc hdesc hle hs' hd K hK
      have f0 : a.tmps[0]? = some (.pointer (some ⟨Bp, 0, none⟩)) := hs'.2.2 0 (by kernel_rfl)
      unfold Go.Rel.stepOf
      go_simp
      exact hK _ _ (But.refl _ _) (hI) rfl
    · intro f a w' hI hf hanc hdesc hle hs' hd K hK
      have f5 : a.tmps[5]? = some (.pointer (some ⟨X, 0, none⟩)) := hs'.2.2 5 (by kernel_rfl)
      unfold Go.Rel.stepOf
      go_simp
      exact hK _ _ (But.refl _ _) (hI) rfl
    · intro f a w' hI hf hanc hdesc hle hs' hd K hK
      obtain ⟨_, t1, rfl⟩ := hd 1 76 (by kernel_rfl)
      obtain ⟨f0, f1, f2, f3⟩ := blk4 hI.2
      unfold Go.Rel.stepOf
      go_simp
      exact hK _ _ (But.refl _ _) (hI) rfl
    · intro f a w' hI hf hanc hdesc hle hs' hd K hK
      obtain ⟨_, t0, rfl⟩ := hd 0 75 (by kernel_rfl)
      obtain ⟨_, t2, rfl⟩ := hd 2 77 (by kernel_rfl)
      unfold Go.Rel.stepOf
      go_simp
      refine (HU.out w' hI.1).mono ?_
      rintro e w2 ⟨v, rfl, hv5, hb5⟩
      exact hK _ _ (But.of_below hb5) ⟨hI.1.below HC.out hb5, (hb5.block X (block_lt hI.2)).trans hI.2⟩ hv5
    · intro f a w' hI hf hanc hdesc hle hs' hd K hK
      have f1 : a.tmps[1]? = some (.pointer (some ⟨Bd, 0, none⟩)) := hs'.2.2 1 (by kernel_rfl)
      unfold Go.Rel.stepOf
      go_simp
      exact hK _ _ (But.refl _ _) (hI) rfl
    · intro f a w' hI hf hanc hdesc hle hs' hd K hK
      have f5 : a.tmps[5]? = some (.pointer (some ⟨X, 0, none⟩)) := hs'.2.2 5 (by kernel_rfl)
      unfold Go.Rel.stepOf
      go_simp
      exact hK _ _ (But.refl _ _) (hI) rfl
    · intro f a w' hI hf hanc hdesc hle hs' hd K hK
      obtain ⟨_, t5, rfl⟩ := hd 5 80 (by kernel_rfl)
      obtain ⟨f0, f1, f2, f3⟩ := blk4 hI.2
      unfold Go.Rel.stepOf
      go_simp
      exact hK _ _ (But.refl _ _) (hI) rfl
    · intro f a w' hI hf hanc hdesc hle hs' hd K hK
      obtain ⟨_, t4, rfl⟩ := hd 4 79 (by kernel_rfl)
      obtain ⟨_, t6, rfl⟩ := hd 6 81 (by kernel_rfl)
      unfold Go.Rel.stepOf
      go_simp
      refine (HUd.out w' hI.1).mono ?_
      rintro e w2 ⟨v, rfl, hv5, hb5⟩
      exact hK _ _ (But.of_below hb5) ⟨hI.1.below HC.out hb5, (hb5.block X (block_lt hI.2)).trans hI.2⟩ hv5
    · intro f a w' hI hf hanc hdesc hle hs' hd K hK
      obtain ⟨_, t3, A3, c3, rfl, k3, n3⟩ := hd 3 78 (by kernel_rfl)
      obtain ⟨_, t7, A7, c7, rfl, k7, n7⟩ := hd 7 82 (by kernel_rfl)
      unfold Go.Rel.stepOf
      go_simp
      refine (HSm.out w' A3 c3 A7 c7 k3 k7).mono ?_
      rintro e w2 ⟨rfl, hb5⟩
      exact hK _ _ (But.of_below hb5) ⟨hI.1.below HC.out hb5, (hb5.block X (block_lt hI.2)).trans hI.2⟩ rfl
    · intro f a w' hI hf hanc hdesc hle hs' hd K hK
      obtain ⟨_, t8, rfl⟩ := hd 8 83 (by kernel_rfl)
      unfold Go.Rel.stepOf
      go_simp
      exact hK _ _ (But.refl _ _) (hI) rfl
  case heq =>
    intro f a w4 hall hI hle hs' hR'
    have HI4 := Lib.hid (hI.1.wide HOO.out)
    have HB4 : Hid (But O w w4) := Lib.hid ((But.of_below HB0.out).trans (hle.mono fun k (h : NoB k) => h.elim))
    clear hI hle hall
    obtain ⟨v75, s75, _⟩ := hR' 0 75 (by kernel_rfl)
    obtain ⟨v76, s76, _⟩ := hR' 1 76 (by kernel_rfl)
    obtain ⟨v77, s77, _⟩ := hR' 2 77 (by kernel_rfl)
    obtain ⟨v78, s78, _⟩ := hR' 3 78 (by kernel_rfl)
    obtain ⟨v79, s79, _⟩ := hR' 4 79 (by kernel_rfl)
    obtain ⟨v80, s80, _⟩ := hR' 5 80 (by kernel_rfl)
    obtain ⟨v81, s81, _⟩ := hR' 6 81 (by kernel_rfl)
    obtain ⟨v82, s82, _⟩ := hR' 7 82 (by kernel_rfl)
    obtain ⟨v83, s83, _⟩ := hR' 8 83 (by kernel_rfl)
    obtain ⟨_, s6, rfl⟩ := hR' 9 6 (by kernel_rfl)
    have e := hs'.shape
    simp only [List.toList_toArray, List.foldl, Go.Rel.reset, Array.getD_eq_getD_getElem?, s75, s76, s77, s78, s79, s80, s81, s82, s83, s6, Option.getD_some] at e
    simp at e
    clear hR' hs' s75 s76 s77 s78 s79 s80 s81 s82 s83 s6
    subst e
    go_wp2
    go_ret
    exact ⟨rfl, HI4.out, HB4.out⟩
end
end Go.Proofs.Ytphjlcogjalidaa
