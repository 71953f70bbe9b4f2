/-
  Any number, text, flag and list has the document's bytes, behind whatever stands there: the law sodalitylaw04.FieldLays over the contracts.
-/
import Derived.Test.YtgjgndpeopiifaaDRefB
namespace Go.Proofs.Ytgjgndpeopiifaa
open Go.RowKit
set_option linter.unusedSimpArgs false

def laysR (A : Option Addr) (n : Nat) (c : Nat) (N : Nat) (bx : Nat) (st : ByteArray) (is : Bool) (X : List UInt8) (C1 : List UInt8) (E1 : List UInt8) (C2 : List UInt8) (E2 : List UInt8) (C3 : List UInt8) (E3 : List UInt8) : Nat → Value → World → Prop
  | 0, v, _ => v = .slice A n c
  | 1, v, _ => v = .int .u64 (N : Int)
  | 2, v, w => ∃ A c, v = .slice A C1.length c ∧ RB w A C1.length C1
  | 3, v, _ => v = .string ⟨C1.toArray⟩
  | 4, v, _ => v = .string ⟨X.toArray⟩
  | 5, v, _ => v = .int .u64 (N : Int)
  | 6, v, w => ∃ A c, v = .slice A E1.length c ∧ RB w A E1.length E1
  | 7, v, _ => v = .string ⟨E1.toArray⟩
  | 8, v, _ => v = .string ⟨C1.toArray⟩
  | 9, v, _ => v = .bool false
  | 10, v, _ => v = .bool false
  | 11, v, _ => v = .slice A n c
  | 12, v, _ => v = .pointer (some ⟨bx, 0, none⟩)
  | 13, v, _ => v = .string st
  | 14, v, w => ∃ A c, v = .slice A C2.length c ∧ RB w A C2.length C2
  | 15, v, _ => v = .string ⟨C2.toArray⟩
  | 16, v, _ => v = .string ⟨X.toArray⟩
  | 17, v, _ => v = .pointer (some ⟨bx, 0, none⟩)
  | 18, v, _ => v = .string st
  | 19, v, w => ∃ A c, v = .slice A E2.length c ∧ RB w A E2.length E2
  | 20, v, _ => v = .string ⟨E2.toArray⟩
  | 21, v, _ => v = .string ⟨C2.toArray⟩
  | 22, v, _ => v = .bool false
  | 23, v, _ => v = .bool false
  | 24, v, _ => v = .bool false
  | 25, v, _ => v = .slice A n c
  | 26, v, _ => v = .pointer (some ⟨bx, 1, none⟩)
  | 27, v, _ => v = .bool is
  | 28, v, w => ∃ A c, v = .slice A C3.length c ∧ RB w A C3.length C3
  | 29, v, _ => v = .string ⟨C3.toArray⟩
  | 30, v, _ => v = .string ⟨X.toArray⟩
  | 31, v, _ => v = .pointer (some ⟨bx, 1, none⟩)
  | 32, v, _ => v = .bool is
  | 33, v, w => ∃ A c, v = .slice A E3.length c ∧ RB w A E3.length E3
  | 34, v, _ => v = .string ⟨E3.toArray⟩
  | 35, v, _ => v = .string ⟨C3.toArray⟩
  | 36, v, _ => v = .bool false
  | 37, v, _ => v = .bool false
  | _, _, _ => True
theorem laysR_stable (A : Option Addr) (n : Nat) (c : Nat) (N : Nat) (bx : Nat) (st : ByteArray) (is : Bool) (X : List UInt8) (C1 : List UInt8) (E1 : List UInt8) (C2 : List UInt8) (E2 : List UInt8) (C3 : List UInt8) (E3 : List UInt8) : ∀ i v w w', laysR A n c N bx st is X C1 E1 C2 E2 C3 E3 i v w → Go.Rel.Grew w w' → laysR A n c N bx st is X C1 E1 C2 E2 C3 E3 i v w'
  | 0, _, _, _, h, _ | 1, _, _, _, h, _ | 3, _, _, _, h, _ | 4, _, _, _, h, _ | 5, _, _, _, h, _ | 7, _, _, _, h, _ | 8, _, _, _, h, _ | 9, _, _, _, h, _ | 10, _, _, _, h, _ | 11, _, _, _, h, _ | 12, _, _, _, h, _ | 13, _, _, _, h, _ | 15, _, _, _, h, _ | 16, _, _, _, h, _ | 17, _, _, _, h, _ | 18, _, _, _, h, _ | 20, _, _, _, h, _ | 21, _, _, _, h, _ | 22, _, _, _, h, _ | 23, _, _, _, h, _ | 24, _, _, _, h, _ | 25, _, _, _, h, _ | 26, _, _, _, h, _ | 27, _, _, _, h, _ | 29, _, _, _, h, _ | 30, _, _, _, h, _ | 31, _, _, _, h, _ | 32, _, _, _, h, _ | 34, _, _, _, h, _ | 35, _, _, _, h, _ | 36, _, _, _, h, _ | 37, _, _, _, h, _ => h
  | 2, _, _, _, ⟨A, c, e, h⟩, g | 6, _, _, _, ⟨A, c, e, h⟩, g | 14, _, _, _, ⟨A, c, e, h⟩, g | 19, _, _, _, ⟨A, c, e, h⟩, g | 28, _, _, _, ⟨A, c, e, h⟩, g | 33, _, _, _, ⟨A, c, e, h⟩, g => ⟨A, c, e, h.below g⟩
  | _ + 38, _, _, _, h, _ => h
def laysR2 (A : Option Addr) (n : Nat) (c : Nat) (bx : Nat) (B1 : Option Addr) (n1 : Nat) (c1 : Nat) (D2 : Option Addr) (n2 : Nat) (c2 : Nat) (X : List UInt8) (C1 : List UInt8) (E1 : List UInt8) (C2 : List UInt8) (E2 : List UInt8) : Nat → Value → World → Prop
  | 0, v, _ => v = .slice A n c
  | 1, v, _ => v = .pointer (some ⟨bx, 2, none⟩)
  | 2, v, _ => v = .slice B1 n1 c1
  | 3, v, w => ∃ A c, v = .slice A C1.length c ∧ RB w A C1.length C1
  | 4, v, _ => v = .string ⟨C1.toArray⟩
  | 5, v, _ => v = .string ⟨X.toArray⟩
  | 6, v, _ => v = .pointer (some ⟨bx, 2, none⟩)
  | 7, v, _ => v = .slice B1 n1 c1
  | 8, v, w => ∃ A c, v = .slice A E1.length c ∧ RB w A E1.length E1
  | 9, v, _ => v = .string ⟨E1.toArray⟩
  | 10, v, _ => v = .string ⟨C1.toArray⟩
  | 11, v, _ => v = .bool true
  | 12, v, _ => v = .bool true
  | 13, v, _ => v = .slice A n c
  | 14, v, _ => v = .pointer (some ⟨bx, 3, none⟩)
  | 15, v, _ => v = .slice D2 n2 c2
  | 16, v, w => ∃ A c, v = .slice A C2.length c ∧ RB w A C2.length C2
  | 17, v, _ => v = .string ⟨C2.toArray⟩
  | 18, v, _ => v = .string ⟨X.toArray⟩
  | 19, v, _ => v = .pointer (some ⟨bx, 3, none⟩)
  | 20, v, _ => v = .slice D2 n2 c2
  | 21, v, w => ∃ A c, v = .slice A E2.length c ∧ RB w A E2.length E2
  | 22, v, _ => v = .string ⟨E2.toArray⟩
  | 23, v, _ => v = .string ⟨C2.toArray⟩
  | 24, v, _ => v = .bool true
  | 25, v, _ => v = .bool true
  | 26, v, _ => v = .bool true
  | 27, v, _ => v = .bool true
  | 28, v, _ => v = .bool true
  | 29, v, _ => v = .bool true
  | _, _, _ => True
theorem laysR2_stable (A : Option Addr) (n : Nat) (c : Nat) (bx : Nat) (B1 : Option Addr) (n1 : Nat) (c1 : Nat) (D2 : Option Addr) (n2 : Nat) (c2 : Nat) (X : List UInt8) (C1 : List UInt8) (E1 : List UInt8) (C2 : List UInt8) (E2 : List UInt8) : ∀ i v w w', laysR2 A n c bx B1 n1 c1 D2 n2 c2 X C1 E1 C2 E2 i v w → Go.Rel.Grew w w' → laysR2 A n c bx B1 n1 c1 D2 n2 c2 X C1 E1 C2 E2 i v w'
  | 0, _, _, _, h, _ | 1, _, _, _, h, _ | 2, _, _, _, h, _ | 4, _, _, _, h, _ | 5, _, _, _, h, _ | 6, _, _, _, h, _ | 7, _, _, _, h, _ | 9, _, _, _, h, _ | 10, _, _, _, h, _ | 11, _, _, _, h, _ | 12, _, _, _, h, _ | 13, _, _, _, h, _ | 14, _, _, _, h, _ | 15, _, _, _, h, _ | 17, _, _, _, h, _ | 18, _, _, _, h, _ | 19, _, _, _, h, _ | 20, _, _, _, h, _ | 22, _, _, _, h, _ | 23, _, _, _, h, _ | 24, _, _, _, h, _ | 25, _, _, _, h, _ | 26, _, _, _, h, _ | 27, _, _, _, h, _ | 28, _, _, _, h, _ | 29, _, _, _, h, _ => h
  | 3, _, _, _, ⟨A, c, e, h⟩, g | 8, _, _, _, ⟨A, c, e, h⟩, g | 16, _, _, _, ⟨A, c, e, h⟩, g | 21, _, _, _, ⟨A, c, e, h⟩, g => ⟨A, c, e, h.below g⟩
  | _ + 30, _, _, _, h, _ => h

theorem str_add (X E C : List UInt8) (h : X ++ E = C) : (⟨X.toArray⟩ : ByteArray) ++ ⟨E.toArray⟩ = ⟨C.toArray⟩ := by rw [← h]; apply ByteArray.ext; simp
theorem str_fits (X E : List UInt8) (h : X.length + E.length ≤ 140737488355328) : ¬ (9223372036854775807 < (⟨X.toArray⟩ : ByteArray).size + (⟨E.toArray⟩ : ByteArray).size) := by
  have e1 : (⟨X.toArray⟩ : ByteArray).size = X.length := by simp [ByteArray.size]
  have e2 : (⟨E.toArray⟩ : ByteArray).size = E.length := by simp [ByteArray.size]
  rw [e1, e2]; omega

set_option maxHeartbeats 8000000 in
theorem lays_walk (A : Option Addr) (n c : Nat) (X : List UInt8) (N : Nat) (st : ByteArray) (is : Bool) (B1 : Option Addr) (n1 c1 : Nat) (l : List (List UInt8)) (D2 : Option Addr) (n2 c2 : Nat) (m : List Nat) (w : World)
    (hR : RB w A n X) (hnil : A = none → c = 0) (hnc : n ≤ c) (hn : n ≤ 1048576) (hN : N < 256 ^ 8) (hst : st.size ≤ 1048576) (hl : RV w B1 n1 (l.map strV)) (hn1 : n1 ≤ 1048576) (hbl : (textsB l).length ≤ 10000000)
    (hm : RV w D2 n2 (m.map u64V)) (hn2 : n2 ≤ 1048576) (hbm : (numsB m).length ≤ 10000000) (hlt : ∀ x ∈ m, x < 256 ^ 8) :
    Calls Try.prog 3 #[.slice A n c, .int .u64 (N : Int), .agg #[.string st, .bool is, .slice B1 n1 c1, .slice D2 n2 c2]] w fun e w' => e = .returned (.bool true) ∧ Below w.heap.size w w' := by
  have hX := hR.1
  obtain ⟨t, ht⟩ : ∃ t, st.data.toList = t := ⟨_, rfl⟩
  have hts : (⟨t.toArray⟩ : ByteArray) = st := by rw [← ht]
  have htl : t.length = st.size := by rw [← ht]; rfl
  have hft : (flagB is).length ≤ 9 := by rw [flagB]; exact numB_le (by cases is <;> simp)
  have hnt := numB_le hN
  have htt : (textB t).length ≤ 1048585 := by
    have := textB_length t
    have := numB_le (n := t.length) (by omega)
    omega
  obtain ⟨W0, hW0⟩ : ∃ W0, w.alloc (.cells #[.string st, .bool is, .slice B1 n1 c1, .slice D2 n2 c2] 27) = W0 := ⟨_, rfl⟩
  have hb0 : Below w.heap.size w W0 := by rw [← hW0]; exact (Below.refl _ _).alloc (Nat.le_refl _) _
  obtain ⟨bx, hbx⟩ : ∃ bx, w.heap.size = bx := ⟨_, rfl⟩
  have hbb : W0.heap[bx]? = some (.cells #[.string st, .bool is, .slice B1 n1 c1, .slice D2 n2 c2] 27 (0, 0)) := by rw [← hW0, ← hbx]; exact heap_alloc_new w _
  have hlt0 : bx < W0.heap.size := (Array.getElem?_eq_some_iff.1 hbb).1
  have HC : Hid (∀ w', Below W0.heap.size W0 w' → w'.cell? ⟨bx, 0, none⟩ = some (.string st) ∧ w'.cell? ⟨bx, 1, none⟩ = some (.bool is) ∧ w'.cell? ⟨bx, 2, none⟩ = some (.slice B1 n1 c1) ∧ w'.cell? ⟨bx, 3, none⟩ = some (.slice D2 n2 c2)) := Lib.hid (fun w' hb => by
    have j := (hb.block bx hlt0).trans hbb
    exact ⟨by rw [cell_of_row _ _ _ _ _ _ j]; rfl, by rw [cell_of_row _ _ _ _ _ _ j]; rfl, by rw [cell_of_row _ _ _ _ _ _ j]; rfl, by rw [cell_of_row _ _ _ _ _ _ j]; rfl⟩)
  have HR0 : Hid (RB W0 A n X) := Lib.hid (hR.below hb0)
  have HL0 : Hid (RV W0 B1 n1 (l.map strV)) := Lib.hid (hl.below hb0)
  have HM0 : Hid (RV W0 D2 n2 (m.map u64V)) := Lib.hid (hm.below hb0)
  obtain ⟨C1, hC1⟩ : ∃ C, X ++ numB N = C := ⟨_, rfl⟩
  obtain ⟨C2, hC2⟩ : ∃ C, X ++ textB t = C := ⟨_, rfl⟩
  obtain ⟨C3, hC3⟩ : ∃ C, X ++ flagB is = C := ⟨_, rfl⟩
  obtain ⟨C4, hC4⟩ : ∃ C, X ++ textsB l = C := ⟨_, rfl⟩
  obtain ⟨C5, hC5⟩ : ∃ C, X ++ numsB m = C := ⟨_, rfl⟩
  have H : Hid ((∀ w', Below W0.heap.size W0 w' → Calls Try.prog 8 #[.slice A n c, .int .u64 (N : Int)] w' (BGives w' C1)) ∧ (∀ w', Below W0.heap.size W0 w' → Calls Try.prog 9 #[.int .u64 (N : Int)] w' (BGives w' (numB N))) ∧
      (∀ w', Below W0.heap.size W0 w' → Calls Try.prog 10 #[.slice A n c, .string st] w' (BGives w' C2)) ∧ (∀ w', Below W0.heap.size W0 w' → Calls Try.prog 11 #[.string st] w' (BGives w' (textB t))) ∧
      (∀ w', Below W0.heap.size W0 w' → Calls Try.prog 12 #[.slice A n c, .bool is] w' (BGives w' C3)) ∧ (∀ w', Below W0.heap.size W0 w' → Calls Try.prog 13 #[.bool is] w' (BGives w' (flagB is)))) := Lib.hid (by
    refine ⟨fun w' hb => ?_, fun w' hb => ?_, fun w' hb => ?_, fun w' hb => ?_, fun w' hb => ?_, fun w' hb => rflag_any is w'⟩
    · rw [← hC1]; exact Num_any A n c X N hN w' (HR0.out.below hb) hnil hnc (by omega)
    · exact (rnum_any N hN w').mono fun e w2 h => adds_gives h
    · rw [← hC2, ← hts]; exact Text_any A n c X t w' (HR0.out.below hb) hnil hnc (by omega)
    · rw [← ht]; exact (rtext_any st w' (by omega)).mono fun e w2 h => adds_gives h
    · rw [← hC3]; exact Flag_any A n c X is w' (HR0.out.below hb) hnil hnc (by omega))
  have H2 : Hid ((∀ w', Below W0.heap.size W0 w' → Calls Try.prog 14 #[.slice A n c, .slice B1 n1 c1] w' (BGives w' C4)) ∧ (∀ w', Below W0.heap.size W0 w' → Calls Try.prog 15 #[.slice B1 n1 c1] w' (BGives w' (textsB l))) ∧
      (∀ w', Below W0.heap.size W0 w' → Calls Try.prog 16 #[.slice A n c, .slice D2 n2 c2] w' (BGives w' C5)) ∧ (∀ w', Below W0.heap.size W0 w' → Calls Try.prog 17 #[.slice D2 n2 c2] w' (BGives w' (numsB m)))) := Lib.hid (by
    refine ⟨fun w' hb => ?_, fun w' hb => ?_, fun w' hb => ?_, fun w' hb => ?_⟩
    · rw [← hC4]; exact Texts_any A n c X B1 n1 c1 l w' (HR0.out.below hb) hnil hnc (HL0.out.below hb) (by omega) (by omega)
    · exact (rlist_str B1 n1 c1 l w' (HL0.out.below hb) (by omega) (by omega)).mono fun e w2 h => adds_gives h
    · rw [← hC5]; exact Nums_any A n c X D2 n2 c2 m w' (HR0.out.below hb) hnil hnc (HM0.out.below hb) (by omega) hlt (by omega)
    · exact (rlist_u64 D2 n2 c2 m w' (HM0.out.below hb) (by omega) (by omega) hlt).mono fun e w2 h => adds_gives h)
  have HX : Hid (((⟨X.toArray⟩ : ByteArray) ++ ⟨(numB N).toArray⟩ = ⟨C1.toArray⟩ ∧ (⟨X.toArray⟩ : ByteArray) ++ ⟨(textB t).toArray⟩ = ⟨C2.toArray⟩ ∧ (⟨X.toArray⟩ : ByteArray) ++ ⟨(flagB is).toArray⟩ = ⟨C3.toArray⟩) ∧ (⟨X.toArray⟩ : ByteArray) ++ ⟨(textsB l).toArray⟩ = ⟨C4.toArray⟩ ∧ (⟨X.toArray⟩ : ByteArray) ++ ⟨(numsB m).toArray⟩ = ⟨C5.toArray⟩) :=
    Lib.hid ⟨⟨str_add _ _ _ hC1, str_add _ _ _ hC2, str_add _ _ _ hC3⟩, str_add _ _ _ hC4, str_add _ _ _ hC5⟩
  have HXs : Hid ((¬ (9223372036854775807 < (⟨X.toArray⟩ : ByteArray).size + (⟨(numB N).toArray⟩ : ByteArray).size) ∧ ¬ (9223372036854775807 < (⟨X.toArray⟩ : ByteArray).size + (⟨(textB t).toArray⟩ : ByteArray).size) ∧ ¬ (9223372036854775807 < (⟨X.toArray⟩ : ByteArray).size + (⟨(flagB is).toArray⟩ : ByteArray).size)) ∧ ¬ (9223372036854775807 < (⟨X.toArray⟩ : ByteArray).size + (⟨(textsB l).toArray⟩ : ByteArray).size) ∧ ¬ (9223372036854775807 < (⟨X.toArray⟩ : ByteArray).size + (⟨(numsB m).toArray⟩ : ByteArray).size)) :=
    Lib.hid ⟨⟨str_fits _ _ (by omega), str_fits _ _ (by omega), str_fits _ _ (by omega)⟩, str_fits _ _ (by omega), str_fits _ _ (by omega)⟩
  have HG : Hid (∀ w', Go.Rel.Grew W0 w' → Below W0.heap.size W0 w') := Lib.hid (fun _ h => h)
  obtain ⟨E1, hE1⟩ : ∃ E, numB N = E := ⟨_, rfl⟩
  obtain ⟨E2, hE2⟩ : ∃ E, textB t = E := ⟨_, rfl⟩
  obtain ⟨E3, hE3⟩ : ∃ E, flagB is = E := ⟨_, rfl⟩
  obtain ⟨E4, hE4⟩ : ∃ E, textsB l = E := ⟨_, rfl⟩
  obtain ⟨E5, hE5⟩ : ∃ E, numsB m = E := ⟨_, rfl⟩
  rw [hE1, hE2, hE3, hE4, hE5] at HX HXs
  rw [hE1, hE2, hE3] at H
  rw [hE4, hE5] at H2
  have k0 := own_conv HR0.out c
  rw [← hW0] at k0
  have HB0 := Lib.hid hb0
  have HW0 := Lib.hid hW0
  have HBX := Lib.hid hbx
  clear hR hnil hl hm hlt hX ht hts htl hft hnt htt hb0 hbx hbb hlt0 hC1 hC2 hC3 hC4 hC5 hE1 hE2 hE3 hE4 hE5 hW0 hN hst hbl hbm hn1 hn2
  go_enter Try.func3, Try.ntmps3
  go_wp2
  rw [HW0.out, HBX.out]
  clear k0
  refine Go.Rel.wp_region_grew (by kernel_rfl) (by kernel_rfl) (by kernel_rfl) (by kernel_rfl) (laysR A n c N bx st is X C1 E1 C2 E2 C3 E3) (laysR_stable _ _ _ _ _ _ _ _ _ _ _ _ _ _) ?hsteps ?hend
  case hsteps =>
    refine (.cons ?_ (.cons ?_ (.cons ?_ (.cons ?_ (.cons ?_ (.cons ?_ (.cons ?_ (.cons ?_ (.cons ?_ (.cons ?_ (.cons ?_ (.cons ?_ (.cons ?_ (.cons ?_ (.cons ?_ (.cons ?_ (.cons ?_ (.cons ?_ (.cons ?_ (.cons ?_ (.cons ?_ (.cons ?_ (.cons ?_ (.cons ?_ (.cons ?_ (.cons ?_ (.cons ?_ (.cons ?_ (.cons ?_ (.cons ?_ (.cons ?_ (.cons ?_ (.cons ?_ (.cons ?_ (.cons ?_ (.cons ?_ (.cons ?_ (.cons ?_ .nil))))))))))))))))))))))))))))))))))))))
    · intro a w' hle hs' hd K hK
      have f0 : a.tmps[0]? = some (.slice A n c) := hs'.2.2 0 (by kernel_rfl)
      unfold Go.Rel.stepOf
      go_simp
      exact hK _ _ (Go.Rel.Grew.refl _) rfl
    · intro a w' hle hs' hd K hK
      have f1 : a.tmps[1]? = some (.int .u64 (N : Int)) := hs'.2.2 1 (by kernel_rfl)
      unfold Go.Rel.stepOf
      go_simp
      exact hK _ _ (Go.Rel.Grew.refl _) rfl
    · intro a w' hle hs' hd K hK
      obtain ⟨_, t0, rfl⟩ := hd 0 10 (by kernel_rfl)
      obtain ⟨_, t1, rfl⟩ := hd 1 11 (by kernel_rfl)
      unfold Go.Rel.stepOf
      go_simp
      refine (H.out.1 w' hle).mono ?_
      rintro e w2 ⟨A5, c5, rfl, h5, _, _, _, hb5⟩
      exact hK _ _ hb5 ⟨_, _, rfl, h5⟩
    · intro a w' hle hs' hd K hK
      obtain ⟨_, t2, A2, c2, rfl, h2⟩ := hd 2 12 (by kernel_rfl)
      have q1 := own_conv h2 c2
      unfold Go.Rel.stepOf
      go_simp
      exact hK _ _ (Go.Rel.Grew.refl _) rfl
    · intro a w' hle hs' hd K hK
      have f7 : a.tmps[7]? = some (.string ⟨X.toArray⟩) := hs'.2.2 7 (by kernel_rfl)
      unfold Go.Rel.stepOf
      go_simp
      exact hK _ _ (Go.Rel.Grew.refl _) rfl
    · intro a w' hle hs' hd K hK
      have f1 : a.tmps[1]? = some (.int .u64 (N : Int)) := hs'.2.2 1 (by kernel_rfl)
      unfold Go.Rel.stepOf
      go_simp
      exact hK _ _ (Go.Rel.Grew.refl _) rfl
    · intro a w' hle hs' hd K hK
      obtain ⟨_, t5, rfl⟩ := hd 5 15 (by kernel_rfl)
      unfold Go.Rel.stepOf
      go_simp
      refine (H.out.2.1 w' hle).mono ?_
      rintro e w2 ⟨A5, c5, rfl, h5, _, _, _, hb5⟩
      exact hK _ _ hb5 ⟨_, _, rfl, h5⟩
    · intro a w' hle hs' hd K hK
      obtain ⟨_, t6, A6, c6, rfl, h6⟩ := hd 6 16 (by kernel_rfl)
      have q1 := own_conv h6 c6
      unfold Go.Rel.stepOf
      go_simp
      exact hK _ _ (Go.Rel.Grew.refl _) rfl
    · intro a w' hle hs' hd K hK
      obtain ⟨_, t4, rfl⟩ := hd 4 14 (by kernel_rfl)
      obtain ⟨_, t7, rfl⟩ := hd 7 17 (by kernel_rfl)
      have hcc := HX.out.1.1
      have hsz := HXs.out.1.1
      obtain ⟨st1, hst1⟩ : ∃ st : ByteArray, (⟨X.toArray⟩ : ByteArray) = st := ⟨_, rfl⟩
      obtain ⟨st2, hst2⟩ : ∃ st : ByteArray, (⟨E1.toArray⟩ : ByteArray) = st := ⟨_, rfl⟩
      rw [hst1] at t4 hcc hsz
      rw [hst2] at t7 hcc hsz
      have HCC := Lib.hid hcc
      clear hcc hst1 hst2
      unfold Go.Rel.stepOf
      go_simp
      exact hK _ _ (Go.Rel.Grew.refl _) (congrArg Value.string HCC.out)
    · intro a w' hle hs' hd K hK
      obtain ⟨_, t3, rfl⟩ := hd 3 13 (by kernel_rfl)
      obtain ⟨_, t8, rfl⟩ := hd 8 18 (by kernel_rfl)
      unfold Go.Rel.stepOf
      go_simp
      exact hK _ _ (Go.Rel.Grew.refl _) rfl
    · intro a w' hle hs' hd K hK
      obtain ⟨_, t9, rfl⟩ := hd 9 19 (by kernel_rfl)
      unfold Go.Rel.stepOf
      go_simp
      exact hK _ _ (Go.Rel.Grew.refl _) rfl
    · intro a w' hle hs' hd K hK
      obtain ⟨_, tg, rfl⟩ := hd 10 20 (by kernel_rfl)
      have f0 : a.tmps[0]? = some (.slice A n c) := hs'.2.2 0 (by kernel_rfl)
      unfold Go.Rel.stepOf
      go_simp
      exact hK _ _ (Go.Rel.Grew.refl _) rfl
    · intro a w' hle hs' hd K hK
      obtain ⟨_, tg, rfl⟩ := hd 10 20 (by kernel_rfl)
      have f5 : a.tmps[5]? = some (.pointer (some ⟨bx, 0, none⟩)) := hs'.2.2 5 (by kernel_rfl)
      unfold Go.Rel.stepOf
      go_simp
      exact hK _ _ (Go.Rel.Grew.refl _) rfl
    · intro a w' hle hs' hd K hK
      obtain ⟨_, tg, rfl⟩ := hd 10 20 (by kernel_rfl)
      obtain ⟨_, t12, rfl⟩ := hd 12 22 (by kernel_rfl)
      have cc := (HC.out w' (HG.out w' hle)).1
      unfold Go.Rel.stepOf
      go_simp
      exact hK _ _ (Go.Rel.Grew.refl _) rfl
    · intro a w' hle hs' hd K hK
      obtain ⟨_, tg, rfl⟩ := hd 10 20 (by kernel_rfl)
      obtain ⟨_, t11, rfl⟩ := hd 11 21 (by kernel_rfl)
      obtain ⟨_, t13, rfl⟩ := hd 13 23 (by kernel_rfl)
      unfold Go.Rel.stepOf
      go_simp
      refine (H.out.2.2.1 w' hle).mono ?_
      rintro e w2 ⟨A5, c5, rfl, h5, _, _, _, hb5⟩
      exact hK _ _ hb5 ⟨_, _, rfl, h5⟩
    · intro a w' hle hs' hd K hK
      obtain ⟨_, tg, rfl⟩ := hd 10 20 (by kernel_rfl)
      obtain ⟨_, t14, A14, c14, rfl, h14⟩ := hd 14 24 (by kernel_rfl)
      have q1 := own_conv h14 c14
      unfold Go.Rel.stepOf
      go_simp
      exact hK _ _ (Go.Rel.Grew.refl _) rfl
    · intro a w' hle hs' hd K hK
      obtain ⟨_, tg, rfl⟩ := hd 10 20 (by kernel_rfl)
      have f7 : a.tmps[7]? = some (.string ⟨X.toArray⟩) := hs'.2.2 7 (by kernel_rfl)
      unfold Go.Rel.stepOf
      go_simp
      exact hK _ _ (Go.Rel.Grew.refl _) rfl
    · intro a w' hle hs' hd K hK
      obtain ⟨_, tg, rfl⟩ := hd 10 20 (by kernel_rfl)
      have f5 : a.tmps[5]? = some (.pointer (some ⟨bx, 0, none⟩)) := hs'.2.2 5 (by kernel_rfl)
      unfold Go.Rel.stepOf
      go_simp
      exact hK _ _ (Go.Rel.Grew.refl _) rfl
    · intro a w' hle hs' hd K hK
      obtain ⟨_, tg, rfl⟩ := hd 10 20 (by kernel_rfl)
      obtain ⟨_, t17, rfl⟩ := hd 17 27 (by kernel_rfl)
      have cc := (HC.out w' (HG.out w' hle)).1
      unfold Go.Rel.stepOf
      go_simp
      exact hK _ _ (Go.Rel.Grew.refl _) rfl
    · intro a w' hle hs' hd K hK
      obtain ⟨_, tg, rfl⟩ := hd 10 20 (by kernel_rfl)
      obtain ⟨_, t18, rfl⟩ := hd 18 28 (by kernel_rfl)
      unfold Go.Rel.stepOf
      go_simp
      refine (H.out.2.2.2.1 w' hle).mono ?_
      rintro e w2 ⟨A5, c5, rfl, h5, _, _, _, hb5⟩
      exact hK _ _ hb5 ⟨_, _, rfl, h5⟩
    · intro a w' hle hs' hd K hK
      obtain ⟨_, tg, rfl⟩ := hd 10 20 (by kernel_rfl)
      obtain ⟨_, t19, A19, c19, rfl, h19⟩ := hd 19 29 (by kernel_rfl)
      have q1 := own_conv h19 c19
      unfold Go.Rel.stepOf
      go_simp
      exact hK _ _ (Go.Rel.Grew.refl _) rfl
    · intro a w' hle hs' hd K hK
      obtain ⟨_, tg, rfl⟩ := hd 10 20 (by kernel_rfl)
      obtain ⟨_, t16, rfl⟩ := hd 16 26 (by kernel_rfl)
      obtain ⟨_, t20, rfl⟩ := hd 20 30 (by kernel_rfl)
      have hcc := HX.out.1.2.1
      have hsz := HXs.out.1.2.1
      obtain ⟨st1, hst1⟩ : ∃ st : ByteArray, (⟨X.toArray⟩ : ByteArray) = st := ⟨_, rfl⟩
      obtain ⟨st2, hst2⟩ : ∃ st : ByteArray, (⟨E2.toArray⟩ : ByteArray) = st := ⟨_, rfl⟩
      rw [hst1] at t16 hcc hsz
      rw [hst2] at t20 hcc hsz
      have HCC := Lib.hid hcc
      clear hcc hst1 hst2
      unfold Go.Rel.stepOf
      go_simp
      exact hK _ _ (Go.Rel.Grew.refl _) (congrArg Value.string HCC.out)
    · intro a w' hle hs' hd K hK
      obtain ⟨_, tg, rfl⟩ := hd 10 20 (by kernel_rfl)
      obtain ⟨_, t15, rfl⟩ := hd 15 25 (by kernel_rfl)
      obtain ⟨_, t21, rfl⟩ := hd 21 31 (by kernel_rfl)
      unfold Go.Rel.stepOf
      go_simp
      exact hK _ _ (Go.Rel.Grew.refl _) rfl
    · intro a w' hle hs' hd K hK
      obtain ⟨_, t10, rfl⟩ := hd 10 20 (by kernel_rfl)
      obtain ⟨_, t22, rfl⟩ := hd 22 32 (by kernel_rfl)
      unfold Go.Rel.stepOf
      go_simp
      exact hK _ _ (Go.Rel.Grew.refl _) rfl
    · intro a w' hle hs' hd K hK
      obtain ⟨_, t23, rfl⟩ := hd 23 33 (by kernel_rfl)
      unfold Go.Rel.stepOf
      go_simp
      exact hK _ _ (Go.Rel.Grew.refl _) rfl
    · intro a w' hle hs' hd K hK
      obtain ⟨_, tg, rfl⟩ := hd 24 34 (by kernel_rfl)
      have f0 : a.tmps[0]? = some (.slice A n c) := hs'.2.2 0 (by kernel_rfl)
      unfold Go.Rel.stepOf
      go_simp
      exact hK _ _ (Go.Rel.Grew.refl _) rfl
    · intro a w' hle hs' hd K hK
      obtain ⟨_, tg, rfl⟩ := hd 24 34 (by kernel_rfl)
      have f5 : a.tmps[5]? = some (.pointer (some ⟨bx, 0, none⟩)) := hs'.2.2 5 (by kernel_rfl)
      unfold Go.Rel.stepOf
      go_simp
      exact hK _ _ (Go.Rel.Grew.refl _) rfl
    · intro a w' hle hs' hd K hK
      obtain ⟨_, tg, rfl⟩ := hd 24 34 (by kernel_rfl)
      obtain ⟨_, t26, rfl⟩ := hd 26 36 (by kernel_rfl)
      have cc := (HC.out w' (HG.out w' hle)).2.1
      unfold Go.Rel.stepOf
      go_simp
      exact hK _ _ (Go.Rel.Grew.refl _) rfl
    · intro a w' hle hs' hd K hK
      obtain ⟨_, tg, rfl⟩ := hd 24 34 (by kernel_rfl)
      obtain ⟨_, t25, rfl⟩ := hd 25 35 (by kernel_rfl)
      obtain ⟨_, t27, rfl⟩ := hd 27 37 (by kernel_rfl)
      unfold Go.Rel.stepOf
      go_simp
      refine (H.out.2.2.2.2.1 w' hle).mono ?_
      rintro e w2 ⟨A5, c5, rfl, h5, _, _, _, hb5⟩
      exact hK _ _ hb5 ⟨_, _, rfl, h5⟩
    · intro a w' hle hs' hd K hK
      obtain ⟨_, tg, rfl⟩ := hd 24 34 (by kernel_rfl)
      obtain ⟨_, t28, A28, c28, rfl, h28⟩ := hd 28 38 (by kernel_rfl)
      have q1 := own_conv h28 c28
      unfold Go.Rel.stepOf
      go_simp
      exact hK _ _ (Go.Rel.Grew.refl _) rfl
    · intro a w' hle hs' hd K hK
      obtain ⟨_, tg, rfl⟩ := hd 24 34 (by kernel_rfl)
      have f7 : a.tmps[7]? = some (.string ⟨X.toArray⟩) := hs'.2.2 7 (by kernel_rfl)
      unfold Go.Rel.stepOf
      go_simp
      exact hK _ _ (Go.Rel.Grew.refl _) rfl
    · intro a w' hle hs' hd K hK
      obtain ⟨_, tg, rfl⟩ := hd 24 34 (by kernel_rfl)
      have f5 : a.tmps[5]? = some (.pointer (some ⟨bx, 0, none⟩)) := hs'.2.2 5 (by kernel_rfl)
      unfold Go.Rel.stepOf
      go_simp
      exact hK _ _ (Go.Rel.Grew.refl _) rfl
    · intro a w' hle hs' hd K hK
      obtain ⟨_, tg, rfl⟩ := hd 24 34 (by kernel_rfl)
      obtain ⟨_, t31, rfl⟩ := hd 31 41 (by kernel_rfl)
      have cc := (HC.out w' (HG.out w' hle)).2.1
      unfold Go.Rel.stepOf
      go_simp
      exact hK _ _ (Go.Rel.Grew.refl _) rfl
    · intro a w' hle hs' hd K hK
      obtain ⟨_, tg, rfl⟩ := hd 24 34 (by kernel_rfl)
      obtain ⟨_, t32, rfl⟩ := hd 32 42 (by kernel_rfl)
      unfold Go.Rel.stepOf
      go_simp
      refine (H.out.2.2.2.2.2 w' hle).mono ?_
      rintro e w2 ⟨A5, c5, rfl, h5, _, _, _, hb5⟩
      exact hK _ _ hb5 ⟨_, _, rfl, h5⟩
    · intro a w' hle hs' hd K hK
      obtain ⟨_, tg, rfl⟩ := hd 24 34 (by kernel_rfl)
      obtain ⟨_, t33, A33, c33, rfl, h33⟩ := hd 33 43 (by kernel_rfl)
      have q1 := own_conv h33 c33
      unfold Go.Rel.stepOf
      go_simp
      exact hK _ _ (Go.Rel.Grew.refl _) rfl
    · intro a w' hle hs' hd K hK
      obtain ⟨_, tg, rfl⟩ := hd 24 34 (by kernel_rfl)
      obtain ⟨_, t30, rfl⟩ := hd 30 40 (by kernel_rfl)
      obtain ⟨_, t34, rfl⟩ := hd 34 44 (by kernel_rfl)
      have hcc := HX.out.1.2.2
      have hsz := HXs.out.1.2.2
      obtain ⟨st1, hst1⟩ : ∃ st : ByteArray, (⟨X.toArray⟩ : ByteArray) = st := ⟨_, rfl⟩
      obtain ⟨st2, hst2⟩ : ∃ st : ByteArray, (⟨E3.toArray⟩ : ByteArray) = st := ⟨_, rfl⟩
      rw [hst1] at t30 hcc hsz
      rw [hst2] at t34 hcc hsz
      have HCC := Lib.hid hcc
      clear hcc hst1 hst2
      unfold Go.Rel.stepOf
      go_simp
      exact hK _ _ (Go.Rel.Grew.refl _) (congrArg Value.string HCC.out)
    · intro a w' hle hs' hd K hK
      obtain ⟨_, tg, rfl⟩ := hd 24 34 (by kernel_rfl)
      obtain ⟨_, t29, rfl⟩ := hd 29 39 (by kernel_rfl)
      obtain ⟨_, t35, rfl⟩ := hd 35 45 (by kernel_rfl)
      unfold Go.Rel.stepOf
      go_simp
      exact hK _ _ (Go.Rel.Grew.refl _) rfl
    · intro a w' hle hs' hd K hK
      obtain ⟨_, t24, rfl⟩ := hd 24 34 (by kernel_rfl)
      obtain ⟨_, t36, rfl⟩ := hd 36 46 (by kernel_rfl)
      unfold Go.Rel.stepOf
      go_simp
      exact hK _ _ (Go.Rel.Grew.refl _) rfl
  case hend =>
    intro a w1 hle hs' hR'
    obtain ⟨v10, s10, _⟩ := hR' 0 10 (by kernel_rfl)
    obtain ⟨v11, s11, _⟩ := hR' 1 11 (by kernel_rfl)
    obtain ⟨v12, s12, _⟩ := hR' 2 12 (by kernel_rfl)
    obtain ⟨v13, s13, _⟩ := hR' 3 13 (by kernel_rfl)
    obtain ⟨v14, s14, _⟩ := hR' 4 14 (by kernel_rfl)
    obtain ⟨v15, s15, _⟩ := hR' 5 15 (by kernel_rfl)
    obtain ⟨v16, s16, _⟩ := hR' 6 16 (by kernel_rfl)
    obtain ⟨v17, s17, _⟩ := hR' 7 17 (by kernel_rfl)
    obtain ⟨v18, s18, _⟩ := hR' 8 18 (by kernel_rfl)
    obtain ⟨v19, s19, _⟩ := hR' 9 19 (by kernel_rfl)
    obtain ⟨v20, s20, _⟩ := hR' 10 20 (by kernel_rfl)
    obtain ⟨v21, s21, _⟩ := hR' 11 21 (by kernel_rfl)
    obtain ⟨v22, s22, _⟩ := hR' 12 22 (by kernel_rfl)
    obtain ⟨v23, s23, _⟩ := hR' 13 23 (by kernel_rfl)
    obtain ⟨v24, s24, _⟩ := hR' 14 24 (by kernel_rfl)
    obtain ⟨v25, s25, _⟩ := hR' 15 25 (by kernel_rfl)
    obtain ⟨v26, s26, _⟩ := hR' 16 26 (by kernel_rfl)
    obtain ⟨v27, s27, _⟩ := hR' 17 27 (by kernel_rfl)
    obtain ⟨v28, s28, _⟩ := hR' 18 28 (by kernel_rfl)
    obtain ⟨v29, s29, _⟩ := hR' 19 29 (by kernel_rfl)
    obtain ⟨v30, s30, _⟩ := hR' 20 30 (by kernel_rfl)
    obtain ⟨v31, s31, _⟩ := hR' 21 31 (by kernel_rfl)
    obtain ⟨v32, s32, _⟩ := hR' 22 32 (by kernel_rfl)
    obtain ⟨v33, s33, _⟩ := hR' 23 33 (by kernel_rfl)
    obtain ⟨v34, s34, _⟩ := hR' 24 34 (by kernel_rfl)
    obtain ⟨v35, s35, _⟩ := hR' 25 35 (by kernel_rfl)
    obtain ⟨v36, s36, _⟩ := hR' 26 36 (by kernel_rfl)
    obtain ⟨v37, s37, _⟩ := hR' 27 37 (by kernel_rfl)
    obtain ⟨v38, s38, _⟩ := hR' 28 38 (by kernel_rfl)
    obtain ⟨v39, s39, _⟩ := hR' 29 39 (by kernel_rfl)
    obtain ⟨v40, s40, _⟩ := hR' 30 40 (by kernel_rfl)
    obtain ⟨v41, s41, _⟩ := hR' 31 41 (by kernel_rfl)
    obtain ⟨v42, s42, _⟩ := hR' 32 42 (by kernel_rfl)
    obtain ⟨v43, s43, _⟩ := hR' 33 43 (by kernel_rfl)
    obtain ⟨v44, s44, _⟩ := hR' 34 44 (by kernel_rfl)
    obtain ⟨v45, s45, _⟩ := hR' 35 45 (by kernel_rfl)
    obtain ⟨v46, s46, _⟩ := hR' 36 46 (by kernel_rfl)
    obtain ⟨_, s47, rfl⟩ := hR' 37 47 (by kernel_rfl)
    have e := hs'.shape
    simp only [List.toList_toArray, List.foldl, Go.Rel.reset, Array.getD_eq_getD_getElem?, s10, s11, s12, s13, s14, s15, s16, s17, s18, s19, s20, s21, s22, s23, s24, s25, s26, s27, s28, s29, s30, s31, s32, s33, s34, s35, s36, s37, s38, s39, s40, s41, s42, s43, s44, s45, s46, s47, Option.getD_some] at e
    simp at e
    clear hR' hs' s10 s11 s12 s13 s14 s15 s16 s17 s18 s19 s20 s21 s22 s23 s24 s25 s26 s27 s28 s29 s30 s31 s32 s33 s34 s35 s36 s37 s38 s39 s40 s41 s42 s43 s44 s45 s46 s47
    subst e
    have HL1 : Hid (Below W0.heap.size W0 w1) := Lib.hid hle
    have H2' : Hid ((∀ w', Go.Rel.Grew w1 w' → Calls Try.prog 14 #[.slice A n c, .slice B1 n1 c1] w' (BGives w' C4)) ∧ (∀ w', Go.Rel.Grew w1 w' → Calls Try.prog 15 #[.slice B1 n1 c1] w' (BGives w' E4)) ∧ (∀ w', Go.Rel.Grew w1 w' → Calls Try.prog 16 #[.slice A n c, .slice D2 n2 c2] w' (BGives w' C5)) ∧ (∀ w', Go.Rel.Grew w1 w' → Calls Try.prog 17 #[.slice D2 n2 c2] w' (BGives w' E5))) :=
      Lib.hid ⟨fun w' h => H2.out.1 w' (Go.Rel.Grew.trans hle h), fun w' h => H2.out.2.1 w' (Go.Rel.Grew.trans hle h), fun w' h => H2.out.2.2.1 w' (Go.Rel.Grew.trans hle h), fun w' h => H2.out.2.2.2 w' (Go.Rel.Grew.trans hle h)⟩
    have HG' : Hid (∀ w', Go.Rel.Grew w1 w' → Below W0.heap.size W0 w') := Lib.hid (fun w' h => Go.Rel.Grew.trans hle h)
    clear HG H2 hle
    have H2 := H2'
    have HG := HG'
    clear H2' HG'
    go_wp2
    refine Go.Rel.wp_region_grew (by kernel_rfl) (by kernel_rfl) (by kernel_rfl) (by kernel_rfl) (laysR2 A n c bx B1 n1 c1 D2 n2 c2 X C4 E4 C5 E5) (laysR2_stable _ _ _ _ _ _ _ _ _ _ _ _ _ _ _) ?hsteps2 ?hend2
    case hsteps2 =>
      refine (.cons ?_ (.cons ?_ (.cons ?_ (.cons ?_ (.cons ?_ (.cons ?_ (.cons ?_ (.cons ?_ (.cons ?_ (.cons ?_ (.cons ?_ (.cons ?_ (.cons ?_ (.cons ?_ (.cons ?_ (.cons ?_ (.cons ?_ (.cons ?_ (.cons ?_ (.cons ?_ (.cons ?_ (.cons ?_ (.cons ?_ (.cons ?_ (.cons ?_ (.cons ?_ (.cons ?_ (.cons ?_ (.cons ?_ (.cons ?_ .nil))))))))))))))))))))))))))))))
      · intro a w' hle hs' hd K hK
        have f0 : a.tmps[0]? = some (.slice A n c) := hs'.2.2 0 (by kernel_rfl)
        unfold Go.Rel.stepOf
        go_simp
        exact hK _ _ (Go.Rel.Grew.refl _) rfl
      · intro a w' hle hs' hd K hK
        have f5 : a.tmps[5]? = some (.pointer (some ⟨bx, 0, none⟩)) := hs'.2.2 5 (by kernel_rfl)
        unfold Go.Rel.stepOf
        go_simp
        exact hK _ _ (Go.Rel.Grew.refl _) rfl
      · intro a w' hle hs' hd K hK
        obtain ⟨_, t1, rfl⟩ := hd 1 49 (by kernel_rfl)
        have cc := (HC.out w' (HG.out w' hle)).2.2.1
        unfold Go.Rel.stepOf
        go_simp
        exact hK _ _ (Go.Rel.Grew.refl _) rfl
      · intro a w' hle hs' hd K hK
        obtain ⟨_, t0, rfl⟩ := hd 0 48 (by kernel_rfl)
        obtain ⟨_, t2, rfl⟩ := hd 2 50 (by kernel_rfl)
        unfold Go.Rel.stepOf
        go_simp
        refine (H2.out.1 w' hle).mono ?_
        rintro e w2 ⟨A5, c5, rfl, h5, _, _, _, hb5⟩
        exact hK _ _ hb5 ⟨_, _, rfl, h5⟩
      · intro a w' hle hs' hd K hK
        obtain ⟨_, t3, A3, c3, rfl, h3⟩ := hd 3 51 (by kernel_rfl)
        have q1 := own_conv h3 c3
        unfold Go.Rel.stepOf
        go_simp
        exact hK _ _ (Go.Rel.Grew.refl _) rfl
      · intro a w' hle hs' hd K hK
        have f7 : a.tmps[7]? = some (.string ⟨X.toArray⟩) := hs'.2.2 7 (by kernel_rfl)
        unfold Go.Rel.stepOf
        go_simp
        exact hK _ _ (Go.Rel.Grew.refl _) rfl
      · intro a w' hle hs' hd K hK
        have f5 : a.tmps[5]? = some (.pointer (some ⟨bx, 0, none⟩)) := hs'.2.2 5 (by kernel_rfl)
        unfold Go.Rel.stepOf
        go_simp
        exact hK _ _ (Go.Rel.Grew.refl _) rfl
      · intro a w' hle hs' hd K hK
        obtain ⟨_, t6, rfl⟩ := hd 6 54 (by kernel_rfl)
        have cc := (HC.out w' (HG.out w' hle)).2.2.1
        unfold Go.Rel.stepOf
        go_simp
        exact hK _ _ (Go.Rel.Grew.refl _) rfl
      · intro a w' hle hs' hd K hK
        obtain ⟨_, t7, rfl⟩ := hd 7 55 (by kernel_rfl)
        unfold Go.Rel.stepOf
        go_simp
        refine (H2.out.2.1 w' hle).mono ?_
        rintro e w2 ⟨A5, c5, rfl, h5, _, _, _, hb5⟩
        exact hK _ _ hb5 ⟨_, _, rfl, h5⟩
      · intro a w' hle hs' hd K hK
        obtain ⟨_, t8, A8, c8, rfl, h8⟩ := hd 8 56 (by kernel_rfl)
        have q1 := own_conv h8 c8
        unfold Go.Rel.stepOf
        go_simp
        exact hK _ _ (Go.Rel.Grew.refl _) rfl
      · intro a w' hle hs' hd K hK
        obtain ⟨_, t5, rfl⟩ := hd 5 53 (by kernel_rfl)
        obtain ⟨_, t9, rfl⟩ := hd 9 57 (by kernel_rfl)
        have hcc := HX.out.2.1
        have hsz := HXs.out.2.1
        obtain ⟨st1, hst1⟩ : ∃ st : ByteArray, (⟨X.toArray⟩ : ByteArray) = st := ⟨_, rfl⟩
        obtain ⟨st2, hst2⟩ : ∃ st : ByteArray, (⟨E4.toArray⟩ : ByteArray) = st := ⟨_, rfl⟩
        rw [hst1] at t5 hcc hsz
        rw [hst2] at t9 hcc hsz
        have HCC := Lib.hid hcc
        clear hcc hst1 hst2
        unfold Go.Rel.stepOf
        go_simp
        exact hK _ _ (Go.Rel.Grew.refl _) (congrArg Value.string HCC.out)
      · intro a w' hle hs' hd K hK
        obtain ⟨_, t4, rfl⟩ := hd 4 52 (by kernel_rfl)
        obtain ⟨_, t10, rfl⟩ := hd 10 58 (by kernel_rfl)
        unfold Go.Rel.stepOf
        go_simp
        exact hK _ _ (Go.Rel.Grew.refl _) rfl
      · intro a w' hle hs' hd K hK
        obtain ⟨_, t11, rfl⟩ := hd 11 59 (by kernel_rfl)
        unfold Go.Rel.stepOf
        go_simp
        exact hK _ _ (Go.Rel.Grew.refl _) rfl
      · intro a w' hle hs' hd K hK
        obtain ⟨_, tg, rfl⟩ := hd 12 60 (by kernel_rfl)
        have f0 : a.tmps[0]? = some (.slice A n c) := hs'.2.2 0 (by kernel_rfl)
        unfold Go.Rel.stepOf
        go_simp
        exact hK _ _ (Go.Rel.Grew.refl _) rfl
      · intro a w' hle hs' hd K hK
        obtain ⟨_, tg, rfl⟩ := hd 12 60 (by kernel_rfl)
        have f5 : a.tmps[5]? = some (.pointer (some ⟨bx, 0, none⟩)) := hs'.2.2 5 (by kernel_rfl)
        unfold Go.Rel.stepOf
        go_simp
        exact hK _ _ (Go.Rel.Grew.refl _) rfl
      · intro a w' hle hs' hd K hK
        obtain ⟨_, tg, rfl⟩ := hd 12 60 (by kernel_rfl)
        obtain ⟨_, t14, rfl⟩ := hd 14 62 (by kernel_rfl)
        have cc := (HC.out w' (HG.out w' hle)).2.2.2
        unfold Go.Rel.stepOf
        go_simp
        exact hK _ _ (Go.Rel.Grew.refl _) rfl
      · intro a w' hle hs' hd K hK
        obtain ⟨_, tg, rfl⟩ := hd 12 60 (by kernel_rfl)
        obtain ⟨_, t13, rfl⟩ := hd 13 61 (by kernel_rfl)
        obtain ⟨_, t15, rfl⟩ := hd 15 63 (by kernel_rfl)
        unfold Go.Rel.stepOf
        go_simp
        refine (H2.out.2.2.1 w' hle).mono ?_
        rintro e w2 ⟨A5, c5, rfl, h5, _, _, _, hb5⟩
        exact hK _ _ hb5 ⟨_, _, rfl, h5⟩
      · intro a w' hle hs' hd K hK
        obtain ⟨_, tg, rfl⟩ := hd 12 60 (by kernel_rfl)
        obtain ⟨_, t16, A16, c16, rfl, h16⟩ := hd 16 64 (by kernel_rfl)
        have q1 := own_conv h16 c16
        unfold Go.Rel.stepOf
        go_simp
        exact hK _ _ (Go.Rel.Grew.refl _) rfl
      · intro a w' hle hs' hd K hK
        obtain ⟨_, tg, rfl⟩ := hd 12 60 (by kernel_rfl)
        have f7 : a.tmps[7]? = some (.string ⟨X.toArray⟩) := hs'.2.2 7 (by kernel_rfl)
        unfold Go.Rel.stepOf
        go_simp
        exact hK _ _ (Go.Rel.Grew.refl _) rfl
      · intro a w' hle hs' hd K hK
        obtain ⟨_, tg, rfl⟩ := hd 12 60 (by kernel_rfl)
        have f5 : a.tmps[5]? = some (.pointer (some ⟨bx, 0, none⟩)) := hs'.2.2 5 (by kernel_rfl)
        unfold Go.Rel.stepOf
        go_simp
        exact hK _ _ (Go.Rel.Grew.refl _) rfl
      · intro a w' hle hs' hd K hK
        obtain ⟨_, tg, rfl⟩ := hd 12 60 (by kernel_rfl)
        obtain ⟨_, t19, rfl⟩ := hd 19 67 (by kernel_rfl)
        have cc := (HC.out w' (HG.out w' hle)).2.2.2
        unfold Go.Rel.stepOf
        go_simp
        exact hK _ _ (Go.Rel.Grew.refl _) rfl
      · intro a w' hle hs' hd K hK
        obtain ⟨_, tg, rfl⟩ := hd 12 60 (by kernel_rfl)
        obtain ⟨_, t20, rfl⟩ := hd 20 68 (by kernel_rfl)
        unfold Go.Rel.stepOf
        go_simp
        refine (H2.out.2.2.2 w' hle).mono ?_
        rintro e w2 ⟨A5, c5, rfl, h5, _, _, _, hb5⟩
        exact hK _ _ hb5 ⟨_, _, rfl, h5⟩
      · intro a w' hle hs' hd K hK
        obtain ⟨_, tg, rfl⟩ := hd 12 60 (by kernel_rfl)
        obtain ⟨_, t21, A21, c21, rfl, h21⟩ := hd 21 69 (by kernel_rfl)
        have q1 := own_conv h21 c21
        unfold Go.Rel.stepOf
        go_simp
        exact hK _ _ (Go.Rel.Grew.refl _) rfl
      · intro a w' hle hs' hd K hK
        obtain ⟨_, tg, rfl⟩ := hd 12 60 (by kernel_rfl)
        obtain ⟨_, t18, rfl⟩ := hd 18 66 (by kernel_rfl)
        obtain ⟨_, t22, rfl⟩ := hd 22 70 (by kernel_rfl)
        have hcc := HX.out.2.2
        have hsz := HXs.out.2.2
        obtain ⟨st1, hst1⟩ : ∃ st : ByteArray, (⟨X.toArray⟩ : ByteArray) = st := ⟨_, rfl⟩
        obtain ⟨st2, hst2⟩ : ∃ st : ByteArray, (⟨E5.toArray⟩ : ByteArray) = st := ⟨_, rfl⟩
        rw [hst1] at t18 hcc hsz
        rw [hst2] at t22 hcc hsz
        have HCC := Lib.hid hcc
        clear hcc hst1 hst2
        unfold Go.Rel.stepOf
        go_simp
        exact hK _ _ (Go.Rel.Grew.refl _) (congrArg Value.string HCC.out)
      · intro a w' hle hs' hd K hK
        obtain ⟨_, tg, rfl⟩ := hd 12 60 (by kernel_rfl)
        obtain ⟨_, t17, rfl⟩ := hd 17 65 (by kernel_rfl)
        obtain ⟨_, t23, rfl⟩ := hd 23 71 (by kernel_rfl)
        unfold Go.Rel.stepOf
        go_simp
        exact hK _ _ (Go.Rel.Grew.refl _) rfl
      · intro a w' hle hs' hd K hK
        obtain ⟨_, t12, rfl⟩ := hd 12 60 (by kernel_rfl)
        obtain ⟨_, t24, rfl⟩ := hd 24 72 (by kernel_rfl)
        unfold Go.Rel.stepOf
        go_simp
        exact hK _ _ (Go.Rel.Grew.refl _) rfl
      · intro a w' hle hs' hd K hK
        obtain ⟨_, t25, rfl⟩ := hd 25 73 (by kernel_rfl)
        unfold Go.Rel.stepOf
        go_simp
        exact hK _ _ (Go.Rel.Grew.refl _) rfl
      · intro a w' hle hs' hd K hK
        obtain ⟨_, tg, rfl⟩ := hd 26 74 (by kernel_rfl)
        unfold Go.Rel.stepOf
        go_simp
        refine (works_any w').mono ?_
        rintro e w2 ⟨rfl, hb5⟩
        exact hK _ _ hb5 rfl
      · intro a w' hle hs' hd K hK
        obtain ⟨_, t26, rfl⟩ := hd 26 74 (by kernel_rfl)
        obtain ⟨_, t27, rfl⟩ := hd 27 75 (by kernel_rfl)
        unfold Go.Rel.stepOf
        go_simp
        exact hK _ _ (Go.Rel.Grew.refl _) rfl
      · intro a w' hle hs' hd K hK
        obtain ⟨_, t28, rfl⟩ := hd 28 76 (by kernel_rfl)
        unfold Go.Rel.stepOf
        go_simp
        exact hK _ _ (Go.Rel.Grew.refl _) rfl
    case hend2 =>
      intro a w2 hle hs' hR'
      obtain ⟨_, s6, rfl⟩ := hR' 29 6 (by kernel_rfl)
      have hbf : Below w.heap.size w w2 := HB0.out.trans ((HG.out w2 hle).mono HB0.out.size)
      go_wp2
      refine bodyPost_ret (results_tmp rfl _ _ _) hs'.1 ?_
      exact ⟨by simp [s6], hbf⟩
end Go.Proofs.Ytgjgndpeopiifaa
