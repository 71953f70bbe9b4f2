/-
  Same of the document's answers, over two equal lists (layer 3). Written by gen_same.py.
-/
import Derived.Test.YtjbemjnofnifaaaZj42
namespace Go.Proofs.Ytjbemjnofnifaaa
open Go.RowKit
set_option linter.unusedSimpArgs false

def sameR (SA SB : Value) (b1 o1 b2 o2 k : Nat) (kd : Int) (V1 V2 : Value) (st : ByteArray) : Nat → Value → World → Prop
  | 0, v, _ | 12, v, _ => v = SA
  | 5, v, _ | 18, v, _ => v = SB
  | 1, v, _ | 6, v, _ | 13, v, _ | 19, v, _ => v = .int .i64 (k : Int)
  | 2, v, _ | 3, v, _ | 14, v, _ => v = .pointer (some ⟨b1, o1, none⟩)
  | 7, v, _ | 8, v, _ | 20, v, _ => v = .pointer (some ⟨b2, o2, none⟩)
  | 15, v, _ => v = .pointer (some ⟨b1, o1 + 1, none⟩)
  | 21, v, _ => v = .pointer (some ⟨b2, o2 + 1, none⟩)
  | 4, v, _ | 9, v, _ => v = .int .u8 kd
  | 16, v, _ => v = V1
  | 22, v, _ => v = V2
  | 17, v, _ | 23, v, _ => v = .string st
  | _, v, _ => v = .bool false
theorem sameR_stable (SA SB : Value) (b1 o1 b2 o2 k : Nat) (kd : Int) (V1 V2 : Value) (st : ByteArray) : ∀ i v w w', sameR SA SB b1 o1 b2 o2 k kd V1 V2 st i v w → Go.Rel.Grew w w' → sameR SA SB b1 o1 b2 o2 k kd V1 V2 st i v w'
  | 0, _, _, _, h, _ | 1, _, _, _, h, _ | 2, _, _, _, h, _ | 3, _, _, _, h, _ | 4, _, _, _, h, _ | 5, _, _, _, h, _ | 6, _, _, _, h, _ | 7, _, _, _, h, _ | 8, _, _, _, h, _ | 9, _, _, _, h, _ | 10, _, _, _, h, _ | 11, _, _, _, h, _ | 12, _, _, _, h, _ | 13, _, _, _, h, _ | 14, _, _, _, h, _ | 15, _, _, _, h, _ | 16, _, _, _, h, _ | 17, _, _, _, h, _ | 18, _, _, _, h, _ | 19, _, _, _, h, _ | 20, _, _, _, h, _ | 21, _, _, _, h, _ | 22, _, _, _, h, _ | 23, _, _, _, h, _ | _ + 24, _, _, _, h, _ => h

set_option maxRecDepth 100000 in
set_option maxHeartbeats 4000000 in
theorem same_any (A B : Option Addr) (n c d : Nat) (fs : List Fr) (w : World) (hR : RFs w A n fs) (hR' : RFs w B n fs) (hn : n ≤ 4398046511104) :
    Calls Try.prog 22 #[.slice A n c, .slice B n d] w fun e w' => e = .returned (.bool true) ∧ Below w.heap.size w w' := by
  have HR := Lib.hid hR
  have HR' := Lib.hid hR'
  have HL := Lib.hid hR.1
  clear hR hR'
  go_enter Try.func22, Try.ntmps22
  go_wp2
  go_loopw [5] (fun i wr => ∃ k : Nat, k ≤ n ∧ i = .int .i64 k ∧ Hid (Below w.heap.size w wr)) (fun i _ => n - (intOf i).toNat)
  case atStart => exact ⟨0, Nat.zero_le _, rfl, Lib.hid (Below.refl _ _)⟩
  case round =>
    obtain ⟨k, hk, rfl, hbw⟩ := hrel
    by_cases hlt : k < n
    · have hkl : k < fs.length := by rw [HL.out]; exact hlt
      obtain ⟨b1, f1, rfl, hb1, hat1⟩ := HR.out.2 (by omega)
      obtain ⟨b2, f2, rfl, hb2, hat2⟩ := HR'.out.2 (by omega)
      obtain ⟨f, hf⟩ : ∃ f, fs[k] = f := ⟨_, rfl⟩
      have h1 := (hat1 k hkl).below hbw.out
      have h2 := (hat2 k hkl).below hbw.out
      rw [hf] at h1 h2
      obtain ⟨_, x0, A1, c1, x1, y1⟩ := h1
      obtain ⟨_, x2, A2, c2, x3, y2⟩ := h2
      obtain ⟨o1, ho1⟩ : ∃ o, f1 + k * 2 = o := ⟨_, rfl⟩
      obtain ⟨o2, ho2⟩ : ∃ o, f2 + k * 2 = o := ⟨_, rfl⟩
      rw [ho1] at x0 x1
      rw [ho2] at x2 x3
      obtain ⟨kd, hkd⟩ : ∃ kd : Int, (f.k.toNat : Int) = kd := ⟨_, rfl⟩
      rw [hkd] at x0 x2
      obtain ⟨st, hst⟩ : ∃ st : ByteArray, (⟨f.b.toArray⟩ : ByteArray) = st := ⟨_, rfl⟩
      obtain ⟨ln, hln⟩ : ∃ ln, f.b.length = ln := ⟨_, rfl⟩
      have y1' := y1.1
      have y2' := y2.1
      rw [hln] at y1' y2' x1 x3
      have HY1 := Lib.hid y1'
      have HY2 := Lib.hid y2'
      have HST := Lib.hid hst
      have HO1 := Lib.hid ho1
      have HO2 := Lib.hid ho2
      have g0 : (0 : Int) ≤ (k : Int) := by omega
      have g1 : (k : Int) < (n : Int) := by omega
      clear hat1 hat2 hf y1 y2 y1' y2' hst hln hkd ho1 ho2
      go_wp2
      refine Go.Rel.wp_region_grew (by kernel_rfl) (by kernel_rfl) (by kernel_rfl) (by kernel_rfl) (sameR (.slice (some ⟨b1, f1, none⟩) n c) (.slice (some ⟨b2, f2, none⟩) n d) b1 o1 b2 o2 k kd (.slice A1 ln c1) (.slice A2 ln c2) st) (sameR_stable _ _ _ _ _ _ _ _ _ _ _) ?hsteps ?hend
      case hsteps =>
        refine .cons ?_ (.cons ?_ (.cons ?_ (.cons ?_ (.cons ?_ (.cons ?_ (.cons ?_ (.cons ?_ (.cons ?_ (.cons ?_ (.cons ?_ (.cons ?_ (.cons ?_ (.cons ?_ (.cons ?_ (.cons ?_ (.cons ?_ (.cons ?_ (.cons ?_ (.cons ?_ (.cons ?_ (.cons ?_ (.cons ?_ (.cons ?_ (.cons ?_ (.cons ?_ (.nil))))))))))))))))))))))))))
        · intro a w' hle hs' hd K hK
          have s0 : a.tmps[0]? = some (.slice (some ⟨b1, f1, none⟩) n c) := hs'.2.2 0 (by kernel_rfl)
          unfold Go.Rel.stepOf
          go_simp
          exact hK _ _ (Go.Rel.Grew.refl _) rfl
        · intro a w' hle hs' hd K hK
          have s0 : a.tmps[5]? = some (.int .i64 (k : Int)) := hs'.2.2 5 (by kernel_rfl)
          unfold Go.Rel.stepOf
          go_simp
          exact hK _ _ (Go.Rel.Grew.refl _) rfl
        · intro a w' hle hs' hd K hK
          obtain ⟨_, t0, rfl⟩ := hd 0 17 (by kernel_rfl)
          obtain ⟨_, t1, rfl⟩ := hd 1 18 (by kernel_rfl)
          have ho := HO1.out
          unfold Go.Rel.stepOf
          go_simp
          exact hK _ _ (Go.Rel.Grew.refl _) rfl
        · intro a w' hle hs' hd K hK
          obtain ⟨_, t0, rfl⟩ := hd 2 19 (by kernel_rfl)
          unfold Go.Rel.stepOf
          go_simp
          exact hK _ _ (Go.Rel.Grew.refl _) rfl
        · intro a w' hle hs' hd K hK
          obtain ⟨_, t0, rfl⟩ := hd 3 20 (by kernel_rfl)
          have q := (hle.cell (p := ⟨b1, o1, none⟩) (bcell_lt x0)).trans x0
          unfold Go.Rel.stepOf
          go_simp
          exact hK _ _ (Go.Rel.Grew.refl _) rfl
        · intro a w' hle hs' hd K hK
          have s0 : a.tmps[1]? = some (.slice (some ⟨b2, f2, none⟩) n d) := hs'.2.2 1 (by kernel_rfl)
          unfold Go.Rel.stepOf
          go_simp
          exact hK _ _ (Go.Rel.Grew.refl _) rfl
        · intro a w' hle hs' hd K hK
          have s0 : a.tmps[5]? = some (.int .i64 (k : Int)) := hs'.2.2 5 (by kernel_rfl)
          unfold Go.Rel.stepOf
          go_simp
          exact hK _ _ (Go.Rel.Grew.refl _) rfl
        · intro a w' hle hs' hd K hK
          obtain ⟨_, t0, rfl⟩ := hd 5 22 (by kernel_rfl)
          obtain ⟨_, t1, rfl⟩ := hd 6 23 (by kernel_rfl)
          have ho := HO2.out
          unfold Go.Rel.stepOf
          go_simp
          exact hK _ _ (Go.Rel.Grew.refl _) rfl
        · intro a w' hle hs' hd K hK
          obtain ⟨_, t0, rfl⟩ := hd 7 24 (by kernel_rfl)
          unfold Go.Rel.stepOf
          go_simp
          exact hK _ _ (Go.Rel.Grew.refl _) rfl
        · intro a w' hle hs' hd K hK
          obtain ⟨_, t0, rfl⟩ := hd 8 25 (by kernel_rfl)
          have q := (hle.cell (p := ⟨b2, o2, none⟩) (bcell_lt x2)).trans x2
          unfold Go.Rel.stepOf
          go_simp
          exact hK _ _ (Go.Rel.Grew.refl _) rfl
        · intro a w' hle hs' hd K hK
          obtain ⟨_, t0, rfl⟩ := hd 4 21 (by kernel_rfl)
          obtain ⟨_, t1, rfl⟩ := hd 9 26 (by kernel_rfl)
          unfold Go.Rel.stepOf
          go_simp
          exact hK _ _ (Go.Rel.Grew.refl _) rfl
        · intro a w' hle hs' hd K hK
          obtain ⟨_, t0, rfl⟩ := hd 10 27 (by kernel_rfl)
          unfold Go.Rel.stepOf
          go_simp
          exact hK _ _ (Go.Rel.Grew.refl _) rfl
        · intro a w' hle hs' hd K hK
          obtain ⟨_, t0, rfl⟩ := hd 11 28 (by kernel_rfl)
          have s0 : a.tmps[0]? = some (.slice (some ⟨b1, f1, none⟩) n c) := hs'.2.2 0 (by kernel_rfl)
          unfold Go.Rel.stepOf
          go_simp
          exact hK _ _ (Go.Rel.Grew.refl _) rfl
        · intro a w' hle hs' hd K hK
          obtain ⟨_, t0, rfl⟩ := hd 11 28 (by kernel_rfl)
          have s0 : a.tmps[5]? = some (.int .i64 (k : Int)) := hs'.2.2 5 (by kernel_rfl)
          unfold Go.Rel.stepOf
          go_simp
          exact hK _ _ (Go.Rel.Grew.refl _) rfl
        · intro a w' hle hs' hd K hK
          obtain ⟨_, t0, rfl⟩ := hd 11 28 (by kernel_rfl)
          obtain ⟨_, t1, rfl⟩ := hd 12 29 (by kernel_rfl)
          obtain ⟨_, t2, rfl⟩ := hd 13 30 (by kernel_rfl)
          have ho := HO1.out
          unfold Go.Rel.stepOf
          go_simp
          exact hK _ _ (Go.Rel.Grew.refl _) rfl
        · intro a w' hle hs' hd K hK
          obtain ⟨_, t0, rfl⟩ := hd 11 28 (by kernel_rfl)
          obtain ⟨_, t1, rfl⟩ := hd 14 31 (by kernel_rfl)
          unfold Go.Rel.stepOf
          go_simp
          exact hK _ _ (Go.Rel.Grew.refl _) rfl
        · intro a w' hle hs' hd K hK
          obtain ⟨_, t0, rfl⟩ := hd 11 28 (by kernel_rfl)
          obtain ⟨_, t1, rfl⟩ := hd 15 32 (by kernel_rfl)
          have q := (hle.cell (p := ⟨b1, o1 + 1, none⟩) (bcell_lt x1)).trans x1
          unfold Go.Rel.stepOf
          go_simp
          exact hK _ _ (Go.Rel.Grew.refl _) rfl
        · intro a w' hle hs' hd K hK
          obtain ⟨_, t0, rfl⟩ := hd 11 28 (by kernel_rfl)
          obtain ⟨_, t1, rfl⟩ := hd 16 33 (by kernel_rfl)
          have q := own_conv (HY1.out.below hle) c1
          rw [HST.out] at q
          unfold Go.Rel.stepOf
          go_simp
          exact hK _ _ (Go.Rel.Grew.refl _) rfl
        · intro a w' hle hs' hd K hK
          obtain ⟨_, t0, rfl⟩ := hd 11 28 (by kernel_rfl)
          have s0 : a.tmps[1]? = some (.slice (some ⟨b2, f2, none⟩) n d) := hs'.2.2 1 (by kernel_rfl)
          unfold Go.Rel.stepOf
          go_simp
          exact hK _ _ (Go.Rel.Grew.refl _) rfl
        · intro a w' hle hs' hd K hK
          obtain ⟨_, t0, rfl⟩ := hd 11 28 (by kernel_rfl)
          have s0 : a.tmps[5]? = some (.int .i64 (k : Int)) := hs'.2.2 5 (by kernel_rfl)
          unfold Go.Rel.stepOf
          go_simp
          exact hK _ _ (Go.Rel.Grew.refl _) rfl
        · intro a w' hle hs' hd K hK
          obtain ⟨_, t0, rfl⟩ := hd 11 28 (by kernel_rfl)
          obtain ⟨_, t1, rfl⟩ := hd 18 35 (by kernel_rfl)
          obtain ⟨_, t2, rfl⟩ := hd 19 36 (by kernel_rfl)
          have ho := HO2.out
          unfold Go.Rel.stepOf
          go_simp
          exact hK _ _ (Go.Rel.Grew.refl _) rfl
        · intro a w' hle hs' hd K hK
          obtain ⟨_, t0, rfl⟩ := hd 11 28 (by kernel_rfl)
          obtain ⟨_, t1, rfl⟩ := hd 20 37 (by kernel_rfl)
          unfold Go.Rel.stepOf
          go_simp
          exact hK _ _ (Go.Rel.Grew.refl _) rfl
        · intro a w' hle hs' hd K hK
          obtain ⟨_, t0, rfl⟩ := hd 11 28 (by kernel_rfl)
          obtain ⟨_, t1, rfl⟩ := hd 21 38 (by kernel_rfl)
          have q := (hle.cell (p := ⟨b2, o2 + 1, none⟩) (bcell_lt x3)).trans x3
          unfold Go.Rel.stepOf
          go_simp
          exact hK _ _ (Go.Rel.Grew.refl _) rfl
        · intro a w' hle hs' hd K hK
          obtain ⟨_, t0, rfl⟩ := hd 11 28 (by kernel_rfl)
          obtain ⟨_, t1, rfl⟩ := hd 22 39 (by kernel_rfl)
          have q := own_conv (HY2.out.below hle) c2
          rw [HST.out] at q
          unfold Go.Rel.stepOf
          go_simp
          exact hK _ _ (Go.Rel.Grew.refl _) rfl
        · intro a w' hle hs' hd K hK
          obtain ⟨_, t0, rfl⟩ := hd 11 28 (by kernel_rfl)
          obtain ⟨_, t1, rfl⟩ := hd 17 34 (by kernel_rfl)
          obtain ⟨_, t2, rfl⟩ := hd 23 40 (by kernel_rfl)
          unfold Go.Rel.stepOf
          go_simp
          exact hK _ _ (Go.Rel.Grew.refl _) rfl
        · intro a w' hle hs' hd K hK
          obtain ⟨_, t0, rfl⟩ := hd 11 28 (by kernel_rfl)
          obtain ⟨_, t1, rfl⟩ := hd 24 41 (by kernel_rfl)
          unfold Go.Rel.stepOf
          go_simp
          exact hK _ _ (Go.Rel.Grew.refl _) rfl
      case hend =>
        intro a w' hle hs' hR2
        obtain ⟨_, s17, rfl⟩ := hR2 0 17 (by kernel_rfl)
        obtain ⟨_, s18, rfl⟩ := hR2 1 18 (by kernel_rfl)
        obtain ⟨_, s19, rfl⟩ := hR2 2 19 (by kernel_rfl)
        obtain ⟨_, s20, rfl⟩ := hR2 3 20 (by kernel_rfl)
        obtain ⟨_, s21, rfl⟩ := hR2 4 21 (by kernel_rfl)
        obtain ⟨_, s22, rfl⟩ := hR2 5 22 (by kernel_rfl)
        obtain ⟨_, s23, rfl⟩ := hR2 6 23 (by kernel_rfl)
        obtain ⟨_, s24, rfl⟩ := hR2 7 24 (by kernel_rfl)
        obtain ⟨_, s25, rfl⟩ := hR2 8 25 (by kernel_rfl)
        obtain ⟨_, s26, rfl⟩ := hR2 9 26 (by kernel_rfl)
        obtain ⟨_, s27, rfl⟩ := hR2 10 27 (by kernel_rfl)
        obtain ⟨_, s28, rfl⟩ := hR2 11 28 (by kernel_rfl)
        obtain ⟨_, s29, rfl⟩ := hR2 12 29 (by kernel_rfl)
        obtain ⟨_, s30, rfl⟩ := hR2 13 30 (by kernel_rfl)
        obtain ⟨_, s31, rfl⟩ := hR2 14 31 (by kernel_rfl)
        obtain ⟨_, s32, rfl⟩ := hR2 15 32 (by kernel_rfl)
        obtain ⟨_, s33, rfl⟩ := hR2 16 33 (by kernel_rfl)
        obtain ⟨_, s34, rfl⟩ := hR2 17 34 (by kernel_rfl)
        obtain ⟨_, s35, rfl⟩ := hR2 18 35 (by kernel_rfl)
        obtain ⟨_, s36, rfl⟩ := hR2 19 36 (by kernel_rfl)
        obtain ⟨_, s37, rfl⟩ := hR2 20 37 (by kernel_rfl)
        obtain ⟨_, s38, rfl⟩ := hR2 21 38 (by kernel_rfl)
        obtain ⟨_, s39, rfl⟩ := hR2 22 39 (by kernel_rfl)
        obtain ⟨_, s40, rfl⟩ := hR2 23 40 (by kernel_rfl)
        obtain ⟨_, s41, rfl⟩ := hR2 24 41 (by kernel_rfl)
        obtain ⟨_, s42, rfl⟩ := hR2 25 42 (by kernel_rfl)
        have e := hs'.shape
        simp only [List.toList_toArray, List.foldl, Go.Rel.reset, Array.getD_eq_getD_getElem?, s17, s18, s19, s20, s21, s22, s23, s24, s25, s26, s27, s28, s29, s30, s31, s32, s33, s34, s35, s36, s37, s38, s39, s40, s41, s42, Option.getD_some] at e
        simp at e
        have HB2 : Hid (Below w.heap.size w w') := Lib.hid (hbw.out.trans (hle.mono hbw.out.size))
        clear hR2 hs' s17 s18 s19 s20 s21 s22 s23 s24 s25 s26 s27 s28 s29 s30 s31 s32 s33 s34 s35 s36 s37 s38 s39 s40 s41 s42 hle x0 x1 x2 x3
        subst e
        go_wp2
        go_roundw
        case rel => exact ⟨k + 1, by omega, by go_num, HB2⟩
        case measure => simp [intOf]; omega
    · obtain rfl : k = n := by omega
      clear hlt
      go_wp2
      go_ret
      exact ⟨rfl, hbw.out⟩
end Go.Proofs.Ytjbemjnofnifaaa
