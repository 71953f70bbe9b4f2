/-
  The sum of three rows of one length, laid over one another, is their sums, laid over one another: the law sodalitylaw02.SumLaid over the contracts.
-/
import Derived.Test.YtbnlboggclholaaWorks
import Derived.Test.YtbnlboggclholaaRel
import Derived.Deep.CutRange
import Derived.Deep.DeepCutAuto
namespace Go.Proofs.Ytbnlboggclholaa
open Go.RowKit
set_option linter.unusedSimpArgs false

/-- The row as the loop leaves it: the first k bytes are laid over. -/
def mixTo (R X : List UInt8) (k : Nat) : List UInt8 := R.take k ++ X.drop k
theorem mixTo_zero (R X : List UInt8) : mixTo R X 0 = X := by simp [mixTo]
theorem mixTo_all (R X : List UInt8) (h : R.length = X.length) : mixTo R X X.length = R := by simp [mixTo, ← h]
theorem mixTo_length (R X : List UInt8) (h : R.length = X.length) (k : Nat) : (mixTo R X k).length = X.length := by simp [mixTo]; omega
theorem mixTo_get (R X : List UInt8) (h : R.length = X.length) {k : Nat} (hk : k < X.length) : (mixTo R X k)[k]'(by rw [mixTo_length R X h]; exact hk) = X[k] := by
  simp only [mixTo]
  rw [List.getElem_append_right (by rw [List.length_take]; omega)]
  simp [List.length_take, show min k R.length = k by omega]
theorem mixTo_set (R X : List UInt8) (h : R.length = X.length) {k : Nat} (hk : k < X.length) : (mixTo R X k).set k (R[k]'(by omega)) = mixTo R X (k + 1) := by
  simp only [mixTo]
  rw [List.set_append_right _ _ (by rw [List.length_take]; omega), List.length_take, show k - min k R.length = 0 by omega, List.drop_eq_getElem_cons hk, List.set_cons_zero, show R.take (k + 1) = R.take k ++ [R[k]'(by omega)] from List.take_succ_eq_append_getElem (by omega)]
  simp only [List.append_assoc, List.cons_append, List.nil_append]
theorem xor_three (x y z : UInt8) : Value.int .u8 (bits .xor .u8 (bits .xor .u8 (x.toNat : Int) (y.toNat : Int)) (z.toNat : Int)) = byteV ((((x.toNat ^^^ y.toNat).toUInt8).toNat ^^^ z.toNat).toUInt8) := by
  have h1 : x.toNat ^^^ y.toNat < 256 := Nat.xor_lt_two_pow (n := 8) x.toNat_lt y.toNat_lt
  have h2 : (x.toNat ^^^ y.toNat) ^^^ z.toNat < 256 := Nat.xor_lt_two_pow (n := 8) h1 z.toNat_lt
  rw [u8_xor_nat _ _ x.toNat_lt y.toNat_lt, u8_xor_nat _ _ h1 z.toNat_lt, byteV, toU8 h1, toU8 h2]

/-- What is known of the values of the law's last statement, by the operations' numbers. -/
def laidR (VA VB VE V8 : Value) (N : Nat) (X Y Z Rr : List UInt8) : Nat → Value → World → Prop
  | 0, v, _ => v = VA
  | 1, v, _ => v = .int .i64 N
  | 2, v, w => ∃ A c, v = .slice A N c ∧ RB w A N X
  | 3, v, w => ∃ g, v = .slice (some ⟨g, 0, none⟩) 1 1 ∧ Pieces w (some ⟨g, 0, none⟩) [X]
  | 4, v, _ => v = .int .u32 ((crc X).toNat : Int)
  | 5, v, _ => v = VB
  | 6, v, _ => v = .int .i64 N
  | 7, v, w => ∃ A c, v = .slice A N c ∧ RB w A N Y
  | 8, v, w => ∃ g, v = .slice (some ⟨g, 0, none⟩) 1 1 ∧ Pieces w (some ⟨g, 0, none⟩) [Y]
  | 9, v, _ => v = .int .u32 ((crc Y).toNat : Int)
  | 10, v, _ => v = .int .u32 ((crc X ^^^ crc Y).toNat : Int)
  | 11, v, _ => v = VE
  | 12, v, _ => v = .int .i64 N
  | 13, v, w => ∃ A c, v = .slice A N c ∧ RB w A N Z
  | 14, v, w => ∃ g, v = .slice (some ⟨g, 0, none⟩) 1 1 ∧ Pieces w (some ⟨g, 0, none⟩) [Z]
  | 15, v, _ => v = .int .u32 ((crc Z).toNat : Int)
  | 16, v, _ => v = .int .u32 ((crc Rr).toNat : Int)
  | 17, v, _ => v = V8
  | 18, v, w => ∃ g, v = .slice (some ⟨g, 0, none⟩) 1 1 ∧ Pieces w (some ⟨g, 0, none⟩) [Rr]
  | 19, v, _ => v = .int .u32 ((crc Rr).toNat : Int)
  | _, v, _ => v = .bool true
theorem laidR_stable (VA VB VE V8 : Value) (N : Nat) (X Y Z Rr : List UInt8) : ∀ i v w w', laidR VA VB VE V8 N X Y Z Rr i v w → Go.Rel.Grew w w' → laidR VA VB VE V8 N X Y Z Rr i v w'
  | 0, _, _, _, h, _ | 1, _, _, _, h, _ | 4, _, _, _, h, _ | 5, _, _, _, h, _ | 6, _, _, _, h, _ | 9, _, _, _, h, _ | 10, _, _, _, h, _ | 11, _, _, _, h, _ | 12, _, _, _, h, _
  | 15, _, _, _, h, _ | 16, _, _, _, h, _ | 17, _, _, _, h, _ | 19, _, _, _, h, _ => h
  | 2, _, _, _, ⟨A, c, e, h⟩, g | 7, _, _, _, ⟨A, c, e, h⟩, g | 13, _, _, _, ⟨A, c, e, h⟩, g => ⟨A, c, e, h.below g⟩
  | 3, _, _, _, ⟨b, e, h⟩, g | 8, _, _, _, ⟨b, e, h⟩, g | 14, _, _, _, ⟨b, e, h⟩, g | 18, _, _, _, ⟨b, e, h⟩, g => ⟨b, e, h.below g⟩
  | _ + 20, _, _, _, h, _ => h

theorem xor_crc (a b r : BitVec 32) (h : a ^^^ b = r) : Value.int .u32 ((a.toNat ^^^ b.toNat : Nat) : Int) = .int .u32 (r.toNat : Int) := by
  rw [← h, BitVec.toNat_xor]

set_option maxHeartbeats 4000000 in
theorem laid_walk (C : Con) (A : Option Addr) (n c : Nat) (xs : List UInt8) (B : Option Addr) (m d : Nat) (ys : List UInt8) (E : Option Addr) (k e : Nat) (zs : List UInt8) (w : World)
    (h1 : RB w A n xs) (n1 : A = none → c = 0) (c1 : n ≤ c) (h2 : RB w B m ys) (n2 : B = none → d = 0) (c2 : m ≤ d) (h3 : RB w E k zs) (n3 : E = none → e = 0) (c3 : k ≤ e) (hn : n ≤ 140737488351232) (hm : m ≤ 140737488351232) :
    Calls Try.prog 6 #[.slice A n c, .slice B m d, .slice E k e] w fun e w' => e = .returned (.bool true) ∧ Below w.heap.size w w' := by
  obtain ⟨i0, hi, hz0, hz1, hz2⟩ := info_parts u8_info
  have hM : maxLen = 9223372036854775807 := by unfold maxLen; omega
  have HM := Lib.hid hM
  have H1 := Lib.hid h1
  have H2 := Lib.hid h2
  have H3 := Lib.hid h3
  clear h1 h2 h3 hM
  go_enter Try.func6, Try.ntmps6
  go_upto_if 15 with fail
  go_cut [7] from 16 to 17 (fun s7 wx => s7 = .int .i64 ((min n m : Nat) : Int) ∧ w = wx)
  case first =>
    by_cases hlt : m < n
    · have t : decide (m < n) = true := decide_eq_true hlt
      go_wp2_with fail
      go_meet
      exact ⟨by rw [show min n m = m by omega], rfl⟩
    · have t : decide (m < n) = false := decide_eq_false hlt
      go_wp2_with fail
      go_meet
      exact ⟨by rw [show min n m = n by omega], rfl⟩
  case rest =>
    obtain ⟨rfl, rfl⟩ := hcut
    obtain ⟨N1, hN1⟩ : ∃ N1, min n m = N1 := ⟨_, rfl⟩
    rw [hN1]
    have HN1 : N1 ≤ n ∧ N1 ≤ m := by omega
    clear hN1
    go_upto_if 21 with fail
    go_cut [7] from 22 to 23 (fun s7 wx => s7 = .int .i64 ((min N1 k : Nat) : Int) ∧ w = wx)
    case first =>
      by_cases hlt : k < N1
      · have t : decide (k < N1) = true := decide_eq_true hlt
        go_wp2_with fail
        go_meet
        exact ⟨by rw [show min N1 k = k by omega], rfl⟩
      · have t : decide (k < N1) = false := decide_eq_false hlt
        go_wp2_with fail
        go_meet
        exact ⟨by rw [show min N1 k = N1 by omega], rfl⟩
    case rest =>
      obtain ⟨rfl, rfl⟩ := hcut
      obtain ⟨N, hN⟩ : ∃ N, min N1 k = N := ⟨_, rfl⟩
      rw [hN]
      have HN : N ≤ n ∧ N ≤ m ∧ N ≤ k := by omega
      obtain ⟨q1, q2, q3⟩ := HN
      clear hN HN1
      have q4 : N ≤ c := by omega
      have q5 : N ≤ d := by omega
      have q6 : N ≤ e := by omega
      obtain ⟨X, hX⟩ : ∃ X, xs.take N = X := ⟨_, rfl⟩
      obtain ⟨Y, hY⟩ : ∃ Y, ys.take N = Y := ⟨_, rfl⟩
      obtain ⟨Z, hZ⟩ : ∃ Z, zs.take N = Z := ⟨_, rfl⟩
      have HX := Lib.hid (hX ▸ H1.out.take q1)
      have HY := Lib.hid (hY ▸ H2.out.take q2)
      have HZ := Lib.hid (hZ ▸ H3.out.take q3)
      clear hX hY hZ H1 H2 H3
      have g0 : (0 : Int) ≤ (N : Int) := by omega
      have g1 : (N : Int) ≤ (c : Int) := by omega
      have hown0 := own_made w
      have z1 : (Option.map (fun x : Addr => x.add 0) A) = A := by cases A <;> simp [Addr.add]
      have z2 : (Option.map (fun x : Addr => x.add 0) B) = B := by cases B <;> simp [Addr.add]
      have z3 : (Option.map (fun x : Addr => x.add 0) E) = E := by cases E <;> simp [Addr.add]
      have g2 : (N : Int) ≤ (d : Int) := by omega
      have g3 : (N : Int) ≤ (e : Int) := by omega
      go_wp2_with (at_builtin; refine wpList_append_rb rfl (.tmp 24) (.tmp 27) 22 rfl w.heap.size 5 i0 (.int .u8 0) 1 Try.underlying22 hi hz0 hz1 hz2 rfl _ 0 [] rfl hown0 A N c X rfl n1 (HX.out.alloc _) ?c1 ?c2 ?c3 ?_)
      case c1 => have := HM.out; omega
      case c2 => omega
      case c3 => simp
      intro v1 w1 hown1 hg1
      have hb1 := below_made w w1 hg1
      obtain ⟨Rr, hRr⟩ : ∃ Rr, xorB (xorB X Y) Z = Rr := ⟨_, rfl⟩
      have HL : Hid (X.length = N ∧ Y.length = N ∧ Z.length = N) := Lib.hid ⟨HX.out.1, HY.out.1, HZ.out.1⟩
      have HRr := Lib.hid hRr
      have HRl : Hid (Rr.length = X.length) := Lib.hid (by
        have := HL.out
        rw [← hRr, xorB_length _ _ (by rw [xorB_length _ _ (by omega)]; omega), xorB_length _ _ (by omega)])
      have hown1 : w1.ownsRow w.heap.size 5 1 v1 N (X.map byteV) := by simpa using hown1
      have HW1 := Lib.hid hown1
      have HB1 := Lib.hid hb1
      clear hg1 hown0 hRr hown1 hb1
      go_wp2
      go_loopw [9] (fun i wr => ∃ j : Nat, j ≤ N ∧ i = .int .i64 j ∧ wr.ownsRow w.heap.size 5 1 v1 N ((mixTo Rr X j).map byteV) ∧ Below w.heap.size w wr) (fun i _ => N - (intOf i).toNat)
      case atStart => exact ⟨0, Nat.zero_le _, rfl, by rw [mixTo_zero]; exact HW1.out, HB1.out⟩
      case round =>
        obtain ⟨j, hj, rfl, hown, hbel⟩ := hrel
        have HO := Lib.hid hown
        have HB := Lib.hid hbel
        clear hown hbel
        by_cases hlt : j < N
        · rcases HO.out.2 with ⟨_, h0⟩ | ⟨g, cap, cur, rfl, hgb, _⟩
          · omega
          obtain ⟨bY, oY, rfl, _, hcY⟩ := HY.out.2 (by omega)
          obtain ⟨bZ, oZ, rfl, _, hcZ⟩ := HZ.out.2 (by omega)
          have lX := HL.out.1
          have lY := HL.out.2.1
          have lZ := HL.out.2.2
          have hml : (mixTo Rr X j).length = X.length := mixTo_length Rr X HRl.out j
          have hc0 := bown_cell HO.out (i := j) (by omega)
          rw [mixTo_get Rr X HRl.out (by omega)] at hc0
          have hf0 := bown_free HO.out j
          have hc1 := (HB.out.cell (p := ⟨bY, oY + j, none⟩) (bcell_lt (hcY j (by omega)))).trans (hcY j (by omega))
          have hc2 := (HB.out.cell (p := ⟨bZ, oZ + j, none⟩) (bcell_lt (hcZ j (by omega)))).trans (hcZ j (by omega))
          obtain ⟨x, hx⟩ : ∃ x : UInt8, X[j] = x := ⟨_, rfl⟩
          obtain ⟨y, hy⟩ : ∃ y : UInt8, Y[j] = y := ⟨_, rfl⟩
          obtain ⟨z, hz⟩ : ∃ z : UInt8, Z[j] = z := ⟨_, rfl⟩
          rw [hx] at hc0
          rw [hy] at hc1
          rw [hz] at hc2
          have hnew : Hid (wr.ownsRow w.heap.size 5 1 (.slice (some ⟨g, 0, none⟩) N cap) N ((mixTo Rr X j).map byteV) → ∀ u, u = byteV ((((x.toNat ^^^ y.toNat).toUInt8).toNat ^^^ z.toNat).toUInt8) → ((mixTo Rr X j).map byteV).set j u = (mixTo Rr X (j + 1)).map byteV) := Lib.hid fun _ u hu => by
            subst hu
            rw [← mixTo_set Rr X HRl.out (k := j) (by omega), List.map_set]
            congr 2
            subst hx hy hz
            have : Rr = xorB (xorB X Y) Z := HRr.out.symm
            subst this
            simp [xorB]
          have xl := x.toNat_lt
          have yl := y.toNat_lt
          have zl := z.toNat_lt
          clear hx hy hz hcY hcZ hml lX lY lZ
          have eJ : IntKind.i64.wrap (j : Int) = (j : Int) := IntWalk.i64_in _ (by omega)
          have b0 : (0 : Int) ≤ (j : Int) := by omega
          have b1 : (j : Int) < (N : Int) := by omega
          have b2 : (j : Int) < (m : Int) := by omega
          have b3 : (j : Int) < (k : Int) := by omega
          go_wp2
          go_still_tail 17, (by kernel_rfl)
          have hf2 : wr.drew.frozen? ⟨g, j, none⟩ = false := hf0
          have hc0' : wr.drew.cell? ⟨g, j, none⟩ = some (.int .u8 (x.toNat : Int)) := hc0
          have HO2 : Hid (wr.drew.ownsRow w.heap.size 5 1 (.slice (some ⟨g, 0, none⟩) N cap) N ((mixTo Rr X j).map byteV)) := Lib.hid HO.out
          have HB2 : Hid (Below w.heap.size w wr.drew) := Lib.hid HB.out.drew
          have HS := Lib.hid (hnew.out HO.out _ rfl)
          clear hc0 hc1 hc2 hf0 HO HB hnew
          change wpList _ _ _ _ _ wr.drew
          generalize wr.drew = w2 at *
          go_wp2
          rw [xor_three x y z]
          refine ⟨⟨j + 1, by omega, by go_num, ?_, HB2.out.setCell (by simp; omega) _⟩, by simp [intOf]; omega⟩
          have := bown_store HO2.out j (byteV ((((x.toNat ^^^ y.toNat).toUInt8).toNat ^^^ z.toNat).toUInt8))
          rw [HS.out] at this
          exact this
        · have hjN : j = N := by omega
          subst hjN
          obtain ⟨A3, c3', rfl, hr3, hn3, _⟩ := RB.own HO.out
          have HR3 : Hid (RB wr A3 j Rr) := Lib.hid (by
            have e := mixTo_all Rr X HRl.out
            rw [HL.out.1] at e
            rw [← e]; exact hr3)
          have HCr : Hid (crc X ^^^ crc Y ^^^ crc Z = crc Rr) := Lib.hid (by rw [← HRr.out, crc_laid _ _ _ (by have := HL.out; omega) (by have := HL.out; omega)])
          clear hr3 hn3 HO HW1 HB1
          go_upto_region 11 with fail
          refine Go.Rel.wp_region_grew (by kernel_rfl) (by kernel_rfl) (by kernel_rfl) (by kernel_rfl) (laidR (.slice A n c) (.slice B m d) (.slice E k e) (.slice A3 j c3') j X Y Z Rr) (laidR_stable _ _ _ _ _ _ _ _ _) ?hsteps ?hend
          case hsteps =>
            refine .cons ?_ (.cons ?_ (.cons ?_ (.cons ?_ (.cons ?_ (.cons ?_ (.cons ?_ (.cons ?_ (.cons ?_ (.cons ?_ (.cons ?_ (.cons ?_ (.cons ?_ (.cons ?_ (.cons ?_ (.cons ?_ (.cons ?_ (.cons ?_ (.cons ?_ (.cons ?_ (.cons ?_ (.cons ?_ (.cons ?_ (.cons ?_ (.cons ?_ .nil))))))))))))))))))))))))
            · intro a w' hle hs hd K hK
              have s0 : a.tmps[0]? = some (.slice A n c) := hs.2.2 0 (by kernel_rfl)
              unfold Go.Rel.stepOf
              go_simp
              exact hK _ _ (Go.Rel.Grew.refl _) rfl
            · intro a w' hle hs hd K hK
              have s0 : a.tmps[7]? = some (.int .i64 (j : Int)) := hs.2.2 7 (by kernel_rfl)
              unfold Go.Rel.stepOf
              go_simp
              exact hK _ _ (Go.Rel.Grew.refl _) rfl
            · intro a w' hle hs hd K hK
              obtain ⟨_, s1, rfl⟩ := hd 0 51 (by kernel_rfl)
              obtain ⟨_, s2, rfl⟩ := hd 1 52 (by kernel_rfl)
              unfold Go.Rel.stepOf
              go_simp
              exact hK _ _ (Go.Rel.Grew.refl _) ⟨A, c, rfl, HX.out.below (HB.out.trans (Below.mono hle HB.out.size))⟩
            · intro a w' hle hs hd K hK
              obtain ⟨_, s1, A5, c5, rfl, h5⟩ := hd 2 53 (by kernel_rfl)
              unfold Go.Rel.stepOf
              go_simp
              exact hK _ _ ((Below.refl _ _).alloc (Nat.le_refl _) _) ⟨_, rfl, Pieces.one h5 (by have := HM.out; omega) _⟩
            · intro a w' hle hs hd K hK
              obtain ⟨_, s1, g5, rfl, h5⟩ := hd 3 54 (by kernel_rfl)
              have s5 := C.sum (some ⟨g5, 0, none⟩) 1 1 [X] w' h5 rfl (by omega)
              unfold Go.Rel.stepOf
              go_simp
              refine s5.mono ?_
              rintro e w2 ⟨rfl, hb⟩
              exact hK _ _ hb (by simp [laidR])
            · intro a w' hle hs hd K hK
              have s0 : a.tmps[1]? = some (.slice B m d) := hs.2.2 1 (by kernel_rfl)
              unfold Go.Rel.stepOf
              go_simp
              exact hK _ _ (Go.Rel.Grew.refl _) rfl
            · intro a w' hle hs hd K hK
              have s0 : a.tmps[7]? = some (.int .i64 (j : Int)) := hs.2.2 7 (by kernel_rfl)
              unfold Go.Rel.stepOf
              go_simp
              exact hK _ _ (Go.Rel.Grew.refl _) rfl
            · intro a w' hle hs hd K hK
              obtain ⟨_, s1, rfl⟩ := hd 5 56 (by kernel_rfl)
              obtain ⟨_, s2, rfl⟩ := hd 6 57 (by kernel_rfl)
              unfold Go.Rel.stepOf
              go_simp
              exact hK _ _ (Go.Rel.Grew.refl _) ⟨B, d, rfl, HY.out.below (HB.out.trans (Below.mono hle HB.out.size))⟩
            · intro a w' hle hs hd K hK
              obtain ⟨_, s1, A5, c5, rfl, h5⟩ := hd 7 58 (by kernel_rfl)
              unfold Go.Rel.stepOf
              go_simp
              exact hK _ _ ((Below.refl _ _).alloc (Nat.le_refl _) _) ⟨_, rfl, Pieces.one h5 (by have := HM.out; omega) _⟩
            · intro a w' hle hs hd K hK
              obtain ⟨_, s1, g5, rfl, h5⟩ := hd 8 59 (by kernel_rfl)
              have s5 := C.sum (some ⟨g5, 0, none⟩) 1 1 [Y] w' h5 rfl (by omega)
              unfold Go.Rel.stepOf
              go_simp
              refine s5.mono ?_
              rintro e w2 ⟨rfl, hb⟩
              exact hK _ _ hb (by simp [laidR])
            · intro a w' hle hs hd K hK
              obtain ⟨_, s1, rfl⟩ := hd 4 55 (by kernel_rfl)
              obtain ⟨_, s2, rfl⟩ := hd 9 60 (by kernel_rfl)
              have hx := u32_xor_nat (crc X).toNat (crc Y).toNat (crc X).isLt (crc Y).isLt
              unfold Go.Rel.stepOf
              go_simp
              have hv := xor_crc (crc X) (crc Y) _ rfl
              exact hK _ _ (Go.Rel.Grew.refl _) hv
            · intro a w' hle hs hd K hK
              have s0 : a.tmps[2]? = some (.slice E k e) := hs.2.2 2 (by kernel_rfl)
              unfold Go.Rel.stepOf
              go_simp
              exact hK _ _ (Go.Rel.Grew.refl _) rfl
            · intro a w' hle hs hd K hK
              have s0 : a.tmps[7]? = some (.int .i64 (j : Int)) := hs.2.2 7 (by kernel_rfl)
              unfold Go.Rel.stepOf
              go_simp
              exact hK _ _ (Go.Rel.Grew.refl _) rfl
            · intro a w' hle hs hd K hK
              obtain ⟨_, s1, rfl⟩ := hd 11 62 (by kernel_rfl)
              obtain ⟨_, s2, rfl⟩ := hd 12 63 (by kernel_rfl)
              unfold Go.Rel.stepOf
              go_simp
              exact hK _ _ (Go.Rel.Grew.refl _) ⟨E, e, rfl, HZ.out.below (HB.out.trans (Below.mono hle HB.out.size))⟩
            · intro a w' hle hs hd K hK
              obtain ⟨_, s1, A5, c5, rfl, h5⟩ := hd 13 64 (by kernel_rfl)
              unfold Go.Rel.stepOf
              go_simp
              exact hK _ _ ((Below.refl _ _).alloc (Nat.le_refl _) _) ⟨_, rfl, Pieces.one h5 (by have := HM.out; omega) _⟩
            · intro a w' hle hs hd K hK
              obtain ⟨_, s1, g5, rfl, h5⟩ := hd 14 65 (by kernel_rfl)
              have s5 := C.sum (some ⟨g5, 0, none⟩) 1 1 [Z] w' h5 rfl (by omega)
              unfold Go.Rel.stepOf
              go_simp
              refine s5.mono ?_
              rintro e w2 ⟨rfl, hb⟩
              exact hK _ _ hb (by simp [laidR])
            · intro a w' hle hs hd K hK
              obtain ⟨_, s1, rfl⟩ := hd 10 61 (by kernel_rfl)
              obtain ⟨_, s2, rfl⟩ := hd 15 66 (by kernel_rfl)
              have hx := u32_xor_nat ((crc X).toNat ^^^ (crc Y).toNat) (crc Z).toNat (by rw [← BitVec.toNat_xor]; exact BitVec.isLt _) (BitVec.isLt _)
              unfold Go.Rel.stepOf
              go_simp
              have hv := xor_crc (crc X ^^^ crc Y) (crc Z) (crc Rr) HCr.out
              rw [BitVec.toNat_xor] at hv
              exact hK _ _ (Go.Rel.Grew.refl _) hv
            · intro a w' hle hs hd K hK
              have s0 : a.tmps[8]? = some (.slice A3 j c3') := hs.2.2 8 (by kernel_rfl)
              unfold Go.Rel.stepOf
              go_simp
              exact hK _ _ (Go.Rel.Grew.refl _) rfl
            · intro a w' hle hs hd K hK
              obtain ⟨_, s1, rfl⟩ := hd 17 68 (by kernel_rfl)
              have h5 := HR3.out.below hle
              unfold Go.Rel.stepOf
              go_simp
              exact hK _ _ ((Below.refl _ _).alloc (Nat.le_refl _) _) ⟨_, rfl, Pieces.one h5 (by have := HM.out; omega) _⟩
            · intro a w' hle hs hd K hK
              obtain ⟨_, s1, g5, rfl, h5⟩ := hd 18 69 (by kernel_rfl)
              have s5 := C.sum (some ⟨g5, 0, none⟩) 1 1 [Rr] w' h5 rfl (by omega)
              unfold Go.Rel.stepOf
              go_simp
              refine s5.mono ?_
              rintro e w2 ⟨rfl, hb⟩
              exact hK _ _ hb (by simp [laidR])
            · intro a w' hle hs hd K hK
              obtain ⟨_, s1, rfl⟩ := hd 16 67 (by kernel_rfl)
              obtain ⟨_, s2, rfl⟩ := hd 19 70 (by kernel_rfl)
              unfold Go.Rel.stepOf
              go_simp
              exact hK _ _ (Go.Rel.Grew.refl _) rfl
            · intro a w' hle hs hd K hK
              obtain ⟨_, s1, rfl⟩ := hd 20 71 (by kernel_rfl)
              unfold Go.Rel.stepOf
              go_simp
              exact hK _ _ (Go.Rel.Grew.refl _) rfl
            · intro a w' hle hs hd K hK
              obtain ⟨_, s1, rfl⟩ := hd 21 72 (by kernel_rfl)
              have s5 := works_any C w'
              unfold Go.Rel.stepOf
              go_simp
              refine s5.mono ?_
              rintro e w2 ⟨rfl, hb⟩
              exact hK _ _ hb rfl
            · intro a w' hle hs hd K hK
              obtain ⟨_, s1, rfl⟩ := hd 21 72 (by kernel_rfl)
              obtain ⟨_, s2, rfl⟩ := hd 22 73 (by kernel_rfl)
              unfold Go.Rel.stepOf
              go_simp
              exact hK _ _ (Go.Rel.Grew.refl _) rfl
            · intro a w' hle hs hd K hK
              obtain ⟨_, s1, rfl⟩ := hd 23 74 (by kernel_rfl)
              unfold Go.Rel.stepOf
              go_simp
              exact hK _ _ (Go.Rel.Grew.refl _) rfl
          case hend =>
            intro a w' hle hs hR
            obtain ⟨_, s6, rfl⟩ := hR 24 6 (by kernel_rfl)
            have hb := HB.out.trans (Below.mono hle HB.out.size)
            go_wp2
            refine bodyPost_ret (results_tmp rfl _ _ _) hs.1 ?_
            exact ⟨by simp [s6], hb⟩
end Go.Proofs.Ytbnlboggclholaa
