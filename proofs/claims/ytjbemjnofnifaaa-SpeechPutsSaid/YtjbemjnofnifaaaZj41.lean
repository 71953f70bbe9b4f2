/-
  The document's Take, walked (layer 3).
-/
import Derived.Test.YtjbemjnofnifaaaZj40
import Derived.RegionTactic
import Derived.ChangeAlike
import Derived.StillTailTactics
namespace Go.Proofs.Ytjbemjnofnifaaa
open Go.RowKit
set_option linter.unusedSimpArgs false

def zeroFr : Value := .agg #[.int .u8 0, .slice none 0 0]
def errAns (E : Nat) : Ending := .returned (.tuple #[.agg #[.int .u8 0, .slice none 0 0], .int .i64 0, .int .i64 (E : Int)])

/-- What is known of the values of the test on the sum. -/
def rtR (S S3 S7 : Value) (m k3 k7 : Nat) (X Y : List UInt8) : Nat → Value → World → Prop
  | 0, v, _ | 6, v, _ => v = S
  | 1, v, _ | 7, v, _ => v = .int .i64 (m : Int)
  | 2, v, _ => v = .int .i64 (k3 : Int)
  | 8, v, _ => v = .int .i64 (k7 : Int)
  | 3, v, _ => v = S3
  | 9, v, _ => v = S7
  | 4, v, w => ∃ A c, v = .slice A (sealB X).length c ∧ RB w A (sealB X).length (sealB X)
  | 5, v, _ => v = .string ⟨(sealB X).toArray⟩
  | 10, v, _ => v = .string ⟨Y.toArray⟩
  | _, v, _ => v = .bool (decide (sealB X ≠ Y))
theorem rtR_stable (S S3 S7 : Value) (m k3 k7 : Nat) (X Y : List UInt8) : ∀ i v w w', rtR S S3 S7 m k3 k7 X Y i v w → Go.Rel.Grew w w' → rtR S S3 S7 m k3 k7 X Y i v w'
  | 0, _, _, _, h, _ | 1, _, _, _, h, _ | 2, _, _, _, h, _ | 3, _, _, _, h, _ | 5, _, _, _, h, _ | 6, _, _, _, h, _ | 7, _, _, _, h, _ | 8, _, _, _, h, _ | 9, _, _, _, h, _ | 10, _, _, _, h, _ | _ + 11, _, _, _, h, _ => h
  | 4, _, _, _, ⟨A, c, e, h⟩, g => ⟨A, c, e, h.below g⟩

set_option maxHeartbeats 400000 in
theorem rtake_30 (A : Option Addr) (n c : Nat) (w : World) (hn : n < 3) : Calls Try.prog 81 #[.slice A n c] w fun e w' => e = errAns 30 ∧ Below w.heap.size w w' := by
  obtain ⟨c0, c1, _, _⟩ := box2 (Below.refl (w.heap.size + 1) (w.alloc (.cells #[.int .u8 0, .slice none 0 0] 28)))
  have h1 : (n : Int) < 3 := by omega
  go_enter Try.func81, Try.ntmps81
  go_wp2
  refine bodyPost_ret (v := .tuple #[.agg #[.int .u8 0, .slice none 0 0], .int .i64 0, .int .i64 30]) (by simp [results, Try.results81, go_sem]) rfl ⟨rfl, ?_⟩
  exact (Below.refl _ w).alloc (Nat.le_refl _) _
set_option maxHeartbeats 400000 in
theorem rtake_31 (A : Option Addr) (n c : Nat) (xs : List UInt8) (w : World) (h : RB w A n xs) (hn : 3 ≤ n) (h0 : xs.getD 0 0 = 0) : Calls Try.prog 81 #[.slice A n c] w fun e w' => e = errAns 31 ∧ Below w.heap.size w w' := by
  obtain ⟨b, off, rfl, hb, hcell⟩ := h.at_ (by omega)
  have c1 := hcell 0 (by omega)
  rw [Nat.add_zero, h0] at c1
  have n1 : (0 : Int) < (n : Int) := by omega
  have h1 : (3 : Int) ≤ (n : Int) := by omega
  have d1 : (w.alloc (.cells #[.int .u8 0, .slice none 0 0] 28)).cell? ⟨b, off, none⟩ = some (.int .u8 0) := (((Below.refl _ w).alloc (Nat.le_refl _) _).cell (p := ⟨b, off, none⟩) hb).trans c1
  clear hcell h h0 c1
  go_enter Try.func81, Try.ntmps81
  go_wp2
  refine bodyPost_ret (v := .tuple #[.agg #[.int .u8 0, .slice none 0 0], .int .i64 0, .int .i64 31]) (by simp [results, Try.results81, go_sem]) rfl ⟨rfl, ?_⟩
  exact (Below.refl _ w).alloc (Nat.le_refl _) _

def RTakePost (w : World) (A0 : Option Addr) (c0 : Nat) (xs : List UInt8) (e : Ending) (w' : World) : Prop :=
  Below w.heap.size w w' ∧ ((errT xs ≠ 0 ∧ e = errAns (errT xs)) ∨ (errT xs = 0 ∧ ∃ A c, e = .returned (.tuple #[frV (frT xs) A c, .int .i64 (((frT xs).b.length + 7 : Nat) : Int), .int .i64 0]) ∧ BodyAt w' A c (frT xs).b ∧ ∀ b off, A0 = some ⟨b, off, none⟩ → A = some ⟨b, off + 3, none⟩ ∧ c = c0 - 3))

set_option maxRecDepth 100000 in
set_option maxHeartbeats 1000000 in
theorem rtake_any (A : Option Addr) (n c : Nat) (xs : List UInt8) (w : World) (h : RB w A n xs) (hc : n ≤ c) : Calls Try.prog 81 #[.slice A n c] w (RTakePost w A c xs) := by
  have hl := h.1
  by_cases hn : n < 3
  · have he : errT xs = 30 := by unfold errT; rw [if_pos (by omega)]
    exact (rtake_30 A n c w hn).mono fun e w' ⟨h1, h2⟩ => ⟨h2, .inl ⟨by rw [he]; omega, by rw [he]; exact h1⟩⟩
  by_cases hk : xs.getD 0 0 = 0
  · have he : errT xs = 31 := by unfold errT; rw [if_neg (by omega), if_pos hk]
    exact (rtake_31 A n c xs w h (by omega) hk).mono fun e w' ⟨h1, h2⟩ => ⟨h2, .inl ⟨by rw [he]; omega, by rw [he]; exact h1⟩⟩
  obtain ⟨b, off, rfl, hb, hcell⟩ := h.at_ (by omega)
  have c0 := hcell 0 (by omega)
  rw [Nat.add_zero] at c0
  have c1 := hcell 1 (by omega)
  have c2 := hcell 2 (by omega)
  obtain ⟨x0, hx0⟩ : ∃ x, xs.getD 0 0 = x := ⟨_, rfl⟩
  obtain ⟨x1, hx1⟩ : ∃ x, xs.getD 1 0 = x := ⟨_, rfl⟩
  obtain ⟨x2, hx2⟩ : ∃ x, xs.getD 2 0 = x := ⟨_, rfl⟩
  rw [hx0] at c0
  rw [hx1] at c1
  rw [hx2] at c2
  obtain ⟨m, hm⟩ : ∃ m : Nat, bodyN xs = m := ⟨_, rfl⟩
  have hmv : x1.toNat * 256 + x2.toNat = m := by rw [← hm, bodyN, hx1, hx2]
  have HM := Lib.hid hm
  have hmI : (x1.toNat : Int) * 256 + (x2.toNat : Int) = (m : Int) := by omega
  have e0 : ((x0.toNat : Int) == 0) = false := by
    rw [beq_eq_false_iff_ne]
    intro e
    rw [hx0] at hk
    exact hk (UInt8.toNat_inj.1 (by show x0.toNat = 0; omega))
  have HR := Lib.hid h
  have HK := Lib.hid hk
  have HX0 := Lib.hid hx0
  have n0 : (0 : Int) < (n : Int) := by omega
  have n1 : (1 : Int) < (n : Int) := by omega
  have n2 : (2 : Int) < (n : Int) := by omega
  have n3 : (3 : Int) ≤ (n : Int) := by omega
  have l1 := x1.toNat_lt
  have l2 := x2.toNat_lt
  have g1 : IntKind.i64.wrap ((x1.toNat : Int) * 256) = (x1.toNat : Int) * 256 := IntWalk.i64_in _ (by omega)
  have g2 : IntKind.i64.wrap ((x1.toNat : Int) * 256 + (x2.toNat : Int)) = (m : Int) := by rw [IntWalk.i64_in _ (by omega)]; exact hmI
  have HMI := Lib.hid hmI
  have HMV := Lib.hid hmv
  have hbw : Below w.heap.size w (w.alloc (.cells #[.int .u8 0, .slice none 0 0] 28)) := (Below.refl _ w).alloc (Nat.le_refl _) _
  have d0 := (hbw.cell (p := ⟨b, off, none⟩) hb).trans c0
  have d1 := (hbw.cell (p := ⟨b, off + 1, none⟩) hb).trans c1
  have d2 := (hbw.cell (p := ⟨b, off + 2, none⟩) hb).trans c2
  have HL := Lib.hid hl
  have HC0 := Lib.hid c0
  clear hcell hx0 hx1 hx2 h hm hk c0 c1 c2 hbw hmI hmv hn hl
  go_enter Try.func81, Try.ntmps81
  go_wp2
  go_quiet (fail)
  obtain ⟨W1, hW1⟩ : ∃ W1, (w.alloc (.cells #[.int .u8 0, .slice none 0 0] 28)).drewN nq = W1 := ⟨_, rfl⟩
  have hbw1 : Below (w.heap.size + 1) (w.alloc (.cells #[.int .u8 0, .slice none 0 0] 28)) W1 := by rw [← hW1]; exact below_drewN (Below.refl _ _) nq
  rw [hW1]
  have HB1 := Lib.hid hbw1
  obtain ⟨c0, c1, f0, f1⟩ := box2 hbw1
  clear hbw1 hW1 d0 d1 d2
  by_cases h1000 : 1000 < m
  · have HE : Hid (errT xs = 3) := Lib.hid (by
      have := HL.out
      unfold errT
      rw [if_neg (by omega), if_neg HK.out, HM.out, if_pos h1000])
    have t1 : (1000 : Int) < (m : Int) := by omega
    go_wp2
    obtain ⟨q0, q1⟩ := set2 c0 c1 (.int .u8 0) (.slice none 0 0)
    refine bodyPost_ret (v := .tuple #[.agg #[.int .u8 0, .slice none 0 0], .int .i64 0, .int .i64 3]) (by simp [results, Try.results81, go_sem, q0, q1]) rfl ⟨?_, .inl ⟨by rw [HE.out]; omega, by rw [HE.out]; rfl⟩⟩
    exact ((below_box HB1.out).setCell (p := ⟨w.heap.size, 0, none⟩) (Nat.le_refl _) _).setCell (p := ⟨w.heap.size, 1, none⟩) (Nat.le_refl _) _
  have t1 : (m : Int) ≤ 1000 := by omega
  by_cases h7 : n < m + 7
  · have HE : Hid (errT xs = 30) := Lib.hid (by
      have := HL.out
      unfold errT
      rw [if_neg (by omega), if_neg HK.out, HM.out, if_neg h1000, if_pos (by omega)])
    have t2 : (n : Int) < (m : Int) + 7 := by omega
    clear h1000
    go_wp2
    obtain ⟨q0, q1⟩ := set2 c0 c1 (.int .u8 0) (.slice none 0 0)
    refine bodyPost_ret (v := .tuple #[.agg #[.int .u8 0, .slice none 0 0], .int .i64 0, .int .i64 30]) (by simp [results, Try.results81, go_sem, q0, q1]) rfl ⟨?_, .inl ⟨by rw [HE.out]; omega, by rw [HE.out]; rfl⟩⟩
    exact ((below_box HB1.out).setCell (p := ⟨w.heap.size, 0, none⟩) (Nat.le_refl _) _).setCell (p := ⟨w.heap.size, 1, none⟩) (Nat.le_refl _) _
  have t2 : (m : Int) + 7 ≤ (n : Int) := by omega
  have hm1000 : m ≤ 1000 := by omega
  have hn7 : m + 7 ≤ n := by omega
  have hc3 : m + 3 ≤ c := by omega
  have hc7 : m + 7 ≤ c := by omega
  have HE : Hid (errT xs = if sealB (xs.take (m + 3)) = xs.take (m + 7) then 0 else 32) := Lib.hid (by
    have hl := HL.out
    rw [errT_of (by omega) HK.out (by rw [HM.out]; omega) (by rw [HM.out]; omega), HM.out]
    have hl7 : (xs.take (m + 7)).length = m + 7 := by rw [List.length_take]; omega
    rw [sealed_seal (by omega), hl7, List.take_take, show min (m + 7 - 4) (m + 7) = m + 3 by omega]
    simp)
  have HX : Hid (RB w (some ⟨b, off, none⟩) (m + 3) (xs.take (m + 3))) := Lib.hid (HR.out.take (by omega))
  have HY : Hid (RB w (some ⟨b, off, none⟩) (m + 7) (xs.take (m + 7))) := Lib.hid (HR.out.take hn7)
  obtain ⟨X, hX⟩ : ∃ X, xs.take (m + 3) = X := ⟨_, rfl⟩
  obtain ⟨Y, hY⟩ : ∃ Y, xs.take (m + 7) = Y := ⟨_, rfl⟩
  rw [hX] at HE HX
  rw [hY] at HE HY
  clear hX hY h1000 h7
  have p3 : IntKind.i64.wrap ((m : Int) + 3) = ((m + 3 : Nat) : Int) := by rw [IntWalk.i64_in _ (by omega)]; omega
  have p7 : IntKind.i64.wrap ((m : Int) + 7) = ((m + 7 : Nat) : Int) := by rw [IntWalk.i64_in _ (by omega)]; omega
  obtain ⟨k3, hk3⟩ : ∃ k, m + 3 = k := ⟨_, rfl⟩
  obtain ⟨k7, hk7⟩ : ∃ k, m + 7 = k := ⟨_, rfl⟩
  rw [hk3] at p3 hc3 HX
  rw [hk7] at p7 hc7 HY hn7
  have HK3 := Lib.hid hk3
  have HK7 := Lib.hid hk7
  have k3l : k3 ≤ 1003 := by omega
  clear hk3 hk7
  go_wp2
  refine Go.Rel.wp_region_grew (by kernel_rfl) (by kernel_rfl) (by kernel_rfl) (by kernel_rfl) (rtR (.slice (some ⟨b, off, none⟩) n c) (.slice (some ⟨b, off, none⟩) k3 c) (.slice (some ⟨b, off, none⟩) k7 c) m k3 k7 X Y) (rtR_stable _ _ _ _ _ _ _ _) ?hsteps ?hend
  case hsteps =>
    refine .cons ?_ (.cons ?_ (.cons ?_ (.cons ?_ (.cons ?_ (.cons ?_ (.cons ?_ (.cons ?_ (.cons ?_ (.cons ?_ (.cons ?_ (.cons ?_ .nil)))))))))))
    · intro a w' hle hs' hd K hK
      have s0 : a.tmps[0]? = some (.slice (some ⟨b, off, none⟩) n c) := hs'.2.2 0 (by kernel_rfl)
      unfold Go.Rel.stepOf
      go_simp
      exact hK _ _ (Go.Rel.Grew.refl _) rfl
    · intro a w' hle hs' hd K hK
      have s0 : a.tmps[5]? = some (.int .i64 (m : Int)) := hs'.2.2 5 (by kernel_rfl)
      unfold Go.Rel.stepOf
      go_simp
      exact hK _ _ (Go.Rel.Grew.refl _) rfl
    · intro a w' hle hs' hd K hK
      obtain ⟨_, s1, rfl⟩ := hd 1 35 (by kernel_rfl)
      unfold Go.Rel.stepOf
      go_simp
      exact hK _ _ (Go.Rel.Grew.refl _) rfl
    · intro a w' hle hs' hd K hK
      obtain ⟨_, s1, rfl⟩ := hd 0 34 (by kernel_rfl)
      obtain ⟨_, s2, rfl⟩ := hd 2 36 (by kernel_rfl)
      have q0 : (0 : Int) ≤ (k3 : Int) := by omega
      unfold Go.Rel.stepOf
      go_simp
      exact hK _ _ (Go.Rel.Grew.refl _) rfl
    · intro a w' hle hs' hd K hK
      obtain ⟨_, s1, rfl⟩ := hd 3 37 (by kernel_rfl)
      have s5 := rsealed_any (some ⟨b, off, none⟩) k3 c X w' (HX.out.below ((below_box HB1.out).trans (hle.mono (below_box HB1.out).size))) (by omega)
      unfold Go.Rel.stepOf
      go_simp
      refine s5.mono ?_
      rintro e w2 ⟨A5, c5, rfl, h5, _, _, _, hb5⟩
      exact hK _ _ hb5 ⟨_, _, rfl, h5⟩
    · intro a w' hle hs' hd K hK
      obtain ⟨_, s1, A5, c5, rfl, h5⟩ := hd 4 38 (by kernel_rfl)
      have k1 := own_conv h5 c5
      unfold Go.Rel.stepOf
      go_simp
      exact hK _ _ (Go.Rel.Grew.refl _) rfl
    · intro a w' hle hs' hd K hK
      have s0 : a.tmps[0]? = some (.slice (some ⟨b, off, none⟩) n c) := hs'.2.2 0 (by kernel_rfl)
      unfold Go.Rel.stepOf
      go_simp
      exact hK _ _ (Go.Rel.Grew.refl _) rfl
    · intro a w' hle hs' hd K hK
      have s0 : a.tmps[5]? = some (.int .i64 (m : Int)) := hs'.2.2 5 (by kernel_rfl)
      unfold Go.Rel.stepOf
      go_simp
      exact hK _ _ (Go.Rel.Grew.refl _) rfl
    · intro a w' hle hs' hd K hK
      obtain ⟨_, s1, rfl⟩ := hd 7 41 (by kernel_rfl)
      unfold Go.Rel.stepOf
      go_simp
      exact hK _ _ (Go.Rel.Grew.refl _) rfl
    · intro a w' hle hs' hd K hK
      obtain ⟨_, s1, rfl⟩ := hd 6 40 (by kernel_rfl)
      obtain ⟨_, s2, rfl⟩ := hd 8 42 (by kernel_rfl)
      have q0 : (0 : Int) ≤ (k7 : Int) := by omega
      unfold Go.Rel.stepOf
      go_simp
      exact hK _ _ (Go.Rel.Grew.refl _) rfl
    · intro a w' hle hs' hd K hK
      obtain ⟨_, s1, rfl⟩ := hd 9 43 (by kernel_rfl)
      have k1 := own_conv (HY.out.below ((below_box HB1.out).trans (hle.mono (below_box HB1.out).size))) c
      unfold Go.Rel.stepOf
      go_simp
      exact hK _ _ (Go.Rel.Grew.refl _) rfl
    · intro a w' hle hs' hd K hK
      obtain ⟨_, s1, rfl⟩ := hd 5 39 (by kernel_rfl)
      obtain ⟨_, s2, rfl⟩ := hd 10 44 (by kernel_rfl)
      obtain ⟨s1', hs1'⟩ : ∃ s1 : ByteArray, (⟨(sealB X).toArray⟩ : ByteArray) = s1 := ⟨_, rfl⟩
      obtain ⟨s2', hs2'⟩ : ∃ s2 : ByteArray, (⟨Y.toArray⟩ : ByteArray) = s2 := ⟨_, rfl⟩
      have hss : (s1'.toList != s2'.toList) = decide (sealB X ≠ Y) := by
        rw [← hs1', ← hs2', ByteArray.toList_mk, ByteArray.toList_mk, Bool.eq_iff_iff, bne_iff_ne, decide_eq_true_eq]
      rw [hs1'] at s1
      rw [hs2'] at s2
      have HSS := Lib.hid hss
      clear hss hs1' hs2'
      unfold Go.Rel.stepOf
      go_simp
      exact hK _ _ (Go.Rel.Grew.refl _) (congrArg Value.bool HSS.out)
  case hend =>
    intro a w' hle hs' hR'
    obtain ⟨_, s34, rfl⟩ := hR' 0 34 (by kernel_rfl)
    obtain ⟨_, s35, rfl⟩ := hR' 1 35 (by kernel_rfl)
    obtain ⟨_, s36, rfl⟩ := hR' 2 36 (by kernel_rfl)
    obtain ⟨_, s37, rfl⟩ := hR' 3 37 (by kernel_rfl)
    obtain ⟨_, s38, A5, c5, rfl, _⟩ := hR' 4 38 (by kernel_rfl)
    obtain ⟨_, s39, rfl⟩ := hR' 5 39 (by kernel_rfl)
    obtain ⟨_, s40, rfl⟩ := hR' 6 40 (by kernel_rfl)
    obtain ⟨_, s41, rfl⟩ := hR' 7 41 (by kernel_rfl)
    obtain ⟨_, s42, rfl⟩ := hR' 8 42 (by kernel_rfl)
    obtain ⟨_, s43, rfl⟩ := hR' 9 43 (by kernel_rfl)
    obtain ⟨_, s44, rfl⟩ := hR' 10 44 (by kernel_rfl)
    obtain ⟨_, s45, rfl⟩ := hR' 11 45 (by kernel_rfl)
    have e := hs'.shape
    simp only [List.toList_toArray, List.foldl, Go.Rel.reset, Array.getD_eq_getD_getElem?, s34, s35, s36, s37, s38, s39, s40, s41, s42, s43, s44, s45, Option.getD_some] at e
    simp at e
    have HB2 : Hid (Below (w.heap.size + 1) (w.alloc (.cells #[.int .u8 0, .slice none 0 0] 28)) w') := Lib.hid (HB1.out.trans (hle.mono (by have := HB1.out.size; rw [World.size_alloc] at this; omega)))
    obtain ⟨c0', c1', f0', f1'⟩ := box2 HB2.out
    clear hR' hs' s34 s35 s36 s37 s38 s39 s40 s41 s42 s43 s44 s45 hle c0 c1 f0 f1
    subst e
    have hbw' : Below w.heap.size w w' := below_box HB2.out
    by_cases hse : sealB X = Y
    · have HE0 : Hid (errT xs = 0) := Lib.hid (by rw [HE.out, if_pos hse])
      rw [decide_eq_true hse]
      have hL0 := (enc_take HE0.out).2.1
      have hc0x : w'.cell? ⟨b, off, none⟩ = some (.int .u8 (x0.toNat : Int)) := (hbw'.cell (p := ⟨b, off, none⟩) hb).trans HC0.out
      have hn0 : n ≠ 0 := by omega
      have HBody : Hid (BodyAt w (some ⟨b, off + 3, none⟩) (c - 3) (frT xs).b) := Lib.hid (by
        have hb1 := body_cut HR.out (m := m) (by have := HK7.out; omega)
        have e2 : (frT xs).b = (xs.drop 3).take m := by rw [← HM.out]; rfl
        have e3 : ((xs.drop 3).take m).length = m := hb1.1
        rw [e2]
        exact ⟨by rw [e3]; exact hb1, by rw [e3]; have := HK3.out; omega, (fun e => by cases e), by rw [e3]; omega⟩)
      have HLn : Hid ((frT xs).b.length = m) := Lib.hid (by rw [hL0, HM.out])
      have HKx : Hid ((frT xs).k = x0) := Lib.hid HX0.out
      have HBW := Lib.hid hbw'
      have q3 : (3 : Int) ≤ (k3 : Int) := by have := HK3.out; omega
      have q4 : ¬ c = 3 := by have := HK3.out; have := HK7.out; omega
      clear hse hL0 hbw'
      go_wp2
      go_region
      have hk33 : k3 - 3 = m := by have := HK3.out; omega
      rw [hk33]
      clear hk33
      obtain ⟨q0, q1⟩ := set2 c0' c1' (.int .u8 (x0.toNat : Int)) (.slice (some ⟨b, off + 3, none⟩) m (c - 3))
      have HBF : Hid (Below w.heap.size w ((w'.setCell ⟨w.heap.size, 0, none⟩ (.int .u8 (x0.toNat : Int))).setCell ⟨w.heap.size, 1, none⟩ (.slice (some ⟨b, off + 3, none⟩) m (c - 3))).drew) :=
        Lib.hid ((HBW.out.setCell (p := ⟨w.heap.size, 0, none⟩) (Nat.le_refl _) _).setCell (p := ⟨w.heap.size, 1, none⟩) (Nat.le_refl _) _).drew
      go_wp2
      refine bodyPost_ret (v := .tuple #[.agg #[.int .u8 (x0.toNat : Int), .slice (some ⟨b, off + 3, none⟩) m (c - 3)], .int .i64 (k7 : Int), .int .i64 0]) (by simp [results, Try.results81, go_sem, q0, q1]) rfl ?_
      refine ⟨HBF.out, .inr ⟨HE0.out, some ⟨b, off + 3, none⟩, c - 3, ?_, HBody.out.below HBF.out, fun b' o' e => by cases e; exact ⟨rfl, rfl⟩⟩⟩
      rw [frV, HKx.out, HLn.out, HK7.out]
    · have HE0 : Hid (errT xs = 32) := Lib.hid (by rw [HE.out, if_neg hse])
      rw [decide_eq_false hse]
      have HBW := Lib.hid hbw'
      clear hse hbw'
      go_wp2
      obtain ⟨q0, q1⟩ := set2 c0' c1' (.int .u8 0) (.slice none 0 0)
      refine bodyPost_ret (v := .tuple #[.agg #[.int .u8 0, .slice none 0 0], .int .i64 0, .int .i64 32]) (by simp [results, Try.results81, go_sem, q0, q1]) rfl ⟨?_, .inl ⟨by rw [HE0.out]; omega, by rw [HE0.out]; rfl⟩⟩
      exact (HBW.out.setCell (p := ⟨w.heap.size, 0, none⟩) (Nat.le_refl _) _).setCell (p := ⟨w.heap.size, 1, none⟩) (Nat.le_refl _) _
end Go.Proofs.Ytjbemjnofnifaaa
