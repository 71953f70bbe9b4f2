/-
  Any frame is laid behind any bytes, or refused: the law sodalitylaw03.FramePuts over the contracts.
-/
import Derived.Test.YtkbllhpjfgeaaaaFWorks
namespace Go.Proofs.Ytkbllhpjfgeaaaa
open Go.RowKit
set_option linter.unusedSimpArgs false

def putsR (V VF : Value) (C xs E : List UInt8) : Nat → Value → World → Prop
  | 0, v, _ => v = .int .i64 0
  | 3, v, w => ∃ A c, v = .slice A C.length c ∧ RB w A C.length C
  | 4, v, _ => v = .string ⟨C.toArray⟩
  | 5, v, _ => v = V
  | 6, v, _ => v = .string ⟨xs.toArray⟩
  | 7, v, _ => v = VF
  | 8, v, w => ∃ A c, v = .slice A E.length c ∧ RB w A E.length E
  | 9, v, _ => v = .string ⟨E.toArray⟩
  | 10, v, _ => v = .string ⟨C.toArray⟩
  | _, v, _ => v = .bool true
theorem putsR_stable (V VF : Value) (C xs E : List UInt8) : ∀ i v w w', putsR V VF C xs E i v w → Go.Rel.Grew w w' → putsR V VF C xs E i v w'
  | 0, _, _, _, h, _ | 1, _, _, _, h, _ | 2, _, _, _, h, _ | 4, _, _, _, h, _ | 5, _, _, _, h, _ | 6, _, _, _, h, _ | 7, _, _, _, h, _ | 9, _, _, _, h, _ | 10, _, _, _, h, _ | _ + 11, _, _, _, h, _ => h
  | 3, _, _, _, ⟨A, c, e, h⟩, g | 8, _, _, _, ⟨A, c, e, h⟩, g => ⟨A, c, e, h.below g⟩

theorem sizeI_cases (k : Int) : (k < 0 ∧ sizeI k = 0) ∨ (0 ≤ k ∧ k ≤ 1000 ∧ sizeI k = k + 7) ∨ (0 ≤ k ∧ 1000 < k ∧ sizeI k = 0) := by
  unfold sizeI
  by_cases h1 : k < 0
  · exact .inl ⟨h1, by rw [if_neg (by omega)]⟩
  · by_cases h2 : k ≤ 1000
    · exact .inr (.inl ⟨by omega, h2, by rw [if_pos (by omega)]⟩)
    · exact .inr (.inr ⟨by omega, by omega, by rw [if_neg (by omega)]⟩)

set_option maxHeartbeats 4000000 in
theorem puts_walk (B : Option Addr) (m d : Nat) (xs : List UInt8) (f : Fr) (A : Option Addr) (c : Nat) (k : Int) (w : World) (hR : RB w B m xs) (hmd : m ≤ d) (hnil : B = none → d = 0) (hf : BodyAt w A c f.b) (hm : m ≤ 140737488351232) :
    Calls Try.prog 3 #[.slice B m d, frV f A c, .int .i64 k] w fun e w' => e = .returned (.bool true) ∧ Below w.heap.size w w' := by
  have HR := Lib.hid hR
  have HF := Lib.hid hf
  have HNil := Lib.hid hnil
  obtain ⟨n, hn⟩ : ∃ n, f.b.length = n := ⟨_, rfl⟩
  have HN := Lib.hid hn
  have hW0b : Below w.heap.size w (w.alloc (.cells #[.int .u8 (f.k.toNat : Int), .slice A n c] 24)) := (Below.refl _ w).alloc (Nat.le_refl _) _
  have s1 := put_any B m d xs f A c (w.alloc (.cells #[.int .u8 (f.k.toNat : Int), .slice A n c] 24)) (hR.below hW0b) hmd hnil (hf.below hW0b) (by omega)
  have sz := fun w1 => size_any k w1
  have S3 := Lib.hid (fun (w1 : World) => rerr_any f A c w1)
  have S4 := Lib.hid (fun (w1 : World) (hb : Below w.heap.size w w1) (hl : f.b.length ≤ 1000) => rbytes_any f A c w1 (hf.below hb) hl)
  unfold frV at s1 S3 S4 ⊢
  rw [hn] at s1 S3 S4 ⊢
  have HW0 := Lib.hid hW0b
  have S1 := Lib.hid s1
  have SZ := Lib.hid sz
  clear hR hf hnil hn hW0b s1 sz
  rcases sizeI_cases k with ⟨k1, k2⟩ | ⟨k1, k2', k2⟩ | ⟨k1, k2', k2⟩
  all_goals
    rw [k2] at SZ
    clear k2
    go_enter Try.func3, Try.ntmps3
    go_wp2_with fail
    refine S1.out.mono ?_
    rintro e w1 ⟨hb1, hp⟩
    have HB1 : Hid (Below (w.heap.size + 1) (w.alloc (.cells #[.int .u8 (f.k.toNat : Int), .slice A n c] 24)) w1) := Lib.hid (by simpa using hb1)
    obtain ⟨c0, c1, _, _⟩ := box2 HB1.out
    rcases hp with ⟨hne, rfl⟩ | ⟨he0, A1, c1', rfl, hr1, hn1, hc1⟩
    · obtain ⟨E, hE⟩ : ∃ E, errF f = E := ⟨_, rfl⟩
      have HE := Lib.hid hE
      rw [hE] at hne ⊢
      have s3 := S3.out w1
      rw [hE] at s3
      have e0 : ((E : Int) == 0) = false := by rw [beq_eq_false_iff_ne]; omega
      clear hE hne hb1
      go_wp2_with fail
      refine (SZ.out w1).mono ?_
      rintro e w2 ⟨rfl, rfl⟩
      go_wp2_with fail
      refine s3.mono ?_
      rintro e w2 ⟨rfl, hb2⟩
      have HB2 : Hid (Below w.heap.size w w2) := Lib.hid ((below_box HB1.out).trans (hb2.mono (below_box HB1.out).size))
      clear s3 hb2 c0 c1
      go_wp2_with fail
      refine (works_any w2).mono ?_
      rintro e w3 ⟨rfl, hb3⟩
      have HB3 : Hid (Below w.heap.size w w3) := Lib.hid (HB2.out.trans (hb3.mono HB2.out.size))
      clear hb3
      go_wp2
      go_ret
      exact ⟨rfl, HB3.out⟩
    · have HE := Lib.hid he0
      have s3 := S3.out w1
      rw [he0] at s3
      obtain ⟨C, hC⟩ : ∃ C, xs ++ encF f = C := ⟨_, rfl⟩
      obtain ⟨L, hL⟩ : ∃ L, xs.length + (f.b.length + 7) = L := ⟨_, rfl⟩
      have hLC : C.length = L := by rw [← hC, List.length_append, encF_length, hL]
      rw [hC] at hr1
      rw [hL] at hr1 hc1 ⊢
      have HC := Lib.hid hC
      have HLC := Lib.hid hLC
      have HR1 := Lib.hid hr1
      clear he0 hb1 hC hL hr1 hn1 hLC
      go_wp2_with fail
      refine (SZ.out w1).mono ?_
      rintro e w2 ⟨rfl, rfl⟩
      go_wp2_with fail
      refine s3.mono ?_
      rintro e w2 ⟨rfl, hb2⟩
      have HB2 : Hid (Below w.heap.size w w2) := Lib.hid ((below_box HB1.out).trans (hb2.mono (below_box HB1.out).size))
      have HB12 := Lib.hid hb2
      have d0 := (hb2.cell (p := ⟨w.heap.size, 0, none⟩) (bcell_lt c0)).trans c0
      have d1 := (hb2.cell (p := ⟨w.heap.size, 1, none⟩) (bcell_lt c1)).trans c1
      clear s3 hb2 c0 c1
      go_wp2
      refine Go.Rel.wp_region_grew (by kernel_rfl) (by kernel_rfl) (by kernel_rfl) (by kernel_rfl) (putsR (.slice B m d) (.agg #[.int .u8 (f.k.toNat : Int), .slice A n c]) C xs (encF f)) (putsR_stable _ _ _ _ _) ?hsteps ?hend
      case hsteps =>
        refine .cons ?_ (.cons ?_ (.cons ?_ (.cons ?_ (.cons ?_ (.cons ?_ (.cons ?_ (.cons ?_ (.cons ?_ (.cons ?_ (.cons ?_ (.cons ?_ (.cons ?_ (.cons ?_ (.cons ?_ (.cons ?_ (.cons ?_ .nil))))))))))))))))
        · intro a w' hle hs' hd K hK
          have s0 : a.tmps[8]? = some (.int .i64 0) := hs'.2.2 8 (by kernel_rfl)
          unfold Go.Rel.stepOf
          go_simp
          exact hK _ _ (Go.Rel.Grew.refl _) rfl
        · intro a w' hle hs' hd K hK
          obtain ⟨_, t1, rfl⟩ := hd 0 44 (by kernel_rfl)
          unfold Go.Rel.stepOf
          go_simp
          exact hK _ _ (Go.Rel.Grew.refl _) rfl
        · intro a w' hle hs' hd K hK
          obtain ⟨_, t1, rfl⟩ := hd 1 45 (by kernel_rfl)
          unfold Go.Rel.stepOf
          go_simp
          exact hK _ _ (Go.Rel.Grew.refl _) rfl
        · intro a w' hle hs' hd K hK
          obtain ⟨_, t1, rfl⟩ := hd 2 46 (by kernel_rfl)
          have s0 : a.tmps[7]? = some (.slice A1 L c1') := hs'.2.2 7 (by kernel_rfl)
          unfold Go.Rel.stepOf
          go_simp
          refine hK _ _ (Go.Rel.Grew.refl _) ⟨A1, c1', ?_, ?_⟩
          · rw [HLC.out]
          · rw [HLC.out]; exact (HR1.out.below HB12.out).below hle
        · intro a w' hle hs' hd K hK
          obtain ⟨_, t1, rfl⟩ := hd 2 46 (by kernel_rfl)
          obtain ⟨_, t2, A5, c5, rfl, h5⟩ := hd 3 47 (by kernel_rfl)
          have q1 := own_conv h5 c5
          unfold Go.Rel.stepOf
          go_simp
          exact hK _ _ (Go.Rel.Grew.refl _) rfl
        · intro a w' hle hs' hd K hK
          obtain ⟨_, t1, rfl⟩ := hd 2 46 (by kernel_rfl)
          have s0 : a.tmps[0]? = some (.slice B m d) := hs'.2.2 0 (by kernel_rfl)
          unfold Go.Rel.stepOf
          go_simp
          exact hK _ _ (Go.Rel.Grew.refl _) rfl
        · intro a w' hle hs' hd K hK
          obtain ⟨_, t1, rfl⟩ := hd 2 46 (by kernel_rfl)
          obtain ⟨_, t2, rfl⟩ := hd 5 49 (by kernel_rfl)
          have q1 := own_conv (HR.out.below (HB2.out.trans (hle.mono HB2.out.size))) d
          unfold Go.Rel.stepOf
          go_simp
          exact hK _ _ (Go.Rel.Grew.refl _) rfl
        · intro a w' hle hs' hd K hK
          obtain ⟨_, t1, rfl⟩ := hd 2 46 (by kernel_rfl)
          have s0 : a.tmps[4]? = some (.pointer (some ⟨w.heap.size, 0, none⟩)) := hs'.2.2 4 (by kernel_rfl)
          have q0 := (hle.cell (p := ⟨w.heap.size, 0, none⟩) (bcell_lt d0)).trans d0
          have q1 := (hle.cell (p := ⟨w.heap.size, 1, none⟩) (bcell_lt d1)).trans d1
          unfold Go.Rel.stepOf
          go_simp
          exact hK _ _ (Go.Rel.Grew.refl _) rfl
        · intro a w' hle hs' hd K hK
          obtain ⟨_, t1, rfl⟩ := hd 2 46 (by kernel_rfl)
          obtain ⟨_, t2, rfl⟩ := hd 7 51 (by kernel_rfl)
          have s5 := S4.out w' (HB2.out.trans (hle.mono HB2.out.size)) (by have := ((okF_iff f).2 HE.out).2; rwa [HN.out] at this)
          unfold Go.Rel.stepOf
          go_simp
          refine s5.mono ?_
          rintro e w2 ⟨A5, c5, rfl, h5, _, _, _, hb5⟩
          exact hK _ _ hb5 ⟨_, _, rfl, h5⟩
        · intro a w' hle hs' hd K hK
          obtain ⟨_, t1, rfl⟩ := hd 2 46 (by kernel_rfl)
          obtain ⟨_, t2, A5, c5, rfl, h5⟩ := hd 8 52 (by kernel_rfl)
          have q1 := own_conv h5 c5
          unfold Go.Rel.stepOf
          go_simp
          exact hK _ _ (Go.Rel.Grew.refl _) rfl
        · intro a w' hle hs' hd K hK
          obtain ⟨_, t1, rfl⟩ := hd 2 46 (by kernel_rfl)
          obtain ⟨_, t2, rfl⟩ := hd 6 50 (by kernel_rfl)
          obtain ⟨_, t3, rfl⟩ := hd 9 53 (by kernel_rfl)
          have hcc : (⟨xs.toArray⟩ : ByteArray) ++ ⟨(encF f).toArray⟩ = ⟨C.toArray⟩ := by rw [← HC.out]; apply ByteArray.ext; simp
          have HCC := Lib.hid hcc
          have hsz : ¬ (9223372036854775807 < (⟨xs.toArray⟩ : ByteArray).size + (⟨(encF f).toArray⟩ : ByteArray).size) := by
            have e1 : (⟨xs.toArray⟩ : ByteArray).size = m := HR.out.1
            have e2 : (⟨(encF f).toArray⟩ : ByteArray).size = n + 7 := by rw [← HN.out]; exact encF_length f
            have := ((okF_iff f).2 HE.out).2
            rw [HN.out] at this
            rw [e1, e2]
            omega
          obtain ⟨st1, hst1⟩ : ∃ st : ByteArray, (⟨xs.toArray⟩ : ByteArray) = st := ⟨_, rfl⟩
          obtain ⟨st2, hst2⟩ : ∃ st : ByteArray, (⟨(encF f).toArray⟩ : ByteArray) = st := ⟨_, rfl⟩
          rw [hst1] at t2 HCC hsz
          rw [hst2] at t3 HCC hsz
          clear hcc hst1 hst2
          unfold Go.Rel.stepOf
          go_simp
          exact hK _ _ (Go.Rel.Grew.refl _) (congrArg Value.string HCC.out)
        · intro a w' hle hs' hd K hK
          obtain ⟨_, t1, rfl⟩ := hd 2 46 (by kernel_rfl)
          obtain ⟨_, t2, rfl⟩ := hd 4 48 (by kernel_rfl)
          obtain ⟨_, t3, rfl⟩ := hd 10 54 (by kernel_rfl)
          unfold Go.Rel.stepOf
          go_simp
          exact hK _ _ (Go.Rel.Grew.refl _) rfl
        · intro a w' hle hs' hd K hK
          obtain ⟨_, t1, rfl⟩ := hd 2 46 (by kernel_rfl)
          obtain ⟨_, t2, rfl⟩ := hd 11 55 (by kernel_rfl)
          unfold Go.Rel.stepOf
          go_simp
          exact hK _ _ (Go.Rel.Grew.refl _) rfl
        · intro a w' hle hs' hd K hK
          obtain ⟨_, t1, rfl⟩ := hd 12 56 (by kernel_rfl)
          unfold Go.Rel.stepOf
          go_simp
          exact hK _ _ (Go.Rel.Grew.refl _) rfl
        · intro a w' hle hs' hd K hK
          obtain ⟨_, t1, rfl⟩ := hd 13 57 (by kernel_rfl)
          have s5 := works_any w'
          unfold Go.Rel.stepOf
          go_simp
          refine s5.mono ?_
          rintro e w2 ⟨rfl, hb5⟩
          exact hK _ _ hb5 rfl
        · intro a w' hle hs' hd K hK
          obtain ⟨_, t1, rfl⟩ := hd 13 57 (by kernel_rfl)
          obtain ⟨_, t2, rfl⟩ := hd 14 58 (by kernel_rfl)
          unfold Go.Rel.stepOf
          go_simp
          exact hK _ _ (Go.Rel.Grew.refl _) rfl
        · intro a w' hle hs' hd K hK
          obtain ⟨_, t1, rfl⟩ := hd 15 59 (by kernel_rfl)
          unfold Go.Rel.stepOf
          go_simp
          exact hK _ _ (Go.Rel.Grew.refl _) rfl
      case hend =>
        intro a w' hle hs' hR'
        obtain ⟨_, s6, rfl⟩ := hR' 16 6 (by kernel_rfl)
        have hbf : Below w.heap.size w w' := HB2.out.trans (hle.mono HB2.out.size)
        go_wp2
        refine bodyPost_ret (results_tmp rfl _ _ _) hs'.1 ?_
        exact ⟨by simp [s6], hbf⟩
end Go.Proofs.Ytkbllhpjfgeaaaa
