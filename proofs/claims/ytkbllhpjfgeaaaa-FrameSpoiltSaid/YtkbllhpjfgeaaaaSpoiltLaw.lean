/-
  A frame that is spoilt within 32 bits, but not in its number, is refused: the law sodalitylaw03.FrameSpoilt over the contracts.
-/
import Derived.Test.YtkbllhpjfgeaaaaFWorks
import Derived.Test.YtkbllhpjfgeaaaaTurned
namespace Go.Proofs.Ytkbllhpjfgeaaaa
open Go.RowKit
set_option linter.unusedSimpArgs false

theorem byte_ne {x y : UInt8} (h : x ≠ y) : ((x.toNat : Int) == (y.toNat : Int)) = false := by
  rw [beq_eq_false_iff_ne]
  intro e
  exact h (UInt8.toNat_inj.1 (by omega))

set_option maxHeartbeats 4000000 in
theorem spoilt_walk (f : Fr) (A : Option Addr) (c : Nat) (at_ : Int) (mk : Nat) (w : World) (hf : BodyAt w A c f.b) :
    Calls Try.prog 10 #[frV f A c, .agg #[.int .i64 at_, .int .u32 (mk : Int)]] w fun e w' => e = .returned (.bool true) ∧ Below w.heap.size w w' := by
  have HF := Lib.hid hf
  obtain ⟨n, hn⟩ : ∃ n, f.b.length = n := ⟨_, rfl⟩
  have HN := Lib.hid hn
  obtain ⟨W0, hW0⟩ : ∃ W0, (w.alloc (.cells #[.int .u8 (f.k.toNat : Int), .slice A n c] 24)).alloc (.cells #[.int .i64 at_, .int .u32 (mk : Int)] 61) = W0 := ⟨_, rfl⟩
  have hW0b : Below w.heap.size w W0 := by rw [← hW0]; exact ((Below.refl _ w).alloc (Nat.le_refl _) _).alloc (by simp) _
  have s1 := put_any none 0 0 [] f A c W0 (RB.zero _ _) (Nat.le_refl _) (fun _ => rfl) (hf.below hW0b) (by omega)
  obtain ⟨c0, c1, _, _⟩ := box2 (Below.refl ((w.alloc (.cells #[.int .u8 (f.k.toNat : Int), .slice A n c] 24)).heap.size + 1) ((w.alloc (.cells #[.int .u8 (f.k.toNat : Int), .slice A n c] 24)).alloc (.cells #[.int .i64 at_, .int .u32 (mk : Int)] 61)))
  rw [hW0, World.size_alloc] at c0 c1
  unfold frV at s1 ⊢
  rw [hn] at s1 ⊢
  have HW0 := Lib.hid hW0b
  have HW0e := Lib.hid hW0
  have C0 := Lib.hid c0
  have C1 := Lib.hid c1
  clear hf hn hW0b hW0 c0 c1
  go_enter Try.func10, Try.ntmps10
  go_wp2_with fail
  rw [HW0e.out]
  refine s1.mono ?_
  rintro e w1 ⟨hb1, hp⟩
  have HB1 : Hid (Below w.heap.size w w1) := Lib.hid (HW0.out.trans (hb1.mono HW0.out.size))
  rcases hp with ⟨hne, rfl⟩ | ⟨he0, A1, c1, rfl, hr1, hn1, hc1⟩
  · obtain ⟨E, hE⟩ : ∃ E, errF f = E := ⟨_, rfl⟩
    rw [hE] at hne ⊢
    have e0 : ((E : Int) == 0) = false := by rw [beq_eq_false_iff_ne]; omega
    have e0' : ((E : Int) != 0) = true := by rw [bne_iff_ne]; omega
    clear hE hne hb1 s1
    go_wp2_with fail
    refine (works_any w1).mono ?_
    rintro e w3 ⟨rfl, hb3⟩
    have HB3 : Hid (Below w.heap.size w w3) := Lib.hid (HB1.out.trans (hb3.mono HB1.out.size))
    clear hb3
    go_wp2
    go_ret
    exact ⟨rfl, HB3.out⟩
  · have hok := (okF_iff f).2 he0
    have HOk := Lib.hid hok
    have hl2 := hok.2
    have d0 := (hb1.cell (p := ⟨w.heap.size + 1, 0, none⟩) (bcell_lt C0.out)).trans C0.out
    have d1 := (hb1.cell (p := ⟨w.heap.size + 1, 1, none⟩) (bcell_lt C1.out)).trans C1.out
    obtain ⟨L, hL⟩ : ∃ L, ([] : List UInt8).length + (f.b.length + 7) = L := ⟨_, rfl⟩
    have hLn : L = f.b.length + 7 := by rw [← hL]; simp
    rw [hL, List.nil_append] at hr1
    rw [hL] at hc1 ⊢
    have hL7 : 7 ≤ L := by omega
    have hL1 : L ≤ 1007 := by omega
    obtain ⟨fr, i, hfi, hi, hT⟩ := turned_all A1 L c1 (encF f) at_ mk w1 hr1 hn1 (by omega)
    have s2 := hT w1 (Below.refl _ _)
    have HSP : Hid (((turnTo (encF f) fr mk i).getD 1 0 = (encF f).getD 1 0) → ((turnTo (encF f) fr mk i).getD 2 0 = (encF f).getD 2 0) → _) := Lib.hid (fun e1 e2 => spoilt hok fr mk i (by rw [← hLn]; exact hfi) hi e1 e2)
    obtain ⟨bad, hbad⟩ : ∃ l, turnTo (encF f) fr mk i = l := ⟨_, rfl⟩
    obtain ⟨any, hany⟩ : ∃ b, anyTo mk i = b := ⟨_, rfl⟩
    rw [hbad, hany] at s2
    rw [hbad, hany] at HSP
    have HL := Lib.hid hLn
    have HR1 := Lib.hid hr1
    clear hb1 s1 hok hl2 he0 hL hLn hr1 hn1 hfi hi hT hbad hany
    go_wp2_with fail
    refine s2.mono ?_
    rintro e w2 ⟨A2, c2, rfl, hr2, ⟨hn2, hc2⟩, hb2⟩
    have HB2 : Hid (Below w.heap.size w w2) := Lib.hid (HB1.out.trans (hb2.mono HB1.out.size))
    have HR2 := Lib.hid hr2
    obtain ⟨b1, o1, e1, hb1l, hx⟩ := (HR1.out.below hb2).at_ (by omega)
    obtain ⟨b2, o2, e2, hb2l, hy⟩ := hr2.at_ (by omega)
    subst e1 e2
    have x1 := hx 1 (by omega)
    have x2 := hx 2 (by omega)
    have y0 := hy 0 (by omega)
    have y1 := hy 1 (by omega)
    have y2 := hy 2 (by omega)
    rw [Nat.add_zero] at y0
    have l1 : (1 : Int) < (L : Int) := by omega
    have l2 : (2 : Int) < (L : Int) := by omega
    have l0 : (0 : Int) < (L : Int) := by omega
    clear hb2 hr2 hx hy s2 hn2 d0 d1
    by_cases q1 : bad.getD 1 0 = (encF f).getD 1 0
    · rw [q1] at y1
      obtain ⟨v1, hv1⟩ : ∃ v : Int, (((encF f).getD 1 0).toNat : Int) = v := ⟨_, rfl⟩
      rw [hv1] at x1 y1
      have HQ1 := Lib.hid q1
      clear q1 hv1
      by_cases q2 : bad.getD 2 0 = (encF f).getD 2 0
      · have HSP2 := Lib.hid (HSP.out HQ1.out q2)
        rw [q2] at y2
        obtain ⟨v2, hv2⟩ : ∃ v : Int, (((encF f).getD 2 0).toNat : Int) = v := ⟨_, rfl⟩
        rw [hv2] at x2 y2
        clear q2 hv2
        cases any with
        | false =>
          obtain ⟨h1, h2⟩ := HSP2.out.1 rfl
          have s3 := fun (w3 : World) (hb : Below w2.heap.size w2 w3) => take_ok (some ⟨b2, o2, none⟩) L c2 bad w3 (HR2.out.below hb) hc2 h1
          have hlb : (frT bad).b.length = f.b.length := (enc_take h1).2.1.trans h2
          have hlb' : (frT bad).b.length + 7 = L := by rw [hlb]; exact HL.out.symm
          obtain ⟨g, hg⟩ : ∃ g, frT bad = g := ⟨_, rfl⟩
          rw [hg] at s3 hlb'
          rw [hlb'] at s3
          unfold frV at s3
          have S3 := Lib.hid s3
          clear s3 h1 h2 hlb hlb' hg y0
          go_wp2
          go_quiet (fail)
          obtain ⟨W2, hW2⟩ : ∃ W2, w2.drewN nq = W2 := ⟨_, rfl⟩
          have hb22 : Below w2.heap.size w2 W2 := by rw [← hW2]; exact below_drewN (Below.refl _ _) nq
          rw [hW2]
          have s4 := S3.out W2 hb22
          have HB3 : Hid (Below w.heap.size w W2) := Lib.hid (HB2.out.trans (hb22.mono HB2.out.size))
          clear hb22 hW2
          go_wp2_with fail
          refine s4.mono ?_
          rintro e w3 ⟨A3, c3, rfl, _, hb3⟩
          have HB4 : Hid (Below w.heap.size w (w3.alloc (.cells #[.int .u8 (g.k.toNat : Int), .slice A3 g.b.length c3] 24))) := Lib.hid ((HB3.out.trans (hb3.mono HB3.out.size)).alloc (HB3.out.trans (hb3.mono HB3.out.size)).size _)
          clear hb3 s4 x1 x2 y1 y2
          go_wp2_with fail
          refine (works_any _).mono ?_
          rintro e w4 ⟨rfl, hb4⟩
          have HB5 : Hid (Below w.heap.size w w4) := Lib.hid (HB4.out.trans (hb4.mono HB4.out.size))
          clear hb4
          go_wp2
          go_ret
          exact ⟨rfl, HB5.out⟩
        | true =>
          have hsp : ∃ E : Nat, E = errT bad ∧ E ≠ 0 ∧ ((bad.getD 0 0 = 0 ∧ E = 31) ∨ (bad.getD 0 0 ≠ 0 ∧ E = 32)) := by
            by_cases h0 : bad.getD 0 0 = 0
            · have := HSP2.out.2.1 rfl h0
              exact ⟨_, rfl, by rw [this]; omega, .inl ⟨h0, this⟩⟩
            · have := HSP2.out.2.2 rfl h0
              exact ⟨_, rfl, by rw [this]; omega, .inr ⟨h0, this⟩⟩
          obtain ⟨E, hE, hE0, hcs⟩ := hsp
          have s3 := fun (w3 : World) (hb : Below w2.heap.size w2 w3) => take_err (some ⟨b2, o2, none⟩) L c2 bad w3 (HR2.out.below hb) hc2 (by rw [← hE]; exact hE0)
          rw [← hE] at s3
          have S3 := Lib.hid s3
          have HB0 := Lib.hid y0
          have HBL := Lib.hid hb2l
          clear s3 hE hE0 y0
          rcases hcs with ⟨h0, rfl⟩ | ⟨h0, rfl⟩
          all_goals
            have HH0 := Lib.hid h0
            clear h0
            go_wp2
            go_quiet (fail)
            obtain ⟨W2, hW2⟩ : ∃ W2, w2.drewN nq = W2 := ⟨_, rfl⟩
            have hb22 : Below w2.heap.size w2 W2 := by rw [← hW2]; exact below_drewN (Below.refl _ _) nq
            rw [hW2]
            have s4 := S3.out W2 hb22
            have HB3 : Hid (Below w.heap.size w W2) := Lib.hid (HB2.out.trans (hb22.mono HB2.out.size))
            have HB23 := Lib.hid hb22
            clear hb22 hW2
            go_wp2_with fail
            refine s4.mono ?_
            rintro e w3 ⟨rfl, hb3⟩
            have hb23 : Below w2.heap.size w2 (w3.alloc (.cells #[.int .u8 0, .slice none 0 0] 24)) := (HB23.out.trans (hb3.mono HB23.out.size)).alloc (HB23.out.trans (hb3.mono HB23.out.size)).size _
            have y0 := (hb23.cell (p := ⟨b2, o2, none⟩) HBL.out).trans HB0.out
            have HB4 : Hid (Below w.heap.size w (w3.alloc (.cells #[.int .u8 0, .slice none 0 0] 24))) := Lib.hid (HB2.out.trans (hb23.mono HB2.out.size))
            clear hb3 s4 x1 x2 y1 y2 hb23
          · rw [HH0.out] at y0
            go_wp2_with fail
            refine (works_any _).mono ?_
            rintro e w4 ⟨rfl, hb4⟩
            have HB5 : Hid (Below w.heap.size w w4) := Lib.hid (HB4.out.trans (hb4.mono HB4.out.size))
            clear hb4
            go_wp2
            go_ret
            exact ⟨rfl, HB5.out⟩
          · have hne := byte_ne HH0.out
            obtain ⟨u0, hu0⟩ : ∃ v : Int, ((bad.getD 0 0).toNat : Int) = v := ⟨_, rfl⟩
            rw [hu0] at y0 hne
            have hne' : (u0 == 0) = false := hne
            clear hu0 hne
            go_wp2_with fail
            refine (works_any _).mono ?_
            rintro e w4 ⟨rfl, hb4⟩
            have HB5 : Hid (Below w.heap.size w w4) := Lib.hid (HB4.out.trans (hb4.mono HB4.out.size))
            clear hb4
            go_wp2
            go_ret
            exact ⟨rfl, HB5.out⟩
      · have q3 := byte_ne q2
        obtain ⟨v2, hv2⟩ : ∃ v : Int, (((encF f).getD 2 0).toNat : Int) = v := ⟨_, rfl⟩
        obtain ⟨u2, hu2⟩ : ∃ v : Int, ((bad.getD 2 0).toNat : Int) = v := ⟨_, rfl⟩
        rw [hv2] at x2 q3
        rw [hu2] at y2 q3
        have q3' : (u2 != v2) = true := by simp [bne, q3]
        clear q2 hv2 hu2 y0
        go_wp2
        go_quiet (fail)
        obtain ⟨W2, hW2⟩ : ∃ W2, w2.drewN nq = W2 := ⟨_, rfl⟩
        have HB3 : Hid (Below w.heap.size w W2) := Lib.hid (by rw [← hW2]; exact below_drewN HB2.out nq)
        rw [hW2]
        clear hW2
        go_wp2_with fail
        refine (works_any _).mono ?_
        rintro e w4 ⟨rfl, hb4⟩
        have HB5 : Hid (Below w.heap.size w w4) := Lib.hid (HB3.out.trans (hb4.mono HB3.out.size))
        clear hb4
        go_wp2
        go_ret
        exact ⟨rfl, HB5.out⟩
    · have q3 := byte_ne q1
      obtain ⟨v1, hv1⟩ : ∃ v : Int, (((encF f).getD 1 0).toNat : Int) = v := ⟨_, rfl⟩
      obtain ⟨u1, hu1⟩ : ∃ v : Int, ((bad.getD 1 0).toNat : Int) = v := ⟨_, rfl⟩
      rw [hv1] at x1 q3
      rw [hu1] at y1 q3
      have q3' : (u1 != v1) = true := by simp [bne, q3]
      clear q1 hv1 hu1 y0
      go_wp2
      go_quiet (fail)
      obtain ⟨W2, hW2⟩ : ∃ W2, w2.drewN nq = W2 := ⟨_, rfl⟩
      have HB3 : Hid (Below w.heap.size w W2) := Lib.hid (by rw [← hW2]; exact below_drewN HB2.out nq)
      rw [hW2]
      clear hW2
      go_wp2_with fail
      refine (works_any _).mono ?_
      rintro e w4 ⟨rfl, hb4⟩
      have HB5 : Hid (Below w.heap.size w w4) := Lib.hid (HB3.out.trans (hb4.mono HB3.out.size))
      clear hb4
      go_wp2
      go_ret
      exact ⟨rfl, HB5.out⟩
end Go.Proofs.Ytkbllhpjfgeaaaa
