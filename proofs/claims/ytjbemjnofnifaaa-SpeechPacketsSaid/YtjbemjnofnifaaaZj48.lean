/-
  The document's Pack, walked (layer 3).
-/
import Derived.Test.YtjbemjnofnifaaaZj41
namespace Go.Proofs.Ytjbemjnofnifaaa
open Go.RowKit
set_option linter.unusedSimpArgs false

set_option maxRecDepth 100000 in
set_option maxHeartbeats 4000000 in
theorem rpack_any (A : Option Addr) (n c : Nat) (fs : List Fr) (w : World) (hR : RFs w A n fs) (hn : n ≤ 4398046511104) : Calls Try.prog 40 #[.slice A n c] w (PackPost w fs) := by
  obtain ⟨i0, hi, hz0, hz1, hz2⟩ := info_parts u8_info
  have HR := Lib.hid hR
  have HL := Lib.hid hR.1
  obtain ⟨g0, hg0⟩ : ∃ g, w.heap.size = g := ⟨_, rfl⟩
  have HG0 := Lib.hid hg0
  clear hR hg0
  go_enter Try.func40, Try.ntmps40
  go_wp2
  go_loopw [4] (fun i wr => ∃ k : Nat, k ≤ n ∧ i = .int .i64 k ∧ Hid (∀ j (hj : j < fs.length), j < k → errF fs[j] = 0) ∧ Hid (Below w.heap.size w wr)) (fun i _ => n - (intOf i).toNat)
  case atStart => exact ⟨0, Nat.zero_le _, rfl, Lib.hid (fun j _ hj => absurd hj (by omega)), Lib.hid (Below.refl _ _)⟩
  case round =>
    obtain ⟨k, hk, rfl, hdone, hbw⟩ := hrel
    by_cases hlt : k < n
    · have hkl : k < fs.length := by rw [HL.out]; exact hlt
      obtain ⟨b, off, rfl, hb, hat⟩ := HR.out.2 (by omega)
      obtain ⟨f, hf⟩ : ∃ f, fs[k] = f := ⟨_, rfl⟩
      have hfr := (hat k hkl).below hbw.out
      rw [hf] at hfr
      obtain ⟨_, c0, A1, cA, c1, _⟩ := hfr
      have s1 := rerr_any f A1 cA wr
      obtain ⟨E, hE⟩ : ∃ E, errF f = E := ⟨_, rfl⟩
      rw [hE] at s1
      unfold frV at s1
      have g1 : (0 : Int) ≤ (k : Int) := by omega
      have HFk : Hid (E ≠ 0 → errsF fs = E) := Lib.hid (fun he => by
        rw [← hE, ← hf] at he ⊢
        exact errsF_at hkl (fun j hj => hdone.out j (by omega) hj) he)
      have HNx : Hid (E = 0 → ∀ j (hj : j < fs.length), j < k + 1 → errF fs[j] = 0) := Lib.hid (fun he j hj hjk => by
        by_cases e : j = k
        · subst e; rw [hf, hE]; exact he
        · exact hdone.out j hj (by omega))
      clear hat hf hE hdone
      go_wp2_with fail
      refine s1.mono ?_
      rintro e w2 ⟨rfl, hb2⟩
      have HB2 : Hid (Below w.heap.size w w2) := Lib.hid (hbw.out.trans (hb2.mono hbw.out.size))
      clear s1 hb2 c0 c1
      by_cases hE0 : E = 0
      · subst hE0
        have HD := Lib.hid (HNx.out rfl)
        go_wp2
        go_roundw
        case rel => exact ⟨k + 1, by omega, by go_num, HD, HB2⟩
        case measure => simp [intOf]; omega
      · have HEP : Hid (errPack fs = E) := Lib.hid (by unfold errPack; rw [if_pos (by rw [HFk.out hE0]; exact hE0), HFk.out hE0])
        have e0 : ((E : Int) == 0) = false := by rw [beq_eq_false_iff_ne]; omega
        have e0' : ((E : Int) != 0) = true := by rw [bne_iff_ne]; omega
        have HE0 := Lib.hid hE0
        clear hE0
        go_wp2
        go_ret2
        exact ⟨HB2.out, .inl ⟨by rw [HEP.out]; exact HE0.out, by rw [HEP.out]; rfl⟩⟩
    · obtain rfl : k = n := by omega
      have HE : Hid (errsF fs = 0) := Lib.hid (errsF_none fun j hj => hdone.out j hj (by have := HL.out; omega))
      have HBw := hbw
      clear hdone hlt hbw
      by_cases h32 : k = 0 ∨ 32 < k
      · have HEP : Hid (errPack fs = 5) := Lib.hid (by unfold errPack; rw [if_neg (by simp [HE.out]), if_pos (by rw [HL.out]; exact h32)])
        rcases h32 with h0 | h0
        · subst h0
          go_wp2
          go_ret2
          exact ⟨HBw.out, .inl ⟨by rw [HEP.out]; omega, by rw [HEP.out]; rfl⟩⟩
        · have q0 : (1 : Int) ≤ (k : Int) := by omega
          have q1 : (32 : Int) < (k : Int) := by omega
          go_wp2
          go_ret2
          exact ⟨HBw.out, .inl ⟨by rw [HEP.out]; omega, by rw [HEP.out]; rfl⟩⟩
      · have h2 : k ≤ 32 := by omega
        have HOk : Hid (∀ f ∈ fs, okF f) := Lib.hid (errsF_zero.1 HE.out)
        have HEP : Hid (errPack fs = if 1400 < (encs fs).length then 5 else 0) := Lib.hid (by unfold errPack; rw [if_neg (by simp [HE.out]), if_neg (by rw [HL.out]; exact h32)])
        have q0 : (1 : Int) ≤ (k : Int) := by omega
        have q1 : (k : Int) ≤ 32 := by omega
        have HB2 : Hid (Below g0 w wr) := Lib.hid (by rw [← HG0.out]; exact HBw.out)
        clear h32 HBw
        go_wp2
        go_loopw [6, 7] (fun v i wr => ∃ q : Nat, q ≤ k ∧ i = .int .i64 q ∧ Hid (wr.ownsRow g0 5 1 v (encs (fs.take q)).length ((encs (fs.take q)).map byteV)) ∧ Hid (Below g0 w wr)) (fun _ i _ => k - (intOf i).toNat)
        case atStart => exact ⟨0, Nat.zero_le _, rfl, Lib.hid (World.ownsRow_nil _ _ _ _), HB2⟩
        case round =>
          obtain ⟨q, hq, rfl, hown, hbw⟩ := hrel
          obtain ⟨wq, rfl⟩ : ∃ wq : World, wq = wr := ⟨_, rfl⟩
          obtain ⟨Bv, dv, rfl, hrb, hnl, hle, _⟩ := RB.own hown.out
          have hl32 := encs_take_le HOk.out (by rw [HL.out]; exact h2) q
          obtain ⟨L, hL⟩ : ∃ L, (encs (fs.take q)).length = L := ⟨_, rfl⟩
          rw [hL] at hown hrb hle hl32 ⊢
          have HLL := Lib.hid hL
          by_cases hlt : q < k
          · have hkl : q < fs.length := by rw [HL.out]; exact hlt
            obtain ⟨b, off, rfl, hb, hat⟩ := HR.out.2 (by omega)
            obtain ⟨f, hf⟩ : ∃ f, fs[q] = f := ⟨_, rfl⟩
            have hfr := (hat q hkl).below (by rw [HG0.out]; exact hbw.out)
            rw [hf] at hfr
            obtain ⟨_, c0, A1, cA, c1, hbody⟩ := hfr
            have hokf := HOk.out f (by rw [← hf]; exact List.getElem_mem hkl)
            have s5 := rbytes_any f A1 cA wq hbody hokf.2
            unfold frV at s5
            have HT : Hid (encs (fs.take (q + 1)) = encs (fs.take q) ++ encF f) := Lib.hid (by rw [List.take_succ_eq_append_getElem hkl, encs_snoc, hf])
            have HFl : Hid (f.b.length ≤ 1000) := Lib.hid hokf.2
            have g1 : (0 : Int) ≤ (q : Int) := by omega
            clear hat hf hbody hokf hrb hnl hL
            go_wp2_with fail
            refine s5.mono ?_
            rintro e w5 ⟨A5, c5, rfl, r5, n5, l5, _, hb5⟩
            have HO5 : Hid (w5.ownsRow g0 5 1 (.slice Bv L dv) L ((encs (fs.take q)).map byteV)) := Lib.hid (bown_keep hown.out hb5)
            have hgw := hbw.out.size
            have hg0w : g0 ≤ w5.heap.size := by have := HG0.out; have := hb5.size; omega
            have HB5 : Hid (Below g0 w w5) := Lib.hid (hbw.out.trans (hb5.mono (by have := HG0.out; omega)))
            have HR5 := Lib.hid r5
            have HN5 := Lib.hid n5
            obtain ⟨M, hM⟩ : ∃ M, (encF f).length = M := ⟨_, rfl⟩
            have hM1 : M ≤ 1007 := by rw [← hM, encF_length]; have := HFl.out; omega
            rw [hM] at HR5 l5 ⊢
            have HM := Lib.hid hM
            clear s5 r5 n5 hb5 c0 c1 hM
            go_wp2_with (at_builtin; refine wpList_append_rbh rfl (.tmp 36) (.tmp 41) 26 rfl g0 i0 Try.underlying26 hi hz0 hz1 hz2 _ L (encs (fs.take q)) rfl HO5.out A5 M c5 (encF f) rfl HN5.out HR5.out ?d1 ?d2 ?d3 ?_)
            case d1 => unfold maxLen; omega
            case d2 => omega
            case d3 => exact hg0w
            refine Lib.hid ?_
            intro v6 w6 hown6 hg6
            have HB6 : Hid (Below g0 w w6) := Lib.hid (HB5.out.trans ((Below.refl _ w5).grown hg6 hg0w (fun j hj => (HO5.out.lt j hj).1)))
            have hl6 : L + M = (encs (fs.take (q + 1))).length := by rw [HT.out, List.length_append, HLL.out, HM.out]
            have HO6 : Hid (w6.ownsRow g0 5 1 v6 (encs (fs.take (q + 1))).length ((encs (fs.take (q + 1))).map byteV)) := Lib.hid (by
              rw [← hl6, HT.out]; simpa using hown6)
            obtain ⟨A6, c6, rfl, _, _, _, _⟩ := RB.own HO6.out
            clear hown6 hg6 hl6
            go_wp2
            go_roundw
            case rel => exact ⟨q + 1, by omega, by go_num, HO6, HB6⟩
            case measure => simp [intOf]; omega
          · obtain rfl : q = k := by omega
            have htk : fs.take q = fs := List.take_of_length_le (by rw [HL.out]; omega)
            rw [htk] at hown hrb hL
            have HRB := Lib.hid hrb
            have HNL := Lib.hid hnl
            have HLe := Lib.hid hL
            have HBx : Hid (Below w.heap.size w wq) := Lib.hid (by rw [HG0.out]; exact hbw.out)
            clear hown hrb hnl hL htk
            by_cases h14 : 1400 < L
            · have HE5 : Hid (errPack fs = 5) := Lib.hid (by rw [HEP.out, if_pos (by rw [HLe.out]; exact h14)])
              have q2 : (1400 : Int) < (L : Int) := by omega
              go_wp2
              go_ret2
              exact ⟨HBx.out, .inl ⟨by rw [HE5.out]; omega, by rw [HE5.out]; rfl⟩⟩
            · have HE5 : Hid (errPack fs = 0) := Lib.hid (by rw [HEP.out, if_neg (by rw [HLe.out]; exact h14)])
              have q2 : (L : Int) ≤ 1400 := by omega
              clear h14
              go_wp2
              go_ret2
              exact ⟨HBx.out, .inr ⟨HE5.out, _, _, by rw [HLe.out]; rfl, by rw [HLe.out]; exact HRB.out, HNL.out, by rw [HLe.out]; exact hle⟩⟩
end Go.Proofs.Ytjbemjnofnifaaa
