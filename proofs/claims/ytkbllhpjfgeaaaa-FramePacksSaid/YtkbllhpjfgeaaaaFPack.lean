/-
  Pack, walked (layer 3).
-/
import Derived.Test.YtkbllhpjfgeaaaaFWorks
namespace Go.Proofs.Ytkbllhpjfgeaaaa
open Go.RowKit
set_option linter.unusedSimpArgs false

def PackPost (w : World) (fs : List Fr) (e : Ending) (w' : World) : Prop :=
  Below w.heap.size w w' ∧ ((errPack fs ≠ 0 ∧ e = .returned (.tuple #[.slice none 0 0, .int .i64 (errPack fs : Int)])) ∨
    (errPack fs = 0 ∧ ∃ A c, e = .returned (.tuple #[.slice A (encs fs).length c, .int .i64 0]) ∧ RB w' A (encs fs).length (encs fs) ∧ (A = none → c = 0) ∧ (encs fs).length ≤ c))
theorem encs_take_le {fs : List Fr} (h : ∀ f ∈ fs, okF f) (hl : fs.length ≤ 32) (k : Nat) : (encs (fs.take k)).length ≤ 32224 := by
  have : ∀ gs : List Fr, (∀ f ∈ gs, okF f) → (encs gs).length ≤ 1007 * gs.length := by
    intro gs
    induction gs with
    | nil => intro _; simp [encs]
    | cons g gs ih =>
      intro hg
      have h1 := (hg g (by simp)).2
      have h2 := ih (fun f hf => hg f (by simp [hf]))
      rw [encs_cons, List.length_append, encF_length, List.length_cons]
      omega
  have h1 := this (fs.take k) (fun f hf => h f (List.mem_of_mem_take hf))
  have h2 : (fs.take k).length ≤ 32 := by rw [List.length_take]; omega
  omega

set_option maxHeartbeats 4000000 in
theorem pack_any (A : Option Addr) (n c : Nat) (fs : List Fr) (w : World) (hR : RFs w A n fs) (hn : n ≤ 4398046511104) : Calls Try.prog 21 #[.slice A n c] w (PackPost w fs) := by
  have HR := Lib.hid hR
  have HL := Lib.hid hR.1
  have S2 := Lib.hid (fun (g : Nat) (w1 : World) (hg : HasF w1 g) (hb : Below w.heap.size w w1) => faultF_any g n c A fs w1 hg (hR.below hb) (by omega))
  clear hR
  obtain ⟨E, hE⟩ : ∃ E, errsF fs = E := ⟨_, rfl⟩
  rw [hE] at S2
  have HE := Lib.hid hE
  obtain ⟨g0, hg0⟩ : ∃ g, w.heap.size = g := ⟨_, rfl⟩
  clear hE
  go_enter Try.func21, Try.ntmps21
  go_wp2_with fail
  refine (ofFrame_any w).mono ?_
  rw [hg0]
  rintro e w1 ⟨rfl, hg, hb⟩
  have hb' : Below w.heap.size w w1 := by rw [hg0]; exact hb
  have s2 := S2.out g0 w1 hg hb'
  have HB1 := Lib.hid hb'
  clear hb hb' hg
  go_wp2_with fail
  refine s2.mono ?_
  rintro e w2 ⟨rfl, hb2⟩
  have HB2 : Hid (Below w.heap.size w w2) := Lib.hid (HB1.out.trans (hb2.mono HB1.out.size))
  clear s2 hb2
  by_cases hE0 : E = 0
  · subst hE0
    by_cases h32 : n = 0 ∨ 32 < n
    · have HEP : Hid (errPack fs = 5) := Lib.hid (by unfold errPack; rw [if_neg (by simp [HE.out]), if_pos (by rw [HL.out]; exact h32)])
      rcases h32 with h0 | h0
      · subst h0
        clear hg0
        go_wp2
        go_ret2
        exact ⟨HB2.out, .inl ⟨by rw [HEP.out]; omega, by rw [HEP.out]; rfl⟩⟩
      · have q0 : ((n : Int) == 0) = false := by rw [beq_eq_false_iff_ne]; omega
        have q1 : (32 : Int) < (n : Int) := by omega
        clear hg0
        go_wp2
        go_ret2
        exact ⟨HB2.out, .inl ⟨by rw [HEP.out]; omega, by rw [HEP.out]; rfl⟩⟩
    · have h1 : 0 < n := by omega
      have h2 : n ≤ 32 := by omega
      have HOk : Hid (∀ f ∈ fs, okF f) := Lib.hid (errsF_zero.1 HE.out)
      have HEP : Hid (errPack fs = if 1400 < (encs fs).length then 5 else 0) := Lib.hid (by unfold errPack; rw [if_neg (by simp [HE.out]), if_neg (by rw [HL.out]; exact h32)])
      have q0 : ((n : Int) == 0) = false := by rw [beq_eq_false_iff_ne]; omega
      have q1 : (n : Int) ≤ 32 := by omega
      clear h32
      go_wp2
      rw [hg0] at HB2
      go_loopw [5, 24] (fun v i wr => ∃ k : Nat, k ≤ n ∧ i = .int .i64 k ∧ Hid (wr.ownsRow g0 5 1 v (encs (fs.take k)).length ((encs (fs.take k)).map byteV)) ∧ Hid (Below g0 w wr)) (fun _ i _ => n - (intOf i).toNat)
      case atStart => exact ⟨0, Nat.zero_le _, rfl, Lib.hid (World.ownsRow_nil _ _ _ _), HB2⟩
      case round =>
        obtain ⟨k, hk, rfl, hown, hbw⟩ := hrel
        obtain ⟨Bv, dv, rfl, hrb, hnl, hle, _⟩ := RB.own hown.out
        have hl32 := encs_take_le HOk.out (by rw [HL.out]; exact h2) k
        obtain ⟨L, hL⟩ : ∃ L, (encs (fs.take k)).length = L := ⟨_, rfl⟩
        rw [hL] at hown hrb hle hl32 ⊢
        have HLL := Lib.hid hL
        by_cases hlt : k < n
        · have hkl : k < fs.length := by rw [HL.out]; exact hlt
          obtain ⟨b, off, rfl, hb, hat⟩ := HR.out.2 (by omega)
          obtain ⟨f, hf⟩ : ∃ f, fs[k] = f := ⟨_, rfl⟩
          have hfr := hat k hkl
          rw [hf] at hfr
          have hfr2 := hfr.below (by rw [hg0]; exact hbw.out)
          obtain ⟨_, hc0, A1, cA, hc1, hbody1⟩ := hfr
          obtain ⟨_, hc0', A2, cA2, hc1', _⟩ := hfr2
          have hA12 : A2 = A1 ∧ cA2 = cA := by
            have e1 := (hbw.out.cell (p := ⟨b, off + k * 2 + 1, none⟩) (by show b < g0; omega)).trans hc1
            rw [hc1'] at e1
            simp only [Option.some.injEq, Value.slice.injEq] at e1
            exact ⟨e1.1, e1.2.2⟩
          obtain ⟨rfl, rfl⟩ := hA12
          have hokf := HOk.out f (by rw [← hf]; exact List.getElem_mem hkl)
          have hgw := hbw.out.size
          rw [hg0] at hgw
          have S5 := Lib.hid (fun (w5 : World) (hb5 : Below wr.heap.size wr w5) => lay_any w w5 g0 L dv Bv (encs (fs.take k)) (.inl ⟨bown_keep hown.out hb5, ((bown_keep hown.out hb5).lt · · |>.2)⟩) (by rw [hg0]; exact hbw.out.trans (hb5.mono hgw)) (by omega) (Nat.le_trans hgw hb5.size) f A2 cA2 hbody1 hokf.2 (by omega))
          have HT : Hid (encs (fs.take (k + 1)) = encs (fs.take k) ++ encF f) := Lib.hid (by rw [List.take_succ_eq_append_getElem hkl, encs_snoc, hf])
          obtain ⟨ln, hln⟩ : ∃ v : Nat, f.b.length = v := ⟨_, rfl⟩
          unfold frV at S5
          rw [hln] at S5 hc1'
          have HLN := Lib.hid hln
          have HG0 := Lib.hid hg0
          clear hc0 hc1 hbody1 hokf hat hf hrb hnl hL hown hln hg0
          go_wp2_with fail
          refine (S5.out _ ((Below.refl _ wr).alloc (Nat.le_refl _) _)).mono ?_
          rintro e w6 ⟨v6, rfl, hown6, hb6⟩
          have hl6 : L + (ln + 7) = (encs (fs.take (k + 1))).length := by rw [HT.out, List.length_append, encF_length, HLL.out, HLN.out]
          rw [hl6, ← HT.out] at hown6
          have HO6 := Lib.hid hown6
          obtain ⟨A6, c6, rfl, _, _, _, _⟩ := RB.own hown6
          have HB6 : Hid (Below g0 w w6) := Lib.hid (by rw [← HG0.out]; exact hb6)
          clear hown6 hb6 hl6 hc0' hc1'
          go_wp2
          go_roundw
          case rel => exact ⟨k + 1, by omega, by go_num, HO6, HB6⟩
          case measure => simp [intOf]; omega
        · obtain rfl : k = n := by omega
          have htk : fs.take k = fs := List.take_of_length_le (by rw [HL.out]; omega)
          rw [htk] at hown hrb hL
          have HRB := Lib.hid hrb
          have HNL := Lib.hid hnl
          have HLe := Lib.hid hL
          have HBw : Hid (Below w.heap.size w wr) := Lib.hid (by rw [hg0]; exact hbw.out)
          clear hown hrb hnl hL hg0 htk
          by_cases h14 : 1400 < L
          · have HE5 : Hid (errPack fs = 5) := Lib.hid (by rw [HEP.out, if_pos (by rw [HLe.out]; exact h14)])
            have q2 : (1400 : Int) < (L : Int) := by omega
            go_wp2
            go_ret2
            exact ⟨HBw.out, .inl ⟨by rw [HE5.out]; omega, by rw [HE5.out]; rfl⟩⟩
          · have HE5 : Hid (errPack fs = 0) := Lib.hid (by rw [HEP.out, if_neg (by rw [HLe.out]; exact h14)])
            have q2 : (L : Int) ≤ 1400 := by omega
            clear h14
            go_wp2
            go_ret2
            exact ⟨HBw.out, .inr ⟨HE5.out, _, _, by rw [HLe.out]; rfl, by rw [HLe.out]; exact HRB.out, HNL.out, by rw [HLe.out]; exact hle⟩⟩
  · have HEP : Hid (errPack fs = E) := Lib.hid (by unfold errPack; rw [if_pos (by rw [HE.out]; exact hE0), HE.out])
    have e0 : ((E : Int) == 0) = false := by rw [beq_eq_false_iff_ne]; omega
    have e0' : ((E : Int) != 0) = true := by rw [bne_iff_ne]; omega
    have HE0 := Lib.hid hE0
    clear hE0 hg0
    go_wp2
    go_ret2
    exact ⟨HB2.out, .inl ⟨by rw [HEP.out]; exact HE0.out, by rw [HEP.out]; rfl⟩⟩
end Go.Proofs.Ytkbllhpjfgeaaaa
