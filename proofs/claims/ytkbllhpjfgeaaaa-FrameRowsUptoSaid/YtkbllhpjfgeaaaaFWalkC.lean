/-
  fault over frames (layer 3). Written by gen_c.py.
-/
import Derived.Test.YtkbllhpjfgeaaaaFWalkB
import Derived.Test.YtkbllhpjfgeaaaaFMem
namespace Go.Proofs.Ytkbllhpjfgeaaaa
open Go.RowKit
set_option linter.unusedSimpArgs false

def tstF (f : Fr) : Nat → Bool
  | 0 => decide (f.k ≠ 0)
  | _ => decide (f.b.length ≤ 1000)
def upF (f : Fr) : Nat → Prop
  | 0 => True
  | j + 1 => upF f j ∧ tstF f j = true
theorem upF_end {f : Fr} (h : upF f 2) : errF f = 0 := by
  obtain ⟨⟨_, h0⟩, h1⟩ := h
  have h0' : f.k ≠ 0 := of_decide_eq_true h0
  have h1' : f.b.length ≤ 1000 := of_decide_eq_true h1
  unfold errF; rw [if_neg h0', if_neg (by omega)]
theorem upF_0 {f : Fr} (h : tstF f 0 = false) : errF f = 2 := by
  have h0 : ¬ f.k ≠ 0 := of_decide_eq_false h
  unfold errF; rw [if_pos (by simpa using h0)]
theorem upF_1 {f : Fr} (u : upF f 1) (h : tstF f 1 = false) : errF f = 3 := by
  have u0 : f.k ≠ 0 := of_decide_eq_true u.2
  have h0 : ¬ f.b.length ≤ 1000 := of_decide_eq_false h
  unfold errF; rw [if_neg u0, if_pos (by omega)]

set_option maxHeartbeats 2000000 in
theorem faultF_any (g n c : Nat) (B : Option Addr) (fs : List Fr) (w : World) (hg : HasF w g) (h : RFs w B n fs) (hn : n ≤ 140737488351232) :
    Calls Try.prog 27 #[.slice (some ⟨g, 0, none⟩) 2 2, .slice B n c] w fun e w' => e = .returned (.int .i64 (errsF fs : Int)) ∧ Below w.heap.size w w' := by
  have hl := h.1
  have HF := Lib.hid h
  have hgl : g < w.heap.size := (Array.getElem?_eq_some_iff.1 hg).1
  have HG := Lib.hid hg
  have HL := Lib.hid hl
  clear h hg hl
  go_enter Try.func27, Try.ntmps27
  go_wp2
  go_step3
  go_wp2
  go_step3
  go_wp2
  go_loopg [5, 12] n (fun q e5 i wr => ∃ k : Nat, k + q = n ∧ i = .int .i64 k ∧ e5 = .int .i64 0 ∧ Hid (∀ j (hj : j < fs.length), j < k → errF fs[j] = 0) ∧ Below w.heap.size w wr)
  case atStart => exact ⟨0, by omega, rfl, rfl, Lib.hid (fun j _ hj => absurd hj (by omega)), Below.refl _ _⟩
  case round =>
    obtain ⟨k, hkq, rfl, rfl, hdone, hbx⟩ := hrel
    cases gk with
    | zero =>
      obtain rfl : k = n := by omega
      have HD : Hid (errsF fs = 0) := Lib.hid (errsF_none fun j hj => hdone.out j hj (by have := HL.out; omega))
      have HB := Lib.hid hbx
      clear hdone hbx hkq
      go_wp2
      try rw [Exit.noGoto_ret]
      go_ret
      exact ⟨by rw [HD.out]; rfl, HB.out⟩
    | succ q =>
      have hkn : k < n := by omega
      have hkl : k < fs.length := by rw [HL.out]; exact hkn
      obtain ⟨b, off, rfl, hb, hat⟩ := HF.out.2 (by omega)
      obtain ⟨f, hf⟩ : ∃ f, fs[k] = f := ⟨_, rfl⟩
      have hfr := (hat k hkl).below hbx
      rw [hf] at hfr
      obtain ⟨_, hc0, A, cA, hc1, hbody⟩ := hfr
      have HFk : Hid (errF f ≠ 0 → errsF fs = errF f) := Lib.hid (fun he => by
        subst hf
        exact errsF_at hkl (fun j hj => hdone.out j (by omega) hj) he)
      have HN : Hid (errF f = 0 → ∀ j (hj : j < fs.length), j < k + 1 → errF fs[j] = 0) := Lib.hid (fun he j hj hjk => by
        by_cases e : j = k
        · subst e; rw [hf]; exact he
        · exact hdone.out j hj (by omega))
      obtain ⟨kk, hkk⟩ : ∃ v : Int, (f.k.toNat : Int) = v := ⟨_, rfl⟩
      obtain ⟨ln, hln⟩ : ∃ v : Nat, f.b.length = v := ⟨_, rfl⟩
      rw [hkk] at hc0
      rw [hln] at hc1
      obtain ⟨wf, hWf⟩ : ∃ wf, wr.alloc (.cells #[.int .u8 kk, .slice A ln cA] 24) = wf := ⟨_, rfl⟩
      have hf0 : wf.cell? ⟨wr.heap.size, 0, none⟩ = some (.int .u8 kk) := by rw [← hWf, cell_of_row _ wr.heap.size 0 _ _ (0, 0) (heap_alloc_new wr _)]; rfl
      have hf1 : wf.cell? ⟨wr.heap.size, 1, none⟩ = some (.slice A ln cA) := by rw [← hWf, cell_of_row _ wr.heap.size 1 _ _ (0, 0) (heap_alloc_new wr _)]; rfl
      have hfz : wr.heap.size < wf.heap.size := by rw [← hWf]; simp
      have hbf : Below w.heap.size w wf := by rw [← hWf]; exact hbx.alloc hbx.size _
      obtain ⟨bx, hbx0⟩ : ∃ bx, wr.heap.size = bx := ⟨_, rfl⟩
      rw [hbx0] at hf0 hf1 hfz
      have HF0 := Lib.hid hf0
      have HF1 := Lib.hid hf1
      have HBF := Lib.hid hbf
      have HKK := Lib.hid hkk
      have HLN := Lib.hid hln
      clear hdone hat hf hbody hbx hf0 hf1 hbf hkk hln
      have HHK := Lib.hid hkq
      clear hkq
      go_wp2
      clear hc0 hc1 hWf hbx0
      go_loopg [5, 18] 2 (fun q e5 i wq => ∃ j : Nat, j + q = 2 ∧ i = .int .i64 j ∧ e5 = .int .i64 0 ∧ Hid (upF f j) ∧ Below wf.heap.size wf wq)
      case atStart => exact ⟨0, rfl, rfl, rfl, Lib.hid trivial, Below.refl _ _⟩
      case round =>
        obtain ⟨j, hjq, rfl, rfl, hup, hbq⟩ := hrel
        obtain ⟨wq, rfl⟩ : ∃ wq : World, wq = wr := ⟨_, rfl⟩
        have HBw : Hid (Below w.heap.size w wq) := Lib.hid (HBF.out.trans (hbq.mono HBF.out.size))
        have hgq : wq.heap[g]? = some (.cells chkF 76 (0, 0)) := (HBw.out.block g hgl).trans HG.out
        have HBq := Lib.hid hbq
        by_cases h5 : j = 2
        · subst h5
          obtain rfl : gk = 0 := by omega
          have HD := Lib.hid (HN.out (upF_end hup.out))
          clear hbq hgq hjq
          go_wp2
          go_roundg q
          case rel => exact ⟨k + 1, by have := HHK.out; omega, by go_num, rfl, HD, HBw.out⟩
          case measure => omega
        · rcases (show j = 0 ∨ j = 1 by omega) with rfl | rfl
          · obtain rfl : gk = 2 := by omega
            have k0 : wq.cell? ⟨g, 0, none⟩ = some (.func (.func 35) #[] #[]) := by rw [cell_of_row wq g 0 chkF _ (0, 0) hgq]; rfl
            have k1 : wq.cell? ⟨g, 1, none⟩ = some (.int .i64 2) := by rw [cell_of_row wq g 1 chkF _ (0, 0) hgq]; rfl
            have q0 : wq.cell? ⟨bx, 0, none⟩ = some (.int .u8 kk) := (hbq.cell (p := ⟨bx, 0, none⟩) hfz).trans HF0.out
            have q1 : wq.cell? ⟨bx, 1, none⟩ = some (.slice A ln cA) := (hbq.cell (p := ⟨bx, 1, none⟩) hfz).trans HF1.out
            obtain ⟨W1, hW1⟩ : ∃ W1, wq.alloc (.cells #[.func (.func 35) #[] #[], .int .i64 2] 76) = W1 := ⟨_, rfl⟩
            have hb11 : Below wq.heap.size wq W1 := by rw [← hW1]; exact (Below.refl _ _).alloc (Nat.le_refl _) _
            have hbxq : bx < wq.heap.size := Nat.lt_of_lt_of_le hfz hbq.size
            have q2 : W1.cell? ⟨bx, 0, none⟩ = some (.int .u8 kk) := (hb11.cell (p := ⟨bx, 0, none⟩) hbxq).trans q0
            have q3 : W1.cell? ⟨bx, 1, none⟩ = some (.slice A ln cA) := (hb11.cell (p := ⟨bx, 1, none⟩) hbxq).trans q1
            have hz1 : wq.heap.size < W1.heap.size := by rw [← hW1]; simp
            have hm1 : W1.cell? ⟨wq.heap.size, 1, none⟩ = some (.int .i64 2) := by rw [← hW1, cell_of_row _ wq.heap.size 1 _ _ (0, 0) (heap_alloc_new wq _)]; rfl
            have hm0 : W1.cell? ⟨wq.heap.size, 0, none⟩ = wq.cell? ⟨g, 0, none⟩ := by rw [k0, ← hW1, cell_of_row _ wq.heap.size 0 _ _ (0, 0) (heap_alloc_new wq _)]; rfl
            rw [k0] at hm0
            have HB1 : Hid (Below wf.heap.size wf W1) := Lib.hid (HBq.out.trans (hb11.mono HBq.out.size))
            have HBw1 : Hid (Below w.heap.size w W1) := Lib.hid (HBw.out.trans (hb11.mono HBw.out.size))
            have s0 := f1_any f.k (.slice A ln cA) W1
            rw [HKK.out] at s0
            have ht : tstF f 0 = decide (f.k ≠ 0) := rfl
            rw [← ht] at s0
            have HM1 := Lib.hid hm1
            by_cases hb1 : tstF f 0 = true
            · rw [hb1] at s0
              have HU : Hid (upF f 1) := Lib.hid ⟨hup.out, hb1⟩
              clear hb1 hb11 hm1 ht hbq hgq hjq h5 q0 q1
              go_wp2_with fail
              refine s0.mono ?_
              rintro e w2 ⟨rfl, hb2⟩
              have HB2 := Lib.hid (HB1.out.trans (hb2.mono HB1.out.size))
              have HBw2 := Lib.hid (HBw1.out.trans (hb2.mono HBw1.out.size))
              clear s0 hb2 k0 k1
              go_wp2
              go_roundg 1
              case rel => exact ⟨1, rfl, by go_num, rfl, HU, HB2.out⟩
              case measure => omega
            · have hb1 : tstF f 0 = false := by simpa using hb1
              rw [hb1] at s0
              have HE : Hid (errF f = 2) := Lib.hid (upF_0 hb1)
              have HU : Hid (errsF fs = 2) := Lib.hid (by rw [HFk.out (by rw [HE.out]; omega), HE.out])
              clear hb1 hb11 hm1 ht hbq hgq hjq h5 q0 q1
              go_wp2_with fail
              refine s0.mono ?_
              rintro e w2 ⟨rfl, hb2⟩
              have HB2 := Lib.hid (HB1.out.trans (hb2.mono HB1.out.size))
              have HBw2 := Lib.hid (HBw1.out.trans (hb2.mono HBw1.out.size))
              have hm2 : w2.cell? ⟨wq.heap.size, 1, none⟩ = some (.int .i64 2) := (hb2.cell (p := ⟨wq.heap.size, 1, none⟩) hz1).trans HM1.out
              clear s0 hb2 k0 k1
              go_wp2
              try rw [Exit.noGoto_ret]
              go_ret
              exact ⟨by rw [HU.out]; rfl, HBw2.out⟩
          · obtain rfl : gk = 1 := by omega
            have k0 : wq.cell? ⟨g, 2, none⟩ = some (.func (.func 36) #[] #[]) := by rw [cell_of_row wq g 2 chkF _ (0, 0) hgq]; rfl
            have k1 : wq.cell? ⟨g, 3, none⟩ = some (.int .i64 3) := by rw [cell_of_row wq g 3 chkF _ (0, 0) hgq]; rfl
            have q0 : wq.cell? ⟨bx, 0, none⟩ = some (.int .u8 kk) := (hbq.cell (p := ⟨bx, 0, none⟩) hfz).trans HF0.out
            have q1 : wq.cell? ⟨bx, 1, none⟩ = some (.slice A ln cA) := (hbq.cell (p := ⟨bx, 1, none⟩) hfz).trans HF1.out
            obtain ⟨W1, hW1⟩ : ∃ W1, wq.alloc (.cells #[.func (.func 36) #[] #[], .int .i64 3] 76) = W1 := ⟨_, rfl⟩
            have hb11 : Below wq.heap.size wq W1 := by rw [← hW1]; exact (Below.refl _ _).alloc (Nat.le_refl _) _
            have hbxq : bx < wq.heap.size := Nat.lt_of_lt_of_le hfz hbq.size
            have q2 : W1.cell? ⟨bx, 0, none⟩ = some (.int .u8 kk) := (hb11.cell (p := ⟨bx, 0, none⟩) hbxq).trans q0
            have q3 : W1.cell? ⟨bx, 1, none⟩ = some (.slice A ln cA) := (hb11.cell (p := ⟨bx, 1, none⟩) hbxq).trans q1
            have hz1 : wq.heap.size < W1.heap.size := by rw [← hW1]; simp
            have hm1 : W1.cell? ⟨wq.heap.size, 1, none⟩ = some (.int .i64 3) := by rw [← hW1, cell_of_row _ wq.heap.size 1 _ _ (0, 0) (heap_alloc_new wq _)]; rfl
            have hm0 : W1.cell? ⟨wq.heap.size, 0, none⟩ = wq.cell? ⟨g, 2, none⟩ := by rw [k0, ← hW1, cell_of_row _ wq.heap.size 0 _ _ (0, 0) (heap_alloc_new wq _)]; rfl
            rw [k0] at hm0
            have HB1 : Hid (Below wf.heap.size wf W1) := Lib.hid (HBq.out.trans (hb11.mono HBq.out.size))
            have HBw1 : Hid (Below w.heap.size w W1) := Lib.hid (HBw.out.trans (hb11.mono HBw.out.size))
            have s0 := f2_any (.int .u8 kk) A ln cA W1
            have ht : tstF f 1 = decide (ln ≤ 1000) := by rw [← HLN.out]; rfl
            rw [← ht] at s0
            have HM1 := Lib.hid hm1
            by_cases hb1 : tstF f 1 = true
            · rw [hb1] at s0
              have HU : Hid (upF f 2) := Lib.hid ⟨hup.out, hb1⟩
              clear hb1 hb11 hm1 ht hbq hgq hjq h5 q0 q1
              go_wp2_with fail
              refine s0.mono ?_
              rintro e w2 ⟨rfl, hb2⟩
              have HB2 := Lib.hid (HB1.out.trans (hb2.mono HB1.out.size))
              have HBw2 := Lib.hid (HBw1.out.trans (hb2.mono HBw1.out.size))
              clear s0 hb2 k0 k1
              go_wp2
              go_roundg 0
              case rel => exact ⟨2, rfl, by go_num, rfl, HU, HB2.out⟩
              case measure => omega
            · have hb1 : tstF f 1 = false := by simpa using hb1
              rw [hb1] at s0
              have HE : Hid (errF f = 3) := Lib.hid (upF_1 hup.out hb1)
              have HU : Hid (errsF fs = 3) := Lib.hid (by rw [HFk.out (by rw [HE.out]; omega), HE.out])
              clear hb1 hb11 hm1 ht hbq hgq hjq h5 q0 q1
              go_wp2_with fail
              refine s0.mono ?_
              rintro e w2 ⟨rfl, hb2⟩
              have HB2 := Lib.hid (HB1.out.trans (hb2.mono HB1.out.size))
              have HBw2 := Lib.hid (HBw1.out.trans (hb2.mono HBw1.out.size))
              have hm2 : w2.cell? ⟨wq.heap.size, 1, none⟩ = some (.int .i64 3) := (hb2.cell (p := ⟨wq.heap.size, 1, none⟩) hz1).trans HM1.out
              clear s0 hb2 k0 k1
              go_wp2
              try rw [Exit.noGoto_ret]
              go_ret
              exact ⟨by rw [HU.out]; rfl, HBw2.out⟩
end Go.Proofs.Ytkbllhpjfgeaaaa
