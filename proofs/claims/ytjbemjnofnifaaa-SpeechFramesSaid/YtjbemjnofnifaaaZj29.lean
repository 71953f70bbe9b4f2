/-
  fault over frames (layer 3). Written by gen_c.py.
-/
import Derived.Test.YtjbemjnofnifaaaZj28
import Derived.Test.YtjbemjnofnifaaaZj15
namespace Go.Proofs.Ytjbemjnofnifaaa
open Go.RowKit
set_option linter.unusedSimpArgs false

def tstF (f : Fr) : Nat → Bool
  | 0 => decide (f.k ≠ 0)
  | _ => decide (f.b.length ≤ 1000)
def upF (f : Fr) : Nat → Prop
  | 0 => True
  | j + 1 => upF f j ∧ tstF f j = true
theorem upF_end {f : Fr} (h : upF f 2) : errF f = 0 := by
  obtain ⟨⟨_, h0⟩, h1⟩ := h
  have h0' : f.k ≠ 0 := of_decide_eq_true h0
  have h1' : f.b.length ≤ 1000 := of_decide_eq_true h1
  unfold errF; rw [if_neg h0', if_neg (by omega)]
theorem upF_0 {f : Fr} (h : tstF f 0 = false) : errF f = 2 := by
  have h0 : ¬ f.k ≠ 0 := of_decide_eq_false h
  unfold errF; rw [if_pos (by simpa using h0)]
theorem upF_1 {f : Fr} (u : upF f 1) (h : tstF f 1 = false) : errF f = 3 := by
  have u0 : f.k ≠ 0 := of_decide_eq_true u.2
  have h0 : ¬ f.b.length ≤ 1000 := of_decide_eq_false h
  unfold errF; rw [if_neg u0, if_pos (by omega)]

set_option maxHeartbeats 2000000 in
theorem faultF_any (g n c : Nat) (B : Option Addr) (fs : List Fr) (w : World) (hg : HasF w g) (h : RFs w B n fs) (hn : n ≤ 140737488351232) :
    Calls Try.prog 57 #[.slice (some ⟨g, 0, none⟩) 2 2, .slice B n c] w fun e w' => e = .returned (.int .i64 (errsF fs : Int)) ∧ Below w.heap.size w w' := by
  have hl := h.1
  have HF := Lib.hid h
  have hgl : g < w.heap.size := (Array.getElem?_eq_some_iff.1 hg).1
  have HG := Lib.hid hg
  have HL := Lib.hid hl
  clear h hg hl
  go_enter Try.func57, Try.ntmps57
  go_wp2
  go_step3
  go_wp2
  go_step3
  go_wp2
  go_loopg [5, 12] n (fun q e5 i wr => ∃ k : Nat, k + q = n ∧ i = .int .i64 k ∧ e5 = .int .i64 0 ∧ Hid (∀ j (hj : j < fs.length), j < k → errF fs[j] = 0) ∧ Below w.heap.size w wr)
  case atStart => exact ⟨0, by omega, rfl, rfl, Lib.hid (fun j _ hj => absurd hj (by omega)), Below.refl _ _⟩
  case round =>
    obtain ⟨k, hkq, rfl, rfl, hdone, hbx⟩ := hrel
    cases gk with
    | zero =>
      obtain rfl : k = n := by omega
      have HD : Hid (errsF fs = 0) := Lib.hid (errsF_none fun j hj => hdone.out j hj (by have := HL.out; omega))
      have HB := Lib.hid hbx
      clear hdone hbx hkq
      go_wp2
      try rw [Exit.noGoto_ret]
      go_ret
      exact ⟨by rw [HD.out]; rfl, HB.out⟩
    | succ q =>
      have hkn : k < n := by omega
      have hkl : k < fs.length := by rw [HL.out]; exact hkn
      obtain ⟨b, off, rfl, hb, hat⟩ := HF.out.2 (by omega)
      obtain ⟨f, hf⟩ : ∃ f, fs[k] = f := ⟨_, rfl⟩
      have hfr := (hat k hkl).below hbx
      rw [hf] at hfr
      obtain ⟨_, hc0, A, cA, hc1, hbody⟩ := hfr
      have HFk : Hid (errF f ≠ 0 → errsF fs = errF f) := Lib.hid (fun he => by
        subst hf
        exact errsF_at hkl (fun j hj => hdone.out j (by omega) hj) he)
      have HN : Hid (errF f = 0 → ∀ j (hj : j < fs.length), j < k + 1 → errF fs[j] = 0) := Lib.hid (fun he j hj hjk => by
        by_cases e : j = k
        · subst e; rw [hf]; exact he
        · exact hdone.out j hj (by omega))
      obtain ⟨kk, hkk⟩ : ∃ v : Int, (f.k.toNat : Int) = v := ⟨_, rfl⟩
      obtain ⟨ln, hln⟩ : ∃ v : Nat, f.b.length = v := ⟨_, rfl⟩
      rw [hkk] at hc0
      rw [hln] at hc1
      obtain ⟨wf, hWf⟩ : ∃ wf, wr.alloc (.cells #[.int .u8 kk, .slice A ln cA] 28) = wf := ⟨_, rfl⟩
      have hf0 : wf.cell? ⟨wr.heap.size, 0, none⟩ = some (.int .u8 kk) := by rw [← hWf, cell_of_row _ wr.heap.size 0 _ _ (0, 0) (heap_alloc_new wr _)]; rfl
      have hf1 : wf.cell? ⟨wr.heap.size, 1, none⟩ = some (.slice A ln cA) := by rw [← hWf, cell_of_row _ wr.heap.size 1 _ _ (0, 0) (heap_alloc_new wr _)]; rfl
      have hfz : wr.heap.size < wf.heap.size := by rw [← hWf]; simp
      have hbf : Below w.heap.size w wf := by rw [← hWf]; exact hbx.alloc hbx.size _
      obtain ⟨bx, hbx0⟩ : ∃ bx, wr.heap.size = bx := ⟨_, rfl⟩
      rw [hbx0] at hf0 hf1 hfz
      have HF0 := Lib.hid hf0
      have HF1 := Lib.hid hf1
      have HBF := Lib.hid hbf
      have HKK := Lib.hid hkk
      have HLN := Lib.hid hln
      clear hdone hat hf hbody hbx hf0 hf1 hbf hkk hln
      have HHK := Lib.hid hkq
      clear hkq
      go_wp2
      clear hc0 hc1 hWf hbx0
      go_loopg [5, 18] 2 (fun q e5 i wq => ∃ j : Nat, j + q = 2 ∧ i = .int .i64 j ∧ e5 = .int .i64 0 ∧ Hid (upF f j) ∧ Below wf.heap.size wf wq)
      case atStart => exact ⟨0, rfl, rfl, rfl, Lib.hid trivial, Below.refl _ _⟩
      case round =>
        obtain ⟨j, hjq, rfl, rfl, hup, hbq⟩ := hrel
        obtain ⟨wq, rfl⟩ : ∃ wq : World, wq = wr := ⟨_, rfl⟩
        have HBw : Hid (Below w.heap.size w wq) := Lib.hid (HBF.out.trans (hbq.mono HBF.out.size))
        have hgq : wq.heap[g]? = some (.cells chkF 119 (0, 0)) := (HBw.out.block g hgl).trans HG.out
        have HBq := Lib.hid hbq
        by_cases h5 : j = 2
        · subst h5
          obtain rfl : gk = 0 := by omega
          have HD := Lib.hid (HN.out (upF_end hup.out))
          clear hbq hgq hjq
          go_wp2
          go_roundg q
          case rel => exact ⟨k + 1, by have := HHK.out; omega, by go_num, rfl, HD, HBw.out⟩
          case measure => omega
        · rcases (show j = 0 ∨ j = 1 by omega) with rfl | rfl
          · obtain rfl : gk = 2 := by omega
            have k0 : wq.cell? ⟨g, 0, none⟩ = some (.func (.func 71) #[] #[]) := by rw [cell_of_row wq g 0 chkF _ (0, 0) hgq]; rfl
            have k1 : wq.cell? ⟨g, 1, none⟩ = some (.int .i64 2) := by rw [cell_of_row wq g 1 chkF _ (0, 0) hgq]; rfl
            have q0 : wq.cell? ⟨bx, 0, none⟩ = some (.int .u8 kk) := (hbq.cell (p := ⟨bx, 0, none⟩) hfz).trans HF0.out
            have q1 : wq.cell? ⟨bx, 1, none⟩ = some (.slice A ln cA) := (hbq.cell (p := ⟨bx, 1, none⟩) hfz).trans HF1.out
            obtain ⟨W1, hW1⟩ : ∃ W1, wq.alloc (.cells #[.func (.func 71) #[] #[], .int .i64 2] 119) = W1 := ⟨_, rfl⟩
            have hb11 : Below wq.heap.size wq W1 := by rw [← hW1]; exact (Below.refl _ _).alloc (Nat.le_refl _) _
            have hbxq : bx < wq.heap.size := Nat.lt_of_lt_of_le hfz hbq.size
            have q2 : W1.cell? ⟨bx, 0, none⟩ = some (.int .u8 kk) := (hb11.cell (p := ⟨bx, 0, none⟩) hbxq).trans q0
            have q3 : W1.cell? ⟨bx, 1, none⟩ = some (.slice A ln cA) := (hb11.cell (p := ⟨bx, 1, none⟩) hbxq).trans q1
            have hz1 : wq.heap.size < W1.heap.size := by rw [← hW1]; simp
            have hm1 : W1.cell? ⟨wq.heap.size, 1, none⟩ = some (.int .i64 2) := by rw [← hW1, cell_of_row _ wq.heap.size 1 _ _ (0, 0) (heap_alloc_new wq _)]; rfl
            have hm0 : W1.cell? ⟨wq.heap.size, 0, none⟩ = wq.cell? ⟨g, 0, none⟩ := by rw [k0, ← hW1, cell_of_row _ wq.heap.size 0 _ _ (0, 0) (heap_alloc_new wq _)]; rfl
            rw [k0] at hm0
            have HB1 : Hid (Below wf.heap.size wf W1) := Lib.hid (HBq.out.trans (hb11.mono HBq.out.size))
            have HBw1 : Hid (Below w.heap.size w W1) := Lib.hid (HBw.out.trans (hb11.mono HBw.out.size))
            have s0 := f1_any f.k (.slice A ln cA) W1
            rw [HKK.out] at s0
            have ht : tstF f 0 = decide (f.k ≠ 0) := rfl
            rw [← ht] at s0
            have HM1 := Lib.hid hm1
            by_cases hb1 : tstF f 0 = true
            · rw [hb1] at s0
              have HU : Hid (upF f 1) := Lib.hid ⟨hup.out, hb1⟩
              clear hb1 hb11 hm1 ht hbq hgq hjq h5 q0 q1
              go_wp2_with fail
              refine s0.mono ?_
              rintro e w2 ⟨rfl, hb2⟩
              have HB2 := Lib.hid (HB1.out.trans (hb2.mono HB1.out.size))
              have HBw2 := Lib.hid (HBw1.out.trans (hb2.mono HBw1.out.size))
              clear s0 hb2 k0 k1
              go_wp2
              go_roundg 1
              case rel => exact ⟨1, rfl, by go_num, rfl, HU, HB2.out⟩
              case measure => omega
            · have hb1 : tstF f 0 = false := by simpa using hb1
              rw [hb1] at s0
              have HE : Hid (errF f = 2) := Lib.hid (upF_0 hb1)
              have HU : Hid (errsF fs = 2) := Lib.hid (by rw [HFk.out (by rw [HE.out]; omega), HE.out])
              clear hb1 hb11 hm1 ht hbq hgq hjq h5 q0 q1
              go_wp2_with fail
              refine s0.mono ?_
              rintro e w2 ⟨rfl, hb2⟩
              have HB2 := Lib.hid (HB1.out.trans (hb2.mono HB1.out.size))
              have HBw2 := Lib.hid (HBw1.out.trans (hb2.mono HBw1.out.size))
              have hm2 : w2.cell? ⟨wq.heap.size, 1, none⟩ = some (.int .i64 2) := (hb2.cell (p := ⟨wq.heap.size, 1, none⟩) hz1).trans HM1.out
              clear s0 hb2 k0 k1
              go_wp2
              try rw [Exit.noGoto_ret]
              go_ret
              exact ⟨by rw [HU.out]; rfl, HBw2.out⟩
          · obtain rfl : gk = 1 := by omega
            have k0 : wq.cell? ⟨g, 2, none⟩ = some (.func (.func 72) #[] #[]) := by rw [cell_of_row wq g 2 chkF _ (0, 0) hgq]; rfl
            have k1 : wq.cell? ⟨g, 3, none⟩ = some (.int .i64 3) := by rw [cell_of_row wq g 3 chkF _ (0, 0) hgq]; rfl
            have q0 : wq.cell? ⟨bx, 0, none⟩ = some (.int .u8 kk) := (hbq.cell (p := ⟨bx, 0, none⟩) hfz).trans HF0.out
            have q1 : wq.cell? ⟨bx, 1, none⟩ = some (.slice A ln cA) := (hbq.cell (p := ⟨bx, 1, none⟩) hfz).trans HF1.out
            obtain ⟨W1, hW1⟩ : ∃ W1, wq.alloc (.cells #[.func (.func 72) #[] #[], .int .i64 3] 119) = W1 := ⟨_, rfl⟩
            have hb11 : Below wq.heap.size wq W1 := by rw [← hW1]; exact (Below.refl _ _).alloc (Nat.le_refl _) _
            have hbxq : bx < wq.heap.size := Nat.lt_of_lt_of_le hfz hbq.size
            have q2 : W1.cell? ⟨bx, 0, none⟩ = some (.int .u8 kk) := (hb11.cell (p := ⟨bx, 0, none⟩) hbxq).trans q0
            have q3 : W1.cell? ⟨bx, 1, none⟩ = some (.slice A ln cA) := (hb11.cell (p := ⟨bx, 1, none⟩) hbxq).trans q1
            have hz1 : wq.heap.size < W1.heap.size := by rw [← hW1]; simp
            have hm1 : W1.cell? ⟨wq.heap.size, 1, none⟩ = some (.int .i64 3) := by rw [← hW1, cell_of_row _ wq.heap.size 1 _ _ (0, 0) (heap_alloc_new wq _)]; rfl
            have hm0 : W1.cell? ⟨wq.heap.size, 0, none⟩ = wq.cell? ⟨g, 2, none⟩ := by rw [k0, ← hW1, cell_of_row _ wq.heap.size 0 _ _ (0, 0) (heap_alloc_new wq _)]; rfl
            rw [k0] at hm0
            have HB1 : Hid (Below wf.heap.size wf W1) := Lib.hid (HBq.out.trans (hb11.mono HBq.out.size))
            have HBw1 : Hid (Below w.heap.size w W1) := Lib.hid (HBw.out.trans (hb11.mono HBw.out.size))
            have s0 := f2_any (.int .u8 kk) A ln cA W1
            have ht : tstF f 1 = decide (ln ≤ 1000) := by rw [← HLN.out]; rfl
            rw [← ht] at s0
            have HM1 := Lib.hid hm1
            by_cases hb1 : tstF f 1 = true
            · rw [hb1] at s0
              have HU : Hid (upF f 2) := Lib.hid ⟨hup.out, hb1⟩
              clear hb1 hb11 hm1 ht hbq hgq hjq h5 q0 q1
              go_wp2_with fail
              refine s0.mono ?_
              rintro e w2 ⟨rfl, hb2⟩
              have HB2 := Lib.hid (HB1.out.trans (hb2.mono HB1.out.size))
              have HBw2 := Lib.hid (HBw1.out.trans (hb2.mono HBw1.out.size))
              clear s0 hb2 k0 k1
              go_wp2
              go_roundg 0
              case rel => exact ⟨2, rfl, by go_num, rfl, HU, HB2.out⟩
              case measure => omega
            · have hb1 : tstF f 1 = false := by simpa using hb1
              rw [hb1] at s0
              have HE : Hid (errF f = 3) := Lib.hid (upF_1 hup.out hb1)
              have HU : Hid (errsF fs = 3) := Lib.hid (by rw [HFk.out (by rw [HE.out]; omega), HE.out])
              clear hb1 hb11 hm1 ht hbq hgq hjq h5 q0 q1
              go_wp2_with fail
              refine s0.mono ?_
              rintro e w2 ⟨rfl, hb2⟩
              have HB2 := Lib.hid (HB1.out.trans (hb2.mono HB1.out.size))
              have HBw2 := Lib.hid (HBw1.out.trans (hb2.mono HBw1.out.size))
              have hm2 : w2.cell? ⟨wq.heap.size, 1, none⟩ = some (.int .i64 3) := (hb2.cell (p := ⟨wq.heap.size, 1, none⟩) hz1).trans HM1.out
              clear s0 hb2 k0 k1
              go_wp2
              try rw [Exit.noGoto_ret]
              go_ret
              exact ⟨by rw [HU.out]; rfl, HBw2.out⟩
end Go.Proofs.Ytjbemjnofnifaaa

/-
  Take, walked (layer 3).
-/
namespace Go.Proofs.Ytjbemjnofnifaaa
open Go.RowKit
set_option linter.unusedSimpArgs false

/-- A block of two cells that a call has just laid. -/
theorem box2 {w w1 : World} {a b : Value} {t : TypeId} (hb : Below (w.heap.size + 1) (w.alloc (.cells #[a, b] t)) w1) :
    w1.cell? ⟨w.heap.size, 0, none⟩ = some a ∧ w1.cell? ⟨w.heap.size, 1, none⟩ = some b ∧ w1.frozen? ⟨w.heap.size, 0, none⟩ = false ∧ w1.frozen? ⟨w.heap.size, 1, none⟩ = false := by
  have hh := hb.block w.heap.size (by omega)
  rw [heap_alloc_new w _] at hh
  refine ⟨by rw [cell_of_row _ w.heap.size 0 _ _ (0, 0) hh]; rfl, by rw [cell_of_row _ w.heap.size 1 _ _ (0, 0) hh]; rfl, ?_, ?_⟩ <;> simp [World.frozen?, hh]
theorem below_box {w w1 : World} {o : Obj} (hb : Below (w.heap.size + 1) (w.alloc o) w1) : Below w.heap.size w w1 := ((Below.refl _ w).alloc (Nat.le_refl _) _).trans (hb.mono (by omega))

theorem grown_set (w : World) (b i : Nat) (v : Value) : w.grownBy (w.setCell ⟨b, i, none⟩ v) (some b) :=
  ⟨rfl, rfl, rfl, by simp [World.setCell], fun k _ hk => Below.heap_setCell _ _ _ _ (fun e => hk (by simp [e]))⟩
theorem set2 {W : World} {B : Nat} {x y : Value} (c0 : W.cell? ⟨B, 0, none⟩ = some x) (c1 : W.cell? ⟨B, 1, none⟩ = some y) (a b : Value) :
    ((W.setCell ⟨B, 0, none⟩ a).setCell ⟨B, 1, none⟩ b).cell? ⟨B, 0, none⟩ = some a ∧ ((W.setCell ⟨B, 0, none⟩ a).setCell ⟨B, 1, none⟩ b).cell? ⟨B, 1, none⟩ = some b := by
  have e : (W.setCell ⟨B, 0, none⟩ a).cell? ⟨B, 1, none⟩ = some y := (World.cell?_setCell_other _ _ _ _ (by intro e; injection e; omega)).trans c1
  exact ⟨(World.cell?_setCell_other _ _ _ _ (by intro e; injection e; omega)).trans (World.cell?_setCell_same' _ _ _ (by rw [c0]; rfl)), World.cell?_setCell_same' _ _ _ (by rw [e]; rfl)⟩

set_option maxHeartbeats 1000000 in
theorem take_err (A : Option Addr) (n c : Nat) (xs : List UInt8) (w : World) (h : RB w A n xs) (hc : n ≤ c) (he : errT xs ≠ 0) :
    Calls Try.prog 80 #[.slice A n c] w fun e w' => e = .returned (.tuple #[.agg #[.int .u8 0, .slice none 0 0], .int .i64 0, .int .i64 (errT xs : Int)]) ∧ Below w.heap.size w w' := by
  have HR := Lib.hid h
  have s1 := fun (g : Nat) (w1 : World) (hg : HasB w1 g) (hb : Below w.heap.size w w1) => faultB_any g w1.heap.size 0 1 n c A xs (w1.alloc (.cells #[.slice A n c] 26))
    (by
      have := (Below.refl w1.heap.size w1).alloc (Nat.le_refl _) (.cells #[.slice A n c] 26)
      exact (this.block g (Array.getElem?_eq_some_iff.1 hg).1).trans hg) (by simp)
    (by rw [cell_of_row _ w1.heap.size 0 _ _ (0, 0) (heap_alloc_new w1 _)]; rfl) ((HR.out.below hb).alloc _) hc
  obtain ⟨E, hE⟩ : ∃ E, errT xs = E := ⟨_, rfl⟩
  rw [hE] at s1 he ⊢
  have e0 : ((E : Int) == 0) = false := by rw [beq_eq_false_iff_ne]; omega
  have S1 := Lib.hid s1
  clear h hE he s1
  go_enter Try.func80, Try.ntmps80
  go_wp2_with fail
  refine (ofBytes_any _).mono ?_
  obtain ⟨W0, hW0⟩ : ∃ W0, w.alloc (.cells #[.int .u8 0, .slice none 0 0] 28) = W0 := ⟨_, rfl⟩
  have hs0 : W0.heap.size = w.heap.size + 1 := by rw [← hW0]; simp
  obtain ⟨g, hgd⟩ : ∃ g, W0.heap.size = g := ⟨_, rfl⟩
  rw [hW0, hgd]
  rintro e w1 ⟨rfl, hg, hb⟩
  have hb0 : Below (w.heap.size + 1) (w.alloc (.cells #[.int .u8 0, .slice none 0 0] 28)) w1 := by rw [hW0, ← hs0, hgd]; exact hb
  have s2 := S1.out g w1 hg (below_box hb0)
  have HB0 := Lib.hid hb0
  clear hg hb hb0 hgd hs0 hW0
  go_wp2_with fail
  refine s2.mono ?_
  rintro e w2 ⟨rfl, hb2⟩
  have hz := HB0.out.size
  rw [World.size_alloc] at hz
  have hb2' : Below (w.heap.size + 1) w1 w2 := ((Below.refl _ w1).alloc hz _).trans (hb2.mono (by rw [World.size_alloc]; omega))
  have HB2 := Lib.hid (HB0.out.trans hb2')
  obtain ⟨c0, c1, f0, f1⟩ := box2 HB2.out
  clear s2 hb2 hb2' hz
  go_wp2
  obtain ⟨d0, d1⟩ := set2 c0 c1 (.int .u8 0) (.slice none 0 0)
  refine bodyPost_ret (v := .tuple #[.agg #[.int .u8 0, .slice none 0 0], .int .i64 0, .int .i64 (E : Int)]) (by simp [results, Try.results80, go_sem, d0, d1]) rfl ⟨rfl, ?_⟩
  exact ((below_box HB2.out).setCell (p := ⟨w.heap.size, 0, none⟩) (Nat.le_refl _) _).setCell (p := ⟨w.heap.size, 1, none⟩) (Nat.le_refl _) _

/-- The body of the frame that bytes begin with, cut out of them. -/
theorem body_cut {w : World} {b off n m : Nat} {xs : List UInt8} (h : RB w (some ⟨b, off, none⟩) n xs) (hl : m + 7 ≤ n) : RB w (some ⟨b, off + 3, none⟩) m ((xs.drop 3).take m) := by
  have := (rb_drop h (m := 3) (by omega)).take (k := m) (by omega)
  exact this

set_option maxHeartbeats 1000000 in
theorem take_okT (A : Option Addr) (n c : Nat) (xs : List UInt8) (w : World) (h : RB w A n xs) (hc : n ≤ c) (he : errT xs = 0) :
    Calls Try.prog 80 #[.slice A n c] w fun e w' => ∃ A' c', e = .returned (.tuple #[frV (frT xs) A' c', .int .i64 (((frT xs).b.length + 7 : Nat) : Int), .int .i64 0]) ∧ (BodyAt w' A' c' (frT xs).b ∧ TyB w' A' (frT xs).b.length) ∧ Below w.heap.size w w' := by
  obtain ⟨i0, hi, hz0, hz1, hz2⟩ := info_parts u8_info
  have hl := h.1
  obtain ⟨e1, e2, e3, e4, e5⟩ := errT_zero he
  obtain ⟨b, off, rfl, hb, hcell⟩ := h.at_ (by omega)
  have ha0 := hcell 0 (by omega)
  rw [Nat.add_zero] at ha0
  have HR := Lib.hid h
  have s1 := fun (g : Nat) (w1 : World) (hg : HasB w1 g) (hb : Below w.heap.size w w1) => faultB_any g w1.heap.size 0 1 n c (some ⟨b, off, none⟩) xs (w1.alloc (.cells #[.slice (some ⟨b, off, none⟩) n c] 26))
    (by
      have := (Below.refl w1.heap.size w1).alloc (Nat.le_refl _) (.cells #[.slice (some ⟨b, off, none⟩) n c] 26)
      exact (this.block g (Array.getElem?_eq_some_iff.1 hg).1).trans hg) (by simp)
    (by rw [cell_of_row _ w1.heap.size 0 _ _ (0, 0) (heap_alloc_new w1 _)]; rfl) ((HR.out.below hb).alloc _) hc
  rw [he] at s1
  have s3 := fun (w1 : World) (hb : Below w.heap.size w w1) => first_any b off n c xs w1 (HR.out.below hb) hc (by omega) e3 (by omega)
  have hfb : (frT xs).b.length = bodyN xs := (enc_take he).2.1
  have hfk : (frT xs).k = xs.getD 0 0 := rfl
  have hfl : (frT xs).b = (xs.drop 3).take (bodyN xs) := rfl
  obtain ⟨m, hm⟩ : ∃ m, bodyN xs = m := ⟨_, rfl⟩
  rw [hm] at s3 e3 e4 hfb hfl
  obtain ⟨kk, hkk⟩ : ∃ kk : Int, ((xs.getD 0 0).toNat : Int) = kk := ⟨_, rfl⟩
  rw [hkk] at ha0
  have HK : Hid (((frT xs).k.toNat : Int) = kk) := Lib.hid (by rw [hfk, hkk])
  have HL := Lib.hid hfb
  have HFL := Lib.hid hfl
  have HBody : Hid (RB w (some ⟨b, off + 3, none⟩) m ((xs.drop 3).take m)) := Lib.hid (body_cut h (by omega))
  have hn7 : m + 7 ≤ n := by omega
  have hc7 : m + 7 ≤ c := by omega
  have S1 := Lib.hid s1
  have S3 := Lib.hid s3
  have HA0 := Lib.hid ha0
  have HB' := Lib.hid hb
  clear h he s1 s3 hl e1 e2 e4 e5 hcell hfb hfk hfl hm hkk ha0 hb
  go_enter Try.func80, Try.ntmps80
  go_wp2_with fail
  refine (ofBytes_any _).mono ?_
  obtain ⟨W0, hW0⟩ : ∃ W0, w.alloc (.cells #[.int .u8 0, .slice none 0 0] 28) = W0 := ⟨_, rfl⟩
  have hs0 : W0.heap.size = w.heap.size + 1 := by rw [← hW0]; simp
  obtain ⟨g, hgd⟩ : ∃ g, W0.heap.size = g := ⟨_, rfl⟩
  rw [hW0, hgd]
  rintro e w1 ⟨rfl, hg, hb⟩
  have hb0 : Below (w.heap.size + 1) (w.alloc (.cells #[.int .u8 0, .slice none 0 0] 28)) w1 := by rw [hW0, ← hs0, hgd]; exact hb
  have s2 := S1.out g w1 hg (below_box hb0)
  have HB0 := Lib.hid hb0
  clear hg hb hb0 hgd hs0 hW0
  go_wp2_with fail
  refine s2.mono ?_
  rintro e w2 ⟨rfl, hb2⟩
  have hz := HB0.out.size
  rw [World.size_alloc] at hz
  have hb2' : Below (w.heap.size + 1) w1 w2 := ((Below.refl _ w1).alloc hz _).trans (hb2.mono (by rw [World.size_alloc]; omega))
  have HB2 := Lib.hid (HB0.out.trans hb2')
  have s4 := S3.out w2 (below_box HB2.out)
  clear s2 hb2 hb2' hz
  go_wp2_with fail
  refine s4.mono ?_
  rintro e w3 ⟨rfl, hb3⟩
  have HB3 := Lib.hid (HB2.out.trans (hb3.mono (by have := HB2.out.size; rw [World.size_alloc] at this; omega)))
  clear s4 hb3
  obtain ⟨c0, c1, f0, f1⟩ := box2 HB3.out
  have a0 : w3.cell? ⟨b, off, none⟩ = some (.int .u8 kk) := ((below_box HB3.out).cell (p := ⟨b, off, none⟩) HB'.out).trans HA0.out
  by_cases hm0 : m = 0
  · subst hm0
    go_wp2
    obtain ⟨d0, d1⟩ := set2 c0 c1 (.int .u8 kk) (.slice none 0 0)
    refine bodyPost_ret (v := .tuple #[.agg #[.int .u8 kk, .slice none 0 0], .int .i64 7, .int .i64 0]) (by simp [results, Try.results80, go_sem, d0, d1]) rfl ?_
    refine ⟨none, 0, by rw [frV, HK.out, HL.out]; rfl, ?_, ?_⟩
    · rw [HFL.out]
      exact ⟨⟨RB.zero _ _, Nat.le_refl _, fun _ => rfl, by simp⟩, fun h => absurd h (by simp)⟩
    · exact ((below_box HB3.out).setCell (p := ⟨w.heap.size, 0, none⟩) (Nat.le_refl _) _).setCell (p := ⟨w.heap.size, 1, none⟩) (Nat.le_refl _) _
  · have q1 : 0 < m := by omega
    have q2 : ¬ m + 3 = 3 := by omega
    have HS3 := Lib.hid (HBody.out.below (below_box HB3.out))
    go_wp2_with (at_builtin; refine wpList_append_rb rfl (.const (.slice none 0 0)) (.tmp 25) 26 rfl w3.heap.size 5 i0 (.int .u8 0) 1 Try.underlying26 hi hz0 hz1 hz2 rfl _ 0 [] rfl (World.ownsRow_nil _ _ _ _) (some ⟨b, off + 3, none⟩) m m ((xs.drop 3).take m) rfl (fun e => by cases e) HS3.out ?c1 ?c2 ?c3 ?_)
    case c1 => unfold maxLen; omega
    case c2 => omega
    case c3 => exact Nat.le_refl _
    intro v4 w4 hown4 hg4
    have hown5 : w4.ownsRow w3.heap.size 5 1 v4 m (((xs.drop 3).take m).map byteV) := by simpa using hown4
    obtain ⟨A4, c4, rfl, hr4, hn4, hc4, _⟩ := RB.own hown5
    have hb4 : Below w3.heap.size w3 w4 := (Below.refl _ w3).grown hg4 (Nat.le_refl _) (fun j hj => by simp [Value.ownBlock] at hj)
    have HB4 := Lib.hid (HB3.out.trans (hb4.mono (by have := HB3.out.size; rw [World.size_alloc] at this; omega)))
    have HO4 : Hid (∀ u1 u2, ((w4.setCell ⟨w.heap.size, 0, none⟩ u1).setCell ⟨w.heap.size, 1, none⟩ u2).ownsRow w3.heap.size 5 1 (.slice A4 m c4) m (((xs.drop 3).take m).map byteV)) := Lib.hid (fun u1 u2 => by
      have hlo := HB3.out.size
      rw [World.size_alloc] at hlo
      have hne : (Value.slice A4 m c4).ownBlock = none ∨ (Value.slice A4 m c4).ownBlock ≠ some w.heap.size := by
        refine Or.inr fun e => ?_
        have := (hown5.lt _ e).1
        omega
      exact (hown5.kept (grown_set w4 w.heap.size 0 u1) hne).kept (grown_set _ w.heap.size 1 u2) hne)
    have HLn : Hid (((xs.drop 3).take m).length = m ∧ m ≤ c4 ∧ (A4 = none → c4 = 0)) := Lib.hid ⟨hr4.1, hc4, hn4⟩
    obtain ⟨c0, c1, f0, f1⟩ := box2 HB4.out
    have a0 : w4.cell? ⟨b, off, none⟩ = some (.int .u8 kk) := ((below_box HB4.out).cell (p := ⟨b, off, none⟩) HB'.out).trans HA0.out
    clear hown4 hown5 hr4 hb4 hn4 hg4 hc4
    go_wp2
    obtain ⟨d0, d1⟩ := set2 c0 c1 (.int .u8 kk) (.slice A4 m c4)
    refine bodyPost_ret (v := .tuple #[.agg #[.int .u8 kk, .slice A4 m c4], .int .i64 (((m + 7 : Nat)) : Int), .int .i64 0]) (by simp [results, Try.results80, go_sem, d0, d1]) rfl ?_
    refine ⟨A4, c4, by rw [frV, HK.out, HL.out], ?_, ?_⟩
    · have hty : TyB ((w4.setCell ⟨w.heap.size, 0, none⟩ (.int .u8 kk)).setCell ⟨w.heap.size, 1, none⟩ (.slice A4 m c4)) A4 m := TyB.own (HO4.out (.int .u8 kk) (.slice A4 m c4))
      obtain ⟨A5, c5, ev, hr5, _⟩ := RB.own (HO4.out (.int .u8 kk) (.slice A4 m c4))
      simp only [Value.slice.injEq] at ev
      obtain ⟨rfl, _, rfl⟩ := ev
      obtain ⟨l1, l2, l3⟩ := HLn.out
      rw [HFL.out]
      exact ⟨⟨by rw [l1]; exact hr5, by rw [l1]; exact l2, l3, by rw [l1]; omega⟩, by rw [l1]; exact hty⟩
    · exact ((below_box HB4.out).setCell (p := ⟨w.heap.size, 0, none⟩) (Nat.le_refl _) _).setCell (p := ⟨w.heap.size, 1, none⟩) (Nat.le_refl _) _
theorem take_ok (A : Option Addr) (n c : Nat) (xs : List UInt8) (w : World) (h : RB w A n xs) (hc : n ≤ c) (he : errT xs = 0) :
    Calls Try.prog 80 #[.slice A n c] w fun e w' => ∃ A' c', e = .returned (.tuple #[frV (frT xs) A' c', .int .i64 (((frT xs).b.length + 7 : Nat) : Int), .int .i64 0]) ∧ BodyAt w' A' c' (frT xs).b ∧ Below w.heap.size w w' :=
  (take_okT A n c xs w h hc he).mono fun _ _ ⟨A', c', h1, h2, h3⟩ => ⟨A', c', h1, h2.1, h3⟩
end Go.Proofs.Ytjbemjnofnifaaa
