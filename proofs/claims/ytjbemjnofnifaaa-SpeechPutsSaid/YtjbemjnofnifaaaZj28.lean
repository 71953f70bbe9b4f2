/-
  The conditions as lists, and fault over them (layer 3).
-/
import Derived.Test.YtjbemjnofnifaaaZj27
import Derived.Deep.LoopGhost
import Derived.WalkMore
import Derived.Outline
import Derived.Laws.EntriesVeiled
namespace Go.Proofs.Ytjbemjnofnifaaa
open Go.RowKit
set_option linter.unusedSimpArgs false

def chkB : Array Value := #[.func (.func 87) #[] #[], .int .i64 30, .func (.func 88) #[] #[], .int .i64 31, .func (.func 89) #[] #[], .int .i64 3,
  .func (.func 91) #[] #[], .int .i64 30, .func (.func 92) #[] #[], .int .i64 32]
def chkF : Array Value := #[.func (.func 71) #[] #[], .int .i64 2, .func (.func 72) #[] #[], .int .i64 3]
/-- The conditions lie in block g. -/
def HasB (w : World) (g : Nat) : Prop := w.heap[g]? = some (.cells chkB 142 (0, 0))
def HasF (w : World) (g : Nat) : Prop := w.heap[g]? = some (.cells chkF 119 (0, 0))

set_option maxHeartbeats 400000 in
theorem ofBytes_any (w : World) : Calls Try.prog 78 #[] w fun e w' => e = .returned (.slice (some ⟨w.heap.size, 0, none⟩) 5 5) ∧ HasB w' w.heap.size ∧ Below w.heap.size w w' := by
  go_enter Try.func78, Try.ntmps78
  go_wp2
  go_ret
  exact ⟨rfl, heap_alloc_new w _, (Below.refl _ _).alloc (Nat.le_refl _) _⟩
set_option maxHeartbeats 400000 in
theorem ofFrame_any (w : World) : Calls Try.prog 58 #[] w fun e w' => e = .returned (.slice (some ⟨w.heap.size, 0, none⟩) 2 2) ∧ HasF w' w.heap.size ∧ Below w.heap.size w w' := by
  go_enter Try.func58, Try.ntmps58
  go_wp2
  go_ret
  exact ⟨rfl, heap_alloc_new w _, (Below.refl _ _).alloc (Nat.le_refl _) _⟩

/-! ### Bytes -/
def tstB (xs : List UInt8) : Nat → Bool
  | 0 => decide (3 ≤ xs.length)
  | 1 => decide (xs.getD 0 0 ≠ 0)
  | 2 => decide (bodyN xs ≤ 1000)
  | 3 => decide (bodyN xs + 7 ≤ xs.length)
  | _ => sealedB (xs.take (bodyN xs + 7))
def upB (xs : List UInt8) : Nat → Prop
  | 0 => True
  | j + 1 => upB xs j ∧ tstB xs j = true
theorem upB_end {xs : List UInt8} (h : upB xs 5) : errT xs = 0 := by
  obtain ⟨⟨⟨⟨⟨_, h0⟩, h1⟩, h2⟩, h3⟩, h4⟩ := h
  have h1' : xs.getD 0 0 ≠ 0 := of_decide_eq_true h1
  have h4' : sealedB (xs.take (bodyN xs + 7)) = true := h4
  rw [errT_of (of_decide_eq_true h0) h1' (of_decide_eq_true h2) (of_decide_eq_true h3), if_pos h4']
theorem upB_0 {xs : List UInt8} (h : tstB xs 0 = false) : errT xs = 30 := by
  have h0 : ¬ 3 ≤ xs.length := of_decide_eq_false h
  unfold errT; rw [if_pos (by omega)]
theorem upB_1 {xs : List UInt8} (u : upB xs 1) (h : tstB xs 1 = false) : errT xs = 31 := by
  have u0 : 3 ≤ xs.length := of_decide_eq_true u.2
  have h0 : ¬ xs.getD 0 0 ≠ 0 := of_decide_eq_false h
  unfold errT; rw [if_neg (by omega), if_pos (by simpa using h0)]
theorem upB_2 {xs : List UInt8} (u : upB xs 2) (h : tstB xs 2 = false) : errT xs = 3 := by
  have u0 : 3 ≤ xs.length := of_decide_eq_true u.1.2
  have u1 : xs.getD 0 0 ≠ 0 := of_decide_eq_true u.2
  have h0 : ¬ bodyN xs ≤ 1000 := of_decide_eq_false h
  unfold errT; rw [if_neg (by omega), if_neg u1, if_pos (by omega)]
theorem upB_3 {xs : List UInt8} (u : upB xs 3) (h : tstB xs 3 = false) : errT xs = 30 := by
  have u0 : 3 ≤ xs.length := of_decide_eq_true u.1.1.2
  have u1 : xs.getD 0 0 ≠ 0 := of_decide_eq_true u.1.2
  have u2 : bodyN xs ≤ 1000 := of_decide_eq_true u.2
  have h0 : ¬ bodyN xs + 7 ≤ xs.length := of_decide_eq_false h
  unfold errT; rw [if_neg (by omega), if_neg u1, if_neg (by omega), if_pos (by omega)]
theorem upB_4 {xs : List UInt8} (u : upB xs 4) (h : tstB xs 4 = false) : errT xs = 32 := by
  have h0 : sealedB (xs.take (bodyN xs + 7)) = false := h
  have u1 : xs.getD 0 0 ≠ 0 := of_decide_eq_true u.1.1.2
  rw [errT_of (of_decide_eq_true u.1.1.1.2) u1 (of_decide_eq_true u.1.2) (of_decide_eq_true u.2), h0]; rfl

set_option maxHeartbeats 2000000 in
theorem faultB_any (g b off m n c : Nat) (A : Option Addr) (xs : List UInt8) (w : World) (hg : HasB w g) (hb : b < w.heap.size) (hc : w.cell? ⟨b, off, none⟩ = some (.slice A n c)) (hR : RB w A n xs) (hnc : n ≤ c) :
    Calls Try.prog 77 #[.slice (some ⟨g, 0, none⟩) 5 5, .slice (some ⟨b, off, none⟩) 1 m] w fun e w' => e = .returned (.int .i64 (errT xs : Int)) ∧ Below w.heap.size w w' := by
  have hl := hR.1
  have HR := Lib.hid hR
  have hgl : g < w.heap.size := (Array.getElem?_eq_some_iff.1 hg).1
  have HG := Lib.hid hg
  have HC := Lib.hid hc
  clear hR hg hc
  go_enter Try.func77, Try.ntmps77
  go_wp2
  go_step3
  go_wp2
  go_step3
  go_wp2
  go_loopg [5, 12] 1 (fun q e5 i wr => ∃ k : Nat, k + q = 1 ∧ i = .int .i64 k ∧ e5 = .int .i64 0 ∧ (k = 1 → errT xs = 0) ∧ Below w.heap.size w wr)
  case atStart => exact ⟨0, rfl, rfl, rfl, by omega, Below.refl _ _⟩
  case round =>
    obtain ⟨k, hkq, rfl, rfl, hdone, hbx⟩ := hrel
    cases gk with
    | zero =>
      obtain rfl : k = 1 := by omega
      have HD := Lib.hid (hdone rfl)
      have HB := Lib.hid hbx
      clear hdone hbx hl
      go_wp2
      try rw [Exit.noGoto_ret]
      go_ret
      exact ⟨by rw [HD.out]; rfl, HB.out⟩
    | succ q =>
      obtain rfl : k = 0 := by omega
      obtain rfl : q = 0 := by omega
      have hcell : wr.cell? ⟨b, off, none⟩ = some (.slice A n c) := (hbx.cell (p := ⟨b, off, none⟩) hb).trans HC.out
      have HB := Lib.hid hbx
      clear hdone hbx hkq
      go_wp2
      have hb0 : Below w.heap.size w wr := HB.out
      clear hcell
      go_loopg [5, 18] 5 (fun q e5 i wq => ∃ j : Nat, j + q = 5 ∧ i = .int .i64 j ∧ e5 = .int .i64 0 ∧ Hid (upB xs j) ∧ Below w.heap.size w wq)
      case atStart => exact ⟨0, rfl, rfl, rfl, Lib.hid trivial, hb0⟩
      case round =>
        clear hb0
        obtain ⟨j, hjq, rfl, rfl, hup, hbq⟩ := hrel
        obtain ⟨wq, rfl⟩ : ∃ wq : World, wq = wr := ⟨_, rfl⟩
        have hgq : wq.heap[g]? = some (.cells chkB 142 (0, 0)) := (hbq.block g hgl).trans HG.out
        have HBq := Lib.hid hbq
        by_cases h5 : j = 5
        · subst h5
          obtain rfl : gk = 0 := by omega
          have HD := Lib.hid (upB_end hup.out)
          clear hbq hgq hjq
          go_wp2
          go_roundg 0
          case rel => exact ⟨1, rfl, by go_num, rfl, fun _ => HD.out, HBq.out⟩
          case measure => omega
        · rcases (show j = 0 ∨ j = 1 ∨ j = 2 ∨ j = 3 ∨ j = 4 by omega) with rfl | rfl | rfl | rfl | rfl
          · obtain rfl : gk = 5 := by omega
            have k0 : wq.cell? ⟨g, 0, none⟩ = some (.func (.func 87) #[] #[]) := by rw [cell_of_row wq g 0 chkB _ (0, 0) hgq]; rfl
            have k1 : wq.cell? ⟨g, 1, none⟩ = some (.int .i64 30) := by rw [cell_of_row wq g 1 chkB _ (0, 0) hgq]; rfl
            obtain ⟨W1, hW1⟩ : ∃ W1, wq.alloc (.cells #[.func (.func 87) #[] #[], .int .i64 30] 142) = W1 := ⟨_, rfl⟩
            have hR1 : RB W1 A n xs := by rw [← hW1]; exact (HR.out.below HBq.out).alloc _
            have hz1 : wq.heap.size < W1.heap.size := by rw [← hW1]; simp
            have hm1 : W1.cell? ⟨wq.heap.size, 1, none⟩ = some (.int .i64 30) := by rw [← hW1, cell_of_row _ wq.heap.size 1 _ _ (0, 0) (heap_alloc_new wq _)]; rfl
            have hm0 : W1.cell? ⟨wq.heap.size, 0, none⟩ = wq.cell? ⟨g, 0, none⟩ := by rw [k0, ← hW1, cell_of_row _ wq.heap.size 0 _ _ (0, 0) (heap_alloc_new wq _)]; rfl
            rw [k0] at hm0
            have hB1 : Below w.heap.size w W1 := by rw [← hW1]; exact HBq.out.alloc HBq.out.size _
            have s0 := c1_any A n c W1
            have ht : tstB xs 0 = decide (3 ≤ n) := by rw [← hl]; rfl
            rw [← ht] at s0
            have HB1 := Lib.hid hB1
            have HM1 := Lib.hid hm1
            have HL := Lib.hid hl
            by_cases hb1 : tstB xs 0 = true
            · rw [hb1] at s0
              have HU : Hid (upB xs 1) := Lib.hid ⟨hup.out, hb1⟩
              clear hb1 hB1 hm1 hR1 ht hbq hgq hl hjq h5
              go_wp2_with fail
              refine s0.mono ?_
              rintro e w2 ⟨rfl, rfl⟩
              have hb2 := Below.refl W1.heap.size W1
              have HB2 := Lib.hid (HB1.out.trans (hb2.mono HB1.out.size))
              clear s0 hb2 k0 k1
              go_wp2
              go_roundg 4
              case rel => exact ⟨1, rfl, by go_num, rfl, HU, HB2.out⟩
              case measure => omega
            · have hb1 : tstB xs 0 = false := by simpa using hb1
              rw [hb1] at s0
              have HU : Hid (errT xs = 30) := Lib.hid (upB_0 hb1)
              clear hb1 hB1 hm1 hR1 ht hbq hgq hl hjq h5
              go_wp2_with fail
              refine s0.mono ?_
              rintro e w2 ⟨rfl, rfl⟩
              have hb2 := Below.refl W1.heap.size W1
              have HB2 := Lib.hid (HB1.out.trans (hb2.mono HB1.out.size))
              have hm2 : W1.cell? ⟨wq.heap.size, 1, none⟩ = some (.int .i64 30) := (hb2.cell (p := ⟨wq.heap.size, 1, none⟩) hz1).trans HM1.out
              clear s0 hb2 k0 k1
              go_wp2
              try rw [Exit.noGoto_ret]
              go_ret
              exact ⟨by rw [HU.out]; rfl, HB2.out⟩
          · obtain rfl : gk = 4 := by omega
            have k0 : wq.cell? ⟨g, 2, none⟩ = some (.func (.func 88) #[] #[]) := by rw [cell_of_row wq g 2 chkB _ (0, 0) hgq]; rfl
            have k1 : wq.cell? ⟨g, 3, none⟩ = some (.int .i64 31) := by rw [cell_of_row wq g 3 chkB _ (0, 0) hgq]; rfl
            obtain ⟨W1, hW1⟩ : ∃ W1, wq.alloc (.cells #[.func (.func 88) #[] #[], .int .i64 31] 142) = W1 := ⟨_, rfl⟩
            have hR1 : RB W1 A n xs := by rw [← hW1]; exact (HR.out.below HBq.out).alloc _
            have hz1 : wq.heap.size < W1.heap.size := by rw [← hW1]; simp
            have hm1 : W1.cell? ⟨wq.heap.size, 1, none⟩ = some (.int .i64 31) := by rw [← hW1, cell_of_row _ wq.heap.size 1 _ _ (0, 0) (heap_alloc_new wq _)]; rfl
            have hm0 : W1.cell? ⟨wq.heap.size, 0, none⟩ = wq.cell? ⟨g, 2, none⟩ := by rw [k0, ← hW1, cell_of_row _ wq.heap.size 0 _ _ (0, 0) (heap_alloc_new wq _)]; rfl
            rw [k0] at hm0
            have hB1 : Below w.heap.size w W1 := by rw [← hW1]; exact HBq.out.alloc HBq.out.size _
            have u0 : 3 ≤ n := by have := of_decide_eq_true hup.out.2; omega
            have s0 := c2_any A n c xs W1 hR1 u0
            have ht : tstB xs 1 = decide (xs.getD 0 0 ≠ 0) := by rfl
            rw [← ht] at s0
            have HB1 := Lib.hid hB1
            have HM1 := Lib.hid hm1
            have HL := Lib.hid hl
            by_cases hb1 : tstB xs 1 = true
            · rw [hb1] at s0
              have HU : Hid (upB xs 2) := Lib.hid ⟨hup.out, hb1⟩
              clear hb1 hB1 hm1 hR1 ht hbq hgq hl hjq h5 u0
              go_wp2_with fail
              refine s0.mono ?_
              rintro e w2 ⟨rfl, rfl⟩
              have hb2 := Below.refl W1.heap.size W1
              have HB2 := Lib.hid (HB1.out.trans (hb2.mono HB1.out.size))
              clear s0 hb2 k0 k1
              go_wp2
              go_roundg 3
              case rel => exact ⟨2, rfl, by go_num, rfl, HU, HB2.out⟩
              case measure => omega
            · have hb1 : tstB xs 1 = false := by simpa using hb1
              rw [hb1] at s0
              have HU : Hid (errT xs = 31) := Lib.hid (upB_1 hup.out hb1)
              clear hb1 hB1 hm1 hR1 ht hbq hgq hl hjq h5 u0
              go_wp2_with fail
              refine s0.mono ?_
              rintro e w2 ⟨rfl, rfl⟩
              have hb2 := Below.refl W1.heap.size W1
              have HB2 := Lib.hid (HB1.out.trans (hb2.mono HB1.out.size))
              have hm2 : W1.cell? ⟨wq.heap.size, 1, none⟩ = some (.int .i64 31) := (hb2.cell (p := ⟨wq.heap.size, 1, none⟩) hz1).trans HM1.out
              clear s0 hb2 k0 k1
              go_wp2
              try rw [Exit.noGoto_ret]
              go_ret
              exact ⟨by rw [HU.out]; rfl, HB2.out⟩
          · obtain rfl : gk = 3 := by omega
            have k0 : wq.cell? ⟨g, 4, none⟩ = some (.func (.func 89) #[] #[]) := by rw [cell_of_row wq g 4 chkB _ (0, 0) hgq]; rfl
            have k1 : wq.cell? ⟨g, 5, none⟩ = some (.int .i64 3) := by rw [cell_of_row wq g 5 chkB _ (0, 0) hgq]; rfl
            obtain ⟨W1, hW1⟩ : ∃ W1, wq.alloc (.cells #[.func (.func 89) #[] #[], .int .i64 3] 142) = W1 := ⟨_, rfl⟩
            have hR1 : RB W1 A n xs := by rw [← hW1]; exact (HR.out.below HBq.out).alloc _
            have hz1 : wq.heap.size < W1.heap.size := by rw [← hW1]; simp
            have hm1 : W1.cell? ⟨wq.heap.size, 1, none⟩ = some (.int .i64 3) := by rw [← hW1, cell_of_row _ wq.heap.size 1 _ _ (0, 0) (heap_alloc_new wq _)]; rfl
            have hm0 : W1.cell? ⟨wq.heap.size, 0, none⟩ = wq.cell? ⟨g, 4, none⟩ := by rw [k0, ← hW1, cell_of_row _ wq.heap.size 0 _ _ (0, 0) (heap_alloc_new wq _)]; rfl
            rw [k0] at hm0
            have hB1 : Below w.heap.size w W1 := by rw [← hW1]; exact HBq.out.alloc HBq.out.size _
            have u0 : 3 ≤ n := by have := of_decide_eq_true hup.out.1.2; omega
            have s0 := c3_any A n c xs W1 hR1 u0
            have ht : tstB xs 2 = decide (bodyN xs ≤ 1000) := by rfl
            rw [← ht] at s0
            have HB1 := Lib.hid hB1
            have HM1 := Lib.hid hm1
            have HL := Lib.hid hl
            by_cases hb1 : tstB xs 2 = true
            · rw [hb1] at s0
              have HU : Hid (upB xs 3) := Lib.hid ⟨hup.out, hb1⟩
              clear hb1 hB1 hm1 hR1 ht hbq hgq hl hjq h5 u0
              go_wp2_with fail
              refine s0.mono ?_
              rintro e w2 ⟨rfl, hb2⟩
              have HB2 := Lib.hid (HB1.out.trans (hb2.mono HB1.out.size))
              clear s0 hb2 k0 k1
              go_wp2
              go_roundg 2
              case rel => exact ⟨3, rfl, by go_num, rfl, HU, HB2.out⟩
              case measure => omega
            · have hb1 : tstB xs 2 = false := by simpa using hb1
              rw [hb1] at s0
              have HU : Hid (errT xs = 3) := Lib.hid (upB_2 hup.out hb1)
              clear hb1 hB1 hm1 hR1 ht hbq hgq hl hjq h5 u0
              go_wp2_with fail
              refine s0.mono ?_
              rintro e w2 ⟨rfl, hb2⟩
              have HB2 := Lib.hid (HB1.out.trans (hb2.mono HB1.out.size))
              have hm2 : w2.cell? ⟨wq.heap.size, 1, none⟩ = some (.int .i64 3) := (hb2.cell (p := ⟨wq.heap.size, 1, none⟩) hz1).trans HM1.out
              clear s0 hb2 k0 k1
              go_wp2
              try rw [Exit.noGoto_ret]
              go_ret
              exact ⟨by rw [HU.out]; rfl, HB2.out⟩
          · obtain rfl : gk = 2 := by omega
            have k0 : wq.cell? ⟨g, 6, none⟩ = some (.func (.func 91) #[] #[]) := by rw [cell_of_row wq g 6 chkB _ (0, 0) hgq]; rfl
            have k1 : wq.cell? ⟨g, 7, none⟩ = some (.int .i64 30) := by rw [cell_of_row wq g 7 chkB _ (0, 0) hgq]; rfl
            obtain ⟨W1, hW1⟩ : ∃ W1, wq.alloc (.cells #[.func (.func 91) #[] #[], .int .i64 30] 142) = W1 := ⟨_, rfl⟩
            have hR1 : RB W1 A n xs := by rw [← hW1]; exact (HR.out.below HBq.out).alloc _
            have hz1 : wq.heap.size < W1.heap.size := by rw [← hW1]; simp
            have hm1 : W1.cell? ⟨wq.heap.size, 1, none⟩ = some (.int .i64 30) := by rw [← hW1, cell_of_row _ wq.heap.size 1 _ _ (0, 0) (heap_alloc_new wq _)]; rfl
            have hm0 : W1.cell? ⟨wq.heap.size, 0, none⟩ = wq.cell? ⟨g, 6, none⟩ := by rw [k0, ← hW1, cell_of_row _ wq.heap.size 0 _ _ (0, 0) (heap_alloc_new wq _)]; rfl
            rw [k0] at hm0
            have hB1 : Below w.heap.size w W1 := by rw [← hW1]; exact HBq.out.alloc HBq.out.size _
            have u0 : 3 ≤ n := by have := of_decide_eq_true hup.out.1.1.2; omega
            have u2 : bodyN xs ≤ 1000 := of_decide_eq_true hup.out.2
            have s0 := c4_any A n c xs W1 hR1 u0 u2
            have ht : tstB xs 3 = decide (bodyN xs + 7 ≤ n) := by rw [← hl]; rfl
            rw [← ht] at s0
            have HB1 := Lib.hid hB1
            have HM1 := Lib.hid hm1
            have HL := Lib.hid hl
            by_cases hb1 : tstB xs 3 = true
            · rw [hb1] at s0
              have HU : Hid (upB xs 4) := Lib.hid ⟨hup.out, hb1⟩
              clear hb1 hB1 hm1 hR1 ht hbq hgq hl hjq h5 u0 u2
              go_wp2_with fail
              refine s0.mono ?_
              rintro e w2 ⟨rfl, hb2⟩
              have HB2 := Lib.hid (HB1.out.trans (hb2.mono HB1.out.size))
              clear s0 hb2 k0 k1
              go_wp2
              go_roundg 1
              case rel => exact ⟨4, rfl, by go_num, rfl, HU, HB2.out⟩
              case measure => omega
            · have hb1 : tstB xs 3 = false := by simpa using hb1
              rw [hb1] at s0
              have HU : Hid (errT xs = 30) := Lib.hid (upB_3 hup.out hb1)
              clear hb1 hB1 hm1 hR1 ht hbq hgq hl hjq h5 u0 u2
              go_wp2_with fail
              refine s0.mono ?_
              rintro e w2 ⟨rfl, hb2⟩
              have HB2 := Lib.hid (HB1.out.trans (hb2.mono HB1.out.size))
              have hm2 : w2.cell? ⟨wq.heap.size, 1, none⟩ = some (.int .i64 30) := (hb2.cell (p := ⟨wq.heap.size, 1, none⟩) hz1).trans HM1.out
              clear s0 hb2 k0 k1
              go_wp2
              try rw [Exit.noGoto_ret]
              go_ret
              exact ⟨by rw [HU.out]; rfl, HB2.out⟩
          · obtain rfl : gk = 1 := by omega
            have k0 : wq.cell? ⟨g, 8, none⟩ = some (.func (.func 92) #[] #[]) := by rw [cell_of_row wq g 8 chkB _ (0, 0) hgq]; rfl
            have k1 : wq.cell? ⟨g, 9, none⟩ = some (.int .i64 32) := by rw [cell_of_row wq g 9 chkB _ (0, 0) hgq]; rfl
            obtain ⟨W1, hW1⟩ : ∃ W1, wq.alloc (.cells #[.func (.func 92) #[] #[], .int .i64 32] 142) = W1 := ⟨_, rfl⟩
            have hR1 : RB W1 A n xs := by rw [← hW1]; exact (HR.out.below HBq.out).alloc _
            have hz1 : wq.heap.size < W1.heap.size := by rw [← hW1]; simp
            have hm1 : W1.cell? ⟨wq.heap.size, 1, none⟩ = some (.int .i64 32) := by rw [← hW1, cell_of_row _ wq.heap.size 1 _ _ (0, 0) (heap_alloc_new wq _)]; rfl
            have hm0 : W1.cell? ⟨wq.heap.size, 0, none⟩ = wq.cell? ⟨g, 8, none⟩ := by rw [k0, ← hW1, cell_of_row _ wq.heap.size 0 _ _ (0, 0) (heap_alloc_new wq _)]; rfl
            rw [k0] at hm0
            have hB1 : Below w.heap.size w W1 := by rw [← hW1]; exact HBq.out.alloc HBq.out.size _
            have u0 : 3 ≤ n := by have := of_decide_eq_true hup.out.1.1.1.2; omega
            have u2 : bodyN xs ≤ 1000 := of_decide_eq_true hup.out.1.2
            have u3 : bodyN xs + 7 ≤ n := by have := of_decide_eq_true hup.out.2; omega
            obtain ⟨bb, oo, rfl, _, _⟩ := hR1.2 (by omega)
            have s0 := c5_any bb oo n c xs W1 hR1 hnc u0 u2 u3
            have ht : tstB xs 4 = sealedB (xs.take (bodyN xs + 7)) := by rfl
            rw [← ht] at s0
            have HB1 := Lib.hid hB1
            have HM1 := Lib.hid hm1
            have HL := Lib.hid hl
            by_cases hb1 : tstB xs 4 = true
            · rw [hb1] at s0
              have HU : Hid (upB xs 5) := Lib.hid ⟨hup.out, hb1⟩
              clear hb1 hB1 hm1 hR1 ht hbq hgq hl hjq h5 u0 u2 u3
              go_wp2_with fail
              refine s0.mono ?_
              rintro e w2 ⟨rfl, hb2⟩
              have HB2 := Lib.hid (HB1.out.trans (hb2.mono HB1.out.size))
              clear s0 hb2 k0 k1
              go_wp2
              go_roundg 0
              case rel => exact ⟨5, rfl, by go_num, rfl, HU, HB2.out⟩
              case measure => omega
            · have hb1 : tstB xs 4 = false := by simpa using hb1
              rw [hb1] at s0
              have HU : Hid (errT xs = 32) := Lib.hid (upB_4 hup.out hb1)
              clear hb1 hB1 hm1 hR1 ht hbq hgq hl hjq h5 u0 u2 u3
              go_wp2_with fail
              refine s0.mono ?_
              rintro e w2 ⟨rfl, hb2⟩
              have HB2 := Lib.hid (HB1.out.trans (hb2.mono HB1.out.size))
              have hm2 : w2.cell? ⟨wq.heap.size, 1, none⟩ = some (.int .i64 32) := (hb2.cell (p := ⟨wq.heap.size, 1, none⟩) hz1).trans HM1.out
              clear s0 hb2 k0 k1
              go_wp2
              try rw [Exit.noGoto_ret]
              go_ret
              exact ⟨by rw [HU.out]; rfl, HB2.out⟩
end Go.Proofs.Ytjbemjnofnifaaa
