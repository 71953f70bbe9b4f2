/-
  Bits that are turned within 32 that follow one another turn the sum, and spoil what is sealed: the law sodalitylaw02.SumBursts over the contracts.
-/
import Derived.Test.YtbnlboggclholaaWorks
namespace Go.Proofs.Ytbnlboggclholaa
open Go.RowKit
set_option linter.unusedSimpArgs false

theorem differs_bool (l : List UInt8) (f m i : Nat) (h : f + i ≤ 8 * l.length) (hi : i ≤ 32) : (((crc l).toNat : Int) != ((crc (turnTo l f m i)).toNat : Int)) = anyTo m i := by
  have := crc_differs l f m i h hi
  cases ha : anyTo m i with
  | false =>
    rw [this.2 ha]; simp
  | true =>
    rw [bne_iff_ne]
    intro e
    have : crc (turnTo l f m i) = crc l := BitVec.eq_of_toNat_eq (by omega)
    rw [‹crc (turnTo l f m i) = crc l ↔ _›] at this
    rw [ha] at this
    cases this

set_option maxHeartbeats 1000000 in
theorem bursts_walk (C : Con) (A : Option Addr) (n c : Nat) (xs : List UInt8) (at_ : Int) (m : Nat) (w : World) (h : RB w A n xs) (hnil : A = none → c = 0) (hn : n ≤ 140737488351232) :
    Calls Try.prog 7 #[.slice A n c, .agg #[.int .i64 at_, .int .u32 (m : Int)]] w fun e w' => e = .returned (.bool true) ∧ Below w.heap.size w w' := by
  obtain ⟨i0, hi, hz0, hz1, hz2⟩ := info_parts u8_info
  have hl := h.1
  have hM : maxLen = 9223372036854775807 := by unfold maxLen; omega
  obtain ⟨f, i, hf, hi32, ct⟩ := turned_all A n c xs at_ m w h hnil (by omega)
  have hdif := differs_bool xs f m i (by omega) hi32
  have HR := Lib.hid h
  have HF := Lib.hid (And.intro hf hi32)
  have HD := Lib.hid hdif
  have HL := Lib.hid hl
  have HM := Lib.hid hM
  have HN := Lib.hid hn
  clear h hf hi32 hdif hl hM hn
  go_enter Try.func7, Try.ntmps7
  go_wp2_with fail
  have hb0 : Below w.heap.size w (w.alloc (.cells #[.int .i64 at_, .int .u32 (m : Int)] 35)) := (Below.refl _ w).alloc (Nat.le_refl _) _
  have hx0 : (w.alloc (.cells #[.int .i64 at_, .int .u32 (m : Int)] 35)).cell? ⟨w.heap.size, 0, none⟩ = some (.int .i64 at_) := by rw [cell_of_row _ w.heap.size 0 _ _ _ (heap_alloc_new w _)]; rfl
  have hx1 : (w.alloc (.cells #[.int .i64 at_, .int .u32 (m : Int)] 35)).cell? ⟨w.heap.size, 1, none⟩ = some (.int .u32 (m : Int)) := by rw [cell_of_row _ w.heap.size 1 _ _ _ (heap_alloc_new w _)]; rfl
  have hlt0 : w.heap.size < (w.alloc (.cells #[.int .i64 at_, .int .u32 (m : Int)] 35)).heap.size := by simp
  have HR := Lib.hid (HR.out.alloc (.cells #[.int .i64 at_, .int .u32 (m : Int)] 35))
  refine (ct _ hb0).mono ?_
  generalize w.alloc (.cells #[.int .i64 at_, .int .u32 (m : Int)] 35) = W0 at *
  have HB0 := Lib.hid hb0
  have HX0 := Lib.hid hx0
  have HX1 := Lib.hid hx1
  have HLT0 := Lib.hid hlt0
  clear hx0 hx1 hlt0
  rintro e w1 ⟨A', c', rfl, hr1, hn1, hb1⟩
  have HB1 := Lib.hid hb1
  have HR1 := Lib.hid hr1
  have HN1 := Lib.hid hn1
  have s1 := C.sum_one A n c xs w1 (HR.out.below HB1.out) (by have := HN.out; have := HM.out; omega)
  obtain ⟨S1, hS1⟩ : ∃ S, (crc xs).toNat = S := ⟨_, rfl⟩
  rw [hS1] at s1 HD
  have HS1 := Lib.hid hS1
  clear hb0 hb1 hr1 hn1 hS1 ct
  go_wp2_with fail
  refine s1.mono ?_
  rintro e w2 ⟨rfl, hb2⟩
  have HB2 := Lib.hid hb2
  have s2 := C.sum_one A' n c' _ w2 (HR1.out.below hb2) (by have := HN.out; have := HM.out; omega)
  obtain ⟨S2, hS2⟩ : ∃ S, (crc (turnTo xs f m i)).toNat = S := ⟨_, rfl⟩
  rw [hS2] at s2 HD
  clear s1 hb2 hS2
  go_wp2_with fail
  refine s2.mono ?_
  rintro e w3 ⟨rfl, hb3⟩
  have HB37 := Lib.hid (HB1.out.trans ((HB2.out.trans (hb3.mono HB2.out.size)).mono HB1.out.size))
  have HB3 := Lib.hid (HB1.out.trans ((HB2.out.trans (hb3.mono HB2.out.size)).mono HB1.out.size))
  have hd := HD.out
  clear s2 hb3 HB1 HB2
  have hown0 := own_made w3
  go_wp2_with (at_builtin; refine wpList_append_rb rfl (.tmp 25) (.tmp 26) 22 rfl w3.heap.size 5 i0 (.int .u8 0) 1 Try.underlying22 hi hz0 hz1 hz2 rfl _ 0 [] rfl hown0 A n c xs rfl hnil ((HR.out.below HB3.out).alloc _) ?c1 ?c2 ?c3 ?_)
  case c1 => have := HN.out; have := HM.out; omega
  case c2 => have := HN.out; omega
  case c3 => simp
  intro v1 w4 hown1 hg1
  have hb4 := below_made w3 w4 hg1
  have HB4 := Lib.hid (HB3.out.trans (hb4.mono HB3.out.size))
  have hlt4 := Lib.hid hb4.size
  have HO4 : Hid (w4.ownsRow w3.heap.size 5 1 v1 n (xs.map byteV)) := Lib.hid (by simpa using hown1)
  have s4 := C.sum_one A n c xs w4 (HR.out.below HB4.out) (by have := HN.out; have := HM.out; omega)
  rw [HS1.out] at s4
  clear hb4 hown1 hg1 hown0 HB3 hd
  go_wp2_with fail
  refine s4.mono ?_
  rintro e w5 ⟨rfl, hb5⟩
  have s5 := C.bytes (crc xs) w5
  rw [HS1.out] at s5
  have HB5 := Lib.hid hb5
  clear hb5 s4
  go_wp2_with fail
  refine s5.mono ?_
  rintro e w6 ⟨A2, c2, rfl, hr6, hn6, _, _, hb6⟩
  have HB46 := Lib.hid (HB5.out.trans (hb6.mono HB5.out.size))
  have hown6 := bown_keep HO4.out HB46.out
  have hlt6 := Lib.hid (Nat.le_trans hlt4.out HB46.out.size)
  have HB6 := Lib.hid (HB4.out.trans (HB46.out.mono HB4.out.size))
  clear s5 hb6 HB5 HO4 HB46 HB4
  simp only [show (sumBytes (crc xs)).length = 4 from rfl] at hr6 ⊢
  go_wp2_with (at_builtin; refine wpList_append_rb rfl (.tmp 27) (.tmp 31) 22 rfl w3.heap.size 5 i0 (.int .u8 0) 1 Try.underlying22 hi hz0 hz1 hz2 rfl _ n (xs.map byteV) rfl hown6 A2 4 c2 (sumBytes (crc xs)) rfl hn6 hr6 ?d1 ?d2 ?d3 ?_)
  case d1 => have := HN.out; have := HM.out; omega
  case d2 => have := HN.out; omega
  case d3 => exact hlt6.out
  intro v2 w7 hown7 hg7
  have hb7 := below_more hown6 hlt6.out hg7
  have HB7 := Lib.hid (HB6.out.trans (hb7.mono HB37.out.size))
  rw [← List.map_append] at hown7
  obtain ⟨A3, c3, rfl, hr7, hn7, hle7, _⟩ := RB.own (xs := sealB xs) hown7
  have hy0 := (HB7.out.cell (p := ⟨w.heap.size, 0, none⟩) HLT0.out).trans HX0.out
  have hy1 := (HB7.out.cell (p := ⟨w.heap.size, 1, none⟩) HLT0.out).trans HX1.out
  obtain ⟨f2, i2, hf2, hi2, ct2⟩ := turned_all A3 (n + 4) c3 (sealB xs) at_ m w7 hr7 hn7 (by have := HN.out; omega)
  have hss := sealB_sealed xs
  have hst := sealed_turned (sealB xs) hss f2 m i2 (by rw [hr7.1]; exact hf2) hi2
  have HS := Lib.hid hss
  have HT := Lib.hid hst
  have hr7' := Lib.hid hr7
  have hn7' := Lib.hid hn7
  have HL7 : Hid (n + 4 ≤ c3) := Lib.hid (by have := HR.out.1; simpa [sealB, this, show ∀ v, (sumBytes v).length = 4 from fun _ => rfl] using hle7)
  clear hown7 hown6 hg7 hb7 hss hst hr6 hn6 HB6 hr7 hn7 hle7
  go_wp2_with fail
  refine (ct2 w7 (Below.refl _ _)).mono ?_
  rintro e w8 ⟨A4, c4, rfl, hr8, hn8, hb8⟩
  have s8 := C.sealed A3 (n + 4) c3 (sealB xs) w8 (hr7'.out.below hb8) hn7'.out HL7.out (by have := HN.out; omega)
  rw [HS.out] at s8
  have HB8 := Lib.hid (HB7.out.trans (hb8.mono HB7.out.size))
  have hr8' := Lib.hid hr8
  have hn8' := Lib.hid hn8
  clear hb8 hr8 hn8 ct2 hy0 hy1
  go_wp2_with fail
  refine s8.mono ?_
  rintro e w9 ⟨rfl, hb9⟩
  have s9 := C.sealed A4 (n + 4) c4 _ w9 (hr8'.out.below hb9) hn8'.out.1 hn8'.out.2 (by have := HN.out; omega)
  rw [HT.out] at s9
  have HB9 := Lib.hid (HB8.out.trans (hb9.mono HB8.out.size))
  clear hb9 s8
  go_wp2_with fail
  refine s9.mono ?_
  rintro e w10 ⟨rfl, hb10⟩
  have HB10 := Lib.hid (HB9.out.trans (hb10.mono HB9.out.size))
  have s10 := works_any C w10
  clear hb10 s9
  have hbb : ((!anyTo m i2) == (!anyTo m i2)) = true := by simp
  go_wp2_with fail
  refine s10.mono ?_
  rintro e w11 ⟨rfl, hb11⟩
  have HB11 := Lib.hid (HB0.out.trans ((HB10.out.trans (hb11.mono HB10.out.size)).mono HB0.out.size))
  clear hb11 s10
  go_wp2
  go_ret
  exact ⟨rfl, HB11.out⟩
end Go.Proofs.Ytbnlboggclholaa
