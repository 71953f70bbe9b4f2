/-
  Any bytes, in any pieces, have the document's sum; and one sum goes on where another one ended: the law sodalitylaw02.SumPieces over the contracts.
-/
import Derived.Test.YtbnlboggclholaaWorks
namespace Go.Proofs.Ytbnlboggclholaa
open Go.RowKit
set_option linter.unusedSimpArgs false

set_option maxHeartbeats 1000000 in
theorem pieces_walk (C : Con) (A : Option Addr) (n c : Nat) (xs : List UInt8) (B : Option Addr) (m d : Nat) (ys : List UInt8) (w : World) (h : RB w A n xs) (hnil : A = none → c = 0) (h' : RB w B m ys) (hnil' : B = none → d = 0) (hn : n + m ≤ 140737488351232) :
    Calls Try.prog 3 #[.slice A n c, .slice B m d] w fun e w' => e = .returned (.bool true) ∧ Below w.heap.size w w' := by
  obtain ⟨i0, hi, hz0, hz1, hz2⟩ := info_parts u8_info
  have hM : maxLen = 9223372036854775807 := by unfold maxLen; omega
  have HR := Lib.hid h
  have HR' := Lib.hid h'
  have HM := Lib.hid hM
  have HN := Lib.hid hn
  clear h h' hM hn
  have hown0 := own_made w
  go_enter Try.func3, Try.ntmps3
  go_wp2_with (at_builtin; refine wpList_append_rb rfl (.tmp 7) (.tmp 8) 22 rfl w.heap.size 5 i0 (.int .u8 0) 1 Try.underlying22 hi hz0 hz1 hz2 rfl _ 0 [] rfl hown0 A n c xs rfl hnil (HR.out.alloc _) ?c1 ?c2 ?c3 ?_)
  case c1 => have := HN.out; have := HM.out; omega
  case c2 => have := HN.out; omega
  case c3 => simp
  intro v1 w1 hown1 hg1
  have HB1 := Lib.hid (below_made w w1 hg1)
  have hown1 : w1.ownsRow w.heap.size 5 1 v1 n (xs.map byteV) := by simpa using hown1
  clear hown0 hg1
  go_wp2_with (at_builtin; refine wpList_append_rb rfl (.tmp 9) (.tmp 10) 22 rfl w.heap.size 5 i0 (.int .u8 0) 1 Try.underlying22 hi hz0 hz1 hz2 rfl _ n (xs.map byteV) rfl hown1 B m d ys rfl hnil' (HR'.out.below HB1.out) ?d1 ?d2 ?d3 ?_)
  case d1 => have := HN.out; have := HM.out; omega
  case d2 => have := HN.out; omega
  case d3 => exact HB1.out.size
  intro v2 w2 hown2 hg2
  have HB2 := Lib.hid (HB1.out.trans (below_more hown1 HB1.out.size hg2))
  rw [← List.map_append] at hown2
  obtain ⟨A3, c3, rfl, hr3, hn3, _⟩ := RB.own (xs := xs ++ ys) hown2
  have HR3 := Lib.hid hr3
  have s2 := rsum_any A3 (n + m) c3 (xs ++ ys) w2 hr3 (by have := HN.out; have := HM.out; omega)
  have HXY : Hid (crcFrom (crc xs) ys = crc (xs ++ ys)) := Lib.hid (by rw [crc, crc, crcFrom_append])
  obtain ⟨T, hT⟩ : ∃ T : Nat, (crc (xs ++ ys)).toNat = T := ⟨_, rfl⟩
  obtain ⟨S, hS⟩ : ∃ S : Nat, (crc xs).toNat = S := ⟨_, rfl⟩
  have HS := Lib.hid hS
  have HT := Lib.hid hT
  rw [hT] at s2
  clear hown1 hown2 hg2 hr3 hn3 hT hS HB1
  go_wp2_with fail
  refine s2.mono ?_
  rintro e w3 ⟨rfl, rfl⟩
  have s3 := C.sum_two A B n c m d xs ys w2 (HR.out.below HB2.out) (by have := HN.out; have := HM.out; omega) (HR'.out.below HB2.out) (by have := HN.out; have := HM.out; omega)
  rw [HT.out] at s3
  clear s2
  go_wp2_with fail
  refine s3.mono ?_
  rintro e w4 ⟨rfl, hb4⟩
  have HB4 := Lib.hid (HB2.out.trans (hb4.mono HB2.out.size))
  have s4 := C.sum_one A3 (n + m) c3 (xs ++ ys) w4 (HR3.out.below hb4) (by have := HN.out; have := HM.out; omega)
  rw [HT.out] at s4
  clear s3 hb4
  go_wp2_with fail
  refine s4.mono ?_
  rintro e w5 ⟨rfl, hb5⟩
  have HB5 := Lib.hid (HB4.out.trans (hb5.mono HB4.out.size))
  have s5 := C.sum_one A n c xs w5 (HR.out.below HB5.out) (by have := HN.out; have := HM.out; omega)
  rw [HS.out] at s5
  clear s4 hb5
  go_wp2_with fail
  refine s5.mono ?_
  rintro e w6 ⟨rfl, hb6⟩
  have HB6 := Lib.hid (HB5.out.trans (hb6.mono HB5.out.size))
  have s6 := C.from_ B m d ys (crc xs) w6 (HR'.out.below HB6.out) (by have := HN.out; have := HM.out; omega)
  rw [HXY.out, HS.out, HT.out] at s6
  clear s5 hb6
  go_wp2_with fail
  refine s6.mono ?_
  rintro e w7 ⟨rfl, hb7⟩
  have HB7 := Lib.hid (HB6.out.trans (hb7.mono HB6.out.size))
  have s7 := C.sum none 0 0 [] w7 (Pieces.none _ _) rfl (by omega)
  rw [show (crc ([] : List (List UInt8)).flatten) = 0#32 from crc_nil] at s7
  clear s6 hb7
  go_wp2_with fail
  refine s7.mono ?_
  rintro e w8 ⟨rfl, hb8⟩
  have HB8 := Lib.hid (HB7.out.trans (hb8.mono HB7.out.size))
  have s8 := works_any C w8
  clear s7 hb8
  go_wp2_with fail
  refine s8.mono ?_
  rintro e w9 ⟨rfl, hb9⟩
  have HB9 := Lib.hid (HB8.out.trans (hb9.mono HB8.out.size))
  clear hb9 s8
  go_wp2
  go_ret
  exact ⟨rfl, HB9.out⟩
end Go.Proofs.Ytbnlboggclholaa
