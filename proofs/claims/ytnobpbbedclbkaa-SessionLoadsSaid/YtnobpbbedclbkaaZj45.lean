/-
  The law's own nums, works (layer 18).
-/
import Derived.Test.YtnobpbbedclbkaaZj43
import Derived.Test.YtnobpbbedclbkaaZj44
namespace Go.Proofs.Ytnobpbbedclbkaa
open Go.RowKit
set_option linter.unusedSimpArgs false
set_option linter.unusedVariables false

set_option maxHeartbeats 2000000 in
theorem nums_any (A : Option Addr) (n c : Nat) (l : List Nat) (A2 : Option Addr) (c2 : Nat) (w : World) (hS : SK nuC 1 w A n l) (hS2 : SK nuC 1 w A2 n l) (hn : n ≤ maxLen) :
    Calls Try.prog 13 #[.slice A n c, .slice A2 n c2] w fun e w' => e = .returned (.bool true) ∧ Below w.heap.size w w' := by
  unfold maxLen at hn
  have hm : n ≤ 9223372036854775807 := by omega
  have HL := Lib.hid hS.1
  have HS := Lib.hid hS
  have HS2 := Lib.hid hS2
  have zz2 : (n != n) = false := by simp
  clear hS hS2 hn
  go_enter Try.func13, Try.ntmps13
  go_wp2
  go_loopw [5] (fun i wr => ∃ k : Nat, k ≤ n ∧ i = .int .i64 (k : Int) ∧ Hid (Below w.heap.size w wr)) (fun i _ => n - (intOf i).toNat)
  case atStart => exact ⟨0, Nat.zero_le _, rfl, Lib.hid (Below.refl _ _)⟩
  case round =>
    obtain ⟨k, hk, rfl, hb⟩ := hrel
    by_cases hlt : k < n
    · have hkl : k < l.length := by have := HL.out; omega
      obtain ⟨b, off, rfl, hbl, hit⟩ := (HS.out.below hb.out).at_ hlt hkl
      obtain ⟨b2, off2, rfl, hbl2, hit2⟩ := (HS2.out.below hb.out).at_ hlt hkl
      obtain ⟨x, hx⟩ : ∃ x, l[k] = x := ⟨_, rfl⟩
      rw [hx] at hit hit2
      have c0 := nu_cell hit
      have d0 := nu_cell hit2
      have q1 : (k : Int) < (n : Int) := by omega
      have q0 : (0 : Int) ≤ (k : Int) := by omega
      have q2 : ((x : Int) != (x : Int)) = false := by simp
      clear hx hit hit2
      go_wp2
      go_quiet (fail)
      go_wp2
      go_roundw
      case rel => exact ⟨k + 1, by omega, by go_num, Lib.hid (below_drewN hb.out nq)⟩
      case measure => simp [intOf]; omega
    · go_wp2
      go_ret
      exact ⟨rfl, hb.out⟩
set_option maxHeartbeats 2000000 in
theorem works_any (w : World) : Calls Try.prog 22 #[] w fun e w' => e = .returned (.bool true) ∧ Below w.heap.size w w' := by
  obtain ⟨g0, hg0⟩ : ∃ g0, w.heap.size = g0 := ⟨_, rfl⟩
  have HG0 := Lib.hid hg0
  have HN := Lib.hid (snew_any 9 w (by decide))
  rw [hg0] at HN ⊢
  have h9 : mostT 9 = 9 := by decide
  rw [h9] at HN
  clear hg0 h9
  go_enter Try.func22, Try.ntmps22
  go_wp2_with fail
  refine HN.out.mono ?_
  rintro e w1 ⟨B, Bt, rfl, hp, hb1⟩
  have HB1 := Lib.hid hb1
  have hop : (Ls.openS ⟨9, [], 0⟩ 2 7) = ((7, 0), ⟨9, [newS 2 7], 7⟩) := by rfl
  have ho := sopen_any 2 7 hp (by decide)
  rw [hop] at ho
  have HO : Hid (Calls Try.prog 9 #[.pointer (some ⟨B, 0, none⟩), .int .i64 2, .int .u64 7] w1 fun e w' => e = .returned (.tuple #[.int .u64 7, .int .i64 0]) ∧ SAt (fun k => g0 ≤ k ∨ w1.heap.size ≤ k) w' B Bt ⟨9, [newS 2 7], 7⟩ ∧ But (· = Bt) w1 w') := Lib.hid ho
  have hz1 : g0 ≤ w1.heap.size := by have := hb1.size; have := HG0.out; omega
  have hBt : g0 ≤ Bt := hp.tmine.1
  clear hp hb1 HN hop ho
  go_wp2_with fail
  refine HO.out.mono ?_
  rintro e w2 ⟨rfl, hp2, hb2⟩
  have HB2 : Hid (Below g0 w w2) := Lib.hid (HB1.out.trans (hb2.below hz1 fun j hj e => by omega))
  have hgt : getS [newS 2 7] 7 = some (newS 2 7) := by rfl
  have hg := sget_any 7 hp2 (by decide)
  simp only [hgt] at hg
  have HGt : Hid (Calls Try.prog 20 #[.pointer (some ⟨B, 0, none⟩), .int .u64 7] w2 fun e w' => e = .returned (.tuple #[.agg #[.int .u64 7, .int .i64 2, .int .u64 7, .int .u64 7], .bool true]) ∧ Below w2.heap.size w2 w') := Lib.hid hg
  have hz2 : g0 ≤ w2.heap.size := by have := HB2.out.size; have := HG0.out; omega
  clear hp2 hb2 HO hgt hg
  go_wp2_with fail
  refine HGt.out.mono ?_
  rintro e w3 ⟨rfl, hb3⟩
  have HB3 : Hid (Below g0 w w3) := Lib.hid (HB2.out.trans (hb3.mono hz2))
  have hz3 : g0 ≤ w3.heap.size := by have := HB3.out.size; have := HG0.out; omega
  have ug := sn_guard
  have ue0 := sn_eq (newS 2 7) (newS 2 7)
  rw [(eqSn_iff _ _).2 rfl] at ue0
  have ue : ∀ W : World, (Op.equalIn 10000 TSn (.agg #[.int .u64 7, .int .i64 2, .int .u64 7, .int .u64 7]) (.agg #[.int .u64 7, .int .i64 2, .int .u64 7, .int .u64 7])).run Try.prog W = .ok true W := ue0
  clear ue0
  have HB4 := fun o => Lib.hid (HB3.out.alloc hz3 o)
  clear hb3 HGt
  go_wp2
  go_ret
  exact ⟨rfl, (HB4 _).out⟩
end Go.Proofs.Ytnobpbbedclbkaa
/-
  Any sessions are loaded as they are, or are refused, just as the document says: the law SessionLoads, walked (layer 18).
-/
namespace Go.Proofs.Ytnobpbbedclbkaa
open Go.RowKit
set_option linter.unusedSimpArgs false
set_option linter.unusedVariables false

set_option maxHeartbeats 8000000 in
set_option maxRecDepth 100000 in
theorem loads_walk (m : Int) (hm : -9223372036854775808 ≤ m ∧ m ≤ 9223372036854775807) (A : Option Addr) (n c : Nat) (l : List Sn) (last : Nat) (w : World) (hS : SK snC 4 w A n l) (hn : n ≤ maxLen) (hin : ∀ x ∈ l, x.In) (hlast : last < 18446744073709551616) :
    Calls Try.prog 5 #[.int .i64 m, .slice A n c, .int .u64 (last : Int)] w fun e w' => e = .returned (.bool true) ∧ Below w.heap.size w w' := by
  have HL := Lib.hid (sload_any m hm A n c l last w hS hn hin hlast)
  have HM : Hid (∀ w1, Below w.heap.size w w1 → _) := Lib.hid fun w1 (h : Below w.heap.size w w1) => rsmay_any m hm A n c l last w1 (hS.below h) hn
  have HWk := Lib.hid works_any
  have HS := Lib.hid hS
  have HSl := Lib.hid hS.1
  have HNn := Lib.hid hn
  obtain ⟨g0, hg0⟩ : ∃ g0, w.heap.size = g0 := ⟨_, rfl⟩
  rw [hg0] at HL HM ⊢
  have HG0 := Lib.hid hg0
  obtain ⟨mo, hmo⟩ : ∃ mo, mostT m = mo := ⟨_, rfl⟩
  rw [hmo] at HL HM
  clear hm hS hn hin hlast hg0 hmo
  go_enter Try.func5, Try.ntmps5
  go_wp2_with fail
  refine HL.out.mono ?_
  rintro e w1 ⟨hb1, ⟨hY, B, Bt, rfl, hat⟩ | ⟨hN, rfl⟩⟩
  · have HB1 := Lib.hid hb1
    have HAt := Lib.hid hat
    have HYes := Lib.hid hY
    have HM1 := Lib.hid (HM.out w1 hb1)
    have hz1 : g0 ≤ w1.heap.size := by have := hb1.size; have := HG0.out; omega
    clear hb1 hat hY HL HM
    go_wp2_with fail
    refine HM1.out.mono ?_
    rintro e w2 ⟨b, rfl, hb, hb2⟩
    obtain rfl := hb.2 HYes.out
    have HB2 : Hid (Below g0 w w2) := Lib.hid (HB1.out.trans (hb2.mono hz1))
    have HAt2 := Lib.hid (HAt.out.below hb2)
    have hz2 : g0 ≤ w2.heap.size := by have := HB2.out.size; have := HG0.out; omega
    have HLi := Lib.hid (slist_any HAt2.out)
    clear hb hb2 HM1
    go_wp2_with fail
    refine HLi.out.mono ?_
    rintro e w3 ⟨v, rfl, hr3, hb3⟩
    obtain ⟨A3, c3, rfl, s3, _⟩ := SK.of_row snC_len hr3
    have HB3 : Hid (Below g0 w w3) := Lib.hid (HB2.out.trans (hb3.mono hz2))
    have HAt3 := Lib.hid (HAt2.out.below hb3)
    have hz3 : g0 ≤ w3.heap.size := by have := HB3.out.size; have := HG0.out; omega
    have HSm := Lib.hid (rssame_any A3 n c3 l A c w3 (by have := s3; simp only [HSl.out] at this; exact this) (HS.out.below (by rw [HG0.out]; exact HB3.out)) HNn.out)
    have hl := HSl.out
    clear hr3 hb3 s3 HLi
    simp only [hl]
    go_wp2_with fail
    refine HSm.out.mono ?_
    rintro e w4 ⟨rfl, hb4⟩
    have HB4 : Hid (Below g0 w w4) := Lib.hid (HB3.out.trans (hb4.mono hz3))
    have HAt4 := Lib.hid (HAt3.out.below hb4)
    have hz4 : g0 ≤ w4.heap.size := by have := HB4.out.size; have := HG0.out; omega
    clear hb4 HSm
    go_wp2_with fail
    refine (slast_any HAt4.out).mono ?_
    rintro e w5 ⟨rfl, rfl⟩
    simp only
    have zz : ((last : Int) == (last : Int)) = true := by simp
    go_wp2_with fail
    refine (HWk.out w4).mono ?_
    rintro e w6 ⟨rfl, hb6⟩
    have HB6 : Hid (Below g0 w w6) := Lib.hid (HB4.out.trans (hb6.mono hz4))
    clear hb6
    go_wp2
    go_ret
    exact ⟨rfl, HB6.out⟩
  · have HB1 := Lib.hid hb1
    have HNo := Lib.hid hN
    have HM1 := Lib.hid (HM.out w1 hb1)
    have hz1 : g0 ≤ w1.heap.size := by have := hb1.size; have := HG0.out; omega
    clear hb1 hN HL HM
    go_wp2_with fail
    refine HM1.out.mono ?_
    rintro e w2 ⟨b, rfl, hb, hb2⟩
    have HB2 : Hid (Below g0 w w2) := Lib.hid (HB1.out.trans (hb2.mono hz1))
    have hz2 : g0 ≤ w2.heap.size := by have := HB2.out.size; have := HG0.out; omega
    cases b with
    | true => exact absurd (hb.1 rfl) HNo.out
    | false =>
      clear hb hb2 HM1
      go_wp2_with fail
      refine (HWk.out w2).mono ?_
      rintro e w6 ⟨rfl, hb6⟩
      have HB6 : Hid (Below g0 w w6) := Lib.hid (HB2.out.trans (hb6.mono hz2))
      clear hb6
      go_wp2
      go_ret
      exact ⟨rfl, HB6.out⟩
end Go.Proofs.Ytnobpbbedclbkaa
