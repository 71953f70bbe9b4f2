/-
  The program's sessions: all that the laws want of them (layer 18).
-/
import Derived.Test.YtnobpbbedclbkaaZj32
import Derived.Test.YtnobpbbedclbkaaZj34
import Derived.Test.YtnobpbbedclbkaaZj35
import Derived.Test.YtnobpbbedclbkaaZj37
import Derived.Test.YtnobpbbedclbkaaZj42
import Derived.Test.YtnobpbbedclbkaaZj44
namespace Go.Proofs.Ytnobpbbedclbkaa
end Go.Proofs.Ytnobpbbedclbkaa
/-
  The law's own nums, works (layer 18).
-/
namespace Go.Proofs.Ytnobpbbedclbkaa
open Go.RowKit
set_option linter.unusedSimpArgs false
set_option linter.unusedVariables false

set_option maxHeartbeats 2000000 in
theorem nums_any (A : Option Addr) (n c : Nat) (l : List Nat) (A2 : Option Addr) (c2 : Nat) (w : World) (hS : SK nuC 1 w A n l) (hS2 : SK nuC 1 w A2 n l) (hn : n ≤ maxLen) :
    Calls Try.prog 13 #[.slice A n c, .slice A2 n c2] w fun e w' => e = .returned (.bool true) ∧ Below w.heap.size w w' := by
  unfold maxLen at hn
  have hm : n ≤ 9223372036854775807 := by omega
  have HL := Lib.hid hS.1
  have HS := Lib.hid hS
  have HS2 := Lib.hid hS2
  have zz2 : (n != n) = false := by simp
  clear hS hS2 hn
  go_enter Try.func13, Try.ntmps13
  go_wp2
  go_loopw [5] (fun i wr => ∃ k : Nat, k ≤ n ∧ i = .int .i64 (k : Int) ∧ Hid (Below w.heap.size w wr)) (fun i _ => n - (intOf i).toNat)
  case atStart => exact ⟨0, Nat.zero_le _, rfl, Lib.hid (Below.refl _ _)⟩
  case round =>
    obtain ⟨k, hk, rfl, hb⟩ := hrel
    by_cases hlt : k < n
    · have hkl : k < l.length := by have := HL.out; omega
      obtain ⟨b, off, rfl, hbl, hit⟩ := (HS.out.below hb.out).at_ hlt hkl
      obtain ⟨b2, off2, rfl, hbl2, hit2⟩ := (HS2.out.below hb.out).at_ hlt hkl
      obtain ⟨x, hx⟩ : ∃ x, l[k] = x := ⟨_, rfl⟩
      rw [hx] at hit hit2
      have c0 := nu_cell hit
      have d0 := nu_cell hit2
      have q1 : (k : Int) < (n : Int) := by omega
      have q0 : (0 : Int) ≤ (k : Int) := by omega
      have q2 : ((x : Int) != (x : Int)) = false := by simp
      clear hx hit hit2
      go_wp2
      go_quiet (fail)
      go_wp2
      go_roundw
      case rel => exact ⟨k + 1, by omega, by go_num, Lib.hid (below_drewN hb.out nq)⟩
      case measure => simp [intOf]; omega
    · go_wp2
      go_ret
      exact ⟨rfl, hb.out⟩
set_option maxHeartbeats 2000000 in
theorem works_any (w : World) : Calls Try.prog 22 #[] w fun e w' => e = .returned (.bool true) ∧ Below w.heap.size w w' := by
  obtain ⟨g0, hg0⟩ : ∃ g0, w.heap.size = g0 := ⟨_, rfl⟩
  have HG0 := Lib.hid hg0
  have HN := Lib.hid (snew_any 9 w (by decide))
  rw [hg0] at HN ⊢
  have h9 : mostT 9 = 9 := by decide
  rw [h9] at HN
  clear hg0 h9
  go_enter Try.func22, Try.ntmps22
  go_wp2_with fail
  refine HN.out.mono ?_
  rintro e w1 ⟨B, Bt, rfl, hp, hb1⟩
  have HB1 := Lib.hid hb1
  have hop : (Ls.openS ⟨9, [], 0⟩ 2 7) = ((7, 0), ⟨9, [newS 2 7], 7⟩) := by rfl
  have ho := sopen_any 2 7 hp (by decide)
  rw [hop] at ho
  have HO : Hid (Calls Try.prog 9 #[.pointer (some ⟨B, 0, none⟩), .int .i64 2, .int .u64 7] w1 fun e w' => e = .returned (.tuple #[.int .u64 7, .int .i64 0]) ∧ SAt (fun k => g0 ≤ k ∨ w1.heap.size ≤ k) w' B Bt ⟨9, [newS 2 7], 7⟩ ∧ But (· = Bt) w1 w') := Lib.hid ho
  have hz1 : g0 ≤ w1.heap.size := by have := hb1.size; have := HG0.out; omega
  have hBt : g0 ≤ Bt := hp.tmine.1
  clear hp hb1 HN hop ho
  go_wp2_with fail
  refine HO.out.mono ?_
  rintro e w2 ⟨rfl, hp2, hb2⟩
  have HB2 : Hid (Below g0 w w2) := Lib.hid (HB1.out.trans (hb2.below hz1 fun j hj e => by omega))
  have hgt : getS [newS 2 7] 7 = some (newS 2 7) := by rfl
  have hg := sget_any 7 hp2 (by decide)
  simp only [hgt] at hg
  have HGt : Hid (Calls Try.prog 20 #[.pointer (some ⟨B, 0, none⟩), .int .u64 7] w2 fun e w' => e = .returned (.tuple #[.agg #[.int .u64 7, .int .i64 2, .int .u64 7, .int .u64 7], .bool true]) ∧ Below w2.heap.size w2 w') := Lib.hid hg
  have hz2 : g0 ≤ w2.heap.size := by have := HB2.out.size; have := HG0.out; omega
  clear hp2 hb2 HO hgt hg
  go_wp2_with fail
  refine HGt.out.mono ?_
  rintro e w3 ⟨rfl, hb3⟩
  have HB3 : Hid (Below g0 w w3) := Lib.hid (HB2.out.trans (hb3.mono hz2))
  have hz3 : g0 ≤ w3.heap.size := by have := HB3.out.size; have := HG0.out; omega
  have ug := sn_guard
  have ue0 := sn_eq (newS 2 7) (newS 2 7)
  rw [(eqSn_iff _ _).2 rfl] at ue0
  have ue : ∀ W : World, (Op.equalIn 10000 TSn (.agg #[.int .u64 7, .int .i64 2, .int .u64 7, .int .u64 7]) (.agg #[.int .u64 7, .int .i64 2, .int .u64 7, .int .u64 7])).run Try.prog W = .ok true W := ue0
  clear ue0
  have HB4 := fun o => Lib.hid (HB3.out.alloc hz3 o)
  clear hb3 HGt
  go_wp2
  go_ret
  exact ⟨rfl, (HB4 _).out⟩
end Go.Proofs.Ytnobpbbedclbkaa
