/-
  The walks of the document's plain From, Sum and Sealed (layer 2).
-/
import Derived.Test.YtkbllhpjfgeaaaaBits
import Derived.Test.YtkbllhpjfgeaaaaBMem
import Derived.LoopTactic
import Derived.Lib.Hide
import Derived.IntWalk
import Derived.Laws.BitsAll
namespace Go.Proofs.Ytkbllhpjfgeaaaa
open Go.RowKit
set_option linter.unusedSimpArgs false

theorem ret_u32 {a b : Int} (h : a = b) : Ending.returned (.int .u32 a) = .returned (.int .u32 b) := by rw [h]
theorem not_toNat (r : BitVec 32) : ((~~~ r).toNat : Int) = 4294967295 - (r.toNat : Int) := by
  rw [BitVec.toNat_not]
  have := r.isLt
  omega

theorem xor_step (r : Nat) : bits .xor .u32 ((r : Int) % 2147483648 * 2) 79764919 = (((r % 2147483648 * 2) ^^^ 79764919 : Nat) : Int) := by
  have h := u32_xor_nat (r % 2147483648 * 2) 79764919 (by omega) (by omega)
  rw [← h]
  congr 1

set_option maxHeartbeats 1000000 in
theorem rfrom_any (A : Option Addr) (n c : Nat) (xs : List UInt8) (s : BitVec 32) (w : World) (h : RB w A n xs) (hn : n ≤ maxLen) :
    Calls Try.prog 49 #[.int .u32 (s.toNat : Int), .slice A n c] w fun e w' => e = .returned (.int .u32 ((crcFrom s xs).toNat : Int)) ∧ w = w' := by
  have hl := h.1
  unfold maxLen at hn
  have hs := s.isLt
  obtain ⟨S, hS⟩ : ∃ S : Nat, s.toNat = S := ⟨_, rfl⟩
  obtain ⟨R0, hR0⟩ : ∃ R0 : BitVec 32, ~~~ s = R0 := ⟨_, rfl⟩
  have hR0n : (R0.toNat : Int) = 4294967295 - (S : Int) := by rw [← hR0, not_toNat, hS]
  have HF : Hid (∀ R : BitVec 32, R = feedV R0 (bitsL xs) → (((crcFrom s xs).toNat : Int) = 4294967295 - (R.toNat : Int))) := Lib.hid (by
    rintro R rfl
    rw [crcFrom, hR0, not_toNat])
  rw [hS]
  rw [hS] at hs
  clear hS hR0
  have HR0 := Lib.hid hR0n
  clear hR0n
  go_enter Try.func49, Try.ntmps49
  go_wp2
  go_loop [5, 6] (fun r i => ∃ (k : Nat) (R : BitVec 32), k ≤ n ∧ i = .int .i64 k ∧ R = feedV R0 (bitsL (xs.take k)) ∧ r = .int .u32 (R.toNat : Int)) (fun _ i => n - (intOf i).toNat)
  case atStart => exact ⟨0, R0, Nat.zero_le _, rfl, by simp [bitsL_nil, feed_nil], by rw [HR0.out]⟩
  case round =>
    obtain ⟨k, R, hk, rfl, hR, rfl⟩ := hrel
    by_cases hlt : k < n
    · obtain ⟨b, off, rfl, hb, hc⟩ := h.2 (by omega)
      have q : k < xs.length := by omega
      have hcell := hc k q
      have HR := Lib.hid (show feedV R (byteBits xs[k]) = feedV R0 (bitsL (xs.take (k + 1))) by
        rw [List.take_succ_eq_append_getElem q, bitsL_append, bitsL_one, feed_append, ← hR])
      have hRl := R.isLt
      obtain ⟨x, hx⟩ : ∃ x : UInt8, xs[k] = x := ⟨_, rfl⟩
      rw [hx] at hcell HR
      have hxl := x.toNat_lt
      clear hc h hR hx
      go_wp2
      go_loop [5, 7, 8] (fun r y i => ∃ j : Nat, j ≤ 8 ∧ i = .int .i64 j ∧ r = .int .u32 (regAt R x j : Int) ∧ y = .int .u8 ((x.toNat * 2 ^ j % 256 : Nat) : Int)) (fun _ _ i => 8 - (intOf i).toNat)
      case atStart => exact ⟨0, Nat.zero_le _, rfl, by rw [reg_zero], by simp⟩
      case round =>
        obtain ⟨j, hj, rfl, rfl, rfl⟩ := hrel
        by_cases hj8 : j < 8
        · have hnx := reg_next R x hj8
          obtain ⟨_, hle, hx2⟩ := bit_next x hj8
          have hreg := reg_lt R x j
          obtain ⟨r, hr⟩ : ∃ r, regAt R x j = r := ⟨_, rfl⟩
          obtain ⟨y, hy⟩ : ∃ y, x.toNat * 2 ^ j % 256 = y := ⟨_, rfl⟩
          have hy256 : y < 256 := by omega
          rw [hr, hy] at hnx
          rw [hy] at hle hx2
          rw [hr] at hreg
          rw [hr, hy]
          by_cases ht : r / 2147483648 = y / 128
          · rw [if_pos ht] at hnx
            have HN := Lib.hid hnx
            have HX := Lib.hid hx2
            have t1 : ((r : Int) / 2147483648 == (y : Int) / 128) = true := by rw [beq_iff_eq]; omega
            have t2 : ((r : Int) / 2147483648 != (y : Int) / 128) = false := by rw [bne, t1]; rfl
            clear hnx hx2 hr hy ht
            go_wp2
            exact ⟨⟨j + 1, by omega, by go_num, congrArg (Value.int _) (by have := HN.out; omega), congrArg (Value.int _) (by have := HX.out; omega)⟩, by simp [intOf]; omega⟩
          · rw [if_neg ht] at hnx
            have HN := Lib.hid hnx
            have HX := Lib.hid hx2
            have t1 : ((r : Int) / 2147483648 == (y : Int) / 128) = false := by rw [beq_eq_false_iff_ne]; omega
            have t2 : ((r : Int) / 2147483648 != (y : Int) / 128) = true := by rw [bne, t1]; rfl
            clear hnx hx2 hr hy ht
            go_wp2
            exact ⟨⟨j + 1, by omega, by go_num, congrArg (Value.int _) (by rw [xor_step, HN.out]), congrArg (Value.int _) (by have := HX.out; omega)⟩, by simp [intOf]; omega⟩
        · obtain rfl : j = 8 := by omega
          have e : regAt R x 8 = (feedV R (byteBits x)).toNat := reg_eight R x
          have HE := Lib.hid e
          clear e
          go_wp2
          exact ⟨⟨k + 1, feedV R0 (bitsL (xs.take (k + 1))), by omega, by go_num, rfl, by rw [HE.out, HR.out]⟩, by simp [intOf]; omega⟩
    · obtain rfl : k = n := by omega
      have e : xs.take k = xs := List.take_of_length_le (by omega)
      rw [e] at hR
      have HS := Lib.hid (HF.out R hR)
      have hRl := R.isLt
      clear hR h e
      go_wp2
      go_ret
      exact ⟨ret_u32 HS.out.symm, rfl⟩
end Go.Proofs.Ytkbllhpjfgeaaaa
