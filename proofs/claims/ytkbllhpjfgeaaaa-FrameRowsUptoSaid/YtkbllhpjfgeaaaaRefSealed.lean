/-
  The walks of the document's plain Sum and Sealed (layer 2).
-/
import Derived.Test.YtkbllhpjfgeaaaaRefFrom
import Derived.Test.YtkbllhpjfgeaaaaBOwn
namespace Go.Proofs.Ytkbllhpjfgeaaaa
open Go.RowKit
set_option linter.unusedSimpArgs false

theorem rsum_any (A : Option Addr) (n c : Nat) (xs : List UInt8) (w : World) (h : RB w A n xs) (hn : n ≤ maxLen) :
    Calls Try.prog 39 #[.slice A n c] w fun e w' => e = .returned (.int .u32 ((crc xs).toNat : Int)) ∧ w = w' := by
  have c1 := rfrom_any A n c xs 0#32 w h hn
  rw [show ((0#32 : BitVec 32).toNat : Int) = 0 from rfl, show crcFrom 0#32 xs = crc xs from rfl] at c1
  clear h
  go_enter Try.func39, Try.ntmps39
  go_wp2_with (go_at_call 49; refine c1.mono ?_; rintro e w' ⟨rfl, rfl⟩)
  go_ret
  exact ⟨rfl, rfl⟩

/-! ### A sum's bytes -/
def sumBytes (v : BitVec 32) : List UInt8 := [(v.toNat / 16777216).toUInt8, (v.toNat / 65536 % 256).toUInt8, (v.toNat / 256 % 256).toUInt8, (v.toNat % 256).toUInt8]
theorem sumBytes_length (v : BitVec 32) : (sumBytes v).length = 4 := rfl
theorem toU8 {n : Nat} (h : n < 256) : (n.toUInt8).toNat = n := by simp; omega
theorem sumBytes_vals (v : BitVec 32) : (sumBytes v).map byteV = [.int .u8 ((v.toNat : Int) / 16777216), .int .u8 ((v.toNat : Int) / 65536 % 256), .int .u8 ((v.toNat : Int) / 256 % 256), .int .u8 ((v.toNat : Int) % 256)] := by
  have hv := v.isLt
  simp only [sumBytes, List.map_cons, List.map_nil, byteV]
  rw [toU8 (by omega), toU8 (by omega), toU8 (by omega), toU8 (by omega)]
  rfl
theorem sumBytes_bits (v : BitVec 32) : bitsL (sumBytes v) = wordBits v := by
  apply List.ext_getElem
  · rw [bitsL_length, sumBytes_length, wordBits_length]
  · intro j h1 h2
    rw [wordBits_length] at h2
    have hg := bitsL_get (sumBytes v) j (by rw [sumBytes_length]; exact h2)
    rw [List.getElem?_eq_getElem h1] at hg
    rw [Option.some.inj hg]
    have hv := v.isLt
    have hr : (wordBits v)[j] = v.toNat.testBit (31 - j) := by simp [wordBits, BitVec.getLsbD]
    suffices hk : ((sumBytes v)[j / 8]'(by rw [sumBytes_length]; omega)).toNat.testBit (7 - j % 8) = v.toNat.testBit (31 - j) from hk.trans hr.symm
    have key : ∀ (q : Nat) (m : UInt8), q < 4 → j / 8 = q → (sumBytes v)[q]? = some m → m.toNat = v.toNat / 2 ^ (24 - 8 * q) % 256 → ((sumBytes v)[j / 8]'(by rw [sumBytes_length]; omega)).toNat.testBit (7 - j % 8) = v.toNat.testBit (31 - j) := by
      intro q m hq hj hm hmn
      have e : (sumBytes v)[j / 8]'(by rw [sumBytes_length]; omega) = m := by
        have : (sumBytes v)[j / 8]? = some m := by rw [hj]; exact hm
        exact (List.getElem?_eq_some_iff.1 this).2
      rw [e, hmn, show (256 : Nat) = 2 ^ 8 from rfl, Nat.testBit_mod_two_pow, Nat.testBit_div_two_pow]
      rw [decide_eq_true (show 7 - j % 8 < 8 by omega), Bool.true_and]
      congr 1
      omega
    have h4 : j / 8 < 4 := by omega
    rcases (show j / 8 = 0 ∨ j / 8 = 1 ∨ j / 8 = 2 ∨ j / 8 = 3 by omega) with e | e | e | e
    · exact key 0 _ (by omega) e rfl (by rw [toU8 (by omega)]; first | done | omega)
    · exact key 1 _ (by omega) e rfl (by rw [toU8 (by omega)])
    · exact key 2 _ (by omega) e rfl (by rw [toU8 (by omega)]; first | done | omega)
    · exact key 3 _ (by omega) e rfl (by rw [toU8 (by omega)]; first | done | omega)

/-- A row, and its sum behind it. -/
def sealB (l : List UInt8) : List UInt8 := l ++ sumBytes (crc l)

set_option maxHeartbeats 1000000 in
theorem rsealed_any (A : Option Addr) (n c : Nat) (xs : List UInt8) (w : World) (h : RB w A n xs) (hn : n ≤ 140737488351232) :
    Calls Try.prog 30 #[.slice A n c] w fun e w' => BGives w (sealB xs) e w' := by
  obtain ⟨i0, hi, hz0, hz1, hz2⟩ := info_parts u8_info
  have hl := h.1
  go_enter Try.func30, Try.ntmps30
  go_wp2
  go_loopw [3, 4] (fun v i wr => ∃ k : Nat, k ≤ n ∧ i = .int .i64 k ∧ BOwn w w.heap.size v (xs.take k) wr) (fun _ i _ => n - (intOf i).toNat)
  case atStart => exact ⟨0, Nat.zero_le _, rfl, by simpa using BOwn.start w⟩
  case round =>
    obtain ⟨k, hk, rfl, ho⟩ := hrel
    have hszw := ho.2.1.size
    have HO := Lib.hid ho
    by_cases hlt : k < n
    · have q : k < xs.length := by omega
      obtain ⟨b, off, rfl, hbw, hc⟩ := (h.below ho.2.1).2 (by omega)
      have hcell := hc k q
      have HT := Lib.hid (List.take_succ_eq_append_getElem q)
      have hlk : (xs.take k).length ≤ k := List.length_take_le _ _
      obtain ⟨P, hP⟩ : ∃ P, xs.take k = P := ⟨_, rfl⟩
      rw [hP] at HT hlk ho
      have HO2 := Lib.hid ho
      clear hc h ho HO hP
      go_wp2_with (at_builtin; refine wpList_append_own _ rfl (.tmp 12) (.tmp 17) 22 rfl w.heap.size 5 i0 (.int .u8 0) 1 1 Try.underlying22 hi hz0 hz1 hz2 rfl (by decide) _ P.length (P.map byteV) rfl (HO2.out.1.alloc _) ⟨_, 0, none⟩ 1 1 [byteV xs[k]] rfl rfl ?c1 ?c2 ?c3 ?c4 ?c5 ?_)
      case c1 =>
        intro j u hj
        match j, hj with
        | 0, hj => simp at hj; subst hj; simp [Addr.add, byteV]
      case c2 => intro u hu; simp at hu; subst hu; rfl
      case c3 => unfold maxLen; omega
      case c4 => omega
      case c5 => simp; omega
      intro v2 w2 hown2 hg2 _
      have HO3 := Lib.hid (show BOwn w w.heap.size v2 (xs.take (k + 1)) w2 from HT.out ▸ bown_one HO2.out hown2 hg2)
      clear hown2 hg2
      go_wp2
      go_roundw
      case rel => exact ⟨k + 1, by omega, by go_num, HO3.out⟩
      case measure => simp [intOf]; omega
    · obtain rfl : k = n := by omega
      have cs := rsum_any A k c xs wr (h.below ho.2.1) (by unfold maxLen; omega)
      have e : xs.take k = xs := List.take_of_length_le (by omega)
      rw [e] at ho
      have HO2 := Lib.hid ho
      have HV := Lib.hid (sumBytes_vals (crc xs))
      have hv := (crc xs).isLt
      obtain ⟨V, hV⟩ : ∃ V, (crc xs).toNat = V := ⟨_, rfl⟩
      rw [hV] at cs HV hv
      clear h ho HO e hV
      go_wp2_with (first
        | (go_at_call 39; refine cs.mono ?_; rintro e w' ⟨rfl, rfl⟩)
        | (at_builtin; refine wpList_append_own _ rfl (.tmp 21) (.tmp 36) 22 rfl w.heap.size 5 i0 (.int .u8 0) 1 1 Try.underlying22 hi hz0 hz1 hz2 rfl (by decide) _ xs.length (xs.map byteV) rfl (HO2.out.1.alloc _) ⟨_, 0, none⟩ 4 4 [.int .u8 ((V : Int) / 16777216), .int .u8 ((V : Int) / 65536 % 256), .int .u8 ((V : Int) / 256 % 256), .int .u8 ((V : Int) % 256)] rfl rfl ?c1 ?c2 ?c3 ?c4 ?c5 ?_))
      case c1 =>
        intro j u hj
        match j, hj with
        | 0, hj => simp at hj; subst hj; simp [Addr.add]
        | 1, hj => simp at hj; subst hj; simp [Addr.add]
        | 2, hj => simp at hj; subst hj; simp [Addr.add]
        | 3, hj => simp at hj; subst hj; simp [Addr.add]
      case c2 => intro u hu; simp at hu; rcases hu with rfl | rfl | rfl | rfl <;> rfl
      case c3 => unfold maxLen; omega
      case c4 => omega
      case c5 => simp; omega
      intro v2 w2 hown2 hg2 _
      rw [← HV.out] at hown2
      have hown3 : w2.ownsRow w.heap.size 5 1 v2 (xs.length + (sumBytes (crc xs)).length) (xs.map byteV ++ (sumBytes (crc xs)).map byteV) := by rw [hl]; exact hown2
      obtain ⟨A1, d1, hv1, hR⟩ := (bown_new HO2.out hown3 hg2).gives
      simp only [Ending.returned.injEq] at hv1
      subst hv1
      clear hown2 hown3 hg2
      go_wp2
      go_ret
      exact ⟨A1, d1, rfl, hR⟩
end Go.Proofs.Ytkbllhpjfgeaaaa
