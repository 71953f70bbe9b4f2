import Derived.Test.YtaicipldjmngaaaGreatDoorZj15
import Derived.LoopTactic
import Derived.Lib.Hide
import Derived.IntWalk
import Derived.Laws.BitsAll
namespace Go.Proofs.YtaicipldjmngaaaGreatDoor
def polyV : BitVec 32 := 0x04c11db7#32
def stepV (r : BitVec 32) (b : Bool) : BitVec 32 := (r <<< 1) ^^^ (if (r.msb != b) = true then polyV else 0#32)
def feedV (r : BitVec 32) (l : List Bool) : BitVec 32 := l.foldl stepV r
theorem feed_nil (r : BitVec 32) : feedV r [] = r := rfl
theorem feed_cons (r : BitVec 32) (b : Bool) (l : List Bool) : feedV r (b :: l) = feedV (stepV r b) l := rfl
theorem feed_append (r : BitVec 32) (l m : List Bool) : feedV r (l ++ m) = feedV (feedV r l) m := by simp [feedV, List.foldl_append]
theorem step_xor (a b : BitVec 32) (x y : Bool) : stepV (a ^^^ b) (x != y) = stepV a x ^^^ stepV b y := by
  unfold stepV
  rw [BitVec.msb_xor, BitVec.shiftLeft_xor_distrib]
  have h1 : ∀ p q r : BitVec 32, p ^^^ q ^^^ r = p ^^^ r ^^^ q := fun p q r => by rw [BitVec.xor_assoc, BitVec.xor_assoc, BitVec.xor_comm q r]
  have h2 : ∀ p q r : BitVec 32, p ^^^ q ^^^ r = p ^^^ (q ^^^ r) := BitVec.xor_assoc
  have h3 : ∀ p q : BitVec 32, (p ^^^ polyV) ^^^ (q ^^^ polyV) = p ^^^ q := fun p q => by rw [h2, ← h2 polyV, BitVec.xor_comm polyV q, h2 q, BitVec.xor_self, BitVec.xor_zero]
  cases a.msb <;> cases b.msb <;> cases x <;> cases y <;> simp [h3] <;> first | (rw [h1]; done) | (rw [h2]; done) | (rw [h2, BitVec.xor_comm polyV]; done)
theorem feed_xor : ∀ (l m : List Bool) (a b : BitVec 32), l.length = m.length → feedV (a ^^^ b) (List.zipWith (· != ·) l m) = feedV a l ^^^ feedV b m
  | [], [], _, _, _ => rfl
  | x :: l, y :: m, a, b, h => by
    rw [List.zipWith_cons_cons, feed_cons, feed_cons, feed_cons, step_xor, feed_xor l m _ _ (by simpa using h)]
  | [], _ :: _, _, _, h => by simp at h
  | _ :: _, [], _, _, h => by simp at h
theorem step_nat (r : BitVec 32) (b : Bool) : (stepV r b).toNat = if (r.toNat / 2147483648 = 1) ↔ (b = true) then r.toNat % 2147483648 * 2 else (r.toNat % 2147483648 * 2) ^^^ 79764919 := by
  have hr := r.isLt
  have hm : r.msb = decide (r.toNat / 2147483648 = 1) := by
    rw [BitVec.msb_eq_decide]
    rw [decide_eq_decide]
    omega
  have hs : (r <<< 1).toNat = r.toNat % 2147483648 * 2 := by
    rw [BitVec.toNat_shiftLeft, Nat.shiftLeft_eq]
    omega
  unfold stepV
  rw [BitVec.toNat_xor, hs, hm]
  by_cases h : r.toNat / 2147483648 = 1 <;> cases b <;> simp [h, polyV]
end Go.Proofs.YtaicipldjmngaaaGreatDoor

namespace Go.Proofs.YtaicipldjmngaaaGreatDoor
def byteBits (c : UInt8) : List Bool := (List.range 8).map fun i => c.toNat.testBit (7 - i)
def bitsL (l : List UInt8) : List Bool := l.flatMap byteBits
theorem byteBits_length (c : UInt8) : (byteBits c).length = 8 := by simp [byteBits]
theorem bitsL_nil : bitsL [] = [] := rfl
theorem bitsL_append (l m : List UInt8) : bitsL (l ++ m) = bitsL l ++ bitsL m := by simp [bitsL]
theorem bitsL_one (c : UInt8) : bitsL [c] = byteBits c := by simp [bitsL]
def crcFrom (s : BitVec 32) (l : List UInt8) : BitVec 32 := ~~~ feedV (~~~ s) (bitsL l)
def crc (l : List UInt8) : BitVec 32 := crcFrom 0#32 l
theorem crcFrom_nil (s : BitVec 32) : crcFrom s [] = s := by simp [crcFrom, bitsL_nil, feed_nil]
theorem crcFrom_append (s : BitVec 32) (l m : List UInt8) : crcFrom s (l ++ m) = crcFrom (crcFrom s l) m := by
  simp [crcFrom, bitsL_append, feed_append]
theorem crc_nil : crc [] = 0#32 := crcFrom_nil _
end Go.Proofs.YtaicipldjmngaaaGreatDoor

namespace Go.Proofs.YtaicipldjmngaaaGreatDoor
open Go.RowKit
set_option linter.unusedSimpArgs false
theorem ret_u32 {a b : Int} (h : a = b) : Ending.returned (.int .u32 a) = .returned (.int .u32 b) := by rw [h]
theorem not_toNat (r : BitVec 32) : ((~~~ r).toNat : Int) = 4294967295 - (r.toNat : Int) := by
  rw [BitVec.toNat_not]
  have := r.isLt
  omega
end Go.Proofs.YtaicipldjmngaaaGreatDoor

namespace Go.Proofs.YtaicipldjmngaaaGreatDoor
open Go.RowKit
set_option linter.unusedSimpArgs false
def sumBytes (v : BitVec 32) : List UInt8 := [(v.toNat / 16777216).toUInt8, (v.toNat / 65536 % 256).toUInt8, (v.toNat / 256 % 256).toUInt8, (v.toNat % 256).toUInt8]
theorem sumBytes_length (v : BitVec 32) : (sumBytes v).length = 4 := rfl
theorem toU8 {n : Nat} (h : n < 256) : (n.toUInt8).toNat = n := by simp; omega
theorem sumBytes_vals (v : BitVec 32) : (sumBytes v).map byteV = [.int .u8 ((v.toNat : Int) / 16777216), .int .u8 ((v.toNat : Int) / 65536 % 256), .int .u8 ((v.toNat : Int) / 256 % 256), .int .u8 ((v.toNat : Int) % 256)] := by
  have hv := v.isLt
  simp only [sumBytes, List.map_cons, List.map_nil, byteV]
  rw [toU8 (by omega), toU8 (by omega), toU8 (by omega), toU8 (by omega)]
  rfl
def sealB (l : List UInt8) : List UInt8 := l ++ sumBytes (crc l)
end Go.Proofs.YtaicipldjmngaaaGreatDoor

namespace Go.Proofs.YtaicipldjmngaaaGreatDoor
def sealedB (l : List UInt8) : Bool := decide (4 ≤ l.length) && decide (l.drop (l.length - 4) = sumBytes (crc (l.take (l.length - 4))))
theorem sealed_short {l : List UInt8} (h : l.length < 4) : sealedB l = false := by
  rw [sealedB, decide_eq_false (by omega), Bool.false_and]
theorem sealed_seal {l : List UInt8} (h : 4 ≤ l.length) : sealedB l = decide (sealB (l.take (l.length - 4)) = l) := by
  rw [sealedB, decide_eq_true h, Bool.true_and, decide_eq_decide, sealB]
  constructor
  · intro e
    rw [← e, List.take_append_drop]
  · intro e
    have h1 := congrArg (List.drop (l.length - 4)) e
    have hl : (l.take (l.length - 4)).length = l.length - 4 := by rw [List.length_take]; omega
    rw [List.drop_append_of_le_length (by omega), List.drop_of_length_le (by omega), List.nil_append] at h1
    exact h1.symm
end Go.Proofs.YtaicipldjmngaaaGreatDoor
