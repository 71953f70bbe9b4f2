/-
  Plain lemmas: the bits of bytes, and the checksum of a row of bytes (layer 2), over XCrc.lean. Nothing of any program stands here.
-/
import Derived.Test.YtkbllhpjfgeaaaaCrc
namespace Go.Proofs.Ytkbllhpjfgeaaaa

/-- A byte's bits, from the highest down. -/
def byteBits (c : UInt8) : List Bool := (List.range 8).map fun i => c.toNat.testBit (7 - i)
def bitsL (l : List UInt8) : List Bool := l.flatMap byteBits
theorem byteBits_length (c : UInt8) : (byteBits c).length = 8 := by simp [byteBits]
theorem bitsL_nil : bitsL [] = [] := rfl
theorem bitsL_append (l m : List UInt8) : bitsL (l ++ m) = bitsL l ++ bitsL m := by simp [bitsL]
theorem bitsL_one (c : UInt8) : bitsL [c] = byteBits c := by simp [bitsL]
theorem bitsL_cons (c : UInt8) (l : List UInt8) : bitsL (c :: l) = byteBits c ++ bitsL l := by simp [bitsL]
theorem bitsL_length (l : List UInt8) : (bitsL l).length = 8 * l.length := by
  induction l with
  | nil => rfl
  | cons c l ih => rw [bitsL_cons, List.length_append, byteBits_length, ih, List.length_cons]; omega
theorem bitsL_get : ∀ (l : List UInt8) (j : Nat) (h : j < 8 * l.length), (bitsL l)[j]? = some ((l[j / 8]'(by omega)).toNat.testBit (7 - j % 8))
  | [], j, h => absurd h (by simp)
  | c :: l, j, h => by
    rw [bitsL_cons]
    by_cases h8 : j < 8
    · rw [List.getElem?_append_left (by rw [byteBits_length]; exact h8)]
      have e1 : j / 8 = 0 := by omega
      have e2 : j % 8 = j := by omega
      simp only [byteBits, List.getElem?_map, List.getElem?_range h8, Option.map_some, e1, e2, List.getElem_cons_zero]
    · rw [List.getElem?_append_right (by rw [byteBits_length]; omega), byteBits_length]
      have hl : j - 8 < 8 * l.length := by simp at h; omega
      rw [bitsL_get l (j - 8) hl]
      have e1 : j / 8 = (j - 8) / 8 + 1 := by omega
      have e2 : j % 8 = (j - 8) % 8 := by omega
      simp only [e1, e2, List.getElem_cons_succ]

/-- The checksum that goes on from s. -/
def crcFrom (s : BitVec 32) (l : List UInt8) : BitVec 32 := ~~~ feedV (~~~ s) (bitsL l)
def crc (l : List UInt8) : BitVec 32 := crcFrom 0#32 l
theorem crcFrom_nil (s : BitVec 32) : crcFrom s [] = s := by simp [crcFrom, bitsL_nil, feed_nil]
theorem crcFrom_append (s : BitVec 32) (l m : List UInt8) : crcFrom s (l ++ m) = crcFrom (crcFrom s l) m := by
  simp [crcFrom, bitsL_append, feed_append]
theorem crc_nil : crc [] = 0#32 := crcFrom_nil _

/-- The register, in the middle of a byte: what is left of the byte. -/
theorem bit_next (c : UInt8) {i : Nat} (hi : i < 8) : (c.toNat * 2 ^ i % 256 / 128 = 1 ↔ c.toNat.testBit (7 - i) = true) ∧ c.toNat * 2 ^ i % 256 / 128 ≤ 1 ∧ c.toNat * 2 ^ i % 256 % 128 * 2 = c.toNat * 2 ^ (i + 1) % 256 := by
  have hc := c.toNat_lt
  have e : c.toNat.testBit (7 - i) = decide (c.toNat / 2 ^ (7 - i) % 2 = 1) := Nat.testBit_eq_decide_div_mod_eq
  rw [e, decide_eq_true_eq]
  match i, hi with
  | 0, _ => simp; omega
  | 1, _ => simp; omega
  | 2, _ => simp; omega
  | 3, _ => simp; omega
  | 4, _ => simp; omega
  | 5, _ => simp; omega
  | 6, _ => simp; omega
  | 7, _ => simp; omega
theorem take_bit (c : UInt8) {i : Nat} (hi : i < 8) : (byteBits c).take (i + 1) = (byteBits c).take i ++ [c.toNat.testBit (7 - i)] := by
  rw [List.take_succ_eq_append_getElem (by rw [byteBits_length]; exact hi)]
  simp [byteBits]
/-- The register behind i bits of a byte. -/
def regAt (R : BitVec 32) (c : UInt8) (i : Nat) : Nat := (feedV R ((byteBits c).take i)).toNat
theorem reg_zero (R : BitVec 32) (c : UInt8) : regAt R c 0 = R.toNat := by simp [regAt, feed_nil]
theorem reg_lt (R : BitVec 32) (c : UInt8) (i : Nat) : regAt R c i < 4294967296 := (feedV R ((byteBits c).take i)).isLt
theorem reg_eight (R : BitVec 32) (c : UInt8) : regAt R c 8 = (feedV R (byteBits c)).toNat := by
  rw [regAt, List.take_of_length_le (by rw [byteBits_length]; exact Nat.le_refl _)]
theorem reg_next (R : BitVec 32) (c : UInt8) {i : Nat} (hi : i < 8) :
    regAt R c (i + 1) = if regAt R c i / 2147483648 = c.toNat * 2 ^ i % 256 / 128 then regAt R c i % 2147483648 * 2 else (regAt R c i % 2147483648 * 2) ^^^ 79764919 := by
  obtain ⟨h1, h2, _⟩ := bit_next c hi
  have hr := reg_lt R c i
  unfold regAt at *
  rw [take_bit c hi, feed_append]
  show (stepV (feedV R ((byteBits c).take i)) (c.toNat.testBit (7 - i))).toNat = _
  rw [step_nat]
  have hq : (feedV R ((byteBits c).take i)).toNat / 2147483648 ≤ 1 := by omega
  by_cases hb : c.toNat.testBit (7 - i) = true
  · have e := h1.2 hb
    rw [e, hb]
    simp
  · have e : c.toNat * 2 ^ i % 256 / 128 = 0 := by
      have : ¬ c.toNat * 2 ^ i % 256 / 128 = 1 := fun e => hb (h1.1 e)
      omega
    rw [e]
    have hb' : c.toNat.testBit (7 - i) = false := by simpa using hb
    rw [hb']
    by_cases h0 : (feedV R ((byteBits c).take i)).toNat / 2147483648 = 1
    · simp [h0]
    · have h0' : (feedV R ((byteBits c).take i)).toNat / 2147483648 = 0 := by omega
      simp [h0']
end Go.Proofs.Ytkbllhpjfgeaaaa
