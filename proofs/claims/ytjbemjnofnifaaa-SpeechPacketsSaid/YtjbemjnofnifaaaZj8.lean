/-
  Plain lemmas on the checksum's register (layer 2): a step with a bit, its linearity over exclusive or, and why bits that are turned within 32 turn the sum. Nothing of any program stands here.
-/
import Derived.Test.YtjbemjnofnifaaaZj3
import Derived.LoopTactic
import Derived.Lib.Hide
import Derived.IntWalk
import Derived.Laws.BitsAll
namespace Go.Proofs.Ytjbemjnofnifaaa

/-- What is laid over the register where a bit falls out. -/
def polyV : BitVec 32 := 0x04c11db7#32
/-- The register goes on by a bit. -/
def stepV (r : BitVec 32) (b : Bool) : BitVec 32 := (r <<< 1) ^^^ (if (r.msb != b) = true then polyV else 0#32)
/-- .. by bits. -/
def feedV (r : BitVec 32) (l : List Bool) : BitVec 32 := l.foldl stepV r

theorem feed_nil (r : BitVec 32) : feedV r [] = r := rfl
theorem feed_cons (r : BitVec 32) (b : Bool) (l : List Bool) : feedV r (b :: l) = feedV (stepV r b) l := rfl
theorem feed_append (r : BitVec 32) (l m : List Bool) : feedV r (l ++ m) = feedV (feedV r l) m := by simp [feedV, List.foldl_append]

theorem step_xor (a b : BitVec 32) (x y : Bool) : stepV (a ^^^ b) (x != y) = stepV a x ^^^ stepV b y := by
  unfold stepV
  rw [BitVec.msb_xor, BitVec.shiftLeft_xor_distrib]
  have h1 : ∀ p q r : BitVec 32, p ^^^ q ^^^ r = p ^^^ r ^^^ q := fun p q r => by rw [BitVec.xor_assoc, BitVec.xor_assoc, BitVec.xor_comm q r]
  have h2 : ∀ p q r : BitVec 32, p ^^^ q ^^^ r = p ^^^ (q ^^^ r) := BitVec.xor_assoc
  have h3 : ∀ p q : BitVec 32, (p ^^^ polyV) ^^^ (q ^^^ polyV) = p ^^^ q := fun p q => by rw [h2, ← h2 polyV, BitVec.xor_comm polyV q, h2 q, BitVec.xor_self, BitVec.xor_zero]
  cases a.msb <;> cases b.msb <;> cases x <;> cases y <;> simp [h3] <;> first | (rw [h1]; done) | (rw [h2]; done) | (rw [h2, BitVec.xor_comm polyV]; done)

theorem feed_xor : ∀ (l m : List Bool) (a b : BitVec 32), l.length = m.length → feedV (a ^^^ b) (List.zipWith (· != ·) l m) = feedV a l ^^^ feedV b m
  | [], [], _, _, _ => rfl
  | x :: l, y :: m, a, b, h => by
    rw [List.zipWith_cons_cons, feed_cons, feed_cons, feed_cons, step_xor, feed_xor l m _ _ (by simpa using h)]
  | [], _ :: _, _, _, h => by simp at h
  | _ :: _, [], _, _, h => by simp at h

theorem step_low (r : BitVec 32) (b : Bool) : (stepV r b).getLsbD 0 = (r.msb != b) := by
  unfold stepV
  rw [BitVec.getLsbD_xor]
  cases (r.msb != b) <;> simp [polyV]

/-- Behind a register of zeros: what it was. -/
theorem feed_back : ∀ (m : List Bool), m.length ≤ 32 → ∀ R : BitVec 32, feedV R m = 0#32 → ∀ i, i < 32 → R.getLsbD (31 - i) = m.getD i false
  | [], _, R, h, i, hi => by
    rw [feed_nil] at h
    subst h
    simp
  | b :: m, hl, R, h, i, hi => by
    rw [feed_cons] at h
    have hl' : m.length ≤ 31 := by simpa using hl
    have ih := feed_back m (by omega) (stepV R b) h
    have h0 : (R.msb != b) = false := by
      rw [← step_low]
      have := ih 31 (by omega)
      rw [show 31 - 31 = 0 from rfl] at this
      rw [this, List.getD_eq_getElem?_getD, List.getElem?_eq_none (by omega)]
      rfl
    have hs : stepV R b = R <<< 1 := by
      unfold stepV
      rw [h0]
      simp
    have hb : R.msb = b := by simpa using h0
    cases i with
    | zero =>
      rw [← BitVec.msb_eq_getLsbD_last, hb]
      rfl
    | succ i =>
      have := ih i (by omega)
      rw [hs, BitVec.getLsbD_shiftLeft] at this
      have e : 31 - i - 1 = 31 - (i + 1) := by omega
      simp only [show 31 - i < 32 by omega, show ¬ 31 - i < 1 by omega, decide_true, decide_false, Bool.not_false, Bool.true_and, Bool.and_true, e] at this
      rw [this]
      rfl

theorem feed_zero_back {m : List Bool} (hl : m.length ≤ 32) {R : BitVec 32} (hm : ∀ i, m.getD i false = false) (h : feedV R m = 0#32) : R = 0#32 := by
  apply BitVec.eq_of_getLsbD_eq
  intro i hi
  have := feed_back m hl R h (31 - i) (by omega)
  rw [hm, show 31 - (31 - i) = i by omega] at this
  rw [this]
  simp
theorem step_false_zero : stepV 0#32 false = 0#32 := by decide
theorem step_false_back {R : BitVec 32} (h : stepV R false = 0#32) : R = 0#32 :=
  feed_zero_back (m := [false]) (by simp) (fun i => by cases i <;> simp) h
theorem feed_zeros (k : Nat) : feedV 0#32 (List.replicate k false) = 0#32 := by
  induction k with
  | zero => rfl
  | succ k ih => rw [List.replicate_succ, feed_cons, step_false_zero, ih]
theorem feed_zeros_back : ∀ (k : Nat) (R : BitVec 32), feedV R (List.replicate k false) = 0#32 → R = 0#32
  | 0, _, h => h
  | k + 1, R, h => by
    rw [List.replicate_succ, feed_cons] at h
    exact step_false_back (feed_zeros_back k _ h)

/-- A burst of at most 32 bits, one of them set, is told. -/
theorem burst {k j : Nat} {m : List Bool} (hl : m.length ≤ 32) (hm : true ∈ m) : feedV 0#32 (List.replicate k false ++ m ++ List.replicate j false) ≠ 0#32 := by
  intro h
  rw [feed_append, feed_append, feed_zeros] at h
  have h1 := feed_zeros_back _ _ h
  obtain ⟨i, hi, he⟩ := List.mem_iff_getElem.1 hm
  have h2 := feed_back m hl 0#32 h1 i (by omega)
  rw [List.getD_eq_getElem?_getD, List.getElem?_eq_getElem hi, he] at h2
  simp at h2
theorem no_burst (k j i : Nat) : feedV 0#32 (List.replicate k false ++ List.replicate i false ++ List.replicate j false) = 0#32 := by
  rw [feed_append, feed_append, feed_zeros, feed_zeros, feed_zeros]

/-- Bits are fed as they lie: two registers that end alike began alike. -/
theorem feed_inj {l : List Bool} {a b : BitVec 32} (h : feedV a l = feedV b l) : a = b := by
  have h1 := feed_xor l l a b rfl
  rw [h, BitVec.xor_self] at h1
  have h2 : List.zipWith (· != ·) l l = List.replicate l.length false := by
    clear h h1
    induction l with
    | nil => rfl
    | cons x l ih => rw [List.zipWith_cons_cons, ih]; simp [List.replicate_succ]
  rw [h2] at h1
  have h3 := feed_zeros_back _ _ h1
  have h4 : a ^^^ b ^^^ b = b := by rw [h3]; simp
  rwa [BitVec.xor_assoc, BitVec.xor_self, BitVec.xor_zero] at h4

/-- The 32 bits of a word, from the highest down. -/
def wordBits (v : BitVec 32) : List Bool := (List.range 32).map fun i => v.getLsbD (31 - i)
theorem wordBits_length (v : BitVec 32) : (wordBits v).length = 32 := by simp [wordBits]
/-- A word that is fed to the register it is: zeros are left. -/
theorem feed_self (v : BitVec 32) : feedV v (wordBits v) = 0#32 := by
  suffices h : ∀ n, n ≤ 32 → feedV v ((List.range n).map fun i => v.getLsbD (31 - i)) = v <<< n by
    have := h 32 (Nat.le_refl _)
    rw [wordBits, this]
    exact BitVec.shiftLeft_eq_zero (Nat.le_refl _)
  intro n
  induction n with
  | zero => intro _; simp [feed_nil]
  | succ n ih =>
    intro hn
    rw [List.range_succ, List.map_append, feed_append, ih (by omega)]
    show stepV (v <<< n) (v.getLsbD (31 - n)) = v <<< (n + 1)
    have hb : (v <<< n).msb = v.getLsbD (31 - n) := by
      rw [BitVec.msb_eq_getLsbD_last, BitVec.getLsbD_shiftLeft]
      simp [show ¬ (31 < n) by omega]
    unfold stepV
    rw [hb]
    simp [BitVec.shiftLeft_add]
/-- What a word does to the register, its bits fed behind: as if it had been laid over it. -/
theorem feed_word (r v : BitVec 32) : feedV r (wordBits v) = feedV (r ^^^ v) (List.replicate 32 false) := by
  have h := feed_xor (wordBits v) (wordBits v) r v rfl
  rw [feed_self, BitVec.xor_zero] at h
  rw [← h]
  congr 1
  rw [← wordBits_length v]
  generalize wordBits v = l
  induction l with
  | nil => rfl
  | cons x l ih => rw [List.zipWith_cons_cons, ih]; simp [List.replicate_succ]
theorem feed_sealed (r v w : BitVec 32) : feedV r (wordBits v) = feedV w (List.replicate 32 false) ↔ v = r ^^^ w := by
  rw [feed_word]
  constructor
  · intro h
    have := feed_inj h
    rw [← this, ← BitVec.xor_assoc, BitVec.xor_self, BitVec.zero_xor]
  · rintro rfl
    rw [← BitVec.xor_assoc, BitVec.xor_self, BitVec.zero_xor]

/-! ### The same, in numbers -/
theorem step_nat (r : BitVec 32) (b : Bool) : (stepV r b).toNat = if (r.toNat / 2147483648 = 1) ↔ (b = true) then r.toNat % 2147483648 * 2 else (r.toNat % 2147483648 * 2) ^^^ 79764919 := by
  have hr := r.isLt
  have hm : r.msb = decide (r.toNat / 2147483648 = 1) := by
    rw [BitVec.msb_eq_decide]
    rw [decide_eq_decide]
    omega
  have hs : (r <<< 1).toNat = r.toNat % 2147483648 * 2 := by
    rw [BitVec.toNat_shiftLeft, Nat.shiftLeft_eq]
    omega
  unfold stepV
  rw [BitVec.toNat_xor, hs, hm]
  by_cases h : r.toNat / 2147483648 = 1 <;> cases b <;> simp [h, polyV]
end Go.Proofs.Ytjbemjnofnifaaa

/-
  Plain lemmas: the bits of bytes, and the checksum of a row of bytes (layer 2), over XCrc.lean. Nothing of any program stands here.
-/
namespace Go.Proofs.Ytjbemjnofnifaaa

/-- A byte's bits, from the highest down. -/
def byteBits (c : UInt8) : List Bool := (List.range 8).map fun i => c.toNat.testBit (7 - i)
def bitsL (l : List UInt8) : List Bool := l.flatMap byteBits
theorem byteBits_length (c : UInt8) : (byteBits c).length = 8 := by simp [byteBits]
theorem bitsL_nil : bitsL [] = [] := rfl
theorem bitsL_append (l m : List UInt8) : bitsL (l ++ m) = bitsL l ++ bitsL m := by simp [bitsL]
theorem bitsL_one (c : UInt8) : bitsL [c] = byteBits c := by simp [bitsL]
theorem bitsL_cons (c : UInt8) (l : List UInt8) : bitsL (c :: l) = byteBits c ++ bitsL l := by simp [bitsL]
theorem bitsL_length (l : List UInt8) : (bitsL l).length = 8 * l.length := by
  induction l with
  | nil => rfl
  | cons c l ih => rw [bitsL_cons, List.length_append, byteBits_length, ih, List.length_cons]; omega
theorem bitsL_get : ∀ (l : List UInt8) (j : Nat) (h : j < 8 * l.length), (bitsL l)[j]? = some ((l[j / 8]'(by omega)).toNat.testBit (7 - j % 8))
  | [], j, h => absurd h (by simp)
  | c :: l, j, h => by
    rw [bitsL_cons]
    by_cases h8 : j < 8
    · rw [List.getElem?_append_left (by rw [byteBits_length]; exact h8)]
      have e1 : j / 8 = 0 := by omega
      have e2 : j % 8 = j := by omega
      simp only [byteBits, List.getElem?_map, List.getElem?_range h8, Option.map_some, e1, e2, List.getElem_cons_zero]
    · rw [List.getElem?_append_right (by rw [byteBits_length]; omega), byteBits_length]
      have hl : j - 8 < 8 * l.length := by simp at h; omega
      rw [bitsL_get l (j - 8) hl]
      have e1 : j / 8 = (j - 8) / 8 + 1 := by omega
      have e2 : j % 8 = (j - 8) % 8 := by omega
      simp only [e1, e2, List.getElem_cons_succ]

/-- The checksum that goes on from s. -/
def crcFrom (s : BitVec 32) (l : List UInt8) : BitVec 32 := ~~~ feedV (~~~ s) (bitsL l)
def crc (l : List UInt8) : BitVec 32 := crcFrom 0#32 l
theorem crcFrom_nil (s : BitVec 32) : crcFrom s [] = s := by simp [crcFrom, bitsL_nil, feed_nil]
theorem crcFrom_append (s : BitVec 32) (l m : List UInt8) : crcFrom s (l ++ m) = crcFrom (crcFrom s l) m := by
  simp [crcFrom, bitsL_append, feed_append]
theorem crc_nil : crc [] = 0#32 := crcFrom_nil _

/-- The register, in the middle of a byte: what is left of the byte. -/
theorem bit_next (c : UInt8) {i : Nat} (hi : i < 8) : (c.toNat * 2 ^ i % 256 / 128 = 1 ↔ c.toNat.testBit (7 - i) = true) ∧ c.toNat * 2 ^ i % 256 / 128 ≤ 1 ∧ c.toNat * 2 ^ i % 256 % 128 * 2 = c.toNat * 2 ^ (i + 1) % 256 := by
  have hc := c.toNat_lt
  have e : c.toNat.testBit (7 - i) = decide (c.toNat / 2 ^ (7 - i) % 2 = 1) := Nat.testBit_eq_decide_div_mod_eq
  rw [e, decide_eq_true_eq]
  match i, hi with
  | 0, _ => simp; omega
  | 1, _ => simp; omega
  | 2, _ => simp; omega
  | 3, _ => simp; omega
  | 4, _ => simp; omega
  | 5, _ => simp; omega
  | 6, _ => simp; omega
  | 7, _ => simp; omega
theorem take_bit (c : UInt8) {i : Nat} (hi : i < 8) : (byteBits c).take (i + 1) = (byteBits c).take i ++ [c.toNat.testBit (7 - i)] := by
  rw [List.take_succ_eq_append_getElem (by rw [byteBits_length]; exact hi)]
  simp [byteBits]
/-- The register behind i bits of a byte. -/
def regAt (R : BitVec 32) (c : UInt8) (i : Nat) : Nat := (feedV R ((byteBits c).take i)).toNat
theorem reg_zero (R : BitVec 32) (c : UInt8) : regAt R c 0 = R.toNat := by simp [regAt, feed_nil]
theorem reg_lt (R : BitVec 32) (c : UInt8) (i : Nat) : regAt R c i < 4294967296 := (feedV R ((byteBits c).take i)).isLt
theorem reg_eight (R : BitVec 32) (c : UInt8) : regAt R c 8 = (feedV R (byteBits c)).toNat := by
  rw [regAt, List.take_of_length_le (by rw [byteBits_length]; exact Nat.le_refl _)]
theorem reg_next (R : BitVec 32) (c : UInt8) {i : Nat} (hi : i < 8) :
    regAt R c (i + 1) = if regAt R c i / 2147483648 = c.toNat * 2 ^ i % 256 / 128 then regAt R c i % 2147483648 * 2 else (regAt R c i % 2147483648 * 2) ^^^ 79764919 := by
  obtain ⟨h1, h2, _⟩ := bit_next c hi
  have hr := reg_lt R c i
  unfold regAt at *
  rw [take_bit c hi, feed_append]
  show (stepV (feedV R ((byteBits c).take i)) (c.toNat.testBit (7 - i))).toNat = _
  rw [step_nat]
  have hq : (feedV R ((byteBits c).take i)).toNat / 2147483648 ≤ 1 := by omega
  by_cases hb : c.toNat.testBit (7 - i) = true
  · have e := h1.2 hb
    rw [e, hb]
    simp
  · have e : c.toNat * 2 ^ i % 256 / 128 = 0 := by
      have : ¬ c.toNat * 2 ^ i % 256 / 128 = 1 := fun e => hb (h1.1 e)
      omega
    rw [e]
    have hb' : c.toNat.testBit (7 - i) = false := by simpa using hb
    rw [hb']
    by_cases h0 : (feedV R ((byteBits c).take i)).toNat / 2147483648 = 1
    · simp [h0]
    · have h0' : (feedV R ((byteBits c).take i)).toNat / 2147483648 = 0 := by omega
      simp [h0']
end Go.Proofs.Ytjbemjnofnifaaa

/-
  The walks of the document's plain From, Sum and Sealed (layer 2).
-/
namespace Go.Proofs.Ytjbemjnofnifaaa
open Go.RowKit
set_option linter.unusedSimpArgs false

theorem ret_u32 {a b : Int} (h : a = b) : Ending.returned (.int .u32 a) = .returned (.int .u32 b) := by rw [h]
theorem not_toNat (r : BitVec 32) : ((~~~ r).toNat : Int) = 4294967295 - (r.toNat : Int) := by
  rw [BitVec.toNat_not]
  have := r.isLt
  omega

theorem xor_step (r : Nat) : bits .xor .u32 ((r : Int) % 2147483648 * 2) 79764919 = (((r % 2147483648 * 2) ^^^ 79764919 : Nat) : Int) := by
  have h := u32_xor_nat (r % 2147483648 * 2) 79764919 (by omega) (by omega)
  rw [← h]
  congr 1

set_option maxHeartbeats 1000000 in
theorem rfrom_any (A : Option Addr) (n c : Nat) (xs : List UInt8) (s : BitVec 32) (w : World) (h : RB w A n xs) (hn : n ≤ maxLen) :
    Calls Try.prog 96 #[.int .u32 (s.toNat : Int), .slice A n c] w fun e w' => e = .returned (.int .u32 ((crcFrom s xs).toNat : Int)) ∧ w = w' := by
  have hl := h.1
  unfold maxLen at hn
  have hs := s.isLt
  obtain ⟨S, hS⟩ : ∃ S : Nat, s.toNat = S := ⟨_, rfl⟩
  obtain ⟨R0, hR0⟩ : ∃ R0 : BitVec 32, ~~~ s = R0 := ⟨_, rfl⟩
  have hR0n : (R0.toNat : Int) = 4294967295 - (S : Int) := by rw [← hR0, not_toNat, hS]
  have HF : Hid (∀ R : BitVec 32, R = feedV R0 (bitsL xs) → (((crcFrom s xs).toNat : Int) = 4294967295 - (R.toNat : Int))) := Lib.hid (by
    rintro R rfl
    rw [crcFrom, hR0, not_toNat])
  rw [hS]
  rw [hS] at hs
  clear hS hR0
  have HR0 := Lib.hid hR0n
  clear hR0n
  go_enter Try.func96, Try.ntmps96
  go_wp2
  go_loop [5, 6] (fun r i => ∃ (k : Nat) (R : BitVec 32), k ≤ n ∧ i = .int .i64 k ∧ R = feedV R0 (bitsL (xs.take k)) ∧ r = .int .u32 (R.toNat : Int)) (fun _ i => n - (intOf i).toNat)
  case atStart => exact ⟨0, R0, Nat.zero_le _, rfl, by simp [bitsL_nil, feed_nil], by rw [HR0.out]⟩
  case round =>
    obtain ⟨k, R, hk, rfl, hR, rfl⟩ := hrel
    by_cases hlt : k < n
    · obtain ⟨b, off, rfl, hb, hc⟩ := h.2 (by omega)
      have q : k < xs.length := by omega
      have hcell := hc k q
      have HR := Lib.hid (show feedV R (byteBits xs[k]) = feedV R0 (bitsL (xs.take (k + 1))) by
        rw [List.take_succ_eq_append_getElem q, bitsL_append, bitsL_one, feed_append, ← hR])
      have hRl := R.isLt
      obtain ⟨x, hx⟩ : ∃ x : UInt8, xs[k] = x := ⟨_, rfl⟩
      rw [hx] at hcell HR
      have hxl := x.toNat_lt
      clear hc h hR hx
      go_wp2
      go_loop [5, 7, 8] (fun r y i => ∃ j : Nat, j ≤ 8 ∧ i = .int .i64 j ∧ r = .int .u32 (regAt R x j : Int) ∧ y = .int .u8 ((x.toNat * 2 ^ j % 256 : Nat) : Int)) (fun _ _ i => 8 - (intOf i).toNat)
      case atStart => exact ⟨0, Nat.zero_le _, rfl, by rw [reg_zero], by simp⟩
      case round =>
        obtain ⟨j, hj, rfl, rfl, rfl⟩ := hrel
        by_cases hj8 : j < 8
        · have hnx := reg_next R x hj8
          obtain ⟨_, hle, hx2⟩ := bit_next x hj8
          have hreg := reg_lt R x j
          obtain ⟨r, hr⟩ : ∃ r, regAt R x j = r := ⟨_, rfl⟩
          obtain ⟨y, hy⟩ : ∃ y, x.toNat * 2 ^ j % 256 = y := ⟨_, rfl⟩
          have hy256 : y < 256 := by omega
          rw [hr, hy] at hnx
          rw [hy] at hle hx2
          rw [hr] at hreg
          rw [hr, hy]
          by_cases ht : r / 2147483648 = y / 128
          · rw [if_pos ht] at hnx
            have HN := Lib.hid hnx
            have HX := Lib.hid hx2
            have t1 : ((r : Int) / 2147483648 == (y : Int) / 128) = true := by rw [beq_iff_eq]; omega
            have t2 : ((r : Int) / 2147483648 != (y : Int) / 128) = false := by rw [bne, t1]; rfl
            clear hnx hx2 hr hy ht
            go_wp2
            exact ⟨⟨j + 1, by omega, by go_num, congrArg (Value.int _) (by have := HN.out; omega), congrArg (Value.int _) (by have := HX.out; omega)⟩, by simp [intOf]; omega⟩
          · rw [if_neg ht] at hnx
            have HN := Lib.hid hnx
            have HX := Lib.hid hx2
            have t1 : ((r : Int) / 2147483648 == (y : Int) / 128) = false := by rw [beq_eq_false_iff_ne]; omega
            have t2 : ((r : Int) / 2147483648 != (y : Int) / 128) = true := by rw [bne, t1]; rfl
            clear hnx hx2 hr hy ht
            go_wp2
            exact ⟨⟨j + 1, by omega, by go_num, congrArg (Value.int _) (by rw [xor_step, HN.out]), congrArg (Value.int _) (by have := HX.out; omega)⟩, by simp [intOf]; omega⟩
        · obtain rfl : j = 8 := by omega
          have e : regAt R x 8 = (feedV R (byteBits x)).toNat := reg_eight R x
          have HE := Lib.hid e
          clear e
          go_wp2
          exact ⟨⟨k + 1, feedV R0 (bitsL (xs.take (k + 1))), by omega, by go_num, rfl, by rw [HE.out, HR.out]⟩, by simp [intOf]; omega⟩
    · obtain rfl : k = n := by omega
      have e : xs.take k = xs := List.take_of_length_le (by omega)
      rw [e] at hR
      have HS := Lib.hid (HF.out R hR)
      have hRl := R.isLt
      clear hR h e
      go_wp2
      go_ret
      exact ⟨ret_u32 HS.out.symm, rfl⟩
end Go.Proofs.Ytjbemjnofnifaaa

/-
  The walks of the document's plain Sum and Sealed (layer 2).
-/
namespace Go.Proofs.Ytjbemjnofnifaaa
open Go.RowKit
set_option linter.unusedSimpArgs false

theorem rsum_any (A : Option Addr) (n c : Nat) (xs : List UInt8) (w : World) (h : RB w A n xs) (hn : n ≤ maxLen) :
    Calls Try.prog 86 #[.slice A n c] w fun e w' => e = .returned (.int .u32 ((crc xs).toNat : Int)) ∧ w = w' := by
  have c1 := rfrom_any A n c xs 0#32 w h hn
  rw [show ((0#32 : BitVec 32).toNat : Int) = 0 from rfl, show crcFrom 0#32 xs = crc xs from rfl] at c1
  clear h
  go_enter Try.func86, Try.ntmps86
  go_wp2_with (go_at_call 96; refine c1.mono ?_; rintro e w' ⟨rfl, rfl⟩)
  go_ret
  exact ⟨rfl, rfl⟩

/-! ### A sum's bytes -/
def sumBytes (v : BitVec 32) : List UInt8 := [(v.toNat / 16777216).toUInt8, (v.toNat / 65536 % 256).toUInt8, (v.toNat / 256 % 256).toUInt8, (v.toNat % 256).toUInt8]
theorem sumBytes_length (v : BitVec 32) : (sumBytes v).length = 4 := rfl
theorem toU8 {n : Nat} (h : n < 256) : (n.toUInt8).toNat = n := by simp; omega
theorem sumBytes_vals (v : BitVec 32) : (sumBytes v).map byteV = [.int .u8 ((v.toNat : Int) / 16777216), .int .u8 ((v.toNat : Int) / 65536 % 256), .int .u8 ((v.toNat : Int) / 256 % 256), .int .u8 ((v.toNat : Int) % 256)] := by
  have hv := v.isLt
  simp only [sumBytes, List.map_cons, List.map_nil, byteV]
  rw [toU8 (by omega), toU8 (by omega), toU8 (by omega), toU8 (by omega)]
  rfl
theorem sumBytes_bits (v : BitVec 32) : bitsL (sumBytes v) = wordBits v := by
  apply List.ext_getElem
  · rw [bitsL_length, sumBytes_length, wordBits_length]
  · intro j h1 h2
    rw [wordBits_length] at h2
    have hg := bitsL_get (sumBytes v) j (by rw [sumBytes_length]; exact h2)
    rw [List.getElem?_eq_getElem h1] at hg
    rw [Option.some.inj hg]
    have hv := v.isLt
    have hr : (wordBits v)[j] = v.toNat.testBit (31 - j) := by simp [wordBits, BitVec.getLsbD]
    suffices hk : ((sumBytes v)[j / 8]'(by rw [sumBytes_length]; omega)).toNat.testBit (7 - j % 8) = v.toNat.testBit (31 - j) from hk.trans hr.symm
    have key : ∀ (q : Nat) (m : UInt8), q < 4 → j / 8 = q → (sumBytes v)[q]? = some m → m.toNat = v.toNat / 2 ^ (24 - 8 * q) % 256 → ((sumBytes v)[j / 8]'(by rw [sumBytes_length]; omega)).toNat.testBit (7 - j % 8) = v.toNat.testBit (31 - j) := by
      intro q m hq hj hm hmn
      have e : (sumBytes v)[j / 8]'(by rw [sumBytes_length]; omega) = m := by
        have : (sumBytes v)[j / 8]? = some m := by rw [hj]; exact hm
        exact (List.getElem?_eq_some_iff.1 this).2
      rw [e, hmn, show (256 : Nat) = 2 ^ 8 from rfl, Nat.testBit_mod_two_pow, Nat.testBit_div_two_pow]
      rw [decide_eq_true (show 7 - j % 8 < 8 by omega), Bool.true_and]
      congr 1
      omega
    have h4 : j / 8 < 4 := by omega
    rcases (show j / 8 = 0 ∨ j / 8 = 1 ∨ j / 8 = 2 ∨ j / 8 = 3 by omega) with e | e | e | e
    · exact key 0 _ (by omega) e rfl (by rw [toU8 (by omega)]; first | done | omega)
    · exact key 1 _ (by omega) e rfl (by rw [toU8 (by omega)])
    · exact key 2 _ (by omega) e rfl (by rw [toU8 (by omega)]; first | done | omega)
    · exact key 3 _ (by omega) e rfl (by rw [toU8 (by omega)]; first | done | omega)

/-- A row, and its sum behind it. -/
def sealB (l : List UInt8) : List UInt8 := l ++ sumBytes (crc l)

set_option maxHeartbeats 1000000 in
theorem rsealed_any (A : Option Addr) (n c : Nat) (xs : List UInt8) (w : World) (h : RB w A n xs) (hn : n ≤ 140737488351232) :
    Calls Try.prog 75 #[.slice A n c] w fun e w' => BGives w (sealB xs) e w' := by
  obtain ⟨i0, hi, hz0, hz1, hz2⟩ := info_parts u8_info
  have hl := h.1
  go_enter Try.func75, Try.ntmps75
  go_wp2
  go_loopw [3, 4] (fun v i wr => ∃ k : Nat, k ≤ n ∧ i = .int .i64 k ∧ BOwn w w.heap.size v (xs.take k) wr) (fun _ i _ => n - (intOf i).toNat)
  case atStart => exact ⟨0, Nat.zero_le _, rfl, by simpa using BOwn.start w⟩
  case round =>
    obtain ⟨k, hk, rfl, ho⟩ := hrel
    have hszw := ho.2.1.size
    have HO := Lib.hid ho
    by_cases hlt : k < n
    · have q : k < xs.length := by omega
      obtain ⟨b, off, rfl, hbw, hc⟩ := (h.below ho.2.1).2 (by omega)
      have hcell := hc k q
      have HT := Lib.hid (List.take_succ_eq_append_getElem q)
      have hlk : (xs.take k).length ≤ k := List.length_take_le _ _
      obtain ⟨P, hP⟩ : ∃ P, xs.take k = P := ⟨_, rfl⟩
      rw [hP] at HT hlk ho
      have HO2 := Lib.hid ho
      clear hc h ho HO hP
      go_wp2_with (at_builtin; refine wpList_append_own _ rfl (.tmp 12) (.tmp 17) 26 rfl w.heap.size 5 i0 (.int .u8 0) 1 1 Try.underlying26 hi hz0 hz1 hz2 rfl (by decide) _ P.length (P.map byteV) rfl (HO2.out.1.alloc _) ⟨_, 0, none⟩ 1 1 [byteV xs[k]] rfl rfl ?c1 ?c2 ?c3 ?c4 ?c5 ?_)
      case c1 =>
        intro j u hj
        match j, hj with
        | 0, hj => simp at hj; subst hj; simp [Addr.add, byteV]
      case c2 => intro u hu; simp at hu; subst hu; rfl
      case c3 => unfold maxLen; omega
      case c4 => omega
      case c5 => simp; omega
      intro v2 w2 hown2 hg2 _
      have HO3 := Lib.hid (show BOwn w w.heap.size v2 (xs.take (k + 1)) w2 from HT.out ▸ bown_one HO2.out hown2 hg2)
      clear hown2 hg2
      go_wp2
      go_roundw
      case rel => exact ⟨k + 1, by omega, by go_num, HO3.out⟩
      case measure => simp [intOf]; omega
    · obtain rfl : k = n := by omega
      have cs := rsum_any A k c xs wr (h.below ho.2.1) (by unfold maxLen; omega)
      have e : xs.take k = xs := List.take_of_length_le (by omega)
      rw [e] at ho
      have HO2 := Lib.hid ho
      have HV := Lib.hid (sumBytes_vals (crc xs))
      have hv := (crc xs).isLt
      obtain ⟨V, hV⟩ : ∃ V, (crc xs).toNat = V := ⟨_, rfl⟩
      rw [hV] at cs HV hv
      clear h ho HO e hV
      go_wp2_with (first
        | (go_at_call 86; refine cs.mono ?_; rintro e w' ⟨rfl, rfl⟩)
        | (at_builtin; refine wpList_append_own _ rfl (.tmp 21) (.tmp 36) 26 rfl w.heap.size 5 i0 (.int .u8 0) 1 1 Try.underlying26 hi hz0 hz1 hz2 rfl (by decide) _ xs.length (xs.map byteV) rfl (HO2.out.1.alloc _) ⟨_, 0, none⟩ 4 4 [.int .u8 ((V : Int) / 16777216), .int .u8 ((V : Int) / 65536 % 256), .int .u8 ((V : Int) / 256 % 256), .int .u8 ((V : Int) % 256)] rfl rfl ?c1 ?c2 ?c3 ?c4 ?c5 ?_))
      case c1 =>
        intro j u hj
        match j, hj with
        | 0, hj => simp at hj; subst hj; simp [Addr.add]
        | 1, hj => simp at hj; subst hj; simp [Addr.add]
        | 2, hj => simp at hj; subst hj; simp [Addr.add]
        | 3, hj => simp at hj; subst hj; simp [Addr.add]
      case c2 => intro u hu; simp at hu; rcases hu with rfl | rfl | rfl | rfl <;> rfl
      case c3 => unfold maxLen; omega
      case c4 => omega
      case c5 => simp; omega
      intro v2 w2 hown2 hg2 _
      rw [← HV.out] at hown2
      have hown3 : w2.ownsRow w.heap.size 5 1 v2 (xs.length + (sumBytes (crc xs)).length) (xs.map byteV ++ (sumBytes (crc xs)).map byteV) := by rw [hl]; exact hown2
      obtain ⟨A1, d1, hv1, hR⟩ := (bown_new HO2.out hown3 hg2).gives
      simp only [Ending.returned.injEq] at hv1
      subst hv1
      clear hown2 hown3 hg2
      go_wp2
      go_ret
      exact ⟨A1, d1, rfl, hR⟩
end Go.Proofs.Ytjbemjnofnifaaa
