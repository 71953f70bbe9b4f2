/-
  Plain lemmas: bits that are turned within 32 that follow one another (layer 2), and what the sum makes of them. Nothing of any program stands here.
-/
import Derived.Test.YtjbemjnofnifaaaZj8
namespace Go.Proofs.Ytjbemjnofnifaaa

/-- A byte, one of its bits turned. -/
def flipB (c : UInt8) (t : Nat) : UInt8 := (c.toNat ^^^ 128 / 2 ^ t).toUInt8
theorem flip_lt (c : UInt8) (t : Nat) : c.toNat ^^^ 128 / 2 ^ t < 256 :=
  Nat.xor_lt_two_pow (n := 8) c.toNat_lt (Nat.lt_of_le_of_lt (Nat.div_le_self _ _) (by decide))
theorem flip_toNat (c : UInt8) (t : Nat) : (flipB c t).toNat = c.toNat ^^^ 128 / 2 ^ t := toU8 (flip_lt c t)
theorem flip_bit (c : UInt8) {t r : Nat} (ht : t < 8) (hr : r < 8) : (flipB c t).toNat.testBit (7 - r) = (c.toNat.testBit (7 - r) != decide (r = t)) := by
  rw [flip_toNat c t, Nat.testBit_xor]
  have e : 128 / 2 ^ t = 2 ^ (7 - t) := by
    match t, ht with
    | 0, _ => rfl
    | 1, _ => rfl
    | 2, _ => rfl
    | 3, _ => rfl
    | 4, _ => rfl
    | 5, _ => rfl
    | 6, _ => rfl
    | 7, _ => rfl
  rw [e, Nat.testBit_two_pow]
  congr 1
  rw [decide_eq_decide]
  omega

/-- Behind i steps: the bits from f on that the mask names are turned. -/
def turnTo (l : List UInt8) (f m : Nat) : Nat → List UInt8
  | 0 => l
  | i + 1 => if m.testBit i = true then (turnTo l f m i).set ((f + i) / 8) (flipB ((turnTo l f m i).getD ((f + i) / 8) 0) ((f + i) % 8)) else turnTo l f m i
theorem turnTo_length (l : List UInt8) (f m : Nat) : ∀ i, (turnTo l f m i).length = l.length
  | 0 => rfl
  | i + 1 => by
    rw [turnTo]
    split
    · rw [List.length_set, turnTo_length l f m i]
    · exact turnTo_length l f m i
/-- Which bits are turned. -/
def turnBits (n f m i : Nat) : List Bool := (List.range (8 * n)).map fun j => decide (f ≤ j ∧ j < f + i) && m.testBit (j - f)
theorem turnBits_length (n f m i : Nat) : (turnBits n f m i).length = 8 * n := by simp [turnBits]

theorem bits_set (l : List UInt8) (q t : Nat) (hq : q < l.length) (ht : t < 8) (j : Nat) (hj : j < 8 * l.length) :
    (bitsL (l.set q (flipB (l.getD q 0) t)))[j]? = some (((l[j / 8]'(by omega)).toNat.testBit (7 - j % 8)) != decide (j = 8 * q + t)) := by
  rw [bitsL_get _ j (by rw [List.length_set]; exact hj)]
  congr 1
  by_cases e : j / 8 = q
  · subst e
    have hg : l.getD (j / 8) 0 = l[j / 8] := by simp [List.getD, List.getElem?_eq_getElem hq]
    simp only [List.getElem_set_self, hg]
    rw [flip_bit _ ht (by omega)]
    congr 1
    rw [decide_eq_decide]
    omega
  · have h2 : ¬ j = 8 * q + t := by omega
    rw [decide_eq_false h2, Bool.bne_false]
    simp only [List.getElem_set_ne (Ne.symm e)]

theorem turn_bits (l : List UInt8) (f m : Nat) : ∀ i, f + i ≤ 8 * l.length → bitsL (turnTo l f m i) = List.zipWith (· != ·) (bitsL l) (turnBits l.length f m i)
  | 0, _ => by
    apply List.ext_getElem
    · rw [List.length_zipWith, turnBits_length, bitsL_length, bitsL_length, turnTo, Nat.min_self]
    · intro j h1 h2
      simp only [List.getElem_zipWith, turnBits, List.getElem_map, List.getElem_range, turnTo]
      rw [decide_eq_false (by omega), Bool.false_and, Bool.bne_false]
  | i + 1, h => by
    have ih := turn_bits l f m i (by omega)
    have hlen := turnTo_length l f m i
    apply List.ext_getElem?
    intro j
    by_cases hj : j < 8 * l.length
    · have hbl : j < (bitsL l).length := by rw [bitsL_length]; exact hj
      have hR : (List.zipWith (· != ·) (bitsL l) (turnBits l.length f m (i + 1)))[j]? = some ((bitsL l)[j] != (decide (f ≤ j ∧ j < f + (i + 1)) && m.testBit (j - f))) := by
        rw [List.getElem?_eq_getElem (by rw [List.length_zipWith, turnBits_length]; omega)]
        simp [turnBits]
      have hI : (bitsL (turnTo l f m i))[j]? = some ((bitsL l)[j] != (decide (f ≤ j ∧ j < f + i) && m.testBit (j - f))) := by
        rw [ih, List.getElem?_eq_getElem (by rw [List.length_zipWith, turnBits_length]; omega)]
        simp [turnBits]
      rw [hR, turnTo]
      by_cases hb : m.testBit i = true
      · rw [if_pos hb]
        have hset := bits_set (turnTo l f m i) ((f + i) / 8) ((f + i) % 8) (by omega) (by omega) j (by rw [hlen]; exact hj)
        rw [hset]
        have hget := bitsL_get (turnTo l f m i) j (by rw [hlen]; exact hj)
        rw [hI] at hget
        rw [← Option.some.inj hget]
        congr 1
        by_cases e : j = f + i
        · subst e
          rw [decide_eq_true (show f + i = 8 * ((f + i) / 8) + (f + i) % 8 by omega), decide_eq_false (show ¬ (f ≤ f + i ∧ f + i < f + i) by omega), decide_eq_true (show f ≤ f + i ∧ f + i < f + (i + 1) by omega), show f + i - f = i by omega, hb]
          simp
        · rw [decide_eq_false (show ¬ j = 8 * ((f + i) / 8) + (f + i) % 8 by omega), Bool.bne_false]
          congr 2
          rw [decide_eq_decide]
          omega
      · rw [if_neg hb, hI]
        congr 2
        by_cases e : j = f + i
        · subst e
          have hb' : m.testBit i = false := by simpa using hb
          rw [show f + i - f = i by omega, hb']
          simp
        · congr 1
          rw [decide_eq_decide]
          omega
    · rw [List.getElem?_eq_none (by rw [bitsL_length, turnTo_length]; omega), List.getElem?_eq_none (by rw [List.length_zipWith, bitsL_length, turnBits_length]; omega)]

theorem turnBits_parts {n f m i : Nat} (h : f + i ≤ 8 * n) : turnBits n f m i = List.replicate f false ++ (List.range i).map (fun j => m.testBit j) ++ List.replicate (8 * n - f - i) false := by
  apply List.ext_getElem
  · simp [turnBits]; omega
  · intro j h1 h2
    rw [turnBits_length] at h1
    simp only [turnBits, List.getElem_map, List.getElem_range]
    by_cases a : j < f
    · rw [List.getElem_append_left (by simp; omega), List.getElem_append_left (by simpa using a), List.getElem_replicate, decide_eq_false (by omega), Bool.false_and]
    · by_cases b : j < f + i
      · rw [List.getElem_append_left (by simp; omega), List.getElem_append_right (by simp; omega)]
        simp only [List.length_replicate, List.getElem_map, List.getElem_range]
        rw [decide_eq_true (by omega), Bool.true_and]
      · rw [List.getElem_append_right (by simp; omega), List.getElem_replicate, decide_eq_false (by omega), Bool.false_and]

/-- Is any bit turned? -/
def anyTo (m : Nat) : Nat → Bool
  | 0 => false
  | i + 1 => if m.testBit i = true then true else anyTo m i
theorem any_iff (m : Nat) : ∀ i, anyTo m i = true ↔ true ∈ (List.range i).map fun j => m.testBit j
  | 0 => by simp [anyTo]
  | i + 1 => by
    rw [List.range_succ, List.map_append, List.mem_append, ← any_iff m i, anyTo]
    by_cases hb : m.testBit i = true
    · simp [hb]
    · simp [hb]
theorem feed_turn {n f m i : Nat} (h : f + i ≤ 8 * n) (hi : i ≤ 32) : feedV 0#32 (turnBits n f m i) = 0#32 ↔ anyTo m i = false := by
  rw [turnBits_parts h]
  constructor
  · intro h0
    rw [← Bool.not_eq_true, any_iff]
    intro hm
    exact burst (by simpa using hi) hm h0
  · intro h0
    have hr : (List.range i).map (fun j => m.testBit j) = List.replicate i false := by
      apply List.ext_getElem
      · simp
      · intro j h1 h2
        rw [List.getElem_replicate]
        rw [← Bool.not_eq_true]
        intro e
        have : anyTo m i = true := (any_iff m i).2 (by rw [← e]; exact List.getElem_mem h1)
        rw [h0] at this; cases this
    rw [hr]
    exact no_burst _ _ _
/-- What a turned row is fed to the register, beside what the row is. -/
theorem feed_turned (R : BitVec 32) (l : List UInt8) (f m i : Nat) (h : f + i ≤ 8 * l.length) : feedV R (bitsL (turnTo l f m i)) = feedV R (bitsL l) ^^^ feedV 0#32 (turnBits l.length f m i) := by
  have := feed_xor (bitsL l) (turnBits l.length f m i) R 0#32 (by rw [bitsL_length, turnBits_length])
  rw [BitVec.xor_zero] at this
  rw [turn_bits l f m i h, this]
theorem feed_differs (R : BitVec 32) (l : List UInt8) (f m i : Nat) (h : f + i ≤ 8 * l.length) (hi : i ≤ 32) : feedV R (bitsL (turnTo l f m i)) = feedV R (bitsL l) ↔ anyTo m i = false := by
  rw [feed_turned R l f m i h, ← feed_turn h hi]
  constructor
  · intro e
    have h2 : feedV R (bitsL l) ^^^ (feedV R (bitsL l) ^^^ feedV 0#32 (turnBits l.length f m i)) = feedV R (bitsL l) ^^^ feedV R (bitsL l) := by rw [e]
    rwa [← BitVec.xor_assoc, BitVec.xor_self, BitVec.zero_xor] at h2
  · intro e
    rw [e, BitVec.xor_zero]
theorem crc_differs (l : List UInt8) (f m i : Nat) (h : f + i ≤ 8 * l.length) (hi : i ≤ 32) : crc (turnTo l f m i) = crc l ↔ anyTo m i = false := by
  rw [← feed_differs (~~~ 0#32) l f m i h hi]
  unfold crc crcFrom
  exact BitVec.not_inj

theorem not_as_xor (F : BitVec 32) : ~~~F = F ^^^ ~~~0#32 := by
  apply BitVec.eq_of_getLsbD_eq
  intro i hi
  rw [BitVec.getLsbD_xor, BitVec.getLsbD_not, BitVec.getLsbD_not, decide_eq_true hi]
  cases F.getLsbD i <;> simp

/-! ### Sealed -/
def sealedB (l : List UInt8) : Bool := decide (4 ≤ l.length) && decide (l.drop (l.length - 4) = sumBytes (crc (l.take (l.length - 4))))
theorem sumBytes_inj {v w : BitVec 32} (h : sumBytes v = sumBytes w) : v = w := by
  have h1 : wordBits v = wordBits w := by rw [← sumBytes_bits, ← sumBytes_bits, h]
  apply BitVec.eq_of_getLsbD_eq
  intro i hi
  have h2 : (wordBits v)[31 - i]? = (wordBits w)[31 - i]? := by rw [h1]
  simp only [wordBits, List.getElem?_map, List.getElem?_range (show 31 - i < 32 by omega), Option.map_some, Option.some.injEq, show 31 - (31 - i) = i by omega] at h2
  exact h2
/-- Four bytes are some word's. -/
theorem four_word {m : List UInt8} (h : m.length = 4) : ∃ v : BitVec 32, sumBytes v = m := by
  match m, h with
  | [a, b, c, d], _ =>
    have ha := a.toNat_lt
    have hb := b.toNat_lt
    have hc := c.toNat_lt
    have hd := d.toNat_lt
    refine ⟨BitVec.ofNat 32 (a.toNat * 16777216 + b.toNat * 65536 + c.toNat * 256 + d.toNat), ?_⟩
    unfold sumBytes
    rw [BitVec.toNat_ofNat, Nat.mod_eq_of_lt (by omega)]
    have e1 : (a.toNat * 16777216 + b.toNat * 65536 + c.toNat * 256 + d.toNat) / 16777216 = a.toNat := by omega
    have e2 : (a.toNat * 16777216 + b.toNat * 65536 + c.toNat * 256 + d.toNat) / 65536 % 256 = b.toNat := by omega
    have e3 : (a.toNat * 16777216 + b.toNat * 65536 + c.toNat * 256 + d.toNat) / 256 % 256 = c.toNat := by omega
    have e4 : (a.toNat * 16777216 + b.toNat * 65536 + c.toNat * 256 + d.toNat) % 256 = d.toNat := by omega
    rw [e1, e2, e3, e4]
    simp
/-- A row is sealed just if the register ends so. -/
theorem sealed_iff (l : List UInt8) (h : 4 ≤ l.length) : sealedB l = true ↔ feedV (~~~ 0#32) (bitsL l) = feedV (~~~ 0#32) (List.replicate 32 false) := by
  have hd4 : (l.drop (l.length - 4)).length = 4 := by rw [List.length_drop]; omega
  obtain ⟨v, hv⟩ := four_word hd4
  have hb : bitsL l = bitsL (l.take (l.length - 4)) ++ wordBits v := by
    rw [← sumBytes_bits, hv, ← bitsL_append, List.take_append_drop]
  rw [hb, feed_append, feed_sealed, sealedB, decide_eq_true h, Bool.true_and, decide_eq_true_eq, ← hv]
  have hx : ∀ F : BitVec 32, F ^^^ ~~~0#32 = ~~~F := fun F => (not_as_xor F).symm
  rw [hx]
  constructor
  · intro e
    rw [sumBytes_inj e]
    rfl
  · intro e
    rw [e]
    rfl
theorem sealB_sealed (l : List UInt8) : sealedB (sealB l) = true := by
  have h4 : (sealB l).length = l.length + 4 := by rw [sealB, List.length_append, sumBytes_length]
  have e : (sealB l).length - 4 = l.length := by omega
  rw [sealedB, e, decide_eq_true (by omega), Bool.true_and, decide_eq_true_eq, sealB, List.drop_left, List.take_left]
theorem sealed_short {l : List UInt8} (h : l.length < 4) : sealedB l = false := by
  rw [sealedB, decide_eq_false (by omega), Bool.false_and]
/-- A row is sealed just if it is a row with its sum behind it. -/
theorem sealed_seal {l : List UInt8} (h : 4 ≤ l.length) : sealedB l = decide (sealB (l.take (l.length - 4)) = l) := by
  rw [sealedB, decide_eq_true h, Bool.true_and, decide_eq_decide, sealB]
  constructor
  · intro e
    rw [← e, List.take_append_drop]
  · intro e
    have h1 := congrArg (List.drop (l.length - 4)) e
    have hl : (l.take (l.length - 4)).length = l.length - 4 := by rw [List.length_take]; omega
    rw [List.drop_append_of_le_length (by omega), List.drop_of_length_le (by omega), List.nil_append] at h1
    exact h1.symm
theorem sealed_turned (l : List UInt8) (h : sealedB l = true) (f m i : Nat) (hf : f + i ≤ 8 * l.length) (hi : i ≤ 32) : sealedB (turnTo l f m i) = !anyTo m i := by
  have h4 : 4 ≤ l.length := by
    by_cases h4 : 4 ≤ l.length
    · exact h4
    · rw [sealed_short (by omega)] at h; cases h
  have h4' : 4 ≤ (turnTo l f m i).length := by rw [turnTo_length]; exact h4
  rw [Bool.eq_iff_iff, sealed_iff _ h4', ← (sealed_iff l h4).1 h, feed_differs _ _ _ _ _ hf hi]
  simp

/-! ### Rows laid over one another -/
def xorB (l m : List UInt8) : List UInt8 := List.zipWith (fun a b => (a.toNat ^^^ b.toNat).toUInt8) l m
theorem xor_byte (a b : UInt8) : byteBits ((a.toNat ^^^ b.toNat).toUInt8) = List.zipWith (· != ·) (byteBits a) (byteBits b) := by
  have h : a.toNat ^^^ b.toNat < 256 := Nat.xor_lt_two_pow (n := 8) a.toNat_lt b.toNat_lt
  apply List.ext_getElem
  · simp [byteBits]
  · intro j h1 h2
    simp only [byteBits, List.getElem_map, List.getElem_range, List.getElem_zipWith]
    rw [toU8 h, Nat.testBit_xor]
theorem xor_bits : ∀ (l m : List UInt8), l.length = m.length → bitsL (xorB l m) = List.zipWith (· != ·) (bitsL l) (bitsL m)
  | [], [], _ => rfl
  | a :: l, b :: m, h => by
    have ih := xor_bits l m (by simpa using h)
    rw [xorB, List.zipWith_cons_cons, bitsL_cons, bitsL_cons, bitsL_cons, xor_byte, List.zipWith_append (by rw [byteBits_length, byteBits_length]), ← ih]
    rfl
  | [], _ :: _, h => by simp at h
  | _ :: _, [], h => by simp at h
theorem xorB_length (l m : List UInt8) (h : l.length = m.length) : (xorB l m).length = l.length := by simp [xorB, h]
theorem crc_laid (a b c : List UInt8) (hb : a.length = b.length) (hc : a.length = c.length) : crc (xorB (xorB a b) c) = crc a ^^^ crc b ^^^ crc c := by
  have h1 := feed_xor (bitsL a) (bitsL b) (~~~ 0#32) (~~~ 0#32) (by rw [bitsL_length, bitsL_length, hb])
  rw [← xor_bits a b hb] at h1
  have hl : (xorB a b).length = c.length := by rw [xorB_length a b hb, hc]
  have h2 := feed_xor (bitsL (xorB a b)) (bitsL c) (~~~ 0#32 ^^^ ~~~ 0#32) (~~~ 0#32) (by rw [bitsL_length, bitsL_length, hl])
  rw [← xor_bits _ _ hl, h1] at h2
  have e0 : (~~~ 0#32 ^^^ ~~~ 0#32 ^^^ ~~~ 0#32 : BitVec 32) = ~~~ 0#32 := by decide
  rw [e0] at h2
  unfold crc crcFrom
  rw [h2]
  generalize feedV (~~~ 0#32) (bitsL a) = p
  generalize feedV (~~~ 0#32) (bitsL b) = q
  generalize feedV (~~~ 0#32) (bitsL c) = r
  have hx : ∀ F : BitVec 32, ~~~F = F ^^^ ~~~0#32 := not_as_xor
  rw [hx p, hx q, hx r, hx]
  apply BitVec.eq_of_getLsbD_eq
  intro i hi
  simp only [BitVec.getLsbD_xor]
  cases p.getLsbD i <;> cases q.getLsbD i <;> cases r.getLsbD i <;> cases (~~~0#32 : BitVec 32).getLsbD i <;> rfl
end Go.Proofs.Ytjbemjnofnifaaa
