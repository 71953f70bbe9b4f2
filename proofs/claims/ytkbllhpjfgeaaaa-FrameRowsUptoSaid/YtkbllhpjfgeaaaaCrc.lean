/-
  Plain lemmas on the checksum's register (layer 2): a step with a bit, its linearity over exclusive or, and why bits that are turned within 32 turn the sum. Nothing of any program stands here.
-/
namespace Go.Proofs.Ytkbllhpjfgeaaaa

/-- What is laid over the register where a bit falls out. -/
def polyV : BitVec 32 := 0x04c11db7#32
/-- The register goes on by a bit. -/
def stepV (r : BitVec 32) (b : Bool) : BitVec 32 := (r <<< 1) ^^^ (if (r.msb != b) = true then polyV else 0#32)
/-- .. by bits. -/
def feedV (r : BitVec 32) (l : List Bool) : BitVec 32 := l.foldl stepV r

theorem feed_nil (r : BitVec 32) : feedV r [] = r := rfl
theorem feed_cons (r : BitVec 32) (b : Bool) (l : List Bool) : feedV r (b :: l) = feedV (stepV r b) l := rfl
theorem feed_append (r : BitVec 32) (l m : List Bool) : feedV r (l ++ m) = feedV (feedV r l) m := by simp [feedV, List.foldl_append]

theorem step_xor (a b : BitVec 32) (x y : Bool) : stepV (a ^^^ b) (x != y) = stepV a x ^^^ stepV b y := by
  unfold stepV
  rw [BitVec.msb_xor, BitVec.shiftLeft_xor_distrib]
  have h1 : ∀ p q r : BitVec 32, p ^^^ q ^^^ r = p ^^^ r ^^^ q := fun p q r => by rw [BitVec.xor_assoc, BitVec.xor_assoc, BitVec.xor_comm q r]
  have h2 : ∀ p q r : BitVec 32, p ^^^ q ^^^ r = p ^^^ (q ^^^ r) := BitVec.xor_assoc
  have h3 : ∀ p q : BitVec 32, (p ^^^ polyV) ^^^ (q ^^^ polyV) = p ^^^ q := fun p q => by rw [h2, ← h2 polyV, BitVec.xor_comm polyV q, h2 q, BitVec.xor_self, BitVec.xor_zero]
  cases a.msb <;> cases b.msb <;> cases x <;> cases y <;> simp [h3] <;> first | (rw [h1]; done) | (rw [h2]; done) | (rw [h2, BitVec.xor_comm polyV]; done)

theorem feed_xor : ∀ (l m : List Bool) (a b : BitVec 32), l.length = m.length → feedV (a ^^^ b) (List.zipWith (· != ·) l m) = feedV a l ^^^ feedV b m
  | [], [], _, _, _ => rfl
  | x :: l, y :: m, a, b, h => by
    rw [List.zipWith_cons_cons, feed_cons, feed_cons, feed_cons, step_xor, feed_xor l m _ _ (by simpa using h)]
  | [], _ :: _, _, _, h => by simp at h
  | _ :: _, [], _, _, h => by simp at h

theorem step_low (r : BitVec 32) (b : Bool) : (stepV r b).getLsbD 0 = (r.msb != b) := by
  unfold stepV
  rw [BitVec.getLsbD_xor]
  cases (r.msb != b) <;> simp [polyV]

/-- Behind a register of zeros: what it was. -/
theorem feed_back : ∀ (m : List Bool), m.length ≤ 32 → ∀ R : BitVec 32, feedV R m = 0#32 → ∀ i, i < 32 → R.getLsbD (31 - i) = m.getD i false
  | [], _, R, h, i, hi => by
    rw [feed_nil] at h
    subst h
    simp
  | b :: m, hl, R, h, i, hi => by
    rw [feed_cons] at h
    have hl' : m.length ≤ 31 := by simpa using hl
    have ih := feed_back m (by omega) (stepV R b) h
    have h0 : (R.msb != b) = false := by
      rw [← step_low]
      have := ih 31 (by omega)
      rw [show 31 - 31 = 0 from rfl] at this
      rw [this, List.getD_eq_getElem?_getD, List.getElem?_eq_none (by omega)]
      rfl
    have hs : stepV R b = R <<< 1 := by
      unfold stepV
      rw [h0]
      simp
    have hb : R.msb = b := by simpa using h0
    cases i with
    | zero =>
      rw [← BitVec.msb_eq_getLsbD_last, hb]
      rfl
    | succ i =>
      have := ih i (by omega)
      rw [hs, BitVec.getLsbD_shiftLeft] at this
      have e : 31 - i - 1 = 31 - (i + 1) := by omega
      simp only [show 31 - i < 32 by omega, show ¬ 31 - i < 1 by omega, decide_true, decide_false, Bool.not_false, Bool.true_and, Bool.and_true, e] at this
      rw [this]
      rfl

theorem feed_zero_back {m : List Bool} (hl : m.length ≤ 32) {R : BitVec 32} (hm : ∀ i, m.getD i false = false) (h : feedV R m = 0#32) : R = 0#32 := by
  apply BitVec.eq_of_getLsbD_eq
  intro i hi
  have := feed_back m hl R h (31 - i) (by omega)
  rw [hm, show 31 - (31 - i) = i by omega] at this
  rw [this]
  simp
theorem step_false_zero : stepV 0#32 false = 0#32 := by decide
theorem step_false_back {R : BitVec 32} (h : stepV R false = 0#32) : R = 0#32 :=
  feed_zero_back (m := [false]) (by simp) (fun i => by cases i <;> simp) h
theorem feed_zeros (k : Nat) : feedV 0#32 (List.replicate k false) = 0#32 := by
  induction k with
  | zero => rfl
  | succ k ih => rw [List.replicate_succ, feed_cons, step_false_zero, ih]
theorem feed_zeros_back : ∀ (k : Nat) (R : BitVec 32), feedV R (List.replicate k false) = 0#32 → R = 0#32
  | 0, _, h => h
  | k + 1, R, h => by
    rw [List.replicate_succ, feed_cons] at h
    exact step_false_back (feed_zeros_back k _ h)

/-- A burst of at most 32 bits, one of them set, is told. -/
theorem burst {k j : Nat} {m : List Bool} (hl : m.length ≤ 32) (hm : true ∈ m) : feedV 0#32 (List.replicate k false ++ m ++ List.replicate j false) ≠ 0#32 := by
  intro h
  rw [feed_append, feed_append, feed_zeros] at h
  have h1 := feed_zeros_back _ _ h
  obtain ⟨i, hi, he⟩ := List.mem_iff_getElem.1 hm
  have h2 := feed_back m hl 0#32 h1 i (by omega)
  rw [List.getD_eq_getElem?_getD, List.getElem?_eq_getElem hi, he] at h2
  simp at h2
theorem no_burst (k j i : Nat) : feedV 0#32 (List.replicate k false ++ List.replicate i false ++ List.replicate j false) = 0#32 := by
  rw [feed_append, feed_append, feed_zeros, feed_zeros, feed_zeros]

/-- Bits are fed as they lie: two registers that end alike began alike. -/
theorem feed_inj {l : List Bool} {a b : BitVec 32} (h : feedV a l = feedV b l) : a = b := by
  have h1 := feed_xor l l a b rfl
  rw [h, BitVec.xor_self] at h1
  have h2 : List.zipWith (· != ·) l l = List.replicate l.length false := by
    clear h h1
    induction l with
    | nil => rfl
    | cons x l ih => rw [List.zipWith_cons_cons, ih]; simp [List.replicate_succ]
  rw [h2] at h1
  have h3 := feed_zeros_back _ _ h1
  have h4 : a ^^^ b ^^^ b = b := by rw [h3]; simp
  rwa [BitVec.xor_assoc, BitVec.xor_self, BitVec.xor_zero] at h4

/-- The 32 bits of a word, from the highest down. -/
def wordBits (v : BitVec 32) : List Bool := (List.range 32).map fun i => v.getLsbD (31 - i)
theorem wordBits_length (v : BitVec 32) : (wordBits v).length = 32 := by simp [wordBits]
/-- A word that is fed to the register it is: zeros are left. -/
theorem feed_self (v : BitVec 32) : feedV v (wordBits v) = 0#32 := by
  suffices h : ∀ n, n ≤ 32 → feedV v ((List.range n).map fun i => v.getLsbD (31 - i)) = v <<< n by
    have := h 32 (Nat.le_refl _)
    rw [wordBits, this]
    exact BitVec.shiftLeft_eq_zero (Nat.le_refl _)
  intro n
  induction n with
  | zero => intro _; simp [feed_nil]
  | succ n ih =>
    intro hn
    rw [List.range_succ, List.map_append, feed_append, ih (by omega)]
    show stepV (v <<< n) (v.getLsbD (31 - n)) = v <<< (n + 1)
    have hb : (v <<< n).msb = v.getLsbD (31 - n) := by
      rw [BitVec.msb_eq_getLsbD_last, BitVec.getLsbD_shiftLeft]
      simp [show ¬ (31 < n) by omega]
    unfold stepV
    rw [hb]
    simp [BitVec.shiftLeft_add]
/-- What a word does to the register, its bits fed behind: as if it had been laid over it. -/
theorem feed_word (r v : BitVec 32) : feedV r (wordBits v) = feedV (r ^^^ v) (List.replicate 32 false) := by
  have h := feed_xor (wordBits v) (wordBits v) r v rfl
  rw [feed_self, BitVec.xor_zero] at h
  rw [← h]
  congr 1
  rw [← wordBits_length v]
  generalize wordBits v = l
  induction l with
  | nil => rfl
  | cons x l ih => rw [List.zipWith_cons_cons, ih]; simp [List.replicate_succ]
theorem feed_sealed (r v w : BitVec 32) : feedV r (wordBits v) = feedV w (List.replicate 32 false) ↔ v = r ^^^ w := by
  rw [feed_word]
  constructor
  · intro h
    have := feed_inj h
    rw [← this, ← BitVec.xor_assoc, BitVec.xor_self, BitVec.zero_xor]
  · rintro rfl
    rw [← BitVec.xor_assoc, BitVec.xor_self, BitVec.zero_xor]

/-! ### The same, in numbers -/
theorem step_nat (r : BitVec 32) (b : Bool) : (stepV r b).toNat = if (r.toNat / 2147483648 = 1) ↔ (b = true) then r.toNat % 2147483648 * 2 else (r.toNat % 2147483648 * 2) ^^^ 79764919 := by
  have hr := r.isLt
  have hm : r.msb = decide (r.toNat / 2147483648 = 1) := by
    rw [BitVec.msb_eq_decide]
    rw [decide_eq_decide]
    omega
  have hs : (r <<< 1).toNat = r.toNat % 2147483648 * 2 := by
    rw [BitVec.toNat_shiftLeft, Nat.shiftLeft_eq]
    omega
  unfold stepV
  rw [BitVec.toNat_xor, hs, hm]
  by_cases h : r.toNat / 2147483648 = 1 <;> cases b <;> simp [h, polyV]
end Go.Proofs.Ytkbllhpjfgeaaaa
