/-
  Plain lemmas on numbers, texts and lists as rows of bytes in their one form (layer 4): what is laid is read, and what is read was laid. Nothing of any program stands here.
-/
namespace Go.Proofs.Ytbhhalkpghcflaa

/-! ### Digits of base 256 -/
theorem snoc_ind {α : Type _} {P : List α → Prop} (nil : P []) (append_singleton : ∀ l a, P l → P (l ++ [a])) (l : List α) : P l := by
  have h : ∀ r : List α, P r.reverse := by
    intro r
    induction r with
    | nil => exact nil
    | cons a r ih => rw [List.reverse_cons]; exact append_singleton _ _ ih
  have := h l.reverse
  rwa [List.reverse_reverse] at this
/-- The lowest first. -/
def digsR (n : Nat) : List UInt8 := if h : n = 0 then [] else (n % 256).toUInt8 :: digsR (n / 256)
termination_by n
decreasing_by omega
theorem digsR_zero : digsR 0 = [] := by rw [digsR]; rfl
theorem digsR_pos {n : Nat} (h : n ≠ 0) : digsR n = (n % 256).toUInt8 :: digsR (n / 256) := by rw [digsR, dif_neg h]
def digs (n : Nat) : List UInt8 := (digsR n).reverse
/-- What digits are, the highest first. -/
def valD (l : List UInt8) : Nat := l.foldl (fun a c => a * 256 + c.toNat) 0
theorem valD_nil : valD [] = 0 := rfl
theorem valD_snoc (l : List UInt8) (c : UInt8) : valD (l ++ [c]) = valD l * 256 + c.toNat := by simp [valD, List.foldl_append]
theorem digs_zero : digs 0 = [] := by rw [digs, digsR_zero]; rfl
theorem digs_pos {n : Nat} (h : n ≠ 0) : digs n = digs (n / 256) ++ [(n % 256).toUInt8] := by rw [digs, digsR_pos h, List.reverse_cons, digs]
theorem digit_back {n : Nat} : ((n % 256).toUInt8).toNat = n % 256 := by simp
theorem val_digs (n : Nat) : valD (digs n) = n := by
  induction n using Nat.strongRecOn with
  | ind n ih =>
    by_cases h : n = 0
    · subst h; rw [digs_zero]; rfl
    · rw [digs_pos h, valD_snoc, ih (n / 256) (by omega), digit_back]; omega
theorem digs_head (n : Nat) : ∀ c r, digs n = c :: r → c ≠ 0 := by
  induction n using Nat.strongRecOn with
  | ind n ih =>
    intro c r e
    by_cases h : n = 0
    · subst h; rw [digs_zero] at e; cases e
    · rw [digs_pos h] at e
      by_cases h2 : n / 256 = 0
      · rw [h2, digs_zero, List.nil_append] at e
        injection e with e1 _
        intro h0
        have h3 := digit_back (n := n)
        rw [e1, h0] at h3
        have : (0 : UInt8).toNat = 0 := rfl
        omega
      · cases hd : digs (n / 256) with
        | nil =>
          have := val_digs (n / 256)
          rw [hd, valD_nil] at this
          omega
        | cons c' r' =>
          rw [hd, List.cons_append] at e
          injection e with e1 _
          rw [← e1]
          exact ih (n / 256) (by omega) c' r' hd
theorem valD_pos : ∀ (l : List UInt8), (∀ c r, l = c :: r → c ≠ 0) → l ≠ [] → valD l ≠ 0 := by
  intro l
  induction l using snoc_ind with
  | nil => intro _ h; exact absurd rfl h
  | append_singleton l c ih =>
    intro hh _ h0
    rw [valD_snoc] at h0
    cases l with
    | nil =>
      have hc : c.toNat = 0 := by rw [valD_nil] at h0; omega
      exact hh c [] rfl (UInt8.toNat_inj.1 hc)
    | cons d r =>
      exact ih (fun c' r' e => hh c' (r' ++ [c]) (by rw [e]; rfl)) (by simp) (by omega)
/-- Digits without a zero ahead are their number's. -/
theorem digs_val : ∀ (l : List UInt8), (∀ c r, l = c :: r → c ≠ 0) → digs (valD l) = l := by
  intro l
  induction l using snoc_ind with
  | nil => intro _; rw [valD_nil, digs_zero]
  | append_singleton l c ih =>
    intro hh
    have hc := c.toNat_lt
    have hne : valD (l ++ [c]) ≠ 0 := valD_pos _ hh (by simp)
    have hl : ∀ c' r', l = c' :: r' → c' ≠ 0 := fun c' r' e => hh c' (r' ++ [c]) (by rw [e]; rfl)
    have e1 : valD (l ++ [c]) / 256 = valD l := by rw [valD_snoc]; omega
    have e2 : (valD (l ++ [c]) % 256).toUInt8 = c := by
      have : valD (l ++ [c]) % 256 = c.toNat := by rw [valD_snoc]; omega
      rw [this]; simp
    rw [digs_pos hne, e1, e2, ih hl]
theorem valD_lt (l : List UInt8) : valD l < 256 ^ l.length := by
  induction l using snoc_ind with
  | nil => simp [valD]
  | append_singleton l c ih =>
    have hc := c.toNat_lt
    rw [valD_snoc, List.length_append, List.length_cons, List.length_nil, Nat.pow_succ]
    omega
theorem digs_length (k : Nat) : ∀ n, n < 256 ^ k → (digs n).length ≤ k := by
  induction k with
  | zero => intro n h; have : n = 0 := by simpa using h
            subst this; rw [digs_zero]; simp
  | succ k ih =>
    intro n h
    by_cases h0 : n = 0
    · subst h0; rw [digs_zero]; simp
    · rw [digs_pos h0, List.length_append, List.length_cons, List.length_nil]
      have := ih (n / 256) (by rw [Nat.pow_succ] at h; omega)
      omega

/-! ### A number -/
def numB (n : Nat) : List UInt8 := (digs n).length.toUInt8 :: digs n
def manyN (b : List UInt8) : Nat := (b.getD 0 0).toNat
def errN (b : List UInt8) : Nat :=
  if b.length < 1 then 30 else if 8 < manyN b then 40 else if 0 < manyN b ∧ 1 < b.length ∧ b.getD 1 0 = 0 then 40 else if b.length < 1 + manyN b then 30 else 0
def valN (b : List UInt8) : Nat := valD ((b.drop 1).take (manyN b))
theorem numB_length (n : Nat) : (numB n).length = 1 + (digs n).length := by simp [numB]; omega
theorem num_read {n : Nat} (h : n < 256 ^ 8) (r : List UInt8) : errN (numB n ++ r) = 0 ∧ valN (numB n ++ r) = n ∧ 1 + manyN (numB n ++ r) = (numB n).length ∧ (numB n ++ r).drop (1 + manyN (numB n ++ r)) = r := by
  have hl := digs_length 8 n h
  have hm : manyN (numB n ++ r) = (digs n).length := by
    show ((digs n).length.toUInt8).toNat = _
    simp
    omega
  have hlen : (numB n ++ r).length = 1 + (digs n).length + r.length := by rw [List.length_append, numB_length]
  refine ⟨?_, ?_, by rw [hm, numB_length], ?_⟩
  · unfold errN
    rw [hm, if_neg (by omega), if_neg (by omega), if_neg ?_, if_neg (by omega)]
    rintro ⟨h1, _, h3⟩
    cases hd : digs n with
    | nil => rw [hd] at h1; simp at h1
    | cons c t =>
      have hc := digs_head n c t hd
      apply hc
      simpa [numB, hd] using h3
  · unfold valN
    rw [hm]
    show valD ((digs n ++ r).take (digs n).length) = n
    rw [List.take_left, val_digs]
  · rw [hm, ← numB_length, List.drop_left]
/-- What is read as a number is a number's bytes. -/
theorem num_laid {b : List UInt8} (h : errN b = 0) : b = numB (valN b) ++ b.drop (1 + manyN b) ∧ valN b < 256 ^ 8 ∧ (numB (valN b)).length = 1 + manyN b ∧ 1 + manyN b ≤ b.length := by
  unfold errN at h
  by_cases h1 : b.length < 1
  · rw [if_pos h1] at h; omega
  rw [if_neg h1] at h
  by_cases h2 : 8 < manyN b
  · rw [if_pos h2] at h; omega
  rw [if_neg h2] at h
  by_cases h3 : 0 < manyN b ∧ 1 < b.length ∧ b.getD 1 0 = 0
  · rw [if_pos h3] at h; omega
  rw [if_neg h3] at h
  by_cases h4 : b.length < 1 + manyN b
  · rw [if_pos h4] at h; omega
  have hT : ((b.drop 1).take (manyN b)).length = manyN b := by rw [List.length_take, List.length_drop]; omega
  have hz : ∀ c r, (b.drop 1).take (manyN b) = c :: r → c ≠ 0 := by
    intro c r e hc
    subst hc
    apply h3
    refine ⟨?_, ?_, ?_⟩
    · rw [← hT, e]; simp
    · have : 0 < manyN b := by rw [← hT, e]; simp
      omega
    · match b, e with
      | [], e => simp at e
      | [x], e => simp at e
      | x :: y :: t, e =>
        cases hm : manyN (x :: y :: t) with
        | zero => rw [hm] at e; simp at e
        | succ m =>
          rw [hm] at e
          simp only [List.drop_succ_cons, List.drop_zero, List.take_succ_cons, List.cons.injEq] at e
          exact e.1
  have hd : digs (valN b) = (b.drop 1).take (manyN b) := digs_val _ hz
  have hv : valN b < 256 ^ 8 := by
    have h5 := valD_lt ((b.drop 1).take (manyN b))
    rw [hT] at h5
    exact Nat.lt_of_lt_of_le h5 (Nat.pow_le_pow_right (by omega) (by omega))
  refine ⟨?_, hv, by rw [numB_length, hd, hT], by omega⟩
  match b, h1 with
  | x :: t, _ =>
    have hx : manyN (x :: t) = x.toNat := rfl
    rw [numB, hd, hT, hx]
    have e1 : (x.toNat).toUInt8 = x := by simp
    rw [e1]
    show x :: t = x :: ((t.take x.toNat) ++ (x :: t).drop (1 + x.toNat))
    rw [show 1 + x.toNat = x.toNat + 1 by omega, List.drop_succ_cons, List.take_append_drop]

/-! ### Texts, flags, lists -/
def textB (s : List UInt8) : List UInt8 := numB s.length ++ s
def flagB (is : Bool) : List UInt8 := numB (if is then 1 else 0)
def textsB (l : List (List UInt8)) : List UInt8 := numB l.length ++ l.flatMap textB
def numsB (l : List Nat) : List UInt8 := numB l.length ++ l.flatMap numB
theorem flagB_true : flagB true = [1, 1] := by
  rw [flagB, if_pos rfl, numB, digs_pos (by omega)]
  rw [show 1 / 256 = 0 by rfl, digs_zero]; rfl
theorem flagB_false : flagB false = [0] := by rw [flagB, if_neg (by simp), numB, digs_zero]; rfl
theorem numB_pos (n : Nat) : 1 ≤ (numB n).length := by rw [numB_length]; omega
theorem numB_le {n : Nat} (h : n < 256 ^ 8) : (numB n).length ≤ 9 := by rw [numB_length]; have := digs_length 8 n h; omega
theorem textB_length (s : List UInt8) : (textB s).length = (numB s.length).length + s.length := by rw [textB, List.length_append]
end Go.Proofs.Ytbhhalkpghcflaa
