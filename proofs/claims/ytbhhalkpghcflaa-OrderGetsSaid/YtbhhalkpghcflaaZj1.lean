/-
  Plain lemmas on numbers, texts and lists as rows of bytes in their one form (layer 4): what is laid is read, and what is read was laid. Nothing of any program stands here.
-/
namespace Go.Proofs.Ytbhhalkpghcflaa

/-! ### Digits of base 256 -/
theorem snoc_ind {α : Type _} {P : List α → Prop} (nil : P []) (append_singleton : ∀ l a, P l → P (l ++ [a])) (l : List α) : P l := by
  have h : ∀ r : List α, P r.reverse := by
    intro r
    induction r with
    | nil => exact nil
    | cons a r ih => rw [List.reverse_cons]; exact append_singleton _ _ ih
  have := h l.reverse
  rwa [List.reverse_reverse] at this
/-- The lowest first. -/
def digsR (n : Nat) : List UInt8 := if h : n = 0 then [] else (n % 256).toUInt8 :: digsR (n / 256)
termination_by n
decreasing_by omega
theorem digsR_zero : digsR 0 = [] := by rw [digsR]; rfl
theorem digsR_pos {n : Nat} (h : n ≠ 0) : digsR n = (n % 256).toUInt8 :: digsR (n / 256) := by rw [digsR, dif_neg h]
def digs (n : Nat) : List UInt8 := (digsR n).reverse
/-- What digits are, the highest first. -/
def valD (l : List UInt8) : Nat := l.foldl (fun a c => a * 256 + c.toNat) 0
theorem valD_nil : valD [] = 0 := rfl
theorem valD_snoc (l : List UInt8) (c : UInt8) : valD (l ++ [c]) = valD l * 256 + c.toNat := by simp [valD, List.foldl_append]
theorem digs_zero : digs 0 = [] := by rw [digs, digsR_zero]; rfl
theorem digs_pos {n : Nat} (h : n ≠ 0) : digs n = digs (n / 256) ++ [(n % 256).toUInt8] := by rw [digs, digsR_pos h, List.reverse_cons, digs]
theorem digit_back {n : Nat} : ((n % 256).toUInt8).toNat = n % 256 := by simp
theorem val_digs (n : Nat) : valD (digs n) = n := by
  induction n using Nat.strongRecOn with
  | ind n ih =>
    by_cases h : n = 0
    · subst h; rw [digs_zero]; rfl
    · rw [digs_pos h, valD_snoc, ih (n / 256) (by omega), digit_back]; omega
theorem digs_head (n : Nat) : ∀ c r, digs n = c :: r → c ≠ 0 := by
  induction n using Nat.strongRecOn with
  | ind n ih =>
    intro c r e
    by_cases h : n = 0
    · subst h; rw [digs_zero] at e; cases e
    · rw [digs_pos h] at e
      by_cases h2 : n / 256 = 0
      · rw [h2, digs_zero, List.nil_append] at e
        injection e with e1 _
        intro h0
        have h3 := digit_back (n := n)
        rw [e1, h0] at h3
        have : (0 : UInt8).toNat = 0 := rfl
        omega
      · cases hd : digs (n / 256) with
        | nil =>
          have := val_digs (n / 256)
          rw [hd, valD_nil] at this
          omega
        | cons c' r' =>
          rw [hd, List.cons_append] at e
          injection e with e1 _
          rw [← e1]
          exact ih (n / 256) (by omega) c' r' hd
theorem valD_pos : ∀ (l : List UInt8), (∀ c r, l = c :: r → c ≠ 0) → l ≠ [] → valD l ≠ 0 := by
  intro l
  induction l using snoc_ind with
  | nil => intro _ h; exact absurd rfl h
  | append_singleton l c ih =>
    intro hh _ h0
    rw [valD_snoc] at h0
    cases l with
    | nil =>
      have hc : c.toNat = 0 := by rw [valD_nil] at h0; omega
      exact hh c [] rfl (UInt8.toNat_inj.1 hc)
    | cons d r =>
      exact ih (fun c' r' e => hh c' (r' ++ [c]) (by rw [e]; rfl)) (by simp) (by omega)
/-- Digits without a zero ahead are their number's. -/
theorem digs_val : ∀ (l : List UInt8), (∀ c r, l = c :: r → c ≠ 0) → digs (valD l) = l := by
  intro l
  induction l using snoc_ind with
  | nil => intro _; rw [valD_nil, digs_zero]
  | append_singleton l c ih =>
    intro hh
    have hc := c.toNat_lt
    have hne : valD (l ++ [c]) ≠ 0 := valD_pos _ hh (by simp)
    have hl : ∀ c' r', l = c' :: r' → c' ≠ 0 := fun c' r' e => hh c' (r' ++ [c]) (by rw [e]; rfl)
    have e1 : valD (l ++ [c]) / 256 = valD l := by rw [valD_snoc]; omega
    have e2 : (valD (l ++ [c]) % 256).toUInt8 = c := by
      have : valD (l ++ [c]) % 256 = c.toNat := by rw [valD_snoc]; omega
      rw [this]; simp
    rw [digs_pos hne, e1, e2, ih hl]
theorem valD_lt (l : List UInt8) : valD l < 256 ^ l.length := by
  induction l using snoc_ind with
  | nil => simp [valD]
  | append_singleton l c ih =>
    have hc := c.toNat_lt
    rw [valD_snoc, List.length_append, List.length_cons, List.length_nil, Nat.pow_succ]
    omega
theorem digs_length (k : Nat) : ∀ n, n < 256 ^ k → (digs n).length ≤ k := by
  induction k with
  | zero => intro n h; have : n = 0 := by simpa using h
            subst this; rw [digs_zero]; simp
  | succ k ih =>
    intro n h
    by_cases h0 : n = 0
    · subst h0; rw [digs_zero]; simp
    · rw [digs_pos h0, List.length_append, List.length_cons, List.length_nil]
      have := ih (n / 256) (by rw [Nat.pow_succ] at h; omega)
      omega

/-! ### A number -/
def numB (n : Nat) : List UInt8 := (digs n).length.toUInt8 :: digs n
def manyN (b : List UInt8) : Nat := (b.getD 0 0).toNat
def errN (b : List UInt8) : Nat :=
  if b.length < 1 then 30 else if 8 < manyN b then 40 else if 0 < manyN b ∧ 1 < b.length ∧ b.getD 1 0 = 0 then 40 else if b.length < 1 + manyN b then 30 else 0
def valN (b : List UInt8) : Nat := valD ((b.drop 1).take (manyN b))
theorem numB_length (n : Nat) : (numB n).length = 1 + (digs n).length := by simp [numB]; omega
theorem num_read {n : Nat} (h : n < 256 ^ 8) (r : List UInt8) : errN (numB n ++ r) = 0 ∧ valN (numB n ++ r) = n ∧ 1 + manyN (numB n ++ r) = (numB n).length ∧ (numB n ++ r).drop (1 + manyN (numB n ++ r)) = r := by
  have hl := digs_length 8 n h
  have hm : manyN (numB n ++ r) = (digs n).length := by
    show ((digs n).length.toUInt8).toNat = _
    simp
    omega
  have hlen : (numB n ++ r).length = 1 + (digs n).length + r.length := by rw [List.length_append, numB_length]
  refine ⟨?_, ?_, by rw [hm, numB_length], ?_⟩
  · unfold errN
    rw [hm, if_neg (by omega), if_neg (by omega), if_neg ?_, if_neg (by omega)]
    rintro ⟨h1, _, h3⟩
    cases hd : digs n with
    | nil => rw [hd] at h1; simp at h1
    | cons c t =>
      have hc := digs_head n c t hd
      apply hc
      simpa [numB, hd] using h3
  · unfold valN
    rw [hm]
    show valD ((digs n ++ r).take (digs n).length) = n
    rw [List.take_left, val_digs]
  · rw [hm, ← numB_length, List.drop_left]
/-- What is read as a number is a number's bytes. -/
theorem num_laid {b : List UInt8} (h : errN b = 0) : b = numB (valN b) ++ b.drop (1 + manyN b) ∧ valN b < 256 ^ 8 ∧ (numB (valN b)).length = 1 + manyN b ∧ 1 + manyN b ≤ b.length := by
  unfold errN at h
  by_cases h1 : b.length < 1
  · rw [if_pos h1] at h; omega
  rw [if_neg h1] at h
  by_cases h2 : 8 < manyN b
  · rw [if_pos h2] at h; omega
  rw [if_neg h2] at h
  by_cases h3 : 0 < manyN b ∧ 1 < b.length ∧ b.getD 1 0 = 0
  · rw [if_pos h3] at h; omega
  rw [if_neg h3] at h
  by_cases h4 : b.length < 1 + manyN b
  · rw [if_pos h4] at h; omega
  have hT : ((b.drop 1).take (manyN b)).length = manyN b := by rw [List.length_take, List.length_drop]; omega
  have hz : ∀ c r, (b.drop 1).take (manyN b) = c :: r → c ≠ 0 := by
    intro c r e hc
    subst hc
    apply h3
    refine ⟨?_, ?_, ?_⟩
    · rw [← hT, e]; simp
    · have : 0 < manyN b := by rw [← hT, e]; simp
      omega
    · match b, e with
      | [], e => simp at e
      | [x], e => simp at e
      | x :: y :: t, e =>
        cases hm : manyN (x :: y :: t) with
        | zero => rw [hm] at e; simp at e
        | succ m =>
          rw [hm] at e
          simp only [List.drop_succ_cons, List.drop_zero, List.take_succ_cons, List.cons.injEq] at e
          exact e.1
  have hd : digs (valN b) = (b.drop 1).take (manyN b) := digs_val _ hz
  have hv : valN b < 256 ^ 8 := by
    have h5 := valD_lt ((b.drop 1).take (manyN b))
    rw [hT] at h5
    exact Nat.lt_of_lt_of_le h5 (Nat.pow_le_pow_right (by omega) (by omega))
  refine ⟨?_, hv, by rw [numB_length, hd, hT], by omega⟩
  match b, h1 with
  | x :: t, _ =>
    have hx : manyN (x :: t) = x.toNat := rfl
    rw [numB, hd, hT, hx]
    have e1 : (x.toNat).toUInt8 = x := by simp
    rw [e1]
    show x :: t = x :: ((t.take x.toNat) ++ (x :: t).drop (1 + x.toNat))
    rw [show 1 + x.toNat = x.toNat + 1 by omega, List.drop_succ_cons, List.take_append_drop]

/-! ### Texts, flags, lists -/
def textB (s : List UInt8) : List UInt8 := numB s.length ++ s
def flagB (is : Bool) : List UInt8 := numB (if is then 1 else 0)
def textsB (l : List (List UInt8)) : List UInt8 := numB l.length ++ l.flatMap textB
def numsB (l : List Nat) : List UInt8 := numB l.length ++ l.flatMap numB
theorem flagB_true : flagB true = [1, 1] := by
  rw [flagB, if_pos rfl, numB, digs_pos (by omega)]
  rw [show 1 / 256 = 0 by rfl, digs_zero]; rfl
theorem flagB_false : flagB false = [0] := by rw [flagB, if_neg (by simp), numB, digs_zero]; rfl
theorem numB_pos (n : Nat) : 1 ≤ (numB n).length := by rw [numB_length]; omega
theorem numB_le {n : Nat} (h : n < 256 ^ 8) : (numB n).length ≤ 9 := by rw [numB_length]; have := digs_length 8 n h; omega
theorem textB_length (s : List UInt8) : (textB s).length = (numB s.length).length + s.length := by rw [textB, List.length_append]
end Go.Proofs.Ytbhhalkpghcflaa
/-
  The reader of layer 4 as a plain function of what is left and what was wrong: each item, lists, and the two ways back. Nothing of any program stands here.
-/
namespace Go.Proofs.Ytbhhalkpghcflaa

/-- What is left, and what was wrong first (0: nothing). -/
structure St where
  b : List UInt8
  e : Nat
/-- What is wrong with the number that comes next, with the number of bytes for which it holds. -/
def errNum (most : Nat) (b : List UInt8) : Nat := if errN b ≠ 0 then errN b else if most < valN b then 3 else 0
def errText (most : Nat) (b : List UInt8) : Nat := if errNum most b ≠ 0 then errNum most b else if b.length - (1 + manyN b) < valN b then 30 else 0
def errFlag (b : List UInt8) : Nat := if errN b ≠ 0 then errN b else if 1 < valN b then 40 else 0
def bytesT (b : List UInt8) : List UInt8 := (b.drop (1 + manyN b)).take (valN b)
/-- An item: its error, its value, its size. -/
structure It (α : Type) where
  none : α
  err : List UInt8 → Nat
  val : List UInt8 → α
  size : List UInt8 → Nat
def itNum (most : Nat) : It Nat := ⟨0, errNum most, valN, fun b => 1 + manyN b⟩
def itText (most : Nat) : It (List UInt8) := ⟨[], errText most, bytesT, fun b => 1 + manyN b + valN b⟩
def itFlag : It Bool := ⟨false, errFlag, fun b => valN b == 1, fun b => 1 + manyN b⟩
variable {α : Type}
def It.out (f : It α) (s : St) : α := if s.e ≠ 0 then f.none else if f.err s.b ≠ 0 then f.none else f.val s.b
def It.next (f : It α) (s : St) : St := if s.e ≠ 0 then s else if f.err s.b ≠ 0 then ⟨s.b, f.err s.b⟩ else ⟨s.b.drop (f.size s.b), 0⟩
/-- A list's elements. -/
def It.outs (f : It α) : Nat → St → List α
  | 0, _ => []
  | k + 1, s => f.out s :: f.outs k (f.next s)
def It.after (f : It α) : Nat → St → St
  | 0, s => s
  | k + 1, s => f.after k (f.next s)
def It.listN (many : Nat) (s : St) : Nat := (itNum many).out s
def It.listNext (f : It α) (many : Nat) (s : St) : St := f.after (It.listN many s) ((itNum many).next s)
def It.listOut (f : It α) (many : Nat) (s : St) : List α := if (f.listNext many s).e ≠ 0 then [] else f.outs (It.listN many s) ((itNum many).next s)

theorem It.out_err (f : It α) {s : St} (h : s.e ≠ 0) : f.out s = f.none := by rw [It.out, if_pos h]
theorem It.next_err (f : It α) {s : St} (h : s.e ≠ 0) : f.next s = s := by rw [It.next, if_pos h]
theorem It.after_err (f : It α) : ∀ (k : Nat) {s : St}, s.e ≠ 0 → f.after k s = s
  | 0, _, _ => rfl
  | k + 1, s, h => by rw [It.after, f.next_err h, f.after_err k h]
theorem It.after_succ (f : It α) : ∀ (k : Nat) (s : St), f.after (k + 1) s = f.next (f.after k s)
  | 0, _ => rfl
  | k + 1, s => by rw [It.after, f.after_succ k]; rfl
theorem It.outs_succ (f : It α) : ∀ (k : Nat) (s : St), f.outs (k + 1) s = f.outs k s ++ [f.out (f.after k s)]
  | 0, _ => rfl
  | k + 1, s => by rw [It.outs, f.outs_succ k]; rfl
theorem It.outs_length (f : It α) : ∀ (k : Nat) (s : St), (f.outs k s).length = k
  | 0, _ => rfl
  | k + 1, s => by rw [It.outs, List.length_cons, f.outs_length k]
theorem It.after_add (f : It α) : ∀ (j k : Nat) (s : St), f.after (j + k) s = f.after k (f.after j s)
  | 0, k, s => by rw [Nat.zero_add]; rfl
  | j + 1, k, s => by rw [show j + 1 + k = (j + k) + 1 by omega, It.after, f.after_add j k]; rfl
/-- An error stays: where the whole list has none, no beginning has. -/
theorem It.after_ok (f : It α) {n : Nat} {s : St} (h : (f.after n s).e = 0) {k : Nat} (hk : k ≤ n) : (f.after k s).e = 0 := by
  by_cases h0 : (f.after k s).e = 0
  · exact h0
  · have e : n = k + (n - k) := by omega
    rw [e, f.after_add, f.after_err _ h0] at h
    exact h
theorem It.after_stuck (f : It α) {n : Nat} {s : St} {k : Nat} (hk : k ≤ n) (h0 : (f.after k s).e ≠ 0) : f.after n s = f.after k s := by
  have e : n = k + (n - k) := by omega
  rw [e, f.after_add, f.after_err _ h0]
theorem It.next_ok (f : It α) {s : St} (h : (f.next s).e = 0) : s.e = 0 ∧ f.err s.b = 0 ∧ f.next s = ⟨s.b.drop (f.size s.b), 0⟩ ∧ f.out s = f.val s.b := by
  by_cases h1 : s.e ≠ 0
  · rw [f.next_err h1] at h; exact absurd h h1
  · by_cases h2 : f.err s.b ≠ 0
    · rw [It.next, if_neg h1, if_pos h2] at h; exact absurd h h2
    · exact ⟨by simpa using h1, by simpa using h2, by rw [It.next, if_neg h1, if_neg h2], by rw [It.out, if_neg h1, if_neg h2]⟩
theorem It.next_length (f : It α) (s : St) : (f.next s).b.length ≤ s.b.length := by
  unfold It.next
  split
  · exact Nat.le_refl _
  · split
    · exact Nat.le_refl _
    · simp
theorem It.after_length (f : It α) : ∀ (k : Nat) (s : St), (f.after k s).b.length ≤ s.b.length
  | 0, _ => Nat.le_refl _
  | k + 1, s => Nat.le_trans (f.after_length k _) (f.next_length s)

theorem errNum_zero {most : Nat} {b : List UInt8} (h : errNum most b = 0) : errN b = 0 ∧ valN b ≤ most := by
  unfold errNum at h
  by_cases h1 : errN b ≠ 0
  · rw [if_pos h1] at h; exact absurd h h1
  · rw [if_neg h1] at h
    by_cases h2 : most < valN b
    · rw [if_pos h2] at h; cases h
    · exact ⟨by simpa using h1, by omega⟩
theorem errText_zero {most : Nat} {b : List UInt8} (h : errText most b = 0) : errNum most b = 0 ∧ valN b ≤ b.length - (1 + manyN b) := by
  unfold errText at h
  by_cases h1 : errNum most b ≠ 0
  · rw [if_pos h1] at h; exact absurd h h1
  · rw [if_neg h1] at h
    by_cases h2 : b.length - (1 + manyN b) < valN b
    · rw [if_pos h2] at h; cases h
    · exact ⟨by simpa using h1, by omega⟩
theorem errFlag_zero {b : List UInt8} (h : errFlag b = 0) : errN b = 0 ∧ valN b ≤ 1 := by
  unfold errFlag at h
  by_cases h1 : errN b ≠ 0
  · rw [if_pos h1] at h; exact absurd h h1
  · rw [if_neg h1] at h
    by_cases h2 : 1 < valN b
    · rw [if_pos h2] at h; cases h
    · exact ⟨by simpa using h1, by omega⟩

/-! ### What is laid is read -/
theorem read_num {n most : Nat} (h : n < 256 ^ 8) (hm : n ≤ most) (r : List UInt8) : (itNum most).out ⟨numB n ++ r, 0⟩ = n ∧ (itNum most).next ⟨numB n ++ r, 0⟩ = ⟨r, 0⟩ := by
  obtain ⟨h1, h2, h3, h4⟩ := num_read h r
  have he : (itNum most).err (numB n ++ r) = 0 := by
    show errNum most (numB n ++ r) = 0
    rw [errNum, if_neg (by rw [h1]; simp), h2, if_neg (by omega)]
  refine ⟨?_, ?_⟩
  · rw [It.out, if_neg (by simp), if_neg (by simp [he])]; exact h2
  · rw [It.next, if_neg (by simp), if_neg (by simp [he])]
    show St.mk ((numB n ++ r).drop (1 + manyN (numB n ++ r))) 0 = _
    rw [h4]
theorem read_text {s : List UInt8} {most : Nat} (h : s.length < 256 ^ 8) (hm : s.length ≤ most) (r : List UInt8) : (itText most).out ⟨textB s ++ r, 0⟩ = s ∧ (itText most).next ⟨textB s ++ r, 0⟩ = ⟨r, 0⟩ := by
  obtain ⟨h1, h2, h3, h4⟩ := num_read h (s ++ r)
  have e : textB s ++ r = numB s.length ++ (s ++ r) := by rw [textB, List.append_assoc]
  rw [e]
  have hl : (numB s.length ++ (s ++ r)).length - (1 + manyN (numB s.length ++ (s ++ r))) = s.length + r.length := by
    rw [h3]; simp
  have he : (itText most).err (numB s.length ++ (s ++ r)) = 0 := by
    show errText most _ = 0
    have hen : errNum most (numB s.length ++ (s ++ r)) = 0 := by rw [errNum, if_neg (by rw [h1]; simp), h2, if_neg (by omega)]
    rw [errText, if_neg (by rw [hen]; simp), hl, h2, if_neg (by omega)]
  refine ⟨?_, ?_⟩
  · rw [It.out, if_neg (by simp), if_neg (by simp [he])]
    show ((numB s.length ++ (s ++ r)).drop (1 + manyN _)).take (valN _) = s
    rw [h4, h2, List.take_left]
  · rw [It.next, if_neg (by simp), if_neg (by simp [he])]
    show St.mk ((numB s.length ++ (s ++ r)).drop (1 + manyN _ + valN _)) 0 = _
    rw [← List.drop_drop, h4, h2, List.drop_left]
theorem read_flag (is : Bool) (r : List UInt8) : itFlag.out ⟨flagB is ++ r, 0⟩ = is ∧ itFlag.next ⟨flagB is ++ r, 0⟩ = ⟨r, 0⟩ := by
  have hb : (if is then 1 else 0 : Nat) < 256 ^ 8 := by cases is <;> simp
  obtain ⟨h1, h2, h3, h4⟩ := num_read hb r
  rw [← flagB] at h1 h2 h3 h4
  have he : itFlag.err (flagB is ++ r) = 0 := by
    show errFlag _ = 0
    rw [errFlag, if_neg (by rw [h1]; simp), h2, if_neg (by cases is <;> simp)]
  refine ⟨?_, ?_⟩
  · rw [It.out, if_neg (by simp), if_neg (by simp [he])]
    show (valN _ == 1) = is
    rw [h2]; cases is <;> rfl
  · rw [It.next, if_neg (by simp), if_neg (by simp [he])]
    show St.mk ((flagB is ++ r).drop (1 + manyN _)) 0 = _
    rw [h4]
/-- Elements one behind the other. -/
theorem read_all (f : It α) (lay : α → List UInt8) : ∀ (l : List α) (r : List UInt8), (∀ x ∈ l, ∀ q, f.out ⟨lay x ++ q, 0⟩ = x ∧ f.next ⟨lay x ++ q, 0⟩ = ⟨q, 0⟩) →
    f.outs l.length ⟨l.flatMap lay ++ r, 0⟩ = l ∧ f.after l.length ⟨l.flatMap lay ++ r, 0⟩ = ⟨r, 0⟩
  | [], _, _ => ⟨rfl, rfl⟩
  | x :: l, r, h => by
    obtain ⟨h1, h2⟩ := h x (by simp) (l.flatMap lay ++ r)
    obtain ⟨h3, h4⟩ := read_all f lay l r fun y hy => h y (by simp [hy])
    rw [List.flatMap_cons, List.append_assoc, List.length_cons, It.outs, It.after, h1, h2, h3, h4]
    exact ⟨rfl, rfl⟩
theorem read_list (f : It α) (lay : α → List UInt8) (l : List α) (many : Nat) (r : List UInt8) (hl : l.length < 256 ^ 8) (hm : l.length ≤ many) (h : ∀ x ∈ l, ∀ q, f.out ⟨lay x ++ q, 0⟩ = x ∧ f.next ⟨lay x ++ q, 0⟩ = ⟨q, 0⟩) :
    f.listOut many ⟨numB l.length ++ l.flatMap lay ++ r, 0⟩ = l ∧ f.listNext many ⟨numB l.length ++ l.flatMap lay ++ r, 0⟩ = ⟨r, 0⟩ := by
  obtain ⟨h1, h2⟩ := read_num hl hm (l.flatMap lay ++ r)
  obtain ⟨h3, h4⟩ := read_all f lay l r h
  rw [← List.append_assoc] at h1 h2
  have e : f.listNext many ⟨numB l.length ++ l.flatMap lay ++ r, 0⟩ = ⟨r, 0⟩ := by rw [It.listNext, It.listN, h1, h2, h4]
  refine ⟨?_, e⟩
  rw [It.listOut, e, if_neg (by simp), It.listN, h1, h2, h3]

/-! ### What is read was laid -/
theorem laid_num {most : Nat} {s : St} (h : ((itNum most).next s).e = 0) : s.e = 0 ∧ s.b = numB ((itNum most).out s) ++ ((itNum most).next s).b ∧ (itNum most).out s < 256 ^ 8 ∧ (itNum most).out s ≤ most := by
  obtain ⟨h0, h1, h2, h3⟩ := (itNum most).next_ok h
  obtain ⟨h4, h5⟩ := errNum_zero (most := most) h1
  obtain ⟨h6, h7, _⟩ := num_laid h4
  rw [h2, h3]
  exact ⟨h0, h6, h7, h5⟩
theorem laid_text {most : Nat} {s : St} (h : ((itText most).next s).e = 0) : s.e = 0 ∧ s.b = textB ((itText most).out s) ++ ((itText most).next s).b ∧ ((itText most).out s).length ≤ most := by
  obtain ⟨h0, h1, h2, h3⟩ := (itText most).next_ok h
  obtain ⟨h4, h5⟩ := errText_zero (most := most) h1
  obtain ⟨h6, h7⟩ := errNum_zero h4
  obtain ⟨h8, h9, h10, h11⟩ := num_laid h6
  rw [h2, h3]
  have hl : (bytesT s.b).length = valN s.b := by
    rw [bytesT, List.length_take, List.length_drop]; omega
  refine ⟨h0, ?_, by show (bytesT s.b).length ≤ most; omega⟩
  show s.b = textB (bytesT s.b) ++ s.b.drop (1 + manyN s.b + valN s.b)
  have e : s.b.drop (1 + manyN s.b + valN s.b) = (s.b.drop (1 + manyN s.b)).drop (valN s.b) := by rw [List.drop_drop]
  rw [textB, hl, bytesT, List.append_assoc, e, List.take_append_drop]
  exact h8
theorem laid_flag {s : St} (h : (itFlag.next s).e = 0) : s.e = 0 ∧ s.b = flagB (itFlag.out s) ++ (itFlag.next s).b := by
  obtain ⟨h0, h1, h2, h3⟩ := itFlag.next_ok h
  obtain ⟨h4, h5⟩ := errFlag_zero h1
  obtain ⟨h6, h7, _⟩ := num_laid h4
  rw [h2, h3]
  refine ⟨h0, ?_⟩
  show s.b = flagB (valN s.b == 1) ++ s.b.drop (1 + manyN s.b)
  have e : (if (valN s.b == 1) = true then 1 else 0) = valN s.b := by
    by_cases hv : valN s.b = 1
    · rw [hv]; rfl
    · have : valN s.b = 0 := by omega
      rw [this]; rfl
  rw [flagB, e]
  exact h6
theorem laid_all (f : It α) (lay : α → List UInt8) (h : ∀ s, (f.next s).e = 0 → s.b = lay (f.out s) ++ (f.next s).b) : ∀ (k : Nat) (s : St), (f.after k s).e = 0 → s.b = (f.outs k s).flatMap lay ++ (f.after k s).b
  | 0, s, _ => by rw [It.outs, It.after, List.flatMap_nil, List.nil_append]
  | k + 1, s, hk => by
    have h1 : (f.after 1 s).e = 0 := f.after_ok hk (by omega)
    have h2 := h s h1
    rw [It.after] at hk
    have h3 := laid_all f lay h k (f.next s) hk
    rw [It.outs, It.after, List.flatMap_cons, List.append_assoc, ← h3]
    exact h2
theorem laid_list (f : It α) (lay : α → List UInt8) (h : ∀ s, (f.next s).e = 0 → s.b = lay (f.out s) ++ (f.next s).b) (many : Nat) {s : St} (hk : (f.listNext many s).e = 0) :
    s.e = 0 ∧ s.b = numB (f.listOut many s).length ++ (f.listOut many s).flatMap lay ++ (f.listNext many s).b ∧ (f.listOut many s).length ≤ many := by
  have h0 : ((itNum many).next s).e = 0 := f.after_ok (k := 0) hk (Nat.zero_le _)
  obtain ⟨h1, h2, h3, h4⟩ := laid_num h0
  have h5 := laid_all f lay h _ _ hk
  have ho : f.listOut many s = f.outs (It.listN many s) ((itNum many).next s) := by rw [It.listOut, if_neg (by simp [hk])]
  rw [ho, f.outs_length]
  refine ⟨h1, ?_, h4⟩
  rw [List.append_assoc]
  show s.b = numB ((itNum many).out s) ++ _
  have h6 : ((itNum many).next s).b = (f.outs (It.listN many s) ((itNum many).next s)).flatMap lay ++ (f.listNext many s).b := h5
  rw [← h6]
  exact h2
/-- The longest that elements are. -/
theorem outs_le (most : Nat) : ∀ (k : Nat) (s : St), ∀ x ∈ (itText most).outs k s, x.length ≤ s.b.length
  | 0, _, _, h => by cases h
  | k + 1, s, x, h => by
    rcases List.mem_cons.1 h with rfl | h
    · unfold It.out
      split
      · exact Nat.zero_le _
      · split
        · exact Nat.zero_le _
        · show (bytesT s.b).length ≤ _
          rw [bytesT, List.length_take, List.length_drop]; omega
    · exact Nat.le_trans (outs_le most k _ x h) ((itText most).next_length s)
end Go.Proofs.Ytbhhalkpghcflaa
