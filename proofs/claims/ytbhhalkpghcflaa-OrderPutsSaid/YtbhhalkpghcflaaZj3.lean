/-
  Codecs (layer 20): how what is laid is read, and back, put together by combinators; over layer 4's plain reader. Nothing of any program stands here.
-/
import Derived.Test.YtbhhalkpghcflaaZj2
namespace Go.Proofs.Ytbhhalkpghcflaa
set_option linter.unusedVariables false
set_option linter.unusedSimpArgs false

structure Cod (α : Type) where
  rd : St → α × St
  lay : α → List UInt8
  ok : α → Prop
  fw : ∀ x, ok x → ∀ r, rd ⟨lay x ++ r, 0⟩ = (x, ⟨r, 0⟩)
  bw : ∀ s, (rd s).2.e = 0 → s.e = 0 ∧ s.b = lay (rd s).1 ++ (rd s).2.b ∧ ok (rd s).1
  st : ∀ s, s.e ≠ 0 → (rd s).2 = s
variable {α β : Type}
def numC (most : Nat) (hm : most < 256 ^ 8) : Cod Nat where
  rd s := ((itNum most).out s, (itNum most).next s)
  lay := numB
  ok n := n ≤ most
  fw n h r := by
    obtain ⟨h1, h2⟩ := read_num (n := n) (most := most) (by omega) h r
    rw [h1, h2]
  bw s h := by
    obtain ⟨h1, h2, h3, h4⟩ := laid_num h
    exact ⟨h1, h2, h4⟩
  st s h := It.next_err _ h
def textC (most : Nat) (hm : most < 256 ^ 8) : Cod (List UInt8) where
  rd s := ((itText most).out s, (itText most).next s)
  lay := textB
  ok n := n.length ≤ most
  fw n h r := by
    obtain ⟨h1, h2⟩ := read_text (s := n) (most := most) (by omega) h r
    rw [h1, h2]
  bw s h := laid_text h
  st s h := It.next_err _ h
def flagC : Cod Bool where
  rd s := (itFlag.out s, itFlag.next s)
  lay := flagB
  ok _ := True
  fw n _ r := by
    obtain ⟨h1, h2⟩ := read_flag n r
    rw [h1, h2]
  bw s h := by
    obtain ⟨h1, h2⟩ := laid_flag h
    exact ⟨h1, h2, trivial⟩
  st s h := It.next_err _ h
/-- What a kind has; else it is z. -/
def optC (b : Bool) (C : Cod α) (z : α) : Cod α where
  rd s := if b then C.rd s else (z, s)
  lay x := if b then C.lay x else []
  ok x := if b then C.ok x else x = z
  fw x h r := by
    cases b with
    | true => exact C.fw x (by simpa using h) r
    | false =>
      have e : x = z := by simpa using h
      subst e
      rfl
  bw s h := by
    cases b with
    | true => exact C.bw s (by simpa using h)
    | false => exact ⟨by simpa using h, by simp, by simp⟩
  st s h := by
    cases b with
    | true => exact C.st s h
    | false => rfl
def seqC (C : Cod α) (D : Cod β) : Cod (α × β) where
  rd s := (((C.rd s).1, (D.rd (C.rd s).2).1), (D.rd (C.rd s).2).2)
  lay x := C.lay x.1 ++ D.lay x.2
  ok x := C.ok x.1 ∧ D.ok x.2
  fw x h r := by
    rw [List.append_assoc, C.fw x.1 h.1]
    simp only
    rw [D.fw x.2 h.2]
  bw s h := by
    obtain ⟨h1, h2, h3⟩ := D.bw _ h
    obtain ⟨k1, k2, k3⟩ := C.bw _ h1
    exact ⟨k1, by rw [List.append_assoc, ← h2]; exact k2, k3, h3⟩
  st s h := by
    have h1 := C.st s h
    show (D.rd (C.rd s).2).2 = s
    rw [h1]
    exact D.st s h
/-- What follows hangs on what was read. -/
def bindC (C : Cod α) (D : α → Cod β) : Cod (α × β) where
  rd s := (((C.rd s).1, ((D (C.rd s).1).rd (C.rd s).2).1), ((D (C.rd s).1).rd (C.rd s).2).2)
  lay x := C.lay x.1 ++ (D x.1).lay x.2
  ok x := C.ok x.1 ∧ (D x.1).ok x.2
  fw x h r := by
    rw [List.append_assoc, C.fw x.1 h.1]
    simp only
    rw [(D x.1).fw x.2 h.2]
  bw s h := by
    obtain ⟨h1, h2, h3⟩ := (D _).bw _ h
    obtain ⟨k1, k2, k3⟩ := C.bw _ h1
    exact ⟨k1, by rw [List.append_assoc, ← h2]; exact k2, k3, h3⟩
  st s h := by
    have h1 := C.st s h
    show ((D (C.rd s).1).rd (C.rd s).2).2 = s
    rw [h1]
    exact (D _).st s h
/-- A number that may be, else 40. -/
def kindC (C : Cod α) (p : α → Bool) : Cod α where
  rd s := ((C.rd s).1, if (C.rd s).2.e = 0 ∧ p (C.rd s).1 = false then ⟨(C.rd s).2.b, 40⟩ else (C.rd s).2)
  lay := C.lay
  ok x := C.ok x ∧ p x = true
  fw x h r := by
    rw [C.fw x h.1]
    simp only
    rw [if_neg (by rw [h.2]; simp)]
  bw s h := by
    have h0 : ¬ ((C.rd s).2.e = 0 ∧ p (C.rd s).1 = false) := fun e => by
      have h1 : (if (C.rd s).2.e = 0 ∧ p (C.rd s).1 = false then (⟨(C.rd s).2.b, 40⟩ : St) else (C.rd s).2).e = 0 := h
      rw [if_pos e] at h1
      cases h1
    have e0 : (if (C.rd s).2.e = 0 ∧ p (C.rd s).1 = false then (⟨(C.rd s).2.b, 40⟩ : St) else (C.rd s).2) = (C.rd s).2 := if_neg h0
    simp only [e0] at h ⊢
    obtain ⟨h1, h2, h3⟩ := C.bw s h
    refine ⟨h1, h2, h3, ?_⟩
    cases e : p (C.rd s).1 with
    | true => rfl
    | false => exact absurd ⟨h, e⟩ h0
  st s h := by
    have h1 := C.st s h
    show (if (C.rd s).2.e = 0 ∧ p (C.rd s).1 = false then (⟨(C.rd s).2.b, 40⟩ : St) else (C.rd s).2) = s
    rw [h1, if_neg (fun e => h e.1)]
/-- So many of them, one behind the other. -/
def Cod.many (C : Cod α) : Nat → St → List α × St
  | 0, s => ([], s)
  | k + 1, s => ((C.rd s).1 :: (C.many k (C.rd s).2).1, (C.many k (C.rd s).2).2)
theorem Cod.many_st (C : Cod α) : ∀ (k : Nat) (s : St), s.e ≠ 0 → (C.many k s).2 = s
  | 0, s, _ => rfl
  | k + 1, s, h => by
    show (C.many k (C.rd s).2).2 = s
    rw [C.st s h]
    exact C.many_st k s h
theorem Cod.many_len (C : Cod α) : ∀ (k : Nat) (s : St), (C.many k s).1.length = k
  | 0, s => rfl
  | k + 1, s => by
    show ((C.rd s).1 :: (C.many k (C.rd s).2).1).length = k + 1
    rw [List.length_cons, C.many_len k]
theorem Cod.many_fw (C : Cod α) : ∀ (l : List α) (r : List UInt8), (∀ x ∈ l, C.ok x) → C.many l.length ⟨l.flatMap C.lay ++ r, 0⟩ = (l, ⟨r, 0⟩)
  | [], r, _ => rfl
  | x :: l, r, h => by
    rw [List.flatMap_cons, List.append_assoc, List.length_cons, Cod.many, C.fw x (h x (by simp))]
    simp only
    rw [C.many_fw l r fun y hy => h y (by simp [hy])]
theorem Cod.many_bw (C : Cod α) : ∀ (k : Nat) (s : St), (C.many k s).2.e = 0 → s.e = 0 ∧ s.b = (C.many k s).1.flatMap C.lay ++ (C.many k s).2.b ∧ ∀ x ∈ (C.many k s).1, C.ok x
  | 0, s, h => ⟨h, by simp [Cod.many], fun x hx => by cases hx⟩
  | k + 1, s, h => by
    obtain ⟨h1, h2, h3⟩ := C.many_bw k (C.rd s).2 h
    obtain ⟨k1, k2, k3⟩ := C.bw s h1
    refine ⟨k1, ?_, fun x hx => ?_⟩
    · show s.b = ((C.rd s).1 :: (C.many k (C.rd s).2).1).flatMap C.lay ++ (C.many k (C.rd s).2).2.b
      rw [List.flatMap_cons, List.append_assoc, ← h2]
      exact k2
    · rcases List.mem_cons.1 hx with rfl | hx
      · exact k3
      · exact h3 x hx
theorem Cod.many_snoc (C : Cod α) : ∀ (k : Nat) (s : St), C.many (k + 1) s = ((C.many k s).1 ++ [(C.rd (C.many k s).2).1], (C.rd (C.many k s).2).2)
  | 0, s => rfl
  | k + 1, s => by
    rw [Cod.many, C.many_snoc k]
    rfl
/-- A list: how many, and each. -/
def listC (most : Nat) (hm : most < 256 ^ 8) (C : Cod α) : Cod (List α) where
  rd s := C.many ((numC most hm).rd s).1 ((numC most hm).rd s).2
  lay l := numB l.length ++ l.flatMap C.lay
  ok l := l.length ≤ most ∧ ∀ x ∈ l, C.ok x
  fw l h r := by
    have h1 := (numC most hm).fw l.length h.1 (l.flatMap C.lay ++ r)
    have h2 : (numC most hm).rd ⟨numB l.length ++ l.flatMap C.lay ++ r, 0⟩ = (l.length, ⟨l.flatMap C.lay ++ r, 0⟩) := by rw [List.append_assoc]; exact h1
    rw [h2]
    exact C.many_fw l r h.2
  bw s h := by
    obtain ⟨h1, h2, h3⟩ := C.many_bw _ _ h
    obtain ⟨k1, k2, k3⟩ := (numC most hm).bw s h1
    have hl := C.many_len ((numC most hm).rd s).1 ((numC most hm).rd s).2
    refine ⟨k1, ?_, by rw [hl]; exact k3, h3⟩
    rw [hl, List.append_assoc, ← h2]
    exact k2
  st s h := by
    have h1 := (numC most hm).st s h
    show (C.many ((numC most hm).rd s).1 ((numC most hm).rd s).2).2 = s
    rw [h1]
    exact C.many_st _ s h
end Go.Proofs.Ytbhhalkpghcflaa
