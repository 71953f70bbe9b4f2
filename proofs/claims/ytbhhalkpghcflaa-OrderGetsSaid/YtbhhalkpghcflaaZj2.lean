/-
  Codecs (layer 20): how what is laid is read, and back, put together by combinators; over layer 4's plain reader. Nothing of any program stands here.
-/
import Derived.Test.YtbhhalkpghcflaaZj1
namespace Go.Proofs.Ytbhhalkpghcflaa
set_option linter.unusedVariables false
set_option linter.unusedSimpArgs false

structure Cod (α : Type) where
  rd : St → α × St
  lay : α → List UInt8
  ok : α → Prop
  fw : ∀ x, ok x → ∀ r, rd ⟨lay x ++ r, 0⟩ = (x, ⟨r, 0⟩)
  bw : ∀ s, (rd s).2.e = 0 → s.e = 0 ∧ s.b = lay (rd s).1 ++ (rd s).2.b ∧ ok (rd s).1
  st : ∀ s, s.e ≠ 0 → (rd s).2 = s
variable {α β : Type}
def numC (most : Nat) (hm : most < 256 ^ 8) : Cod Nat where
  rd s := ((itNum most).out s, (itNum most).next s)
  lay := numB
  ok n := n ≤ most
  fw n h r := by
    obtain ⟨h1, h2⟩ := read_num (n := n) (most := most) (by omega) h r
    rw [h1, h2]
  bw s h := by
    obtain ⟨h1, h2, h3, h4⟩ := laid_num h
    exact ⟨h1, h2, h4⟩
  st s h := It.next_err _ h
def textC (most : Nat) (hm : most < 256 ^ 8) : Cod (List UInt8) where
  rd s := ((itText most).out s, (itText most).next s)
  lay := textB
  ok n := n.length ≤ most
  fw n h r := by
    obtain ⟨h1, h2⟩ := read_text (s := n) (most := most) (by omega) h r
    rw [h1, h2]
  bw s h := laid_text h
  st s h := It.next_err _ h
def flagC : Cod Bool where
  rd s := (itFlag.out s, itFlag.next s)
  lay := flagB
  ok _ := True
  fw n _ r := by
    obtain ⟨h1, h2⟩ := read_flag n r
    rw [h1, h2]
  bw s h := by
    obtain ⟨h1, h2⟩ := laid_flag h
    exact ⟨h1, h2, trivial⟩
  st s h := It.next_err _ h
/-- What a kind has; else it is z. -/
def optC (b : Bool) (C : Cod α) (z : α) : Cod α where
  rd s := if b then C.rd s else (z, s)
  lay x := if b then C.lay x else []
  ok x := if b then C.ok x else x = z
  fw x h r := by
    cases b with
    | true => exact C.fw x (by simpa using h) r
    | false =>
      have e : x = z := by simpa using h
      subst e
      rfl
  bw s h := by
    cases b with
    | true => exact C.bw s (by simpa using h)
    | false => exact ⟨by simpa using h, by simp, by simp⟩
  st s h := by
    cases b with
    | true => exact C.st s h
    | false => rfl
def seqC (C : Cod α) (D : Cod β) : Cod (α × β) where
  rd s := (((C.rd s).1, (D.rd (C.rd s).2).1), (D.rd (C.rd s).2).2)
  lay x := C.lay x.1 ++ D.lay x.2
  ok x := C.ok x.1 ∧ D.ok x.2
  fw x h r := by
    rw [List.append_assoc, C.fw x.1 h.1]
    simp only
    rw [D.fw x.2 h.2]
  bw s h := by
    obtain ⟨h1, h2, h3⟩ := D.bw _ h
    obtain ⟨k1, k2, k3⟩ := C.bw _ h1
    exact ⟨k1, by rw [List.append_assoc, ← h2]; exact k2, k3, h3⟩
  st s h := by
    have h1 := C.st s h
    show (D.rd (C.rd s).2).2 = s
    rw [h1]
    exact D.st s h
/-- What follows hangs on what was read. -/
def bindC (C : Cod α) (D : α → Cod β) : Cod (α × β) where
  rd s := (((C.rd s).1, ((D (C.rd s).1).rd (C.rd s).2).1), ((D (C.rd s).1).rd (C.rd s).2).2)
  lay x := C.lay x.1 ++ (D x.1).lay x.2
  ok x := C.ok x.1 ∧ (D x.1).ok x.2
  fw x h r := by
    rw [List.append_assoc, C.fw x.1 h.1]
    simp only
    rw [(D x.1).fw x.2 h.2]
  bw s h := by
    obtain ⟨h1, h2, h3⟩ := (D _).bw _ h
    obtain ⟨k1, k2, k3⟩ := C.bw _ h1
    exact ⟨k1, by rw [List.append_assoc, ← h2]; exact k2, k3, h3⟩
  st s h := by
    have h1 := C.st s h
    show ((D (C.rd s).1).rd (C.rd s).2).2 = s
    rw [h1]
    exact (D _).st s h
/-- A number that may be, else 40. -/
def kindC (C : Cod α) (p : α → Bool) : Cod α where
  rd s := ((C.rd s).1, if (C.rd s).2.e = 0 ∧ p (C.rd s).1 = false then ⟨(C.rd s).2.b, 40⟩ else (C.rd s).2)
  lay := C.lay
  ok x := C.ok x ∧ p x = true
  fw x h r := by
    rw [C.fw x h.1]
    simp only
    rw [if_neg (by rw [h.2]; simp)]
  bw s h := by
    have h0 : ¬ ((C.rd s).2.e = 0 ∧ p (C.rd s).1 = false) := fun e => by
      have h1 : (if (C.rd s).2.e = 0 ∧ p (C.rd s).1 = false then (⟨(C.rd s).2.b, 40⟩ : St) else (C.rd s).2).e = 0 := h
      rw [if_pos e] at h1
      cases h1
    have e0 : (if (C.rd s).2.e = 0 ∧ p (C.rd s).1 = false then (⟨(C.rd s).2.b, 40⟩ : St) else (C.rd s).2) = (C.rd s).2 := if_neg h0
    simp only [e0] at h ⊢
    obtain ⟨h1, h2, h3⟩ := C.bw s h
    refine ⟨h1, h2, h3, ?_⟩
    cases e : p (C.rd s).1 with
    | true => rfl
    | false => exact absurd ⟨h, e⟩ h0
  st s h := by
    have h1 := C.st s h
    show (if (C.rd s).2.e = 0 ∧ p (C.rd s).1 = false then (⟨(C.rd s).2.b, 40⟩ : St) else (C.rd s).2) = s
    rw [h1, if_neg (fun e => h e.1)]
/-- So many of them, one behind the other. -/
def Cod.many (C : Cod α) : Nat → St → List α × St
  | 0, s => ([], s)
  | k + 1, s => ((C.rd s).1 :: (C.many k (C.rd s).2).1, (C.many k (C.rd s).2).2)
theorem Cod.many_st (C : Cod α) : ∀ (k : Nat) (s : St), s.e ≠ 0 → (C.many k s).2 = s
  | 0, s, _ => rfl
  | k + 1, s, h => by
    show (C.many k (C.rd s).2).2 = s
    rw [C.st s h]
    exact C.many_st k s h
theorem Cod.many_len (C : Cod α) : ∀ (k : Nat) (s : St), (C.many k s).1.length = k
  | 0, s => rfl
  | k + 1, s => by
    show ((C.rd s).1 :: (C.many k (C.rd s).2).1).length = k + 1
    rw [List.length_cons, C.many_len k]
theorem Cod.many_fw (C : Cod α) : ∀ (l : List α) (r : List UInt8), (∀ x ∈ l, C.ok x) → C.many l.length ⟨l.flatMap C.lay ++ r, 0⟩ = (l, ⟨r, 0⟩)
  | [], r, _ => rfl
  | x :: l, r, h => by
    rw [List.flatMap_cons, List.append_assoc, List.length_cons, Cod.many, C.fw x (h x (by simp))]
    simp only
    rw [C.many_fw l r fun y hy => h y (by simp [hy])]
theorem Cod.many_bw (C : Cod α) : ∀ (k : Nat) (s : St), (C.many k s).2.e = 0 → s.e = 0 ∧ s.b = (C.many k s).1.flatMap C.lay ++ (C.many k s).2.b ∧ ∀ x ∈ (C.many k s).1, C.ok x
  | 0, s, h => ⟨h, by simp [Cod.many], fun x hx => by cases hx⟩
  | k + 1, s, h => by
    obtain ⟨h1, h2, h3⟩ := C.many_bw k (C.rd s).2 h
    obtain ⟨k1, k2, k3⟩ := C.bw s h1
    refine ⟨k1, ?_, fun x hx => ?_⟩
    · show s.b = ((C.rd s).1 :: (C.many k (C.rd s).2).1).flatMap C.lay ++ (C.many k (C.rd s).2).2.b
      rw [List.flatMap_cons, List.append_assoc, ← h2]
      exact k2
    · rcases List.mem_cons.1 hx with rfl | hx
      · exact k3
      · exact h3 x hx
theorem Cod.many_snoc (C : Cod α) : ∀ (k : Nat) (s : St), C.many (k + 1) s = ((C.many k s).1 ++ [(C.rd (C.many k s).2).1], (C.rd (C.many k s).2).2)
  | 0, s => rfl
  | k + 1, s => by
    rw [Cod.many, C.many_snoc k]
    rfl
/-- A list: how many, and each. -/
def listC (most : Nat) (hm : most < 256 ^ 8) (C : Cod α) : Cod (List α) where
  rd s := C.many ((numC most hm).rd s).1 ((numC most hm).rd s).2
  lay l := numB l.length ++ l.flatMap C.lay
  ok l := l.length ≤ most ∧ ∀ x ∈ l, C.ok x
  fw l h r := by
    have h1 := (numC most hm).fw l.length h.1 (l.flatMap C.lay ++ r)
    have h2 : (numC most hm).rd ⟨numB l.length ++ l.flatMap C.lay ++ r, 0⟩ = (l.length, ⟨l.flatMap C.lay ++ r, 0⟩) := by rw [List.append_assoc]; exact h1
    rw [h2]
    exact C.many_fw l r h.2
  bw s h := by
    obtain ⟨h1, h2, h3⟩ := C.many_bw _ _ h
    obtain ⟨k1, k2, k3⟩ := (numC most hm).bw s h1
    have hl := C.many_len ((numC most hm).rd s).1 ((numC most hm).rd s).2
    refine ⟨k1, ?_, by rw [hl]; exact k3, h3⟩
    rw [hl, List.append_assoc, ← h2]
    exact k2
  st s h := by
    have h1 := (numC most hm).st s h
    show (C.many ((numC most hm).rd s).1 ((numC most hm).rd s).2).2 = s
    rw [h1]
    exact C.many_st _ s h
end Go.Proofs.Ytbhhalkpghcflaa
/-
  An order in plain words (layer 20): which fields a kind has, how it is laid and read. Nothing of any program stands here.
-/
namespace Go.Proofs.Ytbhhalkpghcflaa
set_option linter.unusedVariables false
set_option linter.unusedSimpArgs false

/-! ### Rows of codecs -/
variable {α : Type}
def rdRow : List (Cod α) → St → List α × St
  | [], s => ([], s)
  | C :: Cs, s => ((C.rd s).1 :: (rdRow Cs (C.rd s).2).1, (rdRow Cs (C.rd s).2).2)
def layRow : List (Cod α) → List α → List UInt8
  | C :: Cs, x :: l => C.lay x ++ layRow Cs l
  | _, _ => []
def okRow : List (Cod α) → List α → Prop
  | [], [] => True
  | C :: Cs, x :: l => C.ok x ∧ okRow Cs l
  | _, _ => False
theorem okRow_len : ∀ {Cs : List (Cod α)} {l : List α}, okRow Cs l → l.length = Cs.length
  | [], [], _ => rfl
  | C :: Cs, x :: l, h => by rw [List.length_cons, List.length_cons, okRow_len h.2]
  | [], _ :: _, h => h.elim
  | _ :: _, [], h => h.elim
theorem rdRow_len : ∀ (Cs : List (Cod α)) (s : St), (rdRow Cs s).1.length = Cs.length
  | [], _ => rfl
  | C :: Cs, s => by
    show ((C.rd s).1 :: (rdRow Cs (C.rd s).2).1).length = _
    rw [List.length_cons, List.length_cons, rdRow_len]
theorem rdRow_snoc (D : Cod α) : ∀ (Cs : List (Cod α)) (s : St), rdRow (Cs ++ [D]) s = ((rdRow Cs s).1 ++ [(D.rd (rdRow Cs s).2).1], (D.rd (rdRow Cs s).2).2)
  | [], s => rfl
  | C :: Cs, s => by
    show ((C.rd s).1 :: (rdRow (Cs ++ [D]) (C.rd s).2).1, (rdRow (Cs ++ [D]) (C.rd s).2).2) = _
    rw [rdRow_snoc D Cs]
    rfl
theorem layRow_snoc (D : Cod α) (y : α) : ∀ (Cs : List (Cod α)) (l : List α), l.length = Cs.length → layRow (Cs ++ [D]) (l ++ [y]) = layRow Cs l ++ D.lay y
  | [], [], _ => by simp [layRow]
  | C :: Cs, x :: l, h => by
    show C.lay x ++ layRow (Cs ++ [D]) (l ++ [y]) = C.lay x ++ layRow Cs l ++ D.lay y
    rw [layRow_snoc D y Cs l (by simpa using h), List.append_assoc]
  | [], _ :: _, h => by simp at h
  | _ :: _, [], h => by simp at h
def rowC (Cs : List (Cod α)) : Cod (List α) where
  rd := rdRow Cs
  lay := layRow Cs
  ok := okRow Cs
  fw := by
    induction Cs with
    | nil =>
      intro l h r
      cases l with
      | nil => rfl
      | cons x l => exact h.elim
    | cons C Cs ih =>
      intro l h r
      cases l with
      | nil => exact h.elim
      | cons x l =>
        show rdRow (C :: Cs) ⟨C.lay x ++ layRow Cs l ++ r, 0⟩ = _
        rw [List.append_assoc, rdRow, C.fw x h.1]
        simp only
        rw [ih l h.2]
  bw := by
    induction Cs with
    | nil => exact fun s h => ⟨h, by simp [rdRow, layRow], trivial⟩
    | cons C Cs ih =>
      intro s h
      obtain ⟨h1, h2, h3⟩ := ih (C.rd s).2 h
      obtain ⟨k1, k2, k3⟩ := C.bw s h1
      refine ⟨k1, ?_, k3, h3⟩
      show s.b = (C.lay (C.rd s).1 ++ layRow Cs (rdRow Cs (C.rd s).2).1) ++ (rdRow Cs (C.rd s).2).2.b
      rw [List.append_assoc, ← h2]
      exact k2
  st := by
    induction Cs with
    | nil => exact fun s h => rfl
    | cons C Cs ih =>
      intro s h
      show (rdRow Cs (C.rd s).2).2 = s
      rw [C.st s h]
      exact ih s h
/-! ### Kinds -/
/-- Which of the sixteen fields a kind has: 120 stands for 'has'. -/
def hasT : List (List Nat) := [[], [0, 6], [0], [0, 1, 3, 4, 11], [0, 3], [0, 2, 3, 5, 6], [0, 3], [9, 10, 12], [9, 10, 12, 13], [9, 10, 13], [7, 8], [7, 8, 13], [7], [7, 13], [7, 8, 14], [7, 8, 14], [0], [14], [15]]
def hasL (kind : Nat) : List UInt8 := if 1 ≤ kind ∧ kind ≤ 18 then (List.range 16).map fun i => if (hasT.getD kind []).contains i then 120 else 46 else []
def hasB (kind : Nat) (i : Nat) : Bool := (hasT.getD kind []).contains i
theorem hasL_at {kind i : Nat} (h : 1 ≤ kind ∧ kind ≤ 18) (hi : i < 16) : (hasL kind)[i]? = some (if hasB kind i then 120 else 46) := by
  unfold hasL hasB
  rw [if_pos h]
  simp [hi]
def c64 : Nat := 18446744073709551615
/-- A field's value. -/
inductive Fv
  | num (z : Int)
  | text (s : List UInt8)
  | texts (l : List (List UInt8))
  | flag (b : Bool)
  | idx (n : Nat)
def mapC {α β : Type} (C : Cod α) (f : α → β) (g : β → Option α) (hg : ∀ a, g (f a) = some a) : Cod β where
  rd s := (f (C.rd s).1, (C.rd s).2)
  lay b := match g b with | some a => C.lay a | none => []
  ok b := ∃ a, b = f a ∧ C.ok a
  fw b h r := by
    obtain ⟨a, rfl, ha⟩ := h
    simp only [hg]
    rw [C.fw a ha]
  bw s h := by
    obtain ⟨h1, h2, h3⟩ := C.bw s h
    refine ⟨h1, ?_, _, rfl, h3⟩
    simp only [hg]
    exact h2
  st s h := C.st s h
def Fv.toNat : Fv → Option Nat
  | .num z => if 0 ≤ z then some z.toNat else none
  | .idx n => some n
  | _ => none
def Fv.toText : Fv → Option (List UInt8)
  | .text s => some s
  | _ => none
def Fv.toTexts : Fv → Option (List (List UInt8))
  | .texts l => some l
  | _ => none
def Fv.toFlag : Fv → Option Bool
  | .flag b => some b
  | _ => none
def numF : Cod Fv := mapC (numC 65535 (by decide)) (fun n => .num (n : Int)) Fv.toNat (fun a => by simp [Fv.toNat])
def textF : Cod Fv := mapC (textC 80 (by decide)) .text Fv.toText (fun _ => rfl)
def textsF : Cod Fv := mapC (listC 8 (by decide) (textC 80 (by decide))) .texts Fv.toTexts (fun _ => rfl)
def flagF : Cod Fv := mapC flagC .flag Fv.toFlag (fun _ => rfl)
def idxF : Cod Fv := mapC (numC c64 (by decide)) .idx Fv.toNat (fun _ => rfl)
/-- The codec of a field, by its place; what stands where a kind has it not. -/
def fvC (k : Nat) : Cod Fv := if k < 3 then numF else if k < 11 then textF else if k = 11 then textsF else if k = 12 then flagF else idxF
def fvZ (k : Nat) : Fv := if k < 3 then .num 0 else if k < 11 then .text [] else if k = 11 then .texts [] else if k = 12 then .flag false else .idx 0
def fC (kind k : Nat) : Cod Fv := optC (hasB kind k) (fvC k) (fvZ k)
def fCs (kind n : Nat) : List (Cod Fv) := (List.range n).map (fC kind)
theorem fCs_succ (kind n : Nat) : fCs kind (n + 1) = fCs kind n ++ [fC kind n] := by unfold fCs; rw [List.range_succ, List.map_append]; rfl
theorem fCs_len (kind n : Nat) : (fCs kind n).length = n := by unfold fCs; simp
abbrev Fs := List Fv
def fieldsC (kind : Nat) : Cod Fs := rowC (fCs kind 15)
/-! ### What may be -/
def Fv.right : Fv → Bool
  | .num z => decide (0 ≤ z) && decide (z ≤ 65535)
  | .text s => decide (s.length ≤ 80)
  | .texts l => decide (l.length ≤ 8) && l.all (fun s => decide (s.length ≤ 80))
  | .flag _ => true
  | .idx _ => true
def Fv.empty : Fv → Bool
  | .num z => decide (z = 0)
  | .text s => decide (s = [])
  | .texts l => decide (l = [])
  | .flag b => !b
  | .idx n => decide (n = 0)
/-- What may stand at a place. -/
def Fv.at_ : Nat → Fv → Prop
  | k, .num _ => k < 3
  | k, .text _ => 3 ≤ k ∧ k < 11
  | k, .texts _ => k = 11
  | k, .flag _ => k = 12
  | k, .idx n => 13 ≤ k ∧ n ≤ c64
def fOk (kind k : Nat) (v : Fv) : Bool := if hasB kind k then v.right else v.empty
theorem fOk_iff {kind k : Nat} {v : Fv} (h : v.at_ k) : fOk kind k v = true ↔ (fC kind k).ok v := by
  unfold fOk fC
  show _ ↔ (if hasB kind k then (fvC k).ok v else v = fvZ k)
  cases hasB kind k with
  | true =>
    simp only [if_true]
    unfold fvC
    cases v with
    | num z =>
      have h' : k < 3 := h
      rw [if_pos h']
      show (decide (0 ≤ z) && decide (z ≤ 65535)) = true ↔ ∃ n : Nat, Fv.num z = .num (n : Int) ∧ n ≤ 65535
      simp only [Bool.and_eq_true, decide_eq_true_eq, Fv.num.injEq]
      exact ⟨fun ⟨h1, h2⟩ => ⟨z.toNat, by omega, by omega⟩, fun ⟨n, h1, h2⟩ => by omega⟩
    | text s =>
      have h' : 3 ≤ k ∧ k < 11 := h
      rw [if_neg (by omega), if_pos h'.2]
      show decide (s.length ≤ 80) = true ↔ ∃ t, Fv.text s = .text t ∧ t.length ≤ 80
      simp
    | texts l =>
      have h' : k = 11 := h
      subst h'
      show (decide (l.length ≤ 8) && l.all (fun s => decide (s.length ≤ 80))) = true ↔ ∃ t, Fv.texts l = .texts t ∧ t.length ≤ 8 ∧ ∀ x ∈ t, x.length ≤ 80
      simp
    | flag b =>
      have h' : k = 12 := h
      subst h'
      show true = true ↔ ∃ t, Fv.flag b = .flag t ∧ True
      simp
    | idx n =>
      have h' : 13 ≤ k ∧ n ≤ c64 := h
      rw [if_neg (by omega), if_neg (by omega), if_neg (by omega), if_neg (by omega)]
      show true = true ↔ ∃ t, Fv.idx n = .idx t ∧ t ≤ c64
      simp [h'.2]
  | false =>
    simp only [Bool.false_eq_true, if_false]
    unfold fvZ
    cases v with
    | num z =>
      have h' : k < 3 := h
      rw [if_pos h']
      simp [Fv.empty]
    | text s =>
      have h' : 3 ≤ k ∧ k < 11 := h
      rw [if_neg (by omega), if_pos h'.2]
      simp [Fv.empty]
    | texts l =>
      have h' : k = 11 := h
      subst h'
      simp [Fv.empty]
    | flag b =>
      have h' : k = 12 := h
      subst h'
      simp [Fv.empty]
    | idx n =>
      have h' : 13 ≤ k ∧ n ≤ c64 := h
      rw [if_neg (by omega), if_neg (by omega), if_neg (by omega), if_neg (by omega)]
      simp [Fv.empty]
def subC : Cod (Nat × Fs) := bindC (kindC (numC 255 (by decide)) fun k => decide (1 ≤ k) && decide (k ≤ 17)) fieldsC
def headC : Cod (Nat × Fs) := bindC (kindC (numC 255 (by decide)) fun k => decide (1 ≤ k) && decide (k ≤ 18)) fieldsC
def cmdC : Cod ((Nat × Fs) × List (Nat × Fs)) := bindC headC fun x => optC (hasB x.1 15) (listC 8 (by decide) subC) []
def orderC : Cod (Nat × Nat × (Nat × Fs) × List (Nat × Fs)) := seqC (numC 255 (by decide)) (seqC (numC 4294967295 (by decide)) cmdC)
/-- What is wrong with bytes as an order. -/
def errO (b : List UInt8) : Nat := if (orderC.rd ⟨b, 0⟩).2.e ≠ 0 then (orderC.rd ⟨b, 0⟩).2.e else if 0 < (orderC.rd ⟨b, 0⟩).2.b.length then 41 else if 15 < (orderC.rd ⟨b, 0⟩).1.1 then 2 else 0
/-- What is laid is read as it was. -/
theorem order_back {x : Nat × Nat × (Nat × Fs) × List (Nat × Fs)} (h : orderC.ok x) (hc : x.1 ≤ 15) : errO (orderC.lay x) = 0 ∧ (orderC.rd ⟨orderC.lay x, 0⟩).1 = x := by
  have h1 := orderC.fw x h []
  rw [List.append_nil] at h1
  unfold errO
  rw [h1]
  refine ⟨?_, rfl⟩
  simp only [ne_eq, not_true, if_false, List.length_nil, Nat.lt_irrefl]
  rw [if_neg (by omega)]
/-- What is read is laid as just these bytes. -/
theorem order_once {b : List UInt8} (h : errO b = 0) : orderC.lay (orderC.rd ⟨b, 0⟩).1 = b ∧ orderC.ok (orderC.rd ⟨b, 0⟩).1 ∧ (orderC.rd ⟨b, 0⟩).1.1 ≤ 15 := by
  unfold errO at h
  by_cases h0 : (orderC.rd ⟨b, 0⟩).2.e = 0
  · rw [if_neg (by simpa using h0)] at h
    by_cases h1 : 0 < (orderC.rd ⟨b, 0⟩).2.b.length
    · rw [if_pos h1] at h; cases h
    · rw [if_neg h1] at h
      by_cases h2 : 15 < (orderC.rd ⟨b, 0⟩).1.1
      · rw [if_pos h2] at h; cases h
      · obtain ⟨k1, k2, k3⟩ := orderC.bw _ h0
        have k4 : (orderC.rd ⟨b, 0⟩).2.b = [] := List.eq_nil_of_length_eq_zero (by omega)
        rw [k4, List.append_nil] at k2
        exact ⟨k2.symm, k3, by omega⟩
  · rw [if_pos (by simpa using h0)] at h
    exact absurd h h0
end Go.Proofs.Ytbhhalkpghcflaa
