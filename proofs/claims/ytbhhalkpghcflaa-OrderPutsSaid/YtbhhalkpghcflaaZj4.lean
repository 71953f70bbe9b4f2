/-
  An order in plain words (layer 20): which fields a kind has, how it is laid and read. Nothing of any program stands here.
-/
import Derived.Test.YtbhhalkpghcflaaZj3
namespace Go.Proofs.Ytbhhalkpghcflaa
set_option linter.unusedVariables false
set_option linter.unusedSimpArgs false

/-! ### Rows of codecs -/
variable {α : Type}
def rdRow : List (Cod α) → St → List α × St
  | [], s => ([], s)
  | C :: Cs, s => ((C.rd s).1 :: (rdRow Cs (C.rd s).2).1, (rdRow Cs (C.rd s).2).2)
def layRow : List (Cod α) → List α → List UInt8
  | C :: Cs, x :: l => C.lay x ++ layRow Cs l
  | _, _ => []
def okRow : List (Cod α) → List α → Prop
  | [], [] => True
  | C :: Cs, x :: l => C.ok x ∧ okRow Cs l
  | _, _ => False
theorem okRow_len : ∀ {Cs : List (Cod α)} {l : List α}, okRow Cs l → l.length = Cs.length
  | [], [], _ => rfl
  | C :: Cs, x :: l, h => by rw [List.length_cons, List.length_cons, okRow_len h.2]
  | [], _ :: _, h => h.elim
  | _ :: _, [], h => h.elim
theorem rdRow_len : ∀ (Cs : List (Cod α)) (s : St), (rdRow Cs s).1.length = Cs.length
  | [], _ => rfl
  | C :: Cs, s => by
    show ((C.rd s).1 :: (rdRow Cs (C.rd s).2).1).length = _
    rw [List.length_cons, List.length_cons, rdRow_len]
theorem rdRow_snoc (D : Cod α) : ∀ (Cs : List (Cod α)) (s : St), rdRow (Cs ++ [D]) s = ((rdRow Cs s).1 ++ [(D.rd (rdRow Cs s).2).1], (D.rd (rdRow Cs s).2).2)
  | [], s => rfl
  | C :: Cs, s => by
    show ((C.rd s).1 :: (rdRow (Cs ++ [D]) (C.rd s).2).1, (rdRow (Cs ++ [D]) (C.rd s).2).2) = _
    rw [rdRow_snoc D Cs]
    rfl
theorem layRow_snoc (D : Cod α) (y : α) : ∀ (Cs : List (Cod α)) (l : List α), l.length = Cs.length → layRow (Cs ++ [D]) (l ++ [y]) = layRow Cs l ++ D.lay y
  | [], [], _ => by simp [layRow]
  | C :: Cs, x :: l, h => by
    show C.lay x ++ layRow (Cs ++ [D]) (l ++ [y]) = C.lay x ++ layRow Cs l ++ D.lay y
    rw [layRow_snoc D y Cs l (by simpa using h), List.append_assoc]
  | [], _ :: _, h => by simp at h
  | _ :: _, [], h => by simp at h
def rowC (Cs : List (Cod α)) : Cod (List α) where
  rd := rdRow Cs
  lay := layRow Cs
  ok := okRow Cs
  fw := by
    induction Cs with
    | nil =>
      intro l h r
      cases l with
      | nil => rfl
      | cons x l => exact h.elim
    | cons C Cs ih =>
      intro l h r
      cases l with
      | nil => exact h.elim
      | cons x l =>
        show rdRow (C :: Cs) ⟨C.lay x ++ layRow Cs l ++ r, 0⟩ = _
        rw [List.append_assoc, rdRow, C.fw x h.1]
        simp only
        rw [ih l h.2]
  bw := by
    induction Cs with
    | nil => exact fun s h => ⟨h, by simp [rdRow, layRow], trivial⟩
    | cons C Cs ih =>
      intro s h
      obtain ⟨h1, h2, h3⟩ := ih (C.rd s).2 h
      obtain ⟨k1, k2, k3⟩ := C.bw s h1
      refine ⟨k1, ?_, k3, h3⟩
      show s.b = (C.lay (C.rd s).1 ++ layRow Cs (rdRow Cs (C.rd s).2).1) ++ (rdRow Cs (C.rd s).2).2.b
      rw [List.append_assoc, ← h2]
      exact k2
  st := by
    induction Cs with
    | nil => exact fun s h => rfl
    | cons C Cs ih =>
      intro s h
      show (rdRow Cs (C.rd s).2).2 = s
      rw [C.st s h]
      exact ih s h
/-! ### Kinds -/
/-- Which of the sixteen fields a kind has: 120 stands for 'has'. -/
def hasT : List (List Nat) := [[], [0, 6], [0], [0, 1, 3, 4, 11], [0, 3], [0, 2, 3, 5, 6], [0, 3], [9, 10, 12], [9, 10, 12, 13], [9, 10, 13], [7, 8], [7, 8, 13], [7], [7, 13], [7, 8, 14], [7, 8, 14], [0], [14], [15]]
def hasL (kind : Nat) : List UInt8 := if 1 ≤ kind ∧ kind ≤ 18 then (List.range 16).map fun i => if (hasT.getD kind []).contains i then 120 else 46 else []
def hasB (kind : Nat) (i : Nat) : Bool := (hasT.getD kind []).contains i
theorem hasL_at {kind i : Nat} (h : 1 ≤ kind ∧ kind ≤ 18) (hi : i < 16) : (hasL kind)[i]? = some (if hasB kind i then 120 else 46) := by
  unfold hasL hasB
  rw [if_pos h]
  simp [hi]
def c64 : Nat := 18446744073709551615
/-- A field's value. -/
inductive Fv
  | num (z : Int)
  | text (s : List UInt8)
  | texts (l : List (List UInt8))
  | flag (b : Bool)
  | idx (n : Nat)
def mapC {α β : Type} (C : Cod α) (f : α → β) (g : β → Option α) (hg : ∀ a, g (f a) = some a) : Cod β where
  rd s := (f (C.rd s).1, (C.rd s).2)
  lay b := match g b with | some a => C.lay a | none => []
  ok b := ∃ a, b = f a ∧ C.ok a
  fw b h r := by
    obtain ⟨a, rfl, ha⟩ := h
    simp only [hg]
    rw [C.fw a ha]
  bw s h := by
    obtain ⟨h1, h2, h3⟩ := C.bw s h
    refine ⟨h1, ?_, _, rfl, h3⟩
    simp only [hg]
    exact h2
  st s h := C.st s h
def Fv.toNat : Fv → Option Nat
  | .num z => if 0 ≤ z then some z.toNat else none
  | .idx n => some n
  | _ => none
def Fv.toText : Fv → Option (List UInt8)
  | .text s => some s
  | _ => none
def Fv.toTexts : Fv → Option (List (List UInt8))
  | .texts l => some l
  | _ => none
def Fv.toFlag : Fv → Option Bool
  | .flag b => some b
  | _ => none
def numF : Cod Fv := mapC (numC 65535 (by decide)) (fun n => .num (n : Int)) Fv.toNat (fun a => by simp [Fv.toNat])
def textF : Cod Fv := mapC (textC 80 (by decide)) .text Fv.toText (fun _ => rfl)
def textsF : Cod Fv := mapC (listC 8 (by decide) (textC 80 (by decide))) .texts Fv.toTexts (fun _ => rfl)
def flagF : Cod Fv := mapC flagC .flag Fv.toFlag (fun _ => rfl)
def idxF : Cod Fv := mapC (numC c64 (by decide)) .idx Fv.toNat (fun _ => rfl)
/-- The codec of a field, by its place; what stands where a kind has it not. -/
def fvC (k : Nat) : Cod Fv := if k < 3 then numF else if k < 11 then textF else if k = 11 then textsF else if k = 12 then flagF else idxF
def fvZ (k : Nat) : Fv := if k < 3 then .num 0 else if k < 11 then .text [] else if k = 11 then .texts [] else if k = 12 then .flag false else .idx 0
def fC (kind k : Nat) : Cod Fv := optC (hasB kind k) (fvC k) (fvZ k)
def fCs (kind n : Nat) : List (Cod Fv) := (List.range n).map (fC kind)
theorem fCs_succ (kind n : Nat) : fCs kind (n + 1) = fCs kind n ++ [fC kind n] := by unfold fCs; rw [List.range_succ, List.map_append]; rfl
theorem fCs_len (kind n : Nat) : (fCs kind n).length = n := by unfold fCs; simp
abbrev Fs := List Fv
def fieldsC (kind : Nat) : Cod Fs := rowC (fCs kind 15)
/-! ### What may be -/
def Fv.right : Fv → Bool
  | .num z => decide (0 ≤ z) && decide (z ≤ 65535)
  | .text s => decide (s.length ≤ 80)
  | .texts l => decide (l.length ≤ 8) && l.all (fun s => decide (s.length ≤ 80))
  | .flag _ => true
  | .idx _ => true
def Fv.empty : Fv → Bool
  | .num z => decide (z = 0)
  | .text s => decide (s = [])
  | .texts l => decide (l = [])
  | .flag b => !b
  | .idx n => decide (n = 0)
/-- What may stand at a place. -/
def Fv.at_ : Nat → Fv → Prop
  | k, .num _ => k < 3
  | k, .text _ => 3 ≤ k ∧ k < 11
  | k, .texts _ => k = 11
  | k, .flag _ => k = 12
  | k, .idx n => 13 ≤ k ∧ n ≤ c64
def fOk (kind k : Nat) (v : Fv) : Bool := if hasB kind k then v.right else v.empty
theorem fOk_iff {kind k : Nat} {v : Fv} (h : v.at_ k) : fOk kind k v = true ↔ (fC kind k).ok v := by
  unfold fOk fC
  show _ ↔ (if hasB kind k then (fvC k).ok v else v = fvZ k)
  cases hasB kind k with
  | true =>
    simp only [if_true]
    unfold fvC
    cases v with
    | num z =>
      have h' : k < 3 := h
      rw [if_pos h']
      show (decide (0 ≤ z) && decide (z ≤ 65535)) = true ↔ ∃ n : Nat, Fv.num z = .num (n : Int) ∧ n ≤ 65535
      simp only [Bool.and_eq_true, decide_eq_true_eq, Fv.num.injEq]
      exact ⟨fun ⟨h1, h2⟩ => ⟨z.toNat, by omega, by omega⟩, fun ⟨n, h1, h2⟩ => by omega⟩
    | text s =>
      have h' : 3 ≤ k ∧ k < 11 := h
      rw [if_neg (by omega), if_pos h'.2]
      show decide (s.length ≤ 80) = true ↔ ∃ t, Fv.text s = .text t ∧ t.length ≤ 80
      simp
    | texts l =>
      have h' : k = 11 := h
      subst h'
      show (decide (l.length ≤ 8) && l.all (fun s => decide (s.length ≤ 80))) = true ↔ ∃ t, Fv.texts l = .texts t ∧ t.length ≤ 8 ∧ ∀ x ∈ t, x.length ≤ 80
      simp
    | flag b =>
      have h' : k = 12 := h
      subst h'
      show true = true ↔ ∃ t, Fv.flag b = .flag t ∧ True
      simp
    | idx n =>
      have h' : 13 ≤ k ∧ n ≤ c64 := h
      rw [if_neg (by omega), if_neg (by omega), if_neg (by omega), if_neg (by omega)]
      show true = true ↔ ∃ t, Fv.idx n = .idx t ∧ t ≤ c64
      simp [h'.2]
  | false =>
    simp only [Bool.false_eq_true, if_false]
    unfold fvZ
    cases v with
    | num z =>
      have h' : k < 3 := h
      rw [if_pos h']
      simp [Fv.empty]
    | text s =>
      have h' : 3 ≤ k ∧ k < 11 := h
      rw [if_neg (by omega), if_pos h'.2]
      simp [Fv.empty]
    | texts l =>
      have h' : k = 11 := h
      subst h'
      simp [Fv.empty]
    | flag b =>
      have h' : k = 12 := h
      subst h'
      simp [Fv.empty]
    | idx n =>
      have h' : 13 ≤ k ∧ n ≤ c64 := h
      rw [if_neg (by omega), if_neg (by omega), if_neg (by omega), if_neg (by omega)]
      simp [Fv.empty]
def subC : Cod (Nat × Fs) := bindC (kindC (numC 255 (by decide)) fun k => decide (1 ≤ k) && decide (k ≤ 17)) fieldsC
def headC : Cod (Nat × Fs) := bindC (kindC (numC 255 (by decide)) fun k => decide (1 ≤ k) && decide (k ≤ 18)) fieldsC
def cmdC : Cod ((Nat × Fs) × List (Nat × Fs)) := bindC headC fun x => optC (hasB x.1 15) (listC 8 (by decide) subC) []
def orderC : Cod (Nat × Nat × (Nat × Fs) × List (Nat × Fs)) := seqC (numC 255 (by decide)) (seqC (numC 4294967295 (by decide)) cmdC)
/-- What is wrong with bytes as an order. -/
def errO (b : List UInt8) : Nat := if (orderC.rd ⟨b, 0⟩).2.e ≠ 0 then (orderC.rd ⟨b, 0⟩).2.e else if 0 < (orderC.rd ⟨b, 0⟩).2.b.length then 41 else if 15 < (orderC.rd ⟨b, 0⟩).1.1 then 2 else 0
/-- What is laid is read as it was. -/
theorem order_back {x : Nat × Nat × (Nat × Fs) × List (Nat × Fs)} (h : orderC.ok x) (hc : x.1 ≤ 15) : errO (orderC.lay x) = 0 ∧ (orderC.rd ⟨orderC.lay x, 0⟩).1 = x := by
  have h1 := orderC.fw x h []
  rw [List.append_nil] at h1
  unfold errO
  rw [h1]
  refine ⟨?_, rfl⟩
  simp only [ne_eq, not_true, if_false, List.length_nil, Nat.lt_irrefl]
  rw [if_neg (by omega)]
/-- What is read is laid as just these bytes. -/
theorem order_once {b : List UInt8} (h : errO b = 0) : orderC.lay (orderC.rd ⟨b, 0⟩).1 = b ∧ orderC.ok (orderC.rd ⟨b, 0⟩).1 ∧ (orderC.rd ⟨b, 0⟩).1.1 ≤ 15 := by
  unfold errO at h
  by_cases h0 : (orderC.rd ⟨b, 0⟩).2.e = 0
  · rw [if_neg (by simpa using h0)] at h
    by_cases h1 : 0 < (orderC.rd ⟨b, 0⟩).2.b.length
    · rw [if_pos h1] at h; cases h
    · rw [if_neg h1] at h
      by_cases h2 : 15 < (orderC.rd ⟨b, 0⟩).1.1
      · rw [if_pos h2] at h; cases h
      · obtain ⟨k1, k2, k3⟩ := orderC.bw _ h0
        have k4 : (orderC.rd ⟨b, 0⟩).2.b = [] := List.eq_nil_of_length_eq_zero (by omega)
        rw [k4, List.append_nil] at k2
        exact ⟨k2.symm, k3, by omega⟩
  · rw [if_pos (by simpa using h0)] at h
    exact absurd h h0
end Go.Proofs.Ytbhhalkpghcflaa
