/-
  Which commands may be (layer 20), as the document's Right reckons it. Nothing of any program stands here.
-/
import Derived.Test.YtbhhalkpghcflaaZj15
namespace Go.Proofs.Ytbhhalkpghcflaa
set_option linter.unusedSimpArgs false
set_option linter.unusedVariables false

def hasX (k : Int) (i : Nat) : Bool := hasB k.toNat i
def kindOk (k : Int) : Bool := decide (1 ≤ k) && decide (k ≤ 18)
def nOk (k : Int) (i : Nat) (z : Int) : Bool := decide (0 ≤ z) && decide (z ≤ 65535) && (decide (z = 0) || hasX k i)
def tOk (k : Int) (i : Nat) (s : List UInt8) : Bool := decide (s.length ≤ 80) && (decide (s = []) || hasX k (3 + i))
def allAt {α : Type} (f : Nat → α → Bool) : Nat → List α → Bool
  | _, [] => true
  | i, a :: l => f i a && allAt f (i + 1) l
def midOk (x : CmW) : Bool := decide (x.tn ≤ 8) && (decide (x.tn = 0) || hasX x.kind 11) && (!x.allow || hasX x.kind 12) && (decide (x.old = 0) || hasX x.kind 13) && (decide (x.ses = 0) || hasX x.kind 14)
def subsN (x : CmW) : Bool := decide (x.sn ≤ 8) && (decide (x.sn = 0) || hasX x.kind 15)
def headOk (x : CmW) (tags : List (List UInt8)) : Bool := kindOk x.kind && (allAt (nOk x.kind) 0 x.nums && (allAt (tOk x.kind) 0 x.texts && (midOk x && (tags.all (fun s => decide (s.length ≤ 80)) && subsN x))))
def right0 (x : CmW) (tags : List (List UInt8)) : Bool := headOk x tags
def right1 (x : CmW) (tags : List (List UInt8)) (subs : List (CmW × List (List UInt8))) : Bool := headOk x tags && subs.all (fun y => !decide (y.1.kind = 18) && right0 y.1 y.2)
/-! ### Row by row -/
def UpTo {α : Type} (f : Nat → α → Bool) (l : List α) (k : Nat) : Prop := ∀ i (h : i < l.length), i < k → f i l[i] = true
theorem UpTo.zero {α : Type} (f : Nat → α → Bool) (l : List α) : UpTo f l 0 := fun i _ h => absurd h (by omega)
theorem UpTo.next {α : Type} {f : Nat → α → Bool} {l : List α} {k : Nat} (h : UpTo f l k) (hk : k < l.length) (he : f k l[k] = true) : UpTo f l (k + 1) := fun i hi hl => by
  by_cases e : i = k
  · subst e; exact he
  · exact h i hi (by omega)
theorem allAt_yes {α : Type} {f : Nat → α → Bool} : ∀ {l : List α} {n : Nat}, (∀ i (h : i < l.length), f (n + i) l[i] = true) → allAt f n l = true
  | [], _, _ => rfl
  | a :: l, n, h => by
    show (f n a && allAt f (n + 1) l) = true
    rw [show f n a = true from h 0 (by simp), allAt_yes (fun i hi => by have := h (i + 1) (by simpa using hi); rw [show n + (i + 1) = n + 1 + i by omega] at this; simpa using this), Bool.and_self]
theorem allAt_no {α : Type} {f : Nat → α → Bool} : ∀ {l : List α} {n i : Nat} (h : i < l.length), f (n + i) l[i] = false → allAt f n l = false
  | a :: l, n, 0, _, e => by
    show (f n a && allAt f (n + 1) l) = false
    rw [show f n a = false from e, Bool.false_and]
  | a :: l, n, i + 1, h, e => by
    show (f n a && allAt f (n + 1) l) = false
    rw [allAt_no (n := n + 1) (i := i) (by simpa using h) (by rw [show n + 1 + i = n + (i + 1) by omega]; simpa using e), Bool.and_false]
theorem UpTo.all {α : Type} {f : Nat → α → Bool} {l : List α} {k : Nat} (h : UpTo f l k) (hk : l.length ≤ k) : allAt f 0 l = true := allAt_yes fun i hi => by rw [Nat.zero_add]; exact h i hi (by omega)
theorem upTo_no {α : Type} {f : Nat → α → Bool} {l : List α} {k : Nat} (hk : k < l.length) (he : f k l[k] = false) : allAt f 0 l = false := allAt_no (i := k) hk (by rw [Nat.zero_add]; exact he)
theorem all_no {α : Type} {f : α → Bool} {l : List α} {a : α} (h : a ∈ l) (e : f a = false) : l.all f = false := by
  rw [Bool.eq_false_iff]
  intro h2
  rw [List.all_eq_true.1 h2 a h] at e
  cases e
theorem UpTo.all_ {α : Type} {f : α → Bool} {l : List α} {k : Nat} (h : UpTo (fun _ s => f s) l k) (hk : l.length ≤ k) : l.all f = true := List.all_eq_true.2 fun a ha => by
  obtain ⟨i, hi, rfl⟩ := List.mem_iff_getElem.1 ha
  exact h i hi (by omega)
/-! ### What Has says -/
theorem hasS_size {k : Int} (h : kindOk k = true) : (hasS k).size = 16 := by
  unfold kindOk at h
  simp only [Bool.and_eq_true, decide_eq_true_eq] at h
  show (hasL k.toNat).toArray.size = 16
  unfold hasL
  rw [if_pos (by omega)]
  simp
theorem hasS_at {k : Int} (h : kindOk k = true) {i : Nat} (hi : i < 16) (hi' : i < (hasS k).size) : (hasS k)[i] = if hasX k i then 120 else 46 := by
  unfold kindOk at h
  simp only [Bool.and_eq_true, decide_eq_true_eq] at h
  have h1 := hasL_at (kind := k.toNat) (i := i) (by omega) hi
  have h2 : (hasL k.toNat)[i]? = some ((hasS k)[i]) := by
    rw [List.getElem?_eq_getElem (show i < (hasL k.toNat).length from hi')]
    rfl
  rw [h2] at h1
  exact Option.some.inj h1
theorem hasS_no {k : Int} (h : kindOk k = false) : hasS k = ⟨#[]⟩ := by
  unfold hasS hasL
  rw [if_neg (by
    unfold kindOk at h
    simp only [Bool.and_eq_false_iff, decide_eq_false_iff_not] at h
    omega)]
section
variable {x : CmW} {tags : List (List UInt8)} {subs : List (CmW × List (List UInt8))}
theorem right1_head (h : headOk x tags = false) : right1 x tags subs = false := by unfold right1; rw [h, Bool.false_and]
theorem right1_n (h : allAt (nOk x.kind) 0 x.nums = false) : right1 x tags subs = false := right1_head (by unfold headOk; rw [h]; simp)
theorem right1_t (h : allAt (tOk x.kind) 0 x.texts = false) : right1 x tags subs = false := right1_head (by unfold headOk; rw [h]; simp)
theorem right1_m (h : midOk x = false) : right1 x tags subs = false := right1_head (by unfold headOk; rw [h]; simp)
theorem right1_g (h : tags.all (fun s => decide (s.length ≤ 80)) = false) : right1 x tags subs = false := right1_head (by unfold headOk; rw [h]; simp)
theorem right1_s (h : subsN x = false) : right1 x tags subs = false := right1_head (by unfold headOk; rw [h]; simp)
theorem head_yes (h1 : kindOk x.kind = true) (h2 : allAt (nOk x.kind) 0 x.nums = true) (h3 : allAt (tOk x.kind) 0 x.texts = true) (h4 : midOk x = true) (h5 : tags.all (fun s => decide (s.length ≤ 80)) = true) (h6 : subsN x = true) : headOk x tags = true := by
  unfold headOk
  rw [h1, h2, h3, h4, h5, h6]
  rfl
theorem right1_yes (h : headOk x tags = true) (hs : subs.all (fun y => !decide (y.1.kind = 18) && right0 y.1 y.2) = true) : right1 x tags subs = true := by unfold right1; rw [h, hs]; rfl
theorem right1_no (hs : subs.all (fun y => !decide (y.1.kind = 18) && right0 y.1 y.2) = false) : right1 x tags subs = false := by unfold right1; rw [hs, Bool.and_false]
end
theorem nOk_neg {k : Int} {i : Nat} {z : Int} (h : z < 0) : nOk k i z = false := by unfold nOk; rw [decide_eq_false (by omega)]; simp
theorem nOk_big {k : Int} {i : Nat} {z : Int} (h : 65535 < z) : nOk k i z = false := by unfold nOk; rw [decide_eq_false (p := z ≤ 65535) (by omega)]; simp
theorem nOk_zero {k : Int} {i : Nat} : nOk k i 0 = true := by unfold nOk; simp
theorem nOk_has {k : Int} {i : Nat} {z : Int} (h0 : 0 ≤ z) (h1 : z ≤ 65535) (h : hasX k i = true) : nOk k i z = true := by unfold nOk; rw [h, decide_eq_true h0, decide_eq_true h1]; simp
theorem nOk_not {k : Int} {i : Nat} {z : Int} (h0 : z ≠ 0) (h : hasX k i = false) : nOk k i z = false := by unfold nOk; rw [h, decide_eq_false h0]; simp
theorem tOk_big {k : Int} {i : Nat} {s : List UInt8} (h : 80 < s.length) : tOk k i s = false := by unfold tOk; rw [decide_eq_false (by omega)]; simp
theorem tOk_nil {k : Int} {i : Nat} : tOk k i [] = true := by unfold tOk; simp
theorem tOk_has {k : Int} {i : Nat} {s : List UInt8} (h1 : s.length ≤ 80) (h : hasX k (3 + i) = true) : tOk k i s = true := by unfold tOk; rw [h, decide_eq_true h1]; simp
theorem tOk_not {k : Int} {i : Nat} {s : List UInt8} (h0 : s ≠ []) (h : hasX k (3 + i) = false) : tOk k i s = false := by unfold tOk; rw [h, decide_eq_false h0]; simp
end Go.Proofs.Ytbhhalkpghcflaa
