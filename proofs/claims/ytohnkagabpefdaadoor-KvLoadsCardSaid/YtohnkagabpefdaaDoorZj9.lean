/-
  Layer 16 in plain words: an entry is a row of a table whose value is a text, its holder, and how often it was locked; what each call answers, and makes of the table.
-/
import Derived.Test.YtohnkagabpefdaaDoorZj7
import Derived.Test.YtohnkagabpefdaaDoorZj8
namespace Go.Proofs.YtohnkagabpefdaaDoor
open Go Go.RowKit

/-- A row's value. -/
structure Kp where
  v : ByteArray
  ses : Nat
  lck : Nat
/-- An entry. -/
abbrev En := Rw Kp
def noEn : En := ⟨⟨#[]⟩, ⟨⟨#[]⟩, 0, 0⟩, 0, 0⟩
/-- The entry with a key, or none. -/
def entO (t : Tb Kp) (k : ByteArray) : En := (getR t.l k).getD noEn
def isO (t : Tb Kp) (k : ByteArray) : Bool := (getR t.l k).isSome
/-- What always holds of a store. -/
structure KvOk (t : Tb Kp) : Prop where
  ok : t.Ok
  key : ∀ x ∈ t.l, keyB x.key.data.toList = true
  val : ∀ x ∈ t.l, x.val.v.size ≤ 64 ∧ x.val.ses < 18446744073709551616 ∧ x.val.lck < 18446744073709551616
/-- The first of some checks that does not hold. -/
def firstE (cs : List (Bool × Nat)) : Option Nat := (cs.find? fun c => !c.1).map (·.2)
def putK (t : Tb Kp) (k : ByteArray) (v : Kp) (i : Nat) : Nat × Tb Kp := if t.fullB k then (5, t) else (0, t.put k v i)
/-- A modification: the checks behind the key's own, and what the entry turns into. -/
def modK (t : Tb Kp) (k : ByteArray) (i : Nat) (cs : List (Bool × Nat)) (n : Option Kp) : Nat × Tb Kp := match firstE ((keyB k.data.toList, 10) :: cs) with
  | some e => (e, t)
  | none => match n with
    | some v => putK t k v i
    | none => (0, t.dropT k i)
def shortC (v : ByteArray) : Bool × Nat := (decide (v.size ≤ 64), 3)
def kSet (t : Tb Kp) (k v : ByteArray) (i : Nat) : Nat × Tb Kp := modK t k i [shortC v] (some { (entO t k).val with v := v })
def kCas (t : Tb Kp) (k v : ByteArray) (old i : Nat) : Nat × Tb Kp := modK t k i [shortC v, (isO t k == (old != 0) && (entO t k).ix == old, 21)] (some { (entO t k).val with v := v })
def kDel (t : Tb Kp) (k : ByteArray) (i : Nat) : Nat × Tb Kp := modK t k i [(isO t k, 4)] none
def kDelCas (t : Tb Kp) (k : ByteArray) (old i : Nat) : Nat × Tb Kp := modK t k i [(isO t k, 4), ((entO t k).ix == old, 21)] none
def kLock (t : Tb Kp) (k v : ByteArray) (s i : Nat) : Nat × Tb Kp := modK t k i [shortC v, (s != 0, 2), ((entO t k).val.ses == 0 || (entO t k).val.ses == s, 22)]
  (some ⟨v, s, if (entO t k).val.ses == s then (entO t k).val.lck else ((entO t k).val.lck + 1) % 18446744073709551616⟩)
def kUnlock (t : Tb Kp) (k v : ByteArray) (s i : Nat) : Nat × Tb Kp := modK t k i [shortC v, (isO t k, 4), (s != 0 && (entO t k).val.ses == s, 22)] (some ⟨v, 0, (entO t k).val.lck⟩)
/-- The keys that a session holds. -/
def heldBy (t : Tb Kp) (s : Nat) : List ByteArray := (t.l.filter fun x => s != 0 && x.val.ses == s).map (·.key)
/-- A key's entry is held by nobody. -/
def unheld (i : Nat) (t : Tb Kp) (k : ByteArray) : Tb Kp := t.put k { (entO t k).val with ses := 0 } i
def kFree (t : Tb Kp) (s i : Nat) : Tb Kp := (heldBy t s).foldl (unheld i) t

theorem modK_err {t : Tb Kp} {k : ByteArray} {i x : Nat} {cs : List (Bool × Nat)} {n : Option Kp} (h : firstE ((keyB k.data.toList, 10) :: cs) = some x) : modK t k i cs n = (x, t) := by simp only [modK, h]
theorem modK_put {t : Tb Kp} {k : ByteArray} {i : Nat} {cs : List (Bool × Nat)} {v : Kp} (h : firstE ((keyB k.data.toList, 10) :: cs) = none) : modK t k i cs (some v) = putK t k v i := by simp only [modK, h]
theorem modK_drop {t : Tb Kp} {k : ByteArray} {i : Nat} {cs : List (Bool × Nat)} (h : firstE ((keyB k.data.toList, 10) :: cs) = none) : modK t k i cs none = (0, t.dropT k i) := by simp only [modK, h]
theorem firstE_cons (b : Bool) (e : Nat) (cs : List (Bool × Nat)) : firstE ((b, e) :: cs) = if b then firstE cs else some e := by
  cases b <;> simp [firstE]
theorem firstE_nil : firstE [] = none := rfl
section
variable {t : Tb Kp} {k : ByteArray}
theorem getR_mem {α : Type} {l : List (Rw α)} {k : ByteArray} {x : Rw α} (h : getR l k = some x) : x ∈ l ∧ x.key = k := by
  unfold getR at h
  have h2 := List.find?_some (p := fun x : Rw α => x.key.toList == k.toList) h
  exact ⟨List.mem_of_find?_eq_some h, text_same.1 h2⟩
theorem key_some {k : ByteArray} (h : keyB k.data.toList = true) : 0 < k.size := by
  rcases Nat.eq_zero_or_pos k.size with e | e
  · rw [key_short (.inl (by rw [← Lib.size_eq, e]; decide))] at h
    cases h
  · exact e
theorem KvOk.ent (h : KvOk t) (k : ByteArray) : (entO t k).val.v.size ≤ 64 ∧ (entO t k).val.ses < 18446744073709551616 ∧ (entO t k).val.lck < 18446744073709551616 ∧ (entO t k).made < 18446744073709551616 ∧ (entO t k).ix < 18446744073709551616 := by
  unfold entO
  cases e : getR t.l k with
  | none => exact ⟨by decide, by decide, by decide, by decide, by decide⟩
  | some x =>
    have hm := (getR_mem e).1
    have h1 := h.val x hm
    have h2 := h.ok.row x hm
    have h3 := h.ok.lst
    exact ⟨h1.1, h1.2.1, h1.2.2, h2.1, by show x.ix < _; omega⟩
theorem KvOk.put (h : KvOk t) {v : Kp} {i : Nat} (hk : keyB k.data.toList = true) (hs : k.size ≤ maxLen) (hv : v.v.size ≤ 64 ∧ v.ses < 18446744073709551616 ∧ v.lck < 18446744073709551616) (hi : i < 18446744073709551616) (hf : ¬ t.full k) : KvOk (t.put k v i) := by
  refine ⟨h.ok.put k v hi hs hf, fun x hx => ?_, fun x hx => ?_⟩
  · rcases mem_lay hx with rfl | hx
    · exact hk
    · exact h.key x hx
  · rcases mem_lay hx with rfl | hx
    · exact hv
    · exact h.val x hx
theorem KvOk.dropT (h : KvOk t) {i : Nat} (hi : i < 18446744073709551616) : KvOk (t.dropT k i) := by
  unfold Tb.dropT
  split
  · exact ⟨h.ok.drop k hi, fun x hx => h.key x (mem_off.1 hx).1, fun x hx => h.val x (mem_off.1 hx).1⟩
  · exact h
theorem full_iff (t : Tb Kp) (k : ByteArray) : t.fullB k = true ↔ t.full k := by
  unfold Tb.fullB Tb.full
  cases getR t.l k <;> simp
theorem KvOk.putK (h : KvOk t) {v : Kp} {i : Nat} (hk : keyB k.data.toList = true) (hs : k.size ≤ maxLen) (hv : v.v.size ≤ 64 ∧ v.ses < 18446744073709551616 ∧ v.lck < 18446744073709551616) (hi : i < 18446744073709551616) : KvOk (putK t k v i).2 := by
  unfold Go.Proofs.YtohnkagabpefdaaDoor.putK
  split
  · exact h
  · next e => exact h.put hk hs hv hi (fun f => e ((full_iff t k).2 f))
theorem KvOk.mod (h : KvOk t) {i : Nat} {cs : List (Bool × Nat)} {n : Option Kp} (hs : k.size ≤ maxLen) (hi : i < 18446744073709551616) (hv : firstE cs = none → ∀ v, n = some v → v.v.size ≤ 64 ∧ v.ses < 18446744073709551616 ∧ v.lck < 18446744073709551616) : KvOk (modK t k i cs n).2 := by
  unfold modK
  rw [firstE_cons]
  cases hk : keyB k.data.toList
  · exact h
  · rw [if_pos rfl]
    cases hc : firstE cs with
    | some e => exact h
    | none =>
      cases n with
      | none => exact h.dropT hi
      | some v => exact h.putK hk hs (hv hc v rfl) hi
theorem firstE_short {v : ByteArray} {cs : List (Bool × Nat)} (h : firstE (shortC v :: cs) = none) : v.size ≤ 64 ∧ firstE cs = none := by
  unfold shortC at h
  rw [firstE_cons] at h
  by_cases e : v.size ≤ 64
  · rw [decide_eq_true e, if_pos rfl] at h
    exact ⟨e, h⟩
  · rw [decide_eq_false e] at h
    cases h
theorem KvOk.set (h : KvOk t) {v : ByteArray} {i : Nat} (hs : k.size ≤ maxLen) (hi : i < 18446744073709551616) : KvOk (kSet t k v i).2 := h.mod hs hi fun hc w hw => by
  cases hw
  exact ⟨(firstE_short hc).1, (h.ent k).2.1, (h.ent k).2.2.1⟩
theorem KvOk.cas (h : KvOk t) {v : ByteArray} {old i : Nat} (hs : k.size ≤ maxLen) (hi : i < 18446744073709551616) : KvOk (kCas t k v old i).2 := h.mod hs hi fun hc w hw => by
  cases hw
  exact ⟨(firstE_short hc).1, (h.ent k).2.1, (h.ent k).2.2.1⟩
theorem KvOk.del (h : KvOk t) {i : Nat} (hs : k.size ≤ maxLen) (hi : i < 18446744073709551616) : KvOk (kDel t k i).2 := h.mod hs hi fun _ w hw => by cases hw
theorem KvOk.delCas (h : KvOk t) {old i : Nat} (hs : k.size ≤ maxLen) (hi : i < 18446744073709551616) : KvOk (kDelCas t k old i).2 := h.mod hs hi fun _ w hw => by cases hw
theorem KvOk.lock (h : KvOk t) {v : ByteArray} {s i : Nat} (hs : k.size ≤ maxLen) (hi : i < 18446744073709551616) (hx : s < 18446744073709551616) : KvOk (kLock t k v s i).2 := h.mod hs hi fun hc w hw => by
  cases hw
  refine ⟨(firstE_short hc).1, hx, ?_⟩
  show (if _ then _ else _) < _
  split
  · exact (h.ent k).2.2.1
  · exact Nat.mod_lt _ (by decide)
theorem KvOk.unlock (h : KvOk t) {v : ByteArray} {s i : Nat} (hs : k.size ≤ maxLen) (hi : i < 18446744073709551616) : KvOk (kUnlock t k v s i).2 := h.mod hs hi fun hc w hw => by
  cases hw
  exact ⟨(firstE_short hc).1, by show 0 < _; decide, (h.ent k).2.2.1⟩
theorem KvOk.new (m : Int) : KvOk ⟨mostT m, [], 0⟩ := ⟨Tb.Ok.new m, (fun _ h => by cases h), (fun _ h => by cases h)⟩
/-- There is an entry just where it has a key. -/
theorem KvOk.some_key (h : KvOk t) (k : ByteArray) : (isO t k = true ∧ 0 < (entO t k).key.size) ∨ (isO t k = false ∧ entO t k = noEn) := by
  unfold isO entO
  cases e : getR t.l k with
  | none => exact .inr ⟨rfl, rfl⟩
  | some x => exact .inl ⟨rfl, key_some (h.key x (getR_mem e).1)⟩
end
end Go.Proofs.YtohnkagabpefdaaDoor
