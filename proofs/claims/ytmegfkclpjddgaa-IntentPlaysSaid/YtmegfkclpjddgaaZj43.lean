/-
  Of a list without two of the same source and destination the order does not count, nor what does not take the destination; an exact one decides: in plain words (layer 17). Nothing of any program stands here.
-/
import Derived.Test.YtmegfkclpjddgaaZj11
import Derived.Test.YtmegfkclpjddgaaZj29
namespace Go.Proofs.Ytmegfkclpjddgaa
open Go Go.RowKit
set_option linter.unusedSimpArgs false
set_option linter.unusedVariables false

/-- The decision, the place. -/
def cA (l : List Ir) (b : Bool) (o : Option Nat) : Bool := match o with | none => b | some k => (l.map (·.allow)).getD k false
def cK (o : Option Nat) : Int := match o with | none => -1 | some k => (k : Int)
theorem cA_at {l : List Ir} {b : Bool} {k : Nat} (h : k < l.length) : cA l b (some k) = l[k].allow := by
  unfold cA
  simp [List.getD, List.getElem?_eq_getElem h]
theorem starB_iff (x : ByteArray) : starB x = true ↔ x = ⟨#[42]⟩ := by
  have e : ([42] : List UInt8) = (⟨#[42]⟩ : ByteArray).toList := by kernel_rfl
  have e2 : starB x = (x.toList == (⟨#[42]⟩ : ByteArray).toList) := congrArg (fun y => x.toList == y) e
  rw [e2]
  exact text_same
theorem match_cases {p s : ByteArray} (h : matchB p.data.toList s.data.toList = true) : (starB p = true ∨ (starB p = false ∧ p = s)) ∧ rightB s.data.toList = true := by
  unfold matchB at h
  rw [Bool.and_eq_true, Bool.or_eq_true, beq_iff_eq, beq_iff_eq] at h
  refine ⟨?_, h.2⟩
  cases hs : starB p with
  | true => exact .inl rfl
  | false =>
    refine .inr ⟨rfl, ?_⟩
    rcases h.1 with e | e
    · have : p = ⟨#[42]⟩ := ByteArray.ext (Array.ext' e)
      rw [(starB_iff p).2 this] at hs
      cases hs
    · exact ByteArray.ext (Array.ext' e)
/-- Two that apply and are as exact as each other are of the same source and destination. -/
theorem app_rank {a b : Ir} {s d : ByteArray} (ha : a.app s d = true) (hb : b.app s d = true) (h : a.rank = b.rank) : a.src = b.src ∧ a.dst = b.dst := by
  unfold Ir.app at ha hb
  rw [Bool.and_eq_true] at ha hb
  have star : ∀ {x y : ByteArray}, starB x = true → starB y = true → x = y := fun h1 h2 => ((starB_iff _).1 h1).trans ((starB_iff _).1 h2).symm
  unfold Ir.rank rankI at h
  rcases (match_cases ha.1).1 with a1 | ⟨a1, a1'⟩ <;> rcases (match_cases ha.2).1 with a2 | ⟨a2, a2'⟩ <;> rcases (match_cases hb.1).1 with b1 | ⟨b1, b1'⟩ <;> rcases (match_cases hb.2).1 with b2 | ⟨b2, b2'⟩ <;> simp [a1, a2, b1, b2] at h
  · exact ⟨star a1 b1, star a2 b2⟩
  · exact ⟨star a1 b1, a2'.trans b2'.symm⟩
  · exact ⟨a1'.trans b1'.symm, star a2 b2⟩
  · exact ⟨a1'.trans b1'.symm, a2'.trans b2'.symm⟩
/-- No two of the same source and destination. -/
def Unl (l : List Ir) : Prop := ∀ i j, ∀ hi : i < l.length, ∀ hj : j < l.length, l[i].src = l[j].src → l[i].dst = l[j].dst → i = j
theorem Unl.eq {l : List Ir} (h : Unl l) {x y : Ir} (hx : x ∈ l) (hy : y ∈ l) (e1 : x.src = y.src) (e2 : x.dst = y.dst) : x = y := by
  obtain ⟨i, hi, rfl⟩ := List.getElem_of_mem hx
  obtain ⟨j, hj, rfl⟩ := List.getElem_of_mem hy
  have := h i j hi hj e1 e2
  subst this
  rfl
theorem Chosen.best {l : List Ir} {s d : ByteArray} {k : Nat} (h : Chosen l s d (some k)) : ∃ hk : k < l.length, l[k].app s d = true ∧ ∀ y ∈ l, y.app s d = true → y.rank ≤ l[k].rank := by
  obtain ⟨hk, h1, h2, _⟩ := h
  exact ⟨hk, h1, fun y hy ha => by
    obtain ⟨j, hj, rfl⟩ := List.getElem_of_mem hy
    exact h2 j hj ha⟩
theorem Chosen.no {l : List Ir} {s d : ByteArray} (h : Chosen l s d none) : ∀ y ∈ l, y.app s d = false := fun y hy => by
  obtain ⟨j, hj, rfl⟩ := List.getElem_of_mem hy
  exact h j hj
/-- Of two lists of which those that apply are the same, and are each as exact alone, the same is decided. -/
theorem chosen_same {l m : List Ir} {s d : ByteArray} {b : Bool} {o p : Option Nat} (hu : Unl l) (h : Chosen l s d o) (k : Chosen m s d p) (hm : ∀ y, y.app s d = true → (y ∈ m ↔ y ∈ l)) : cA l b o = cA m b p ∧ (o = none ↔ p = none) ∧ ∀ i j, ∀ hi : i < l.length, ∀ hj : j < m.length, o = some i → p = some j → l[i] = m[j] := by
  cases o with
  | none =>
    cases p with
    | none => exact ⟨rfl, Iff.rfl, fun i j hi hj e => by cases e⟩
    | some j =>
      obtain ⟨hj, a1, _⟩ := k.best
      have := h.no _ ((hm _ a1).1 (List.getElem_mem hj))
      rw [this] at a1; cases a1
  | some i =>
    obtain ⟨hi, b1, b2⟩ := h.best
    cases p with
    | none =>
      have := k.no _ ((hm _ b1).2 (List.getElem_mem hi))
      rw [this] at b1; cases b1
    | some j =>
      obtain ⟨hj, a1, a2⟩ := k.best
      have e1 := b2 _ ((hm _ a1).1 (List.getElem_mem hj)) a1
      have e2 := a2 _ ((hm _ b1).2 (List.getElem_mem hi)) b1
      obtain ⟨q1, q2⟩ := app_rank b1 a1 (by omega)
      have e := hu.eq (List.getElem_mem hi) ((hm _ a1).1 (List.getElem_mem hj)) q1 q2
      refine ⟨by rw [cA_at hi, cA_at hj, e], by simp, fun i2 j2 hi2 hj2 e3 e4 => ?_⟩
      cases e3
      cases e4
      exact e
theorem for_mem {l : List Ir} {s d : ByteArray} (y : Ir) (h : y.app s d = true) : y ∈ forI l d ↔ y ∈ l := by
  unfold Ir.app at h
  rw [Bool.and_eq_true] at h
  unfold forI
  rw [List.mem_filter]
  exact ⟨fun z => z.1, fun z => ⟨z, h.2⟩⟩
/-- Turned round. -/
theorem order_back {l : List Ir} {s d : ByteArray} {b : Bool} {o p : Option Nat} (hu : Unl l) (h : Chosen l s d o) (k : Chosen l.reverse s d p) : cA l b o = cA l.reverse b p ∧ ((o = none ∧ p = none) ∨ ∃ i j, o = some i ∧ p = some j ∧ i < l.length ∧ j < l.length ∧ i = l.length - 1 - j) := by
  obtain ⟨h1, h2, h3⟩ := chosen_same (b := b) hu h k (fun y _ => List.mem_reverse)
  refine ⟨h1, ?_⟩
  cases o with
  | none => exact .inl ⟨rfl, h2.1 rfl⟩
  | some i =>
    cases p with
    | none => exact absurd (h2.2 rfl) (by simp)
    | some j =>
      obtain ⟨hi, _⟩ := h
      obtain ⟨hj, _⟩ := k
      have e := h3 i j hi hj rfl rfl
      rw [List.getElem_reverse] at e
      rw [List.length_reverse] at hj
      exact .inr ⟨i, j, rfl, rfl, hi, hj, hu i (l.length - 1 - j) hi (by omega) (by rw [e]) (by rw [e])⟩
/-! ### What does not apply -/
theorem apart_head {l : List Ir} {x : Ir} {s d : ByteArray} {b : Bool} {o p : Option Nat} (hx : x.app s d = false) (h : Chosen l s d o) (k : Chosen (x :: l) s d p) : cA l b o = cA (x :: l) b p := by
  have hp : Chosen (x :: l) s d (o.map (· + 1)) := by
    cases o with
    | none =>
      intro j hj
      cases j with
      | zero => exact hx
      | succ j => exact h j (by simpa using hj)
    | some i =>
      obtain ⟨hi, h1, h2, h3⟩ := h
      refine ⟨by simpa using hi, h1, fun j hj ha => ?_, fun j hj ha => ?_⟩
      · cases j with
        | zero => rw [show (x :: l)[0] = x from rfl, hx] at ha; cases ha
        | succ j => exact h2 j (by simpa using hj) ha
      · cases j with
        | zero => rw [show (x :: l)[0] = x from rfl, hx] at ha; cases ha
        | succ j => exact h3 j (by have : j + 1 < i + 1 := hj; omega) ha
  obtain rfl := k.uniq hp
  cases o with
  | none => rfl
  | some i => rfl
theorem apart_tail {l : List Ir} {x : Ir} {s d : ByteArray} {b : Bool} {o p : Option Nat} (hx : x.app s d = false) (h : Chosen l s d o) (k : Chosen (l ++ [x]) s d p) : cA l b o = cA (l ++ [x]) b p := by
  have get : ∀ j (hj : j < (l ++ [x]).length), (∃ h : j < l.length, (l ++ [x])[j] = l[j]) ∨ (l ++ [x])[j] = x := fun j hj => by
    by_cases hl : j < l.length
    · exact .inl ⟨hl, List.getElem_append_left hl⟩
    · refine .inr ?_
      rw [List.getElem_append_right (by omega)]
      simp
  have hp : Chosen (l ++ [x]) s d o := by
    cases o with
    | none =>
      intro j hj
      rcases get j hj with ⟨hl, e⟩ | e
      · rw [e]; exact h j hl
      · rw [e]; exact hx
    | some i =>
      obtain ⟨hi, h1, h2, h3⟩ := h
      have hi' : i < (l ++ [x]).length := by simp; omega
      have e0 : (l ++ [x])[i] = l[i] := List.getElem_append_left hi
      refine ⟨hi', by rw [e0]; exact h1, fun j hj ha => ?_, fun j hj ha => ?_⟩
      · rcases get j hj with ⟨hl, e⟩ | e
        · rw [e] at ha ⊢; rw [e0]; exact h2 j hl ha
        · rw [e, hx] at ha; cases ha
      · rcases get j (by simp; omega) with ⟨hl, e⟩ | e
        · rw [e] at ha ⊢; rw [e0]; exact h3 j hj ha
        · rw [e, hx] at ha; cases ha
  obtain rfl : p = o := k.uniq hp
  cases p with
  | none => rfl
  | some i =>
    obtain ⟨hi, _⟩ := h
    obtain ⟨hi', _⟩ := hp
    rw [cA_at hi, cA_at hi', List.getElem_append_left hi]
/-! ### An exact one -/
theorem right_star {s : ByteArray} (h : rightB s.data.toList = true) : starB s = false := by
  rw [Bool.eq_false_iff]
  intro e
  rw [(starB_iff s).1 e] at h
  exact absurd h (by decide)
theorem exact_last {m : List Ir} {s d : ByteArray} {b b0 : Bool} {mk ix : Nat} {o : Option Nat} (hs : rightB s.data.toList = true) (hd : rightB d.data.toList = true) (hm : ∀ y ∈ m, ¬ (y.src = s ∧ y.dst = d)) (h : Chosen (m ++ [⟨s, d, b, mk, ix⟩]) s d o) : o = some m.length ∧ cA (m ++ [⟨s, d, b, mk, ix⟩]) b0 o = b := by
  have hxa : (⟨s, d, b, mk, ix⟩ : Ir).app s d = true := by
    unfold Ir.app matchB
    simp [hs, hd]
  have hxr : (⟨s, d, b, mk, ix⟩ : Ir).rank = 3 := by
    unfold Ir.rank rankI
    simp [right_star hs, right_star hd]
  have low : ∀ y ∈ m, y.app s d = true → y.rank < 3 := fun y hy ha => by
    have h3 := rank_le y
    rcases Nat.lt_or_ge y.rank 3 with q | q
    · exact q
    · exact absurd (app_rank ha hxa (by omega)) (hm y hy)
  have hl : m.length < (m ++ [(⟨s, d, b, mk, ix⟩ : Ir)]).length := by simp
  have e0 : (m ++ [(⟨s, d, b, mk, ix⟩ : Ir)])[m.length]'hl = ⟨s, d, b, mk, ix⟩ := by simp
  have hp : Chosen (m ++ [(⟨s, d, b, mk, ix⟩ : Ir)]) s d (some m.length) := by
    refine ⟨hl, by rw [e0]; exact hxa, fun j hj ha => ?_, fun j hj ha => ?_⟩
    · rw [e0, hxr]; exact rank_le _
    · rw [e0, hxr]
      rw [List.getElem_append_left hj] at ha ⊢
      exact low _ (List.getElem_mem hj) ha
  obtain rfl := h.uniq hp
  exact ⟨rfl, by rw [cA_at hl, e0]⟩
end Go.Proofs.Ytmegfkclpjddgaa
/-
  What Choose tells, where it is known which one is chosen (layer 17).
-/
namespace Go.Proofs.Ytmegfkclpjddgaa
open Go.RowKit
theorem ChPost.is {w w' : World} {l : List Ir} {s d : ByteArray} {b : Bool} {e : Ending} {o : Option Nat} (h : ChPost w l s d b e w') (ho : Chosen l s d o) : e = .returned (.tuple #[.bool (cA l b o), .int .i64 (cK o)]) ∧ Below w.heap.size w w' := by
  obtain ⟨o2, h1, h2, h3⟩ := h
  obtain rfl := h1.uniq ho
  exact ⟨h2, h3⟩
end Go.Proofs.Ytmegfkclpjddgaa
