/-
  Sessions in plain words (layer 18): what each call makes of them. Nothing of any program stands here.
-/
import Derived.Test.YtnobpbbedclbkaaZj7
namespace Go.Proofs.Ytnobpbbedclbkaa
open Go Go.RowKit
set_option linter.unusedSimpArgs false
set_option linter.unusedVariables false

/-- A session. -/
structure Sn where
  id : Nat
  node : Int
  made : Nat
  ix : Nat
/-- Bounds of one that is there. -/
structure Sn.In (x : Sn) : Prop where
  id : x.id < 18446744073709551616
  node : -9223372036854775808 ≤ x.node ∧ x.node ≤ 9223372036854775807
  made : x.made < 18446744073709551616
  ix : x.ix < 18446744073709551616
abbrev Sm := Ls Sn
/-- One of a node, as it was made. -/
def newS (node : Int) (i : Nat) : Sn := ⟨i, node, i, i⟩
def getS (l : List Sn) (id : Nat) : Option Sn := l.find? fun x => x.id == id
def insS (x : Sn) : List Sn → List Sn
  | [] => [x]
  | y :: l => if x.id < y.id then x :: y :: l else y :: insS x l
def nodeB (node : Int) : Bool := decide (0 ≤ node) && decide (node ≤ 7)
/-- Numbers rise. -/
def SS (l : List Sn) : Prop := l.Pairwise fun a b => a.id < b.id
theorem getS_none {l : List Sn} {id : Nat} : getS l id = none ↔ ∀ j, ∀ h : j < l.length, l[j].id ≠ id := by
  unfold getS
  rw [List.find?_eq_none]
  constructor
  · intro h j hj e
    exact h _ (List.getElem_mem hj) (by simp [e])
  · intro h x hx
    obtain ⟨j, hj, rfl⟩ := List.getElem_of_mem hx
    simpa using h j hj
theorem getS_some {l : List Sn} {id : Nat} {x : Sn} (h : getS l id = some x) : x ∈ l ∧ x.id = id := by
  unfold getS at h
  exact ⟨List.mem_of_find?_eq_some h, by simpa using List.find?_some h⟩
theorem getS_at {l : List Sn} {id k : Nat} (hk : k < l.length) (h : l[k].id = id) (hn : ∀ j, ∀ hj : j < k, l[j].id ≠ id) : getS l id = some l[k] := by
  unfold getS
  rw [List.find?_eq_some_iff_getElem]
  exact ⟨by simp [h], k, hk, rfl, fun j hj => by simpa using hn j hj⟩
theorem SS.eq {l : List Sn} (h : SS l) {x y : Sn} (hx : x ∈ l) (hy : y ∈ l) (e : x.id = y.id) : x = y := by
  obtain ⟨i, hi, rfl⟩ := List.getElem_of_mem hx
  obtain ⟨j, hj, rfl⟩ := List.getElem_of_mem hy
  unfold SS at h
  rw [List.pairwise_iff_getElem] at h
  rcases Nat.lt_trichotomy i j with q | q | q
  · have := h i j hi hj q; omega
  · subst q; rfl
  · have := h j i hj hi q; omega
theorem SS.get {l : List Sn} (h : SS l) {x : Sn} (hx : x ∈ l) : getS l x.id = some x := by
  cases e : getS l x.id with
  | none =>
    obtain ⟨i, hi, rfl⟩ := List.getElem_of_mem hx
    exact absurd rfl (getS_none.1 e i hi)
  | some y =>
    obtain ⟨h1, h2⟩ := getS_some e
    rw [h.eq h1 hx h2]
theorem insS_mem (x : Sn) (l : List Sn) : ∀ y, y ∈ insS x l ↔ y = x ∨ y ∈ l := by
  induction l with
  | nil => intro y; simp [insS]
  | cons a l ih =>
    intro y
    unfold insS
    split
    · simp
    · rw [List.mem_cons, ih, List.mem_cons]
      constructor
      · rintro (h | h | h)
        · exact .inr (.inl h)
        · exact .inl h
        · exact .inr (.inr h)
      · rintro (h | h | h)
        · exact .inr (.inl h)
        · exact .inl h
        · exact .inr (.inr h)
theorem insS_length (x : Sn) (l : List Sn) : (insS x l).length = l.length + 1 := by
  induction l with
  | nil => rfl
  | cons a l ih =>
    unfold insS
    split
    · rfl
    · simp [ih]
theorem insS_perm (x : Sn) (l : List Sn) : (insS x l).Perm (x :: l) := by
  induction l with
  | nil => exact .refl _
  | cons a l ih =>
    unfold insS
    split
    · exact .refl _
    · exact (ih.cons a).trans (.swap _ _ _)
theorem SS.ins {l : List Sn} {x : Sn} (h : SS l) (hn : ∀ y ∈ l, y.id ≠ x.id) : SS (insS x l) := by
  induction l with
  | nil => simp [insS, SS]
  | cons a l ih =>
    unfold SS at h
    rw [List.pairwise_cons] at h
    unfold insS
    split
    · rename_i hx
      unfold SS
      rw [List.pairwise_cons, List.pairwise_cons]
      refine ⟨fun y hy => ?_, h⟩
      rcases List.mem_cons.1 hy with rfl | hy
      · exact hx
      · exact Nat.lt_trans hx (h.1 y hy)
    · rename_i hx
      unfold SS
      rw [List.pairwise_cons]
      refine ⟨fun y hy => ?_, ih h.2 fun y hy => hn y (List.mem_cons_of_mem _ hy)⟩
      rcases (insS_mem x l y).1 hy with rfl | hy
      · have := hn a (List.mem_cons_self ..)
        omega
      · exact h.1 y hy
/-- Two rising lists of the same are the same. -/
theorem SS.ext : ∀ {l m : List Sn}, SS l → SS m → (∀ x, x ∈ l ↔ x ∈ m) → l = m
  | [], [], _, _, _ => rfl
  | [], b :: m, _, _, h => absurd ((h b).2 (List.mem_cons_self ..)) (by simp)
  | a :: l, [], _, _, h => absurd ((h a).1 (List.mem_cons_self ..)) (by simp)
  | a :: l, b :: m, hl, hm, h => by
    unfold SS at hl hm
    rw [List.pairwise_cons] at hl hm
    have hab : a = b := by
      rcases List.mem_cons.1 ((h a).1 (List.mem_cons_self ..)) with e | e
      · exact e
      rcases List.mem_cons.1 ((h b).2 (List.mem_cons_self ..)) with e2 | e2
      · exact e2.symm
      have h1 := hm.1 a e
      have h2 := hl.1 b e2
      omega
    subst hab
    refine congrArg (a :: ·) (SS.ext hl.2 hm.2 fun x => ?_)
    constructor
    · intro hx
      rcases List.mem_cons.1 ((h x).1 (List.mem_cons_of_mem _ hx)) with e | e
      · have := hl.1 x hx
        rw [e] at this; omega
      · exact e
    · intro hx
      rcases List.mem_cons.1 ((h x).2 (List.mem_cons_of_mem _ hx)) with e | e
      · have := hm.1 x hx
        rw [e] at this; omega
      · exact e
/-! ### The calls -/
def Ls.openS (t : Sm) (node : Int) (i : Nat) : (Nat × Nat) × Sm :=
  if nodeB node = false ∨ i = 0 then ((0, 2), t)
  else match getS t.l i with
  | some _ => ((0, 20), t)
  | none => if t.most ≤ t.l.length then ((0, 5), t) else ((i, 0), Ls.raise { t with l := insS (newS node i) t.l } i)
def offS (l : List Sn) (id : Nat) : List Sn := l.filter fun x => x.id != id
def Ls.closeS (t : Sm) (id i : Nat) : Nat × Sm :=
  match getS t.l id with
  | none => (4, t)
  | some _ => (0, Ls.raise { t with l := offS t.l id } i)
/-- The numbers of a node's. -/
def idsS (l : List Sn) (node : Int) : List Nat := (l.filter fun x => x.node == node).map (·.id)
def Ls.closesS (t : Sm) (i : Nat) : List Nat → Sm
  | [] => t
  | id :: q => Ls.closesS (t.closeS id i).2 i q
def Ls.closeN (t : Sm) (node : Int) (i : Nat) : List Nat × Sm := (idsS t.l node, t.closesS i (idsS t.l node))
/-- What the calls keep. -/
structure SmOk (t : Sm) : Prop where
  most : 1 ≤ t.most ∧ t.most ≤ 64
  len : t.l.length ≤ t.most
  sorted : SS t.l
  all : ∀ x ∈ t.l, x.id ≠ 0 ∧ nodeB x.node = true ∧ x.made = x.id ∧ x.ix = x.id ∧ x.id < 18446744073709551616
  last : t.last < 18446744073709551616
theorem SmOk.raise {t : Sm} (h : SmOk t) {i : Nat} (hi : i < 18446744073709551616) : SmOk (t.raise i) :=
  ⟨h.most, h.len, h.sorted, h.all, by have := h.last; show max t.last i < _; omega⟩
theorem SmOk.open_ {t : Sm} (h : SmOk t) {node : Int} {i : Nat} (hi : i < 18446744073709551616) : SmOk (t.openS node i).2 := by
  unfold Ls.openS
  split
  · exact h
  · rename_i hp
    rw [not_or, Bool.not_eq_false] at hp
    split
    · exact h
    · rename_i hf
      split
      · exact h
      · rename_i hm
        refine SmOk.raise (t := { t with l := insS (newS node i) t.l }) ⟨h.most, ?_, h.sorted.ins fun y hy e => ?_, fun x hx => ?_, h.last⟩ hi
        · show (insS _ t.l).length ≤ t.most
          rw [insS_length]; omega
        · obtain ⟨j, hj, rfl⟩ := List.getElem_of_mem hy
          exact getS_none.1 hf j hj e
        · rcases (insS_mem _ _ _).1 hx with rfl | hx
          · exact ⟨hp.2, hp.1, rfl, rfl, hi⟩
          · exact h.all x hx
theorem SS.off {l : List Sn} (h : SS l) (p : Sn → Bool) : SS (l.filter p) := List.Pairwise.sublist List.filter_sublist h
theorem SmOk.close_ {t : Sm} (h : SmOk t) {id i : Nat} (hi : i < 18446744073709551616) : SmOk (t.closeS id i).2 := by
  unfold Ls.closeS
  split
  · exact h
  · exact SmOk.raise (t := { t with l := offS t.l id }) ⟨h.most, Nat.le_trans (List.length_filter_le _ _) h.len, h.sorted.off _, fun x hx => h.all x (List.mem_filter.1 hx).1, h.last⟩ hi
theorem SmOk.closes {i : Nat} (hi : i < 18446744073709551616) : ∀ {q : List Nat} {t : Sm}, SmOk t → SmOk (t.closesS i q)
  | [], t, h => h
  | id :: q, t, h => SmOk.closes hi (q := q) (h.close_ hi)
theorem closes_snoc (i id : Nat) : ∀ (q : List Nat) (t : Sm), t.closesS i (q ++ [id]) = ((t.closesS i q).closeS id i).2
  | [], t => rfl
  | a :: q, t => closes_snoc i id q (t.closeS a i).2
theorem beq_dec (a b : Nat) : (a == b) = decide (a = b) := by
  rw [Bool.eq_iff_iff]
  simp
/-- Closing one after the other leaves the others. -/
theorem closes_is (i : Nat) : ∀ (q : List Nat) (t : Sm), (∀ id ∈ q, ∃ x ∈ t.l, x.id = id) → q.Nodup → t.closesS i q = if q = [] then t else Ls.raise { t with l := t.l.filter fun x => !q.contains x.id } i
  | [], t, _, _ => rfl
  | id :: q, t, h, hn => by
    rw [if_neg (by simp)]
    rw [List.nodup_cons] at hn
    have hg : ∃ x, getS t.l id = some x := by
      cases e : getS t.l id with
      | some x => exact ⟨x, rfl⟩
      | none =>
        obtain ⟨x, hx, e2⟩ := h id (List.mem_cons_self ..)
        obtain ⟨j, hj, rfl⟩ := List.getElem_of_mem hx
        exact absurd e2 (getS_none.1 e j hj)
    obtain ⟨x0, hg⟩ := hg
    have h1 : (t.closeS id i).2 = Ls.raise { t with l := offS t.l id } i := by
      unfold Ls.closeS
      rw [hg]
    show ((t.closeS id i).2).closesS i q = _
    rw [h1, closes_is i q _ (fun id2 h2 => ?_) hn.2]
    · by_cases hq : q = []
      · subst hq
        rw [if_pos rfl]
        unfold offS
        congr 2
        apply List.filter_congr
        intro x _
        simp [bne, beq_dec]
      · rw [if_neg hq]
        unfold Ls.raise offS
        simp only [Ls.mk.injEq, true_and]
        refine ⟨?_, by rw [Nat.max_assoc, Nat.max_self]⟩
        rw [List.filter_filter]
        apply List.filter_congr
        intro x _
        simp [bne, Bool.and_comm, beq_dec]
    · obtain ⟨x, hx, e⟩ := h id2 (List.mem_cons_of_mem _ h2)
      refine ⟨x, ?_, e⟩
      show x ∈ offS t.l id
      unfold offS
      rw [List.mem_filter]
      refine ⟨hx, ?_⟩
      rw [bne_iff_ne, e]
      exact fun q2 => hn.1 (q2 ▸ h2)
theorem ids_mem {l : List Sn} {node : Int} {id : Nat} : id ∈ idsS l node ↔ ∃ x ∈ l, x.node = node ∧ x.id = id := by
  unfold idsS
  rw [List.mem_map]
  constructor
  · rintro ⟨x, hx, rfl⟩
    rw [List.mem_filter] at hx
    exact ⟨x, hx.1, by simpa using hx.2, rfl⟩
  · rintro ⟨x, hx, h1, h2⟩
    exact ⟨x, List.mem_filter.2 ⟨hx, by simp [h1]⟩, h2⟩
theorem SS.ids {l : List Sn} (h : SS l) (node : Int) : (idsS l node).Nodup := by
  unfold idsS List.Nodup
  rw [List.pairwise_map]
  exact (h.off _).imp fun h => by omega
/-- What closing a node's leaves. -/
theorem SmOk.closeN_is {t : Sm} (h : SmOk t) (node : Int) (i : Nat) : (t.closeN node i).2 = if idsS t.l node = [] then t else Ls.raise { t with l := t.l.filter fun x => x.node != node } i := by
  unfold Ls.closeN
  simp only
  rw [closes_is i _ t (fun id hid => ?_) (h.sorted.ids node)]
  · split
    · rfl
    · congr 2
      apply List.filter_congr
      intro x hx
      rw [Bool.eq_iff_iff]
      simp only [Bool.not_eq_true', bne_iff_ne, ne_eq]
      rw [← Bool.not_eq_true, List.contains_iff_mem]
      constructor
      · exact fun hc e => hc (ids_mem.2 ⟨x, hx, e, rfl⟩)
      · intro hc e
        obtain ⟨y, hy, h1, h2⟩ := ids_mem.1 e
        exact hc (by rw [← h1, h.sorted.eq hy hx h2])
  · obtain ⟨x, hx, _, e⟩ := ids_mem.1 hid
    exact ⟨x, hx, e⟩
theorem SmOk.closeN {t : Sm} (h : SmOk t) {node : Int} {i : Nat} (hi : i < 18446744073709551616) : SmOk (t.closeN node i).2 := SmOk.closes hi h
/-- One that may be of those whose last index is known. -/
def gdS (x : Sn) (last : Nat) : Bool := decide (x.id ≠ 0) && (nodeB x.node && (decide (x.made = x.id) && (decide (x.ix = x.id) && decide (x.id ≤ last))))
theorem gdS_iff {x : Sn} {last : Nat} : gdS x last = true ↔ x.id ≠ 0 ∧ nodeB x.node = true ∧ x.made = x.id ∧ x.ix = x.id ∧ x.id ≤ last := by
  unfold gdS
  simp only [Bool.and_eq_true, decide_eq_true_eq]
/-- Which may be loaded. -/
def SmLoad (m : Nat) (l : List Sn) (last : Nat) : Prop := l.length ≤ m ∧ (∀ j, ∀ h1 : 1 ≤ j, ∀ h : j < l.length, (l[j - 1]'(by omega)).id < l[j].id) ∧ ∀ x ∈ l, gdS x last = true
theorem SmLoad.sorted {m last : Nat} {l : List Sn} (h : SmLoad m l last) : SS l := by
  unfold SS
  rw [List.pairwise_iff_getElem]
  intro i j hi hj hij
  obtain ⟨e, he⟩ : ∃ e, j = i + 1 + e := ⟨j - (i + 1), by omega⟩
  subst he
  clear hij
  induction e with
  | zero => exact h.2.1 (i + 1) (by omega) (by omega)
  | succ e ih =>
    have h1 := ih (by omega)
    have h2 := h.2.1 (i + 1 + (e + 1)) (by omega) hj
    have e2 : i + 1 + (e + 1) - 1 = i + 1 + e := by omega
    simp only [e2] at h2
    omega
theorem SS.load {m last : Nat} {l : List Sn} (hs : SS l) (hl : l.length ≤ m) (hg : ∀ x ∈ l, gdS x last = true) : SmLoad m l last := by
  unfold SS at hs
  rw [List.pairwise_iff_getElem] at hs
  exact ⟨hl, fun j h1 h => hs (j - 1) j (by omega) h (by omega), hg⟩
theorem insS_last {x : Sn} : ∀ {l : List Sn}, (∀ y ∈ l, y.id < x.id) → insS x l = l ++ [x]
  | [], _ => rfl
  | a :: l, h => by
    have := h a (List.mem_cons_self ..)
    unfold insS
    rw [if_neg (by omega), insS_last fun y hy => h y (List.mem_cons_of_mem _ hy)]
    rfl
theorem SmOk.new (m : Nat) (hm : 1 ≤ m ∧ m ≤ 64) : SmOk ⟨m, [], 0⟩ := ⟨hm, Nat.zero_le _, .nil, by simp, (by decide : 0 < 18446744073709551616)⟩
end Go.Proofs.Ytnobpbbedclbkaa
