/-
  Plain lemmas on rings (layer 12): a list of nodes with a position; adding, removing, asking; how soon each live node comes. Nothing of any program stands here.
-/
import Derived.Lib.Hide
namespace Go.Proofs.Ytckeknhoimgccaa

structure Rg where
  row : List Int
  at_ : Nat
structure Rg.ok (g : Rg) : Prop where
  once : g.row.Nodup
  nodes : ∀ x ∈ g.row, 0 ≤ x ∧ x < 8
  pos : g.at_ ≤ g.row.length
def Rg.new : Rg := ⟨[], 0⟩
theorem Rg.new_ok : Rg.new.ok := ⟨by simp [Rg.new], by simp [Rg.new], by simp [Rg.new]⟩
def nodeOk (n : Int) : Bool := decide (0 ≤ n ∧ n < 8)
/-- May it be added? -/
def Rg.takes (g : Rg) (n : Int) : Bool := nodeOk n && !(g.row.contains n)
/-- The list with a node more, at a place. -/
def putAt (l : List Int) (k : Nat) (n : Int) : List Int := l.take k ++ n :: l.drop k
def Rg.add (g : Rg) (n : Int) (k : Nat) : Rg := ⟨putAt g.row k n, if k < g.at_ then g.at_ + 1 else g.at_⟩
theorem putAt_perm (l : List Int) (k : Nat) (n : Int) : (putAt l k n).Perm (n :: l) := by
  unfold putAt
  refine List.perm_middle.trans ?_
  rw [List.take_append_drop]
theorem putAt_length (l : List Int) (k : Nat) (n : Int) : (putAt l k n).length = l.length + 1 := by simpa using (putAt_perm l k n).length_eq
theorem Rg.takes_iff (g : Rg) (n : Int) : g.takes n = true ↔ (0 ≤ n ∧ n < 8) ∧ n ∉ g.row := by unfold Rg.takes nodeOk; simp
theorem Rg.add_ok {g : Rg} (h : g.ok) {n : Int} (ht : g.takes n = true) (k : Nat) : (g.add n k).ok := by
  obtain ⟨h1, h2⟩ := (Rg.takes_iff g n).1 ht
  have hp := putAt_perm g.row k n
  refine ⟨?_, ?_, ?_⟩
  · exact (hp.nodup_iff).2 (List.nodup_cons.2 ⟨h2, h.once⟩)
  · intro x hx
    rcases List.mem_cons.1 (hp.mem_iff.1 hx) with e | e
    · rw [e]; exact h1
    · exact h.nodes x e
  · show (if k < g.at_ then g.at_ + 1 else g.at_) ≤ (putAt g.row k n).length
    rw [putAt_length]
    have := h.pos
    split <;> omega
theorem few_ints : ∀ (m : Nat) (l : List Int), l.Nodup → (∀ x ∈ l, 0 ≤ x ∧ x < (m : Int)) → l.length ≤ m
  | 0, l, _, h => by
    cases l with
    | nil => simp
    | cons x l => have := h x (by simp); omega
  | m + 1, l, hd, h => by
    have h1 := few_ints m (l.erase (m : Int)) (hd.erase _) (fun x hx => by
      have h2 := h x (List.mem_of_mem_erase hx)
      have h3 : x ≠ (m : Int) := (List.Nodup.mem_erase_iff hd |>.mp hx).1
      omega)
    rw [List.length_erase] at h1
    split at h1 <;> omega
theorem Rg.few {g : Rg} (h : g.ok) : g.row.length ≤ 8 := few_ints 8 g.row h.once h.nodes
/-- Where it stands. -/
def Rg.has (g : Rg) (n : Int) : Bool := g.row.contains n
def Rg.remove (g : Rg) (n : Int) : Rg := ⟨g.row.filter (fun x => !(x == n)), if g.row.idxOf n < g.at_ ∧ g.row.contains n = true then g.at_ - 1 else g.at_⟩
theorem filter_out {l : List Int} {n : Int} (h : n ∉ l) : l.filter (fun x => !(x == n)) = l := by
  rw [List.filter_eq_self]
  intro x hx
  have : x ≠ n := fun e => h (e ▸ hx)
  simpa using this
theorem filter_len {l : List Int} (hd : l.Nodup) {n : Int} (h : n ∈ l) : (l.filter (fun x => !(x == n))).length + 1 = l.length := by
  induction l with
  | nil => cases h
  | cons x l ih =>
    rw [List.nodup_cons] at hd
    by_cases e : x = n
    · subst e
      rw [List.filter_cons_of_neg (by simp), filter_out hd.1, List.length_cons]
    · rw [List.filter_cons_of_pos (by simpa using e), List.length_cons, List.length_cons, ih hd.2 (by rcases List.mem_cons.1 h with k | k; exact absurd k.symm e; exact k)]
theorem Rg.remove_ok {g : Rg} (h : g.ok) (n : Int) : (g.remove n).ok := by
  refine ⟨h.once.sublist List.filter_sublist, fun x hx => h.nodes x (List.mem_filter.1 hx).1, ?_⟩
  show (if g.row.idxOf n < g.at_ ∧ g.row.contains n = true then g.at_ - 1 else g.at_) ≤ (g.row.filter (fun x => !(x == n))).length
  have hp := h.pos
  by_cases hm : n ∈ g.row
  · have h1 := filter_len h.once hm
    split
    · omega
    · rename_i hc
      have h2 : ¬ g.row.idxOf n < g.at_ := fun k => hc ⟨k, by simpa using hm⟩
      have h3 := List.idxOf_lt_length_of_mem hm
      omega
  · rw [filter_out hm]
    split <;> omega

/-! ### Asking -/
/-- The first that is live, from a place on: the node, and the place behind it. -/
def scan (live : List Int) (row : List Int) (at_ : Nat) : Option (Int × Nat) :=
  match (row.drop at_).findIdx? (fun x => live.contains x) with
  | none => none
  | some i => some (row.getD (at_ + i) 0, at_ + i + 1)
/-- What is asked next; p: the list in another order. -/
def Rg.next (g : Rg) (live p : List Int) : Int × Bool × Rg :=
  match scan live g.row g.at_ with
  | some (x, k) => (x, true, ⟨g.row, k⟩)
  | none => match scan live p 0 with
    | some (x, k) => (x, true, ⟨p, k⟩)
    | none => (0, false, ⟨p, p.length⟩)
/-- Those that are still to come in the list. -/
def rest (live row : List Int) (at_ : Nat) : List Int := (row.drop at_).filter (fun x => live.contains x)
theorem find_rest (live : List Int) : ∀ l : List Int, l.findIdx? (fun x => live.contains x) = none ↔ l.filter (fun x => live.contains x) = []
  | l => by
    rw [List.findIdx?_eq_none_iff, List.filter_eq_nil_iff]
    constructor
    · intro h x hx; rw [h x hx]; simp
    · intro h x hx; simpa using h x hx
theorem scan_none {live row : List Int} {k : Nat} : scan live row k = none ↔ rest live row k = [] := by
  unfold scan rest
  rw [← find_rest]
  cases h : (row.drop k).findIdx? (fun x => live.contains x) <;> simp
theorem filter_find {p : Int → Bool} : ∀ {l : List Int} {i : Nat}, l.findIdx? p = some i → ∃ (h : i < l.length), p l[i] = true ∧ l.filter p = l[i] :: (l.drop (i + 1)).filter p
  | [], i, h => by simp at h
  | x :: l, i, h => by
    rw [List.findIdx?_cons] at h
    by_cases hx : p x = true
    · rw [if_pos hx] at h
      cases h
      refine ⟨by simp, hx, ?_⟩
      rw [List.filter_cons_of_pos hx]
      rfl
    · rw [if_neg hx] at h
      cases hl : l.findIdx? p with
      | none => rw [hl] at h; simp at h
      | some j =>
        rw [hl] at h
        simp at h
        subst h
        obtain ⟨h1, h2, h3⟩ := filter_find hl
        refine ⟨by simpa using h1, by simpa using h2, ?_⟩
        rw [List.filter_cons_of_neg hx]
        simpa using h3
/-- What is found is the first that is still to come; those behind it are to come then. -/
theorem scan_some {live row : List Int} {k : Nat} {x : Int} {j : Nat} (h : scan live row k = some (x, j)) : rest live row k = x :: rest live row j ∧ k < j ∧ j ≤ row.length ∧ x ∈ row ∧ x ∈ live := by
  unfold scan at h
  cases hf : (row.drop k).findIdx? (fun x => live.contains x) with
  | none => rw [hf] at h; cases h
  | some i =>
    rw [hf] at h
    simp only [Option.some.injEq, Prod.mk.injEq] at h
    obtain ⟨rfl, rfl⟩ := h
    obtain ⟨h1, h2, h3⟩ := filter_find hf
    have h1' : k + i < row.length := by rw [List.length_drop] at h1; omega
    have e : (row.drop k)[i] = row[k + i] := by rw [List.getElem_drop]
    have eg : row.getD (k + i) 0 = row[k + i] := by simp [List.getD, h1']
    rw [e] at h2 h3
    rw [eg]
    refine ⟨?_, by omega, by omega, List.getElem_mem h1', by simpa using h2⟩
    unfold rest
    rw [h3, List.drop_drop, Nat.add_assoc]
theorem rest_zero (live row : List Int) : rest live row 0 = row.filter (fun x => live.contains x) := by unfold rest; rw [List.drop_zero]
theorem nodup_len : ∀ {l m : List Int}, l.Nodup → (∀ x ∈ l, x ∈ m) → l.length ≤ m.length
  | [], m, _, _ => Nat.zero_le _
  | x :: l, m, hd, hs => by
    rw [List.nodup_cons] at hd
    have h1 := nodup_len (l := l) (m := m.erase x) hd.2 (fun y hy => (List.mem_erase_of_ne (fun e => hd.1 (by rw [← e]; exact hy))).2 (hs y (by simp [hy])))
    have hx : x ∈ m := hs x (by simp)
    have h2 := List.length_erase_of_mem hx
    have h3 := List.length_pos_of_mem hx
    rw [List.length_cons]
    omega
theorem nodup_all {l m : List Int} (hl : l.Nodup) (hs : ∀ x ∈ l, x ∈ m) (hlen : m.length ≤ l.length) {a : Int} (ha : a ∈ m) : a ∈ l := by
  by_cases h : a ∈ l
  · exact h
  · have := nodup_len (l := a :: l) (m := m) (List.nodup_cons.2 ⟨h, hl⟩) (fun x hx => by
      rcases List.mem_cons.1 hx with e | e
      · rw [e]; exact ha
      · exact hs x e)
    rw [List.length_cons] at this
    omega
theorem rest_len {live row : List Int} (h : row.Nodup) (k : Nat) : (rest live row k).length ≤ live.length := by
  have h1 : (rest live row k).Nodup := (h.sublist (List.drop_sublist _ _)).sublist List.filter_sublist
  exact nodup_len h1 (fun x hx => by
    have := (List.mem_filter.1 hx).2
    simpa using this)
theorem idx_cons {x a : Int} (h : ¬ x = a) {l : List Int} : (x :: l).idxOf a = l.idxOf a + 1 := by
  have : (x == a) = false := by simpa using h
  simp [List.idxOf_cons, this]
/-- In how many asks a live node comes, at most. -/
def need (live row : List Int) (k : Nat) (a : Int) : Nat := if a ∈ rest live row k then (rest live row k).idxOf a + 1 else (rest live row k).length + live.length
theorem need_start {live row : List Int} (h : row.Nodup) {a : Int} (ha : a ∈ live) (k : Nat) : need live row k a ≤ 2 * live.length - 1 := by
  have h1 := rest_len (live := live) h k
  have h0 : 0 < live.length := List.length_pos_of_mem ha
  unfold need
  split
  · rename_i hm
    have := List.idxOf_lt_length_of_mem hm
    omega
  · rename_i hm
    have h2 : (rest live row k).length < live.length := by
      rcases Nat.lt_or_ge (rest live row k).length live.length with e | e
      · exact e
      · exfalso
        have hn : (rest live row k).Nodup := (h.sublist (List.drop_sublist _ _)).sublist List.filter_sublist
        exact hm (nodup_all hn (fun x hx => by
          have := (List.mem_filter.1 hx).2
          simpa using this) e ha)
    omega
/-- An ask: the node itself, or it comes sooner by one. -/
theorem need_next {live : List Int} {g : Rg} {p : List Int} (hp : p.Perm g.row) (hg : g.row.Nodup) {a : Int} (ha : a ∈ live) (har : a ∈ g.row) :
    (g.next live p).2.1 = true ∧ ((g.next live p).1 = a ∨ need live (g.next live p).2.2.row (g.next live p).2.2.at_ a + 1 ≤ need live g.row g.at_ a) := by
  unfold Rg.next
  cases h1 : scan live g.row g.at_ with
  | some xk =>
    obtain ⟨x, k⟩ := xk
    simp only
    refine ⟨trivial, ?_⟩
    by_cases e : x = a
    · exact .inl e
    · right
      obtain ⟨h2, _⟩ := scan_some h1
      unfold need
      rw [h2]
      by_cases hm : a ∈ rest live g.row k
      · rw [if_pos hm, if_pos (List.mem_cons_of_mem _ hm), idx_cons e]
        exact Nat.le_refl _
      · rw [if_neg hm, if_neg (by simp only [List.mem_cons, not_or]; exact ⟨fun h => e h.symm, hm⟩), List.length_cons]
        omega
  | none =>
    simp only
    have hr := scan_none.1 h1
    have hap : a ∈ p := hp.mem_iff.2 har
    cases h2 : scan live p 0 with
    | none =>
      exfalso
      have := scan_none.1 h2
      rw [rest_zero] at this
      have h3 : a ∈ p.filter (fun x => live.contains x) := List.mem_filter.2 ⟨hap, by simpa using ha⟩
      rw [this] at h3
      cases h3
    | some xk =>
      obtain ⟨x, k⟩ := xk
      simp only
      refine ⟨trivial, ?_⟩
      by_cases e : x = a
      · exact .inl e
      · right
        obtain ⟨h3, _⟩ := scan_some h2
        have h4 : a ∈ rest live p 0 := by rw [rest_zero]; exact List.mem_filter.2 ⟨hap, by simpa using ha⟩
        have h5 : a ∈ rest live p k := by
          rw [h3] at h4
          rcases List.mem_cons.1 h4 with h | h
          · exact absurd h.symm e
          · exact h
        have h6 := rest_len (live := live) ((hp.nodup_iff).2 hg) 0
        rw [h3, List.length_cons] at h6
        have h7 := List.idxOf_lt_length_of_mem h5
        unfold need
        rw [if_pos h5, hr, if_neg (by simp), List.length_nil]
        omega
theorem Rg.next_row {g : Rg} {live p : List Int} (hp : p.Perm g.row) : (g.next live p).2.2.row.Perm g.row := by
  unfold Rg.next
  split
  · exact List.Perm.refl _
  · split
    · exact hp
    · exact hp
theorem Rg.next_ok {g : Rg} (h : g.ok) {live p : List Int} (hp : p.Perm g.row) : (g.next live p).2.2.ok := by
  have h1 := Rg.next_row (live := live) hp
  refine ⟨(h1.nodup_iff).2 h.once, fun x hx => h.nodes x (h1.mem_iff.1 hx), ?_⟩
  unfold Rg.next
  split
  · rename_i x k h2
    exact (scan_some h2).2.2.1
  · split
    · rename_i x k h2
      exact (scan_some h2).2.2.1
    · exact Nat.le_refl _
/-- Who is asked is live, and of the list; nobody is just if none is. -/
theorem Rg.next_live {g : Rg} {live p : List Int} (hp : p.Perm g.row) : ((g.next live p).2.1 = true → (g.next live p).1 ∈ g.row ∧ (g.next live p).1 ∈ live) ∧ ((g.next live p).2.1 = true ↔ ∃ x ∈ g.row, x ∈ live) := by
  unfold Rg.next
  cases h1 : scan live g.row g.at_ with
  | some xk =>
    obtain ⟨x, k⟩ := xk
    obtain ⟨_, _, _, h2, h3⟩ := scan_some h1
    exact ⟨fun _ => ⟨h2, h3⟩, fun _ => ⟨x, h2, h3⟩, fun _ => rfl⟩
  | none =>
    simp only
    cases h2 : scan live p 0 with
    | some xk =>
      obtain ⟨x, k⟩ := xk
      obtain ⟨_, _, _, h3, h4⟩ := scan_some h2
      have h3' := hp.mem_iff.1 h3
      exact ⟨fun _ => ⟨h3', h4⟩, fun _ => ⟨x, h3', h4⟩, fun _ => rfl⟩
    | none =>
      refine ⟨(fun h => by cases h), (fun h => by cases h), fun ⟨x, h3, h4⟩ => ?_⟩
      exfalso
      have := scan_none.1 h2
      rw [rest_zero] at this
      have h5 : x ∈ p.filter (fun x => live.contains x) := List.mem_filter.2 ⟨hp.mem_iff.2 h3, by simpa using h4⟩
      rw [this] at h5
      cases h5
end Go.Proofs.Ytckeknhoimgccaa
