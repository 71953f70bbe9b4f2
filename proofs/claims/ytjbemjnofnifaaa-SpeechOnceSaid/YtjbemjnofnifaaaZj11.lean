/-
  Plain lemmas on updates and tables (layer 8). Nothing of any program stands here.
-/
import Derived.Test.YtjbemjnofnifaaaZj2
namespace Go.Proofs.Ytjbemjnofnifaaa

/-- What is said of a node. -/
structure Up where
  node : Int
  inc : Nat
  st : Int
deriving DecidableEq
def Up.right (u : Up) : Bool := decide (0 ≤ u.node ∧ u.node < 8 ∧ (u.st = 0 ∨ u.st = 1 ∨ u.st = 2 ∨ u.st = 3))
def Up.above (a b : Up) : Bool := decide (a.node = b.node ∧ (b.inc < a.inc ∨ (a.inc = b.inc ∧ b.st < a.st)))
def Up.best (a b : Up) : Up := if b.above a then b else a
theorem Up.above_iff (a b : Up) : a.above b = true ↔ a.node = b.node ∧ (b.inc < a.inc ∨ (a.inc = b.inc ∧ b.st < a.st)) := by unfold Up.above; simp
theorem Up.above_false (a b : Up) : a.above b = false ↔ ¬ (a.node = b.node ∧ (b.inc < a.inc ∨ (a.inc = b.inc ∧ b.st < a.st))) := by unfold Up.above; exact decide_eq_false_iff_not
theorem Up.irrefl (a : Up) : a.above a = false := by rw [Up.above_false]; omega
theorem Up.asymm {a b : Up} (h : a.above b = true) : b.above a = false := by rw [Up.above_iff] at h; rw [Up.above_false]; omega
theorem Up.trans {a b c : Up} (h : a.above b = true) (k : b.above c = true) : a.above c = true := by rw [Up.above_iff] at *; omega
/-- Of two of one node that are not above each other both are the same. -/
theorem Up.total {a b : Up} (hn : a.node = b.node) (h : a.above b = false) (k : b.above a = false) : a = b := by
  rw [Up.above_false] at h k
  obtain ⟨na, ia, sa⟩ := a
  obtain ⟨nb, ib, sb⟩ := b
  simp only at *
  subst hn
  have h1 : ia = ib := by omega
  have h2 : sa = sb := by omega
  rw [h1, h2]
theorem Up.best_comm {a b : Up} (hn : a.node = b.node) : a.best b = b.best a := by
  unfold Up.best
  cases h1 : b.above a with
  | true => rw [Up.asymm h1]; rfl
  | false =>
    cases h2 : a.above b with
    | true => rfl
    | false => exact Up.total hn h2 h1
/-- The greatest one of a node so far, and one more. -/
def stepB (n : Int) (b : Option Up) (u : Up) : Option Up :=
  if u.right && decide (u.node = n) then (match b with
    | none => some u
    | some v => some (if u.above v then u else v))
  else b
theorem stepB_new {n : Int} {b : Option Up} {x : Up} (hr : x.right = true) (hn : x.node = n) (hx : b = none ∨ ∃ v, b = some v ∧ x.above v = true) : stepB n b x = some x := by
  unfold stepB
  rw [hr, decide_eq_true hn, if_pos (by rfl)]
  rcases hx with rfl | ⟨v, rfl, h⟩
  · rfl
  · show some (if x.above v = true then x else v) = some x
    rw [h]
    rfl
theorem stepB_other {n : Int} (b : Option Up) {x : Up} (hn : x.node ≠ n) : stepB n b x = b := by
  unfold stepB
  rw [decide_eq_false hn, Bool.and_false]
  rfl
theorem stepB_wrong (n : Int) (b : Option Up) {x : Up} (hr : x.right = false) : stepB n b x = b := by
  unfold stepB
  rw [hr]
  rfl
theorem stepB_below (n : Int) {v x : Up} (h : x.above v = false) : stepB n (some v) x = some v := by
  unfold stepB
  split
  · show some (if x.above v = true then x else v) = some v
    rw [h]
    rfl
  · rfl
def bestOf (n : Int) (l : List Up) : Option Up := l.foldl (stepB n) none
theorem bestOf_snoc (n : Int) (l : List Up) (u : Up) : bestOf n (l ++ [u]) = stepB n (bestOf n l) u := by simp [bestOf]
/-- What it is. -/
def IsBest (n : Int) (l : List Up) (u : Up) : Prop := u ∈ l ∧ u.right = true ∧ u.node = n ∧ ∀ v ∈ l, v.right = true → v.node = n → v.above u = false
theorem bestOf_spec (n : Int) (l : List Up) : (∀ u, bestOf n l = some u → IsBest n l u) ∧ (bestOf n l = none → ∀ v ∈ l, v.right = true → v.node ≠ n) := by
  have key : ∀ (r : List Up), (∀ u, bestOf n r.reverse = some u → IsBest n r.reverse u) ∧ (bestOf n r.reverse = none → ∀ v ∈ r.reverse, v.right = true → v.node ≠ n) := by
    intro r
    induction r with
    | nil => exact ⟨fun u h => by simp [bestOf] at h, fun _ v hv => by simp at hv⟩
    | cons x r ih =>
      rw [List.reverse_cons, bestOf_snoc]
      obtain ⟨ih1, ih2⟩ := ih
      unfold stepB
      by_cases hx : x.right = true ∧ x.node = n
      · have hc : (x.right && decide (x.node = n)) = true := by rw [hx.1, decide_eq_true hx.2]; rfl
        rw [if_pos hc]
        cases hb : bestOf n r.reverse with
        | none =>
          refine ⟨fun u hu => ?_, fun h => by simp at h⟩
          simp only [Option.some.injEq] at hu
          subst hu
          refine ⟨by simp, hx.1, hx.2, fun v hv hr hn => ?_⟩
          rcases List.mem_append.1 hv with hv | hv
          · exact absurd hn (ih2 hb v hv hr)
          · rw [List.mem_singleton.1 hv]; exact Up.irrefl x
        | some w =>
          obtain ⟨w1, w2, w3, w4⟩ := ih1 w hb
          refine ⟨fun u hu => ?_, fun h => by simp at h⟩
          simp only [Option.some.injEq] at hu
          cases ha : x.above w with
          | true =>
            rw [ha, if_pos rfl] at hu
            subst hu
            refine ⟨by simp, hx.1, hx.2, fun v hv hr hn => ?_⟩
            rcases List.mem_append.1 hv with hv | hv
            · have h1 := w4 v hv hr hn
              cases h2 : v.above x with
              | false => rfl
              | true => rw [Up.trans h2 ha] at h1; cases h1
            · rw [List.mem_singleton.1 hv]; exact Up.irrefl x
          | false =>
            rw [ha, if_neg (by decide)] at hu
            subst hu
            refine ⟨List.mem_append_left _ w1, w2, w3, fun v hv hr hn => ?_⟩
            rcases List.mem_append.1 hv with hv | hv
            · exact w4 v hv hr hn
            · rw [List.mem_singleton.1 hv]; exact ha
      · have hc : (x.right && decide (x.node = n)) = false := by
          cases h1 : x.right with
          | false => rfl
          | true => rw [decide_eq_false (fun h2 => hx ⟨h1, h2⟩)]; rfl
        rw [hc, if_neg (by decide)]
        refine ⟨fun u hu => ?_, fun h v hv hr => ?_⟩
        · obtain ⟨w1, w2, w3, w4⟩ := ih1 u hu
          refine ⟨List.mem_append_left _ w1, w2, w3, fun v hv hr hn => ?_⟩
          rcases List.mem_append.1 hv with hv | hv
          · exact w4 v hv hr hn
          · obtain rfl := List.mem_singleton.1 hv
            exact absurd ⟨hr, hn⟩ hx
        · rcases List.mem_append.1 hv with hv | hv
          · exact ih2 h v hv hr
          · obtain rfl := List.mem_singleton.1 hv
            exact fun hn => hx ⟨hr, hn⟩
  have := key l.reverse
  rwa [List.reverse_reverse] at this
theorem IsBest.unique {n : Int} {l l' : List Up} {u v : Up} (h : IsBest n l u) (k : IsBest n l' v) (hl : u ∈ l' ∨ (∀ x ∈ l, x ∈ l')) (hl' : ∀ x ∈ l', x.right = true → x.node = n → x.above u = false) : u = v := by
  obtain ⟨h1, h2, h3, h4⟩ := h
  obtain ⟨k1, k2, k3, k4⟩ := k
  have hu : u ∈ l' := hl.elim id (fun f => f u h1)
  exact Up.total (h3.trans k3.symm) (k4 u hu h2 h3) (hl' v k1 k2 k3)
theorem bestOf_of_isBest {n : Int} {l : List Up} {u : Up} (h : IsBest n l u) : bestOf n l = some u := by
  obtain ⟨s1, s2⟩ := bestOf_spec n l
  cases hb : bestOf n l with
  | none => exact absurd h.2.2.1 (s2 hb u h.1 h.2.1)
  | some v =>
    have k := s1 v hb
    rw [IsBest.unique h k (.inl h.1) h.2.2.2]
/-- Only what is in the list counts. -/
theorem bestOf_congr {n : Int} {l l' : List Up} (h : ∀ x, x ∈ l ↔ x ∈ l') : bestOf n l = bestOf n l' := by
  obtain ⟨s1, s2⟩ := bestOf_spec n l
  obtain ⟨t1, t2⟩ := bestOf_spec n l'
  cases hb : bestOf n l with
  | some u =>
    obtain ⟨a, b, c, d⟩ := s1 u hb
    exact (bestOf_of_isBest ⟨(h u).1 a, b, c, fun v hv => d v ((h v).2 hv)⟩).symm
  | none =>
    cases hb' : bestOf n l' with
    | none => rfl
    | some u =>
      obtain ⟨a, b, c, d⟩ := t1 u hb'
      exact absurd c (s2 hb u ((h u).2 a) b)
theorem bestOf_node {n : Int} {l : List Up} {u : Up} (h : bestOf n l = some u) : u.node = n := ((bestOf_spec n l).1 u h).2.2.1
theorem bestOf_right {n : Int} {l : List Up} {u : Up} (h : bestOf n l = some u) : u.right = true := ((bestOf_spec n l).1 u h).2.1
/-- The table of a list. -/
def tableTo (m : Nat) (l : List Up) : List Up := (List.range m).filterMap fun k : Nat => bestOf (k : Int) l
def table (l : List Up) : List Up := tableTo 8 l
theorem tableTo_succ (m : Nat) (l : List Up) : tableTo (m + 1) l = tableTo m l ++ (match bestOf (m : Int) l with
    | some u => [u]
    | none => []) := by
  unfold tableTo
  rw [List.range_succ, List.filterMap_append]
  congr 1
  simp only [List.filterMap_cons, List.filterMap_nil]
  cases bestOf (m : Int) l <;> rfl
theorem tableTo_len (m : Nat) (l : List Up) : (tableTo m l).length ≤ m := by
  have := List.length_filterMap_le (fun k : Nat => bestOf (k : Int) l) (List.range m)
  simpa [tableTo] using this
theorem mem_table {l : List Up} {u : Up} : u ∈ table l ↔ ∃ k : Nat, k < 8 ∧ bestOf (k : Int) l = some u := by
  unfold table tableTo
  simp [List.mem_filterMap]
theorem table_congr {l l' : List Up} (h : ∀ x, x ∈ l ↔ x ∈ l') : table l = table l' := by
  unfold table tableTo
  congr 1
  funext k
  exact bestOf_congr h
theorem right_lt {u : Up} (h : u.right = true) : ∃ k : Nat, k < 8 ∧ u.node = (k : Int) := by
  unfold Up.right at h
  have h1 := of_decide_eq_true h
  exact ⟨u.node.toNat, by omega, by omega⟩
/-- A table in a list's place tells the same. -/
theorem bestOf_table {n : Int} (a b : List Up) : bestOf n (a ++ table b) = bestOf n (a ++ b) := by
  obtain ⟨s1, s2⟩ := bestOf_spec n (a ++ b)
  cases hb : bestOf n (a ++ b) with
  | some u =>
    obtain ⟨h1, h2, h3, h4⟩ := s1 u hb
    have hsub : ∀ v ∈ a ++ table b, v.right = true → v.node = n → v.above u = false := fun v hv hr hn => by
      rcases List.mem_append.1 hv with hv | hv
      · exact h4 v (List.mem_append_left _ hv) hr hn
      · obtain ⟨k, _, hk⟩ := mem_table.1 hv
        exact h4 v (List.mem_append_right _ ((bestOf_spec _ _).1 v hk).1) hr hn
    refine bestOf_of_isBest ⟨?_, h2, h3, hsub⟩
    rcases List.mem_append.1 h1 with h1 | h1
    · exact List.mem_append_left _ h1
    · refine List.mem_append_right _ (mem_table.2 ?_)
      obtain ⟨k, hk, hkn⟩ := right_lt h2
      exact ⟨k, hk, bestOf_of_isBest ⟨h1, h2, hkn, fun v hv hr hn => h4 v (List.mem_append_right _ hv) hr (by rw [hn, ← hkn, h3])⟩⟩
  | none =>
    cases hb' : bestOf n (a ++ table b) with
    | none => rfl
    | some u =>
      obtain ⟨h1, h2, h3, _⟩ := (bestOf_spec n _).1 u hb'
      rcases List.mem_append.1 h1 with h1 | h1
      · exact absurd h3 (s2 hb u (List.mem_append_left _ h1) h2)
      · obtain ⟨k, _, hk⟩ := mem_table.1 h1
        exact absurd h3 (s2 hb u (List.mem_append_right _ ((bestOf_spec _ _).1 u hk).1) h2)
theorem table_table (a b : List Up) : table (a ++ table b) = table (a ++ b) := by
  unfold table
  unfold tableTo
  congr 1
  funext k
  exact bestOf_table a b
/-- Two lists together. -/
def joinU (a b : List Up) : List Up := table (a ++ b)
theorem joinU_comm (a b : List Up) : joinU a b = joinU b a := table_congr (fun x => by simp [or_comm])
theorem joinU_assoc (a b c : List Up) : joinU a (joinU b c) = joinU (joinU a b) c := by
  rw [joinU_comm (joinU a b) c]
  unfold joinU
  rw [table_table, table_table]
  exact table_congr (fun x => by simp only [List.mem_append]; constructor <;> (intro h; rcases h with h | h | h <;> simp [h]))
theorem joinU_self (a : List Up) : joinU a a = joinU a [] := table_congr (fun x => by simp)
theorem joinU_twice (a : List Up) : joinU (joinU a []) (joinU a []) = joinU a [] := by
  rw [joinU_self]
  unfold joinU
  rw [List.append_nil, List.append_nil]
  have := table_table [] a
  simpa using this
theorem joinU_len (a b : List Up) : (joinU a b).length ≤ 8 := tableTo_len 8 _
/-- The first one of a node. -/
def findU (l : List Up) (n : Int) : Option Up := l.find? fun u => decide (u.node = n)
theorem findU_cons (u : Up) (l : List Up) (n : Int) : findU (u :: l) n = if u.node = n then some u else findU l n := by
  unfold findU
  rw [List.find?_cons]
  by_cases h : u.node = n
  · rw [decide_eq_true h, if_pos h]
  · rw [decide_eq_false h, if_neg h]
theorem findU_tableTo (l : List Up) (n : Int) : ∀ m : Nat, findU (tableTo m l) n = if 0 ≤ n ∧ n < (m : Int) then bestOf n l else none
  | 0 => by
    have : ¬ (0 ≤ n ∧ n < ((0 : Nat) : Int)) := by omega
    rw [if_neg this]
    rfl
  | m + 1 => by
    have ih := findU_tableTo l n m
    rw [tableTo_succ]
    unfold findU at ih ⊢
    rw [List.find?_append, ih]
    by_cases h1 : 0 ≤ n ∧ n < (m : Int)
    · rw [if_pos h1, if_pos (by omega)]
      cases hb : bestOf n l with
      | some u => rfl
      | none =>
        cases hm : bestOf (m : Int) l with
        | none => rfl
        | some v =>
          have hv := bestOf_node hm
          have : ¬ v.node = n := by omega
          simp [this]
    · rw [if_neg h1]
      by_cases h2 : n = (m : Int)
      · rw [if_pos (by omega), h2]
        cases hm : bestOf (m : Int) l with
        | none => rfl
        | some v =>
          have hv := bestOf_node hm
          simp [hv]
      · rw [if_neg (by omega)]
        cases hm : bestOf (m : Int) l with
        | none => rfl
        | some v =>
          have hv := bestOf_node hm
          have : ¬ v.node = n := by omega
          simp [this]
/-- In a table a node that has an update is found, with one that is not below. -/
theorem findU_join {a b : List Up} {u : Up} (hu : u ∈ a) (hr : u.right = true) : ∃ v, findU (joinU a b) u.node = some v ∧ u.above v = false := by
  obtain ⟨k, hk, hkn⟩ := right_lt hr
  unfold joinU table
  rw [findU_tableTo, if_pos (by omega)]
  cases hb : bestOf u.node (a ++ b) with
  | some v => exact ⟨v, rfl, ((bestOf_spec _ _).1 v hb).2.2.2 u (List.mem_append_left _ hu) hr rfl⟩
  | none => exact absurd rfl ((bestOf_spec _ _).2 hb u (List.mem_append_left _ hu) hr)
/-- Refute. -/
def refuteN (own inc : Nat) : Nat × Nat := if max own inc + 1 > 4294967295 then (0, 80) else (max own inc + 1, 0)
end Go.Proofs.Ytjbemjnofnifaaa
