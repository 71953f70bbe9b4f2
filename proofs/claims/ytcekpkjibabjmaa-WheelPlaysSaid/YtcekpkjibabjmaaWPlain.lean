/-
  Layer 6, plain: the document's timers as a list, the wheel's map and its slots, and how the one goes with the other.
-/
import Derived.Lib.Hide
namespace Go.Proofs.Ytcekpkjibabjmaa

/-! ### The document's timers -/
abbrev Tm := List (Int × Nat)
def Rise (L : Tm) : Prop := L.Pairwise (fun x y => x.1 < y.1)
def dueOf : Tm → Int → Option Nat
  | [], _ => none
  | x :: r, id => if x.1 = id then some x.2 else dueOf r id
def hasL (L : Tm) (id : Int) : Bool := (dueOf L id).isSome
def delL (id : Int) (L : Tm) : Tm := L.filter fun x => !(x.1 == id)
def insL (id : Int) (d : Nat) : Tm → Tm
  | [] => [(id, d)]
  | x :: r => if id < x.1 then (id, d) :: x :: r else x :: insL id d r
def setL (id : Int) (d : Nat) (L : Tm) : Tm := insL id d (delL id L)
def dueL (N : Nat) (L : Tm) : List Int := (L.filter fun x => x.2 == N).map Prod.fst
def restL (N : Nat) (L : Tm) : Tm := L.filter fun x => !(x.2 == N)
/-- In how many ticks the first is due. -/
def leastL (now : Nat) : Tm → Option Nat
  | [] => none
  | x :: r => some (match leastL now r with
    | none => x.2 - now
    | some n => min (x.2 - now) n)

theorem dueOf_none {L : Tm} {id : Int} : dueOf L id = none ↔ ∀ x ∈ L, x.1 ≠ id := by
  induction L with
  | nil => simp [dueOf]
  | cons x r ih =>
    unfold dueOf
    by_cases h : x.1 = id
    · simp [h]
    · simp [h, ih]
theorem dueOf_mem {L : Tm} {id : Int} {d : Nat} (h : dueOf L id = some d) : (id, d) ∈ L := by
  induction L with
  | nil => simp [dueOf] at h
  | cons x r ih =>
    unfold dueOf at h
    by_cases e : x.1 = id
    · rw [if_pos e] at h
      cases h
      rw [← e]
      exact List.mem_cons_self ..
    · rw [if_neg e] at h
      exact List.mem_cons_of_mem _ (ih h)
theorem dueOf_of_mem {L : Tm} (hR : Rise L) {id : Int} {d : Nat} (h : (id, d) ∈ L) : dueOf L id = some d := by
  induction L with
  | nil => cases h
  | cons x r ih =>
    have hr := List.pairwise_cons.1 hR
    unfold dueOf
    rcases List.mem_cons.1 h with rfl | h'
    · rw [if_pos rfl]
    · have := hr.1 _ h'
      rw [if_neg (by intro e; rw [e] at this; exact absurd this (Int.lt_irrefl _))]
      exact ih hr.2 h'
theorem rise_filter {L : Tm} (h : Rise L) (p : Int × Nat → Bool) : Rise (L.filter p) := List.Pairwise.filter p h
theorem dueOf_filter {L : Tm} (hR : Rise L) (p : Int × Nat → Bool) (id : Int) : dueOf (L.filter p) id = (dueOf L id).bind fun d => if p (id, d) then some d else none := by
  induction L with
  | nil => rfl
  | cons x r ih =>
    have hr := List.pairwise_cons.1 hR
    have ih' := ih hr.2
    by_cases e : x.1 = id
    · have hn : dueOf r id = none := dueOf_none.2 (fun y hy => by have := hr.1 y hy; omega)
      rw [hn] at ih'
      subst e
      by_cases hp : p x = true
      · rw [List.filter_cons_of_pos hp]
        simp [dueOf, hp]
      · rw [List.filter_cons_of_neg hp, ih']
        simp [dueOf, hp]
    · by_cases hp : p x = true
      · rw [List.filter_cons_of_pos hp]
        simp [dueOf, e, ih']
      · rw [List.filter_cons_of_neg hp]
        simp [dueOf, e, ih']
theorem dueOf_delL {L : Tm} (hR : Rise L) (id j : Int) : dueOf (delL id L) j = if j = id then none else dueOf L j := by
  unfold delL
  rw [dueOf_filter hR]
  by_cases e : j = id
  · subst e
    cases dueOf L j <;> simp
  · rw [if_neg e]
    cases dueOf L j <;> simp [e]
theorem mem_insL {id : Int} {d : Nat} {L : Tm} {x : Int × Nat} : x ∈ insL id d L ↔ x = (id, d) ∨ x ∈ L := by
  induction L with
  | nil => simp [insL]
  | cons y r ih =>
    unfold insL
    by_cases h : id < y.1
    · rw [if_pos h]; simp
    · rw [if_neg h]; simp [ih, or_left_comm]
theorem rise_insL {id : Int} {d : Nat} {L : Tm} (hR : Rise L) (hn : ∀ x ∈ L, x.1 ≠ id) : Rise (insL id d L) := by
  induction L with
  | nil => simp [insL, Rise]
  | cons y r ih =>
    have hr := List.pairwise_cons.1 hR
    unfold insL
    by_cases h : id < y.1
    · rw [if_pos h]
      refine List.pairwise_cons.2 ⟨fun z hz => ?_, hR⟩
      rcases List.mem_cons.1 hz with rfl | hz
      · exact h
      · have := hr.1 z hz; show id < z.1; omega
    · rw [if_neg h]
      refine List.pairwise_cons.2 ⟨fun z hz => ?_, ih hr.2 (fun x hx => hn x (List.mem_cons_of_mem _ hx))⟩
      rcases mem_insL.1 hz with rfl | hz
      · have := hn y (List.mem_cons_self ..); show y.1 < id; omega
      · exact hr.1 z hz
theorem length_insL {id : Int} {d : Nat} : ∀ L : Tm, (insL id d L).length = L.length + 1
  | [] => rfl
  | y :: r => by
    unfold insL
    by_cases h : id < y.1
    · rw [if_pos h]; rfl
    · rw [if_neg h]; simp [length_insL r]
theorem mem_delL {id : Int} {L : Tm} {x : Int × Nat} : x ∈ delL id L ↔ x ∈ L ∧ x.1 ≠ id := by simp [delL]
theorem rise_delL {L : Tm} (h : Rise L) (id : Int) : Rise (delL id L) := rise_filter h _
theorem rise_setL {L : Tm} (h : Rise L) (id : Int) (d : Nat) : Rise (setL id d L) := rise_insL (rise_delL h id) (fun _ hx => (mem_delL.1 hx).2)
theorem dueOf_setL {L : Tm} (hR : Rise L) (id : Int) (d : Nat) (j : Int) : dueOf (setL id d L) j = if j = id then some d else dueOf L j := by
  by_cases e : j = id
  · subst e
    rw [if_pos rfl]
    exact dueOf_of_mem (rise_setL hR j d) (mem_insL.2 (.inl rfl))
  · rw [if_neg e]
    have hd := dueOf_delL hR id j
    rw [if_neg e] at hd
    cases h : dueOf L j with
    | none =>
      refine dueOf_none.2 (fun x hx => ?_)
      rcases mem_insL.1 hx with rfl | hx
      · exact fun e' => e e'.symm
      · exact dueOf_none.1 h x (mem_delL.1 hx).1
    | some k =>
      refine dueOf_of_mem (rise_setL hR id d) (mem_insL.2 (.inr (mem_delL.2 ⟨dueOf_mem h, e⟩)))
theorem delL_none {L : Tm} {id : Int} (h : dueOf L id = none) : delL id L = L := by
  unfold delL
  refine List.filter_eq_self.2 (fun x hx => ?_)
  simp [dueOf_none.1 h x hx]
theorem length_delL_lt {L : Tm} {id : Int} (h : (dueOf L id).isSome = true) : (delL id L).length < L.length := by
  obtain ⟨d, hd⟩ := Option.isSome_iff_exists.1 h
  have hm := dueOf_mem hd
  unfold delL
  refine List.length_filter_lt_length_iff_exists.2 ⟨_, hm, by simp⟩
theorem length_delL_le (L : Tm) (id : Int) : (delL id L).length ≤ L.length := List.length_filter_le _ _
theorem length_setL {L : Tm} {id : Int} {d : Nat} (h : hasL L id = true ∨ L.length < 64) (h64 : L.length ≤ 64) : (setL id d L).length ≤ 64 := by
  unfold setL
  rw [length_insL]
  rcases h with h | h
  · have := length_delL_lt h; omega
  · have := length_delL_le L id; omega
theorem rise_ids {L : Tm} (h : Rise L) : (L.map Prod.fst).Pairwise (· < ·) := List.pairwise_map.2 h
theorem rise_nodup {L : Tm} (h : Rise L) : (L.map Prod.fst).Nodup := (rise_ids h).imp (fun hlt e => by subst e; exact absurd hlt (Int.lt_irrefl _))

/-! ### The wheel's map and its slots -/
abbrev Mp := Int → Option (Nat × Nat)
def blkOf : Nat → Nat → Nat
  | 0, t => t
  | 1, t => t / 64
  | _, t => t / 4096
def lvl (n : Nat) : Nat := if n < 64 then 0 else if n < 4096 then 1 else 2
def slotOf (l t : Nat) : Nat := 64 * l + blkOf l t % 64
theorem lvl_lt (n : Nat) : lvl n < 3 := by
  unfold lvl
  split
  · omega
  · split <;> omega
theorem slotOf_lt {l : Nat} (h : l < 3) (t : Nat) : slotOf l t < 192 := by unfold slotOf; omega
theorem slotOf_div {l : Nat} (t : Nat) : slotOf l t / 64 = l := by unfold slotOf; omega
theorem slotOf_mod {l : Nat} (t : Nat) : slotOf l t % 64 = blkOf l t % 64 := by unfold slotOf; omega
def upM (m : Mp) (id : Int) (x : Option (Nat × Nat)) : Mp := fun j => if j = id then x else m j
def upQ (q : Nat → List Int) (k : Nat) (l : List Int) : Nat → List Int := fun j => if j = k then l else q j
def lessM (m : Mp) (R : List Int) : Mp := fun j => if j ∈ R then none else m j
theorem upQ_same (q : Nat → List Int) (k : Nat) (l : List Int) : upQ q k l k = l := if_pos rfl
theorem upQ_other (q : Nat → List Int) {k j : Nat} (l : List Int) (h : j ≠ k) : upQ q k l j = q j := if_neg h
theorem upM_same (m : Mp) (id : Int) (x : Option (Nat × Nat)) : upM m id x id = x := if_pos rfl
theorem upM_other (m : Mp) {id j : Int} (x : Option (Nat × Nat)) (h : j ≠ id) : upM m id x j = m j := if_neg h

/-- What holds between the map and the slots, each level's clock standing at c. -/
structure Inv (c : Nat → Nat) (m : Mp) (q : Nat → List Int) : Prop where
  lev : ∀ id d l, m id = some (d, l) → l < 3 ∧ c l < blkOf l d ∧ blkOf l d ≤ c l + 64 ∧ id ∈ q (slotOf l d)
  row : ∀ k id, k < 192 → id ∈ q k → ∃ d l, m id = some (d, l) ∧ k = slotOf l d
  one : ∀ k, k < 192 → (q k).Nodup
theorem Inv.new (c : Nat → Nat) : Inv c (fun _ => none) (fun _ => []) := ⟨(fun _ _ _ h => by cases h), (fun _ _ _ h => by cases h), fun _ _ => List.nodup_nil⟩
theorem Inv.clock {c c' : Nat → Nat} {m : Mp} {q : Nat → List Int} (h : Inv c m q) (e : ∀ l, l < 3 → c' l = c l) : Inv c' m q :=
  ⟨fun id d l hm => by have := h.lev id d l hm; rw [e l this.1]; exact this, h.row, h.one⟩
theorem Inv.put {c : Nat → Nat} {m : Mp} {q : Nat → List Int} (h : Inv c m q) {id : Int} (hn : m id = none) {d l : Nat} (hl : l < 3) (h1 : c l < blkOf l d) (h2 : blkOf l d ≤ c l + 64) :
    Inv c (upM m id (some (d, l))) (upQ q (slotOf l d) (q (slotOf l d) ++ [id])) := by
  have hnot : id ∉ q (slotOf l d) := fun hi => by
    obtain ⟨d', l', e, _⟩ := h.row _ _ (slotOf_lt hl d) hi
    rw [hn] at e; cases e
  refine ⟨fun j d' l' e => ?_, fun k j hk hj => ?_, fun k hk => ?_⟩
  · by_cases ej : j = id
    · subst ej
      rw [upM_same] at e
      cases e
      exact ⟨hl, h1, h2, by rw [upQ_same]; simp⟩
    · rw [upM_other _ _ ej] at e
      obtain ⟨a, b, c', hm⟩ := h.lev j d' l' e
      refine ⟨a, b, c', ?_⟩
      by_cases es : slotOf l' d' = slotOf l d
      · rw [es, upQ_same]; rw [es] at hm; simp [hm]
      · rw [upQ_other _ _ es]; exact hm
  · by_cases es : k = slotOf l d
    · subst es
      rw [upQ_same] at hj
      rcases List.mem_append.1 hj with hj | hj
      · obtain ⟨d', l', e, ek⟩ := h.row _ _ hk hj
        refine ⟨d', l', ?_, ek⟩
        rw [upM_other _ _ (fun ej => by subst ej; rw [hn] at e; cases e)]
        exact e
      · obtain rfl := List.mem_singleton.1 hj
        exact ⟨d, l, upM_same _ _ _, rfl⟩
    · rw [upQ_other _ _ es] at hj
      obtain ⟨d', l', e, ek⟩ := h.row _ _ hk hj
      refine ⟨d', l', ?_, ek⟩
      rw [upM_other _ _ (fun ej => by subst ej; rw [hn] at e; cases e)]
      exact e
  · by_cases es : k = slotOf l d
    · subst es
      rw [upQ_same]
      exact List.nodup_append.2 ⟨h.one _ hk, by simp, fun a ha b hb => by
        obtain rfl := List.mem_singleton.1 hb
        exact fun e => hnot (e ▸ ha)⟩
    · rw [upQ_other _ _ es]
      exact h.one _ hk
theorem Inv.drop {c : Nat → Nat} {m : Mp} {q : Nat → List Int} (h : Inv c m q) {id : Int} {d l : Nat} (hm : m id = some (d, l)) :
    Inv c (upM m id none) (upQ q (slotOf l d) ((q (slotOf l d)).filter fun x => !(x == id))) := by
  obtain ⟨hl, _, _, _⟩ := h.lev id d l hm
  refine ⟨fun j d' l' e => ?_, fun k j hk hj => ?_, fun k hk => ?_⟩
  · by_cases ej : j = id
    · subst ej
      rw [upM_same] at e
      cases e
    · rw [upM_other _ _ ej] at e
      obtain ⟨a, b, c', hi⟩ := h.lev j d' l' e
      refine ⟨a, b, c', ?_⟩
      by_cases es : slotOf l' d' = slotOf l d
      · rw [es, upQ_same]; rw [es] at hi; exact List.mem_filter.2 ⟨hi, by simp [ej]⟩
      · rw [upQ_other _ _ es]; exact hi
  · have key : ∀ d' l', m j = some (d', l') → k = slotOf l' d' → j ≠ id → ∃ d l, upM m id none j = some (d, l) ∧ k = slotOf l d := fun d' l' e ek ej => ⟨d', l', by rw [upM_other _ _ ej]; exact e, ek⟩
    by_cases es : k = slotOf l d
    · subst es
      rw [upQ_same] at hj
      obtain ⟨hj, hne⟩ := List.mem_filter.1 hj
      obtain ⟨d', l', e, ek⟩ := h.row _ _ hk hj
      exact key d' l' e ek (by simpa using hne)
    · rw [upQ_other _ _ es] at hj
      obtain ⟨d', l', e, ek⟩ := h.row _ _ hk hj
      exact key d' l' e ek (fun ej => by subst ej; rw [hm] at e; cases e; exact es ek)
  · by_cases es : k = slotOf l d
    · subst es
      rw [upQ_same]
      exact (h.one _ hk).filter _
    · rw [upQ_other _ _ es]
      exact h.one _ hk
/-- A level's clock goes on by one: what lies in its slot is taken, and is just what begins there. -/
theorem Inv.take {c c' : Nat → Nat} {m : Mp} {q : Nat → List Int} (h : Inv c m q) {l t : Nat} (hl : l < 3) (ht : blkOf l t = c l + 1) (e1 : c' l = c l + 1) (e2 : ∀ j, j < 3 → j ≠ l → c' j = c j) :
    (∀ id ∈ q (slotOf l t), ∃ d, m id = some (d, l) ∧ blkOf l d = blkOf l t) ∧ (∀ id d, m id = some (d, l) → blkOf l d = blkOf l t → id ∈ q (slotOf l t)) ∧ Inv c' (lessM m (q (slotOf l t))) (upQ q (slotOf l t) []) := by
  have hk := slotOf_lt hl t
  have inn : ∀ id ∈ q (slotOf l t), ∃ d, m id = some (d, l) ∧ blkOf l d = blkOf l t := fun id hi => by
    obtain ⟨d, l', e, ek⟩ := h.row _ _ hk hi
    have e3 : l' = l := by rw [← slotOf_div (l := l') d, ← ek, slotOf_div]
    subst e3
    obtain ⟨_, a, b, _⟩ := h.lev id d l' e
    have e4 : blkOf l' t % 64 = blkOf l' d % 64 := by rw [← slotOf_mod t, ek, slotOf_mod]
    exact ⟨d, e, by omega⟩
  refine ⟨inn, fun id d e hb => ?_, fun id d l' e => ?_, fun k id hk' hi => ?_, fun k hk' => ?_⟩
  · have := (h.lev id d l e).2.2.2
    unfold slotOf at this ⊢
    rw [← hb]; exact this
  · unfold lessM at e
    split at e
    · cases e
    · rename_i hno
      obtain ⟨a, b, b', hi⟩ := h.lev id d l' e
      have hs : slotOf l' d ≠ slotOf l t := fun es => hno (es ▸ hi)
      refine ⟨a, ?_, ?_, by rw [upQ_other _ _ hs]; exact hi⟩
      · by_cases el : l' = l
        · subst el
          rw [e1]
          have : blkOf l' d ≠ blkOf l' t := fun e5 => hs (by unfold slotOf; rw [e5])
          omega
        · rw [e2 l' a el]; exact b
      · by_cases el : l' = l
        · subst el; omega
        · rw [e2 l' a el]; exact b'
  · by_cases es : k = slotOf l t
    · subst es; rw [upQ_same] at hi; cases hi
    · rw [upQ_other _ _ es] at hi
      obtain ⟨d, l', e, ek⟩ := h.row _ _ hk' hi
      refine ⟨d, l', ?_, ek⟩
      unfold lessM
      rw [if_neg (fun hin => ?_)]
      · exact e
      · obtain ⟨d', e', hb'⟩ := inn id hin
        rw [e] at e'
        cases e'
        exact es (by rw [ek]; unfold slotOf; rw [hb'])
  · by_cases es : k = slotOf l t
    · subst es; rw [upQ_same]; exact List.nodup_nil
    · rw [upQ_other _ _ es]; exact h.one _ hk'
theorem lessM_nil (m : Mp) : lessM m [] = m := by funext j; simp [lessM]
theorem lessM_cons_up (m : Mp) {id : Int} {R : List Int} (hn : id ∉ R) (x : Option (Nat × Nat)) : upM (lessM m (id :: R)) id x = lessM (upM m id x) R := by
  funext j
  unfold upM lessM
  by_cases e : j = id
  · subst e; simp [hn]
  · simp [e]
theorem upM_less (m : Mp) (id : Int) (R : List Int) : upM (lessM m R) id none = lessM m (R ++ [id]) := by
  funext j
  unfold upM lessM
  by_cases e : j = id
  · subst e; simp
  · by_cases h : j ∈ R <;> simp [e, h]

/-! ### A tick's clocks -/
/-- The clocks of a tick N at whose end the levels from j on have gone on. -/
def ck (j N : Nat) : Nat → Nat := fun l => if j ≤ l then blkOf l N else blkOf l (N - 1)
def pow64 : Nat → Nat
  | 0 => 1
  | 1 => 64
  | _ => 4096
theorem blk_next {l N : Nat} (hN : 1 ≤ N) (hb : N % pow64 l = 0) : blkOf l N = blkOf l (N - 1) + 1 := by
  match l, hb with
  | 0, _ => show N = N - 1 + 1; omega
  | 1, hb => simp only [pow64] at hb; show N / 64 = (N - 1) / 64 + 1; omega
  | _ + 2, hb => simp only [pow64] at hb; show N / 4096 = (N - 1) / 4096 + 1; omega
theorem blk_same {l N : Nat} (hN : 1 ≤ N) (hb : N % pow64 l ≠ 0) : blkOf l N = blkOf l (N - 1) := by
  match l, hb with
  | 0, hb => simp only [pow64] at hb; omega
  | 1, hb => simp only [pow64] at hb; show N / 64 = (N - 1) / 64; omega
  | _ + 2, hb => simp only [pow64] at hb; show N / 4096 = (N - 1) / 4096; omega
theorem ck_start {N l : Nat} (h : l < 3) : ck 3 N l = blkOf l (N - 1) := if_neg (by omega)
theorem ck_end (N l : Nat) : ck 0 N l = blkOf l N := if_pos (by omega)
theorem ck_skip {j N : Nat} (hN : 1 ≤ N) (hb : N % pow64 j ≠ 0) (l : Nat) : ck j N l = ck (j + 1) N l := by
  unfold ck
  by_cases e : l = j
  · subst e; rw [if_pos (Nat.le_refl _), if_neg (by omega), blk_same hN hb]
  · by_cases h : j ≤ l
    · rw [if_pos h, if_pos (by omega)]
    · rw [if_neg h, if_neg (by omega)]
theorem ck_at {j N : Nat} : ck (j + 1) N j = blkOf j (N - 1) := if_neg (by omega)
theorem ck_next {j N : Nat} : ck j N j = blkOf j N := if_pos (Nat.le_refl _)
theorem ck_other {j N l : Nat} (e : l ≠ j) : ck j N l = ck (j + 1) N l := by
  unfold ck
  by_cases h : j ≤ l
  · rw [if_pos h, if_pos (by omega)]
  · rw [if_neg h, if_neg (by omega)]
/-- What is set anew fits at its level. -/
theorem set_fits {N n : Nat} (h1 : 1 ≤ n) (h2 : n ≤ 262144) : blkOf (lvl n) N < blkOf (lvl n) (N + n) ∧ blkOf (lvl n) (N + n) ≤ blkOf (lvl n) N + 64 := by
  unfold lvl
  split
  · simp only [blkOf]; omega
  · split
    · simp only [blkOf]; omega
    · simp only [blkOf]; omega
/-- What comes down from level l fits below it. -/
theorem down_fits {N d l : Nat} (hl0 : 1 ≤ l) (hl : l < 3) (hN : 1 ≤ N) (hb : N % pow64 l = 0) (hd : N ≤ d) (he : blkOf l d = blkOf l N) :
    lvl (d - N) < l ∧ ck l N (lvl (d - N)) < blkOf (lvl (d - N)) d ∧ blkOf (lvl (d - N)) d ≤ ck l N (lvl (d - N)) + 64 := by
  have hlv : lvl (d - N) < l := by
    match l, hl0, hl with
    | 1, _, _ =>
      simp only [pow64, blkOf] at hb he
      unfold lvl
      split
      · omega
      · exfalso; omega
    | 2, _, _ =>
      simp only [pow64, blkOf] at hb he
      unfold lvl
      split
      · omega
      · split
        · omega
        · exfalso; omega
    | _ + 3, _, h => omega
  have hck : ck l N (lvl (d - N)) = blkOf (lvl (d - N)) (N - 1) := if_neg (by omega)
  refine ⟨hlv, ?_⟩
  rw [hck]
  revert hlv
  unfold lvl
  split
  · intro _
    simp only [blkOf]
    omega
  · split
    · intro h
      obtain rfl : l = 2 := by omega
      simp only [pow64, blkOf] at hb he ⊢
      omega
    · intro h; omega

/-! ### Both together -/
def Tie (m : Mp) (L : Tm) : Prop := ∀ id, (m id).map Prod.fst = dueOf L id
theorem Tie.isSome {m : Mp} {L : Tm} (h : Tie m L) (id : Int) : (m id).isSome = hasL L id := by unfold hasL; rw [← h id]; simp
theorem Tie.no {m : Mp} {L : Tm} (h : Tie m L) {id : Int} (e : dueOf L id = none) : m id = none := by
  have := h id
  rw [e] at this
  simpa using this
theorem Tie.yes {m : Mp} {L : Tm} (h : Tie m L) {id : Int} {d : Nat} (e : dueOf L id = some d) : ∃ l, m id = some (d, l) := by
  have := h id
  rw [e] at this
  obtain ⟨⟨d', l⟩, hm, rfl⟩ := Option.map_eq_some_iff.1 this
  exact ⟨l, hm⟩
theorem Tie.set {m : Mp} {L : Tm} (h : Tie m L) (hR : Rise L) (id : Int) (d l : Nat) : Tie (upM m id (some (d, l))) (setL id d L) := fun j => by
  rw [dueOf_setL hR]
  unfold upM
  split
  · rfl
  · exact h j
theorem Tie.del {m : Mp} {L : Tm} (h : Tie m L) (hR : Rise L) (id : Int) : Tie (upM m id none) (delL id L) := fun j => by
  rw [dueOf_delL hR]
  unfold upM
  split
  · rfl
  · exact h j
theorem Tie.turn {m : Mp} {L : Tm} (h : Tie m L) {id : Int} {d l l' : Nat} (hm : m id = some (d, l)) : Tie (upM m id (some (d, l'))) L := fun j => by
  unfold upM
  split
  · rename_i e
    subst e
    rw [← h j, hm]; rfl
  · exact h j
theorem setL_del {L : Tm} (hR : Rise L) (id : Int) (d : Nat) : setL id d (delL id L) = setL id d L := by
  unfold setL
  rw [delL_none (by rw [dueOf_delL hR, if_pos rfl])]
/-- The state of a wheel: the tick, and the timers. -/
structure St where
  now : Nat
  L : Tm
/-- What holds of every state. -/
structure St.ok (s : St) : Prop where
  rise : Rise s.L
  most : s.L.length ≤ 64
  soon : ∀ x ∈ s.L, s.now < x.2 ∧ x.2 ≤ s.now + 262144
  ids : ∀ x ∈ s.L, -9223372036854775808 ≤ x.1 ∧ x.1 ≤ 9223372036854775807
def St.may (s : St) (id n : Int) : Bool := decide (1 ≤ n ∧ n ≤ 262144 ∧ (hasL s.L id = true ∨ s.L.length < 64))
def St.set (s : St) (id n : Int) : St := if s.may id n then ⟨s.now, setL id (s.now + n.toNat) s.L⟩ else s
def St.stop (s : St) (id : Int) : St := ⟨s.now, delL id s.L⟩
def St.tick (s : St) : St := ⟨s.now + 1, restL (s.now + 1) s.L⟩
def St.due (s : St) : List Int := dueL (s.now + 1) s.L
def St.left (s : St) (id : Int) : Option Nat := (dueOf s.L id).map (· - s.now)
def St.next (s : St) : Option Nat := leastL s.now s.L
def St.new : St := ⟨0, []⟩
theorem St.ok.new : St.new.ok := ⟨List.Pairwise.nil, Nat.zero_le _, (fun _ h => by cases h), (fun _ h => by cases h)⟩
theorem St.ok.stop {s : St} (h : s.ok) (id : Int) : (s.stop id).ok :=
  ⟨rise_delL h.rise id, Nat.le_trans (length_delL_le _ _) h.most, fun x hx => h.soon x (mem_delL.1 hx).1, fun x hx => h.ids x (mem_delL.1 hx).1⟩
theorem St.ok.set {s : St} (h : s.ok) {id n : Int} (hi : -9223372036854775808 ≤ id ∧ id ≤ 9223372036854775807) : (s.set id n).ok := by
  unfold St.set
  split
  · rename_i hm
    simp only [St.may, decide_eq_true_eq] at hm
    refine ⟨rise_setL h.rise _ _, length_setL hm.2.2 h.most, fun x hx => ?_, fun x hx => ?_⟩
    · rcases mem_insL.1 hx with rfl | hx
      · show s.now < s.now + n.toNat ∧ s.now + n.toNat ≤ s.now + 262144
        omega
      · exact h.soon x (mem_delL.1 hx).1
    · rcases mem_insL.1 hx with rfl | hx
      · exact hi
      · exact h.ids x (mem_delL.1 hx).1
  · exact h
theorem St.ok.tick {s : St} (h : s.ok) : s.tick.ok := by
  refine ⟨rise_filter h.rise _, Nat.le_trans (List.length_filter_le _ _) h.most, fun x hx => ?_, fun x hx => h.ids x (List.mem_filter.1 hx).1⟩
  obtain ⟨h1, h2⟩ := List.mem_filter.1 hx
  have := h.soon x h1
  simp only [Bool.not_eq_true', beq_eq_false_iff_ne] at h2
  show s.now + 1 < x.2 ∧ x.2 ≤ s.now + 1 + 262144
  omega
/-- Behind a tick's last level: what is due is just what was taken. -/
theorem tie_tick {m : Mp} {L : Tm} {N : Nat} {T : List Int} (h : Tie m L) (hR : Rise L) (hT : ∀ id, id ∈ T ↔ ∃ l, m id = some (N, l)) : Tie (lessM m T) (restL N L) := fun j => by
  unfold restL
  rw [dueOf_filter hR]
  unfold lessM
  have hj := h j
  by_cases e : j ∈ T
  · rw [if_pos e]
    obtain ⟨l, hm⟩ := (hT j).1 e
    rw [← hj, hm]
    simp
  · rw [if_neg e]
    cases hm : m j with
    | none => rw [hm] at hj; rw [← hj]; rfl
    | some p =>
      obtain ⟨d, l⟩ := p
      have : d ≠ N := fun ed => e ((hT j).2 ⟨l, ed ▸ hm⟩)
      rw [hm] at hj
      rw [← hj]
      simp [this]
theorem mem_dueL {L : Tm} {N : Nat} {id : Int} : id ∈ dueL N L ↔ (id, N) ∈ L := by
  unfold dueL
  simp
theorem sorted_dueL {L : Tm} (hR : Rise L) (N : Nat) : (dueL N L).Pairwise (· < ·) := rise_ids (rise_filter hR _)
/-- Two rising rows of the same numbers are one. -/
theorem rising_ext : ∀ {a b : List Int}, a.Pairwise (· < ·) → b.Pairwise (· < ·) → (∀ x, x ∈ a ↔ x ∈ b) → a = b
  | [], [], _, _, _ => rfl
  | [], y :: r, _, _, h => absurd ((h y).2 (List.mem_cons_self ..)) (by simp)
  | y :: r, [], _, _, h => absurd ((h y).1 (List.mem_cons_self ..)) (by simp)
  | x :: r, y :: t, ha, hb, h => by
    have h1 := List.pairwise_cons.1 ha
    have h2 := List.pairwise_cons.1 hb
    have e : x = y := by
      rcases List.mem_cons.1 ((h x).1 (List.mem_cons_self ..)) with e | hx
      · exact e
      · rcases List.mem_cons.1 ((h y).2 (List.mem_cons_self ..)) with e | hy
        · exact e.symm
        · have := h1.1 y hy; have := h2.1 x hx; omega
    subst e
    rw [rising_ext h1.2 h2.2 (fun z => ⟨fun hz => by
      rcases List.mem_cons.1 ((h z).1 (List.mem_cons_of_mem _ hz)) with e | hz'
      · have := h1.1 z hz; omega
      · exact hz', fun hz => by
      rcases List.mem_cons.1 ((h z).2 (List.mem_cons_of_mem _ hz)) with e | hz'
      · have := h2.1 z hz; omega
      · exact hz'⟩)]
theorem mergeSort_rising {T : List Int} (hn : T.Nodup) : (T.mergeSort (fun x y => decide (x ≤ y))).Pairwise (· < ·) := by
  have h1 : (T.mergeSort (fun x y => decide (x ≤ y))).Pairwise (fun x y => decide (x ≤ y) = true) := List.pairwise_mergeSort (by simp; intros; omega) (by simp; intros; omega) T
  have h2 : (T.mergeSort (fun x y => decide (x ≤ y))).Nodup := (List.mergeSort_perm T _).nodup_iff.2 hn
  exact List.Pairwise.imp₂ (fun a b hab hne => by simp at hab; omega) h1 h2
theorem sort_is {T b : List Int} (hn : T.Nodup) (hb : b.Pairwise (· < ·)) (h : ∀ x, x ∈ T ↔ x ∈ b) : T.mergeSort (fun x y => decide (x ≤ y)) = b :=
  rising_ext (mergeSort_rising hn) hb (fun x => (List.mergeSort_perm T _).mem_iff.trans (h x))
theorem length_le_of_sub : ∀ {a b : List Int}, a.Nodup → (∀ x ∈ a, x ∈ b) → a.length ≤ b.length
  | [], _, _, _ => Nat.zero_le _
  | x :: r, b, ha, h => by
    have hx := h x (List.mem_cons_self ..)
    have hn := List.nodup_cons.1 ha
    have := length_le_of_sub (b := b.erase x) hn.2 (fun y hy => (List.mem_erase_of_ne (fun e : y = x => hn.1 (e ▸ hy))).2 (h y (List.mem_cons_of_mem _ hy)))
    rw [List.length_erase_of_mem hx] at this
    have := List.length_pos_of_mem hx
    simp only [List.length_cons]
    omega
/-- A slot has no more than are set. -/
theorem Inv.short {c : Nat → Nat} {m : Mp} {q : Nat → List Int} (h : Inv c m q) {L : Tm} (ht : ∀ id, (m id).isSome = true → hasL L id = true) {k : Nat} (hk : k < 192) : (q k).length ≤ L.length := by
  rw [← List.length_map (f := Prod.fst) (as := L)]
  refine length_le_of_sub (h.one k hk) (fun x hx => ?_)
  obtain ⟨d, l, e, _⟩ := h.row k x hk hx
  have := ht x (by rw [e]; rfl)
  obtain ⟨d', hd⟩ := Option.isSome_iff_exists.1 this
  exact List.mem_map.2 ⟨_, dueOf_mem hd, rfl⟩
theorem leastL_none {now : Nat} {L : Tm} : leastL now L = none ↔ L = [] := by cases L <;> simp [leastL]
end Go.Proofs.Ytcekpkjibabjmaa
