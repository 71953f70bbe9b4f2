import Derived.Lib.Hide
import Derived.Test.YtaicipldjmngaaaGreatDoorZj1
import Derived.Test.YtaicipldjmngaaaGreatDoorZj2
import Derived.Maps.RangeWalk
import Derived.Maps.OwnSet
import Derived.Maps.AppendAt
import Derived.Lib.SlKeysI
import Derived.Lib.OwnBridge
import Derived.Laws.Bits128
import Derived.WalkSpells
namespace Go.Proofs.YtaicipldjmngaaaGreatDoor.wh
abbrev Tm := List (Int × Nat)
def Rise (L : Tm) : Prop := L.Pairwise (fun x y => x.1 < y.1)
def dueOf : Tm → Int → Option Nat
  | [], _ => none
  | x :: r, id => if x.1 = id then some x.2 else dueOf r id
def hasL (L : Tm) (id : Int) : Bool := (dueOf L id).isSome
def delL (id : Int) (L : Tm) : Tm := L.filter fun x => !(x.1 == id)
def insL (id : Int) (d : Nat) : Tm → Tm
  | [] => [(id, d)]
  | x :: r => if id < x.1 then (id, d) :: x :: r else x :: insL id d r
def setL (id : Int) (d : Nat) (L : Tm) : Tm := insL id d (delL id L)
def dueL (N : Nat) (L : Tm) : List Int := (L.filter fun x => x.2 == N).map Prod.fst
def restL (N : Nat) (L : Tm) : Tm := L.filter fun x => !(x.2 == N)
def leastL (now : Nat) : Tm → Option Nat
  | [] => none
  | x :: r => some (match leastL now r with
    | none => x.2 - now
    | some n => min (x.2 - now) n)
theorem dueOf_none {L : Tm} {id : Int} : dueOf L id = none ↔ ∀ x ∈ L, x.1 ≠ id := by
  induction L with
  | nil => simp [dueOf]
  | cons x r ih =>
    unfold dueOf
    by_cases h : x.1 = id
    · simp [h]
    · simp [h, ih]
theorem dueOf_mem {L : Tm} {id : Int} {d : Nat} (h : dueOf L id = some d) : (id, d) ∈ L := by
  induction L with
  | nil => simp [dueOf] at h
  | cons x r ih =>
    unfold dueOf at h
    by_cases e : x.1 = id
    · rw [if_pos e] at h
      cases h
      rw [← e]
      exact List.mem_cons_self ..
    · rw [if_neg e] at h
      exact List.mem_cons_of_mem _ (ih h)
theorem dueOf_of_mem {L : Tm} (hR : Rise L) {id : Int} {d : Nat} (h : (id, d) ∈ L) : dueOf L id = some d := by
  induction L with
  | nil => cases h
  | cons x r ih =>
    have hr := List.pairwise_cons.1 hR
    unfold dueOf
    rcases List.mem_cons.1 h with rfl | h'
    · rw [if_pos rfl]
    · have := hr.1 _ h'
      rw [if_neg (by intro e; rw [e] at this; exact absurd this (Int.lt_irrefl _))]
      exact ih hr.2 h'
theorem rise_filter {L : Tm} (h : Rise L) (p : Int × Nat → Bool) : Rise (L.filter p) := List.Pairwise.filter p h
theorem dueOf_filter {L : Tm} (hR : Rise L) (p : Int × Nat → Bool) (id : Int) : dueOf (L.filter p) id = (dueOf L id).bind fun d => if p (id, d) then some d else none := by
  induction L with
  | nil => rfl
  | cons x r ih =>
    have hr := List.pairwise_cons.1 hR
    have ih' := ih hr.2
    by_cases e : x.1 = id
    · have hn : dueOf r id = none := dueOf_none.2 (fun y hy => by have := hr.1 y hy; omega)
      rw [hn] at ih'
      subst e
      by_cases hp : p x = true
      · rw [List.filter_cons_of_pos hp]
        simp [dueOf, hp]
      · rw [List.filter_cons_of_neg hp, ih']
        simp [dueOf, hp]
    · by_cases hp : p x = true
      · rw [List.filter_cons_of_pos hp]
        simp [dueOf, e, ih']
      · rw [List.filter_cons_of_neg hp]
        simp [dueOf, e, ih']
theorem dueOf_delL {L : Tm} (hR : Rise L) (id j : Int) : dueOf (delL id L) j = if j = id then none else dueOf L j := by
  unfold delL
  rw [dueOf_filter hR]
  by_cases e : j = id
  · subst e
    cases dueOf L j <;> simp
  · rw [if_neg e]
    cases dueOf L j <;> simp [e]
theorem mem_insL {id : Int} {d : Nat} {L : Tm} {x : Int × Nat} : x ∈ insL id d L ↔ x = (id, d) ∨ x ∈ L := by
  induction L with
  | nil => simp [insL]
  | cons y r ih =>
    unfold insL
    by_cases h : id < y.1
    · rw [if_pos h]; simp
    · rw [if_neg h]; simp [ih, or_left_comm]
theorem rise_insL {id : Int} {d : Nat} {L : Tm} (hR : Rise L) (hn : ∀ x ∈ L, x.1 ≠ id) : Rise (insL id d L) := by
  induction L with
  | nil => simp [insL, Rise]
  | cons y r ih =>
    have hr := List.pairwise_cons.1 hR
    unfold insL
    by_cases h : id < y.1
    · rw [if_pos h]
      refine List.pairwise_cons.2 ⟨fun z hz => ?_, hR⟩
      rcases List.mem_cons.1 hz with rfl | hz
      · exact h
      · have := hr.1 z hz; show id < z.1; omega
    · rw [if_neg h]
      refine List.pairwise_cons.2 ⟨fun z hz => ?_, ih hr.2 (fun x hx => hn x (List.mem_cons_of_mem _ hx))⟩
      rcases mem_insL.1 hz with rfl | hz
      · have := hn y (List.mem_cons_self ..); show y.1 < id; omega
      · exact hr.1 z hz
theorem length_insL {id : Int} {d : Nat} : ∀ L : Tm, (insL id d L).length = L.length + 1
  | [] => rfl
  | y :: r => by
    unfold insL
    by_cases h : id < y.1
    · rw [if_pos h]; rfl
    · rw [if_neg h]; simp [length_insL r]
theorem mem_delL {id : Int} {L : Tm} {x : Int × Nat} : x ∈ delL id L ↔ x ∈ L ∧ x.1 ≠ id := by simp [delL]
theorem rise_delL {L : Tm} (h : Rise L) (id : Int) : Rise (delL id L) := rise_filter h _
theorem rise_setL {L : Tm} (h : Rise L) (id : Int) (d : Nat) : Rise (setL id d L) := rise_insL (rise_delL h id) (fun _ hx => (mem_delL.1 hx).2)
theorem dueOf_setL {L : Tm} (hR : Rise L) (id : Int) (d : Nat) (j : Int) : dueOf (setL id d L) j = if j = id then some d else dueOf L j := by
  by_cases e : j = id
  · subst e
    rw [if_pos rfl]
    exact dueOf_of_mem (rise_setL hR j d) (mem_insL.2 (.inl rfl))
  · rw [if_neg e]
    have hd := dueOf_delL hR id j
    rw [if_neg e] at hd
    cases h : dueOf L j with
    | none =>
      refine dueOf_none.2 (fun x hx => ?_)
      rcases mem_insL.1 hx with rfl | hx
      · exact fun e' => e e'.symm
      · exact dueOf_none.1 h x (mem_delL.1 hx).1
    | some k =>
      refine dueOf_of_mem (rise_setL hR id d) (mem_insL.2 (.inr (mem_delL.2 ⟨dueOf_mem h, e⟩)))
theorem delL_none {L : Tm} {id : Int} (h : dueOf L id = none) : delL id L = L := by
  unfold delL
  refine List.filter_eq_self.2 (fun x hx => ?_)
  simp [dueOf_none.1 h x hx]
theorem length_delL_lt {L : Tm} {id : Int} (h : (dueOf L id).isSome = true) : (delL id L).length < L.length := by
  obtain ⟨d, hd⟩ := Option.isSome_iff_exists.1 h
  have hm := dueOf_mem hd
  unfold delL
  refine List.length_filter_lt_length_iff_exists.2 ⟨_, hm, by simp⟩
theorem length_delL_le (L : Tm) (id : Int) : (delL id L).length ≤ L.length := List.length_filter_le _ _
theorem length_setL {L : Tm} {id : Int} {d : Nat} (h : hasL L id = true ∨ L.length < 64) (h64 : L.length ≤ 64) : (setL id d L).length ≤ 64 := by
  unfold setL
  rw [length_insL]
  rcases h with h | h
  · have := length_delL_lt h; omega
  · have := length_delL_le L id; omega
theorem rise_ids {L : Tm} (h : Rise L) : (L.map Prod.fst).Pairwise (· < ·) := List.pairwise_map.2 h
theorem rise_nodup {L : Tm} (h : Rise L) : (L.map Prod.fst).Nodup := (rise_ids h).imp (fun hlt e => by subst e; exact absurd hlt (Int.lt_irrefl _))
abbrev Mp := Int → Option (Nat × Nat)
def blkOf : Nat → Nat → Nat
  | 0, t => t
  | 1, t => t / 64
  | _, t => t / 4096
def lvl (n : Nat) : Nat := if n < 64 then 0 else if n < 4096 then 1 else 2
def slotOf (l t : Nat) : Nat := 64 * l + blkOf l t % 64
theorem lvl_lt (n : Nat) : lvl n < 3 := by
  unfold lvl
  split
  · omega
  · split <;> omega
theorem slotOf_lt {l : Nat} (h : l < 3) (t : Nat) : slotOf l t < 192 := by unfold slotOf; omega
theorem slotOf_div {l : Nat} (t : Nat) : slotOf l t / 64 = l := by unfold slotOf; omega
theorem slotOf_mod {l : Nat} (t : Nat) : slotOf l t % 64 = blkOf l t % 64 := by unfold slotOf; omega
def upM (m : Mp) (id : Int) (x : Option (Nat × Nat)) : Mp := fun j => if j = id then x else m j
def upQ (q : Nat → List Int) (k : Nat) (l : List Int) : Nat → List Int := fun j => if j = k then l else q j
def lessM (m : Mp) (R : List Int) : Mp := fun j => if j ∈ R then none else m j
theorem upQ_same (q : Nat → List Int) (k : Nat) (l : List Int) : upQ q k l k = l := if_pos rfl
theorem upQ_other (q : Nat → List Int) {k j : Nat} (l : List Int) (h : j ≠ k) : upQ q k l j = q j := if_neg h
theorem upM_same (m : Mp) (id : Int) (x : Option (Nat × Nat)) : upM m id x id = x := if_pos rfl
theorem upM_other (m : Mp) {id j : Int} (x : Option (Nat × Nat)) (h : j ≠ id) : upM m id x j = m j := if_neg h
structure Inv (c : Nat → Nat) (m : Mp) (q : Nat → List Int) : Prop where
  lev : ∀ id d l, m id = some (d, l) → l < 3 ∧ c l < blkOf l d ∧ blkOf l d ≤ c l + 64 ∧ id ∈ q (slotOf l d)
  row : ∀ k id, k < 192 → id ∈ q k → ∃ d l, m id = some (d, l) ∧ k = slotOf l d
  one : ∀ k, k < 192 → (q k).Nodup
theorem Inv.new (c : Nat → Nat) : Inv c (fun _ => none) (fun _ => []) := ⟨(fun _ _ _ h => by cases h), (fun _ _ _ h => by cases h), fun _ _ => List.nodup_nil⟩
theorem Inv.clock {c c' : Nat → Nat} {m : Mp} {q : Nat → List Int} (h : Inv c m q) (e : ∀ l, l < 3 → c' l = c l) : Inv c' m q :=
  ⟨fun id d l hm => by have := h.lev id d l hm; rw [e l this.1]; exact this, h.row, h.one⟩
theorem Inv.put {c : Nat → Nat} {m : Mp} {q : Nat → List Int} (h : Inv c m q) {id : Int} (hn : m id = none) {d l : Nat} (hl : l < 3) (h1 : c l < blkOf l d) (h2 : blkOf l d ≤ c l + 64) :
    Inv c (upM m id (some (d, l))) (upQ q (slotOf l d) (q (slotOf l d) ++ [id])) := by
  have hnot : id ∉ q (slotOf l d) := fun hi => by
    obtain ⟨d', l', e, _⟩ := h.row _ _ (slotOf_lt hl d) hi
    rw [hn] at e; cases e
  refine ⟨fun j d' l' e => ?_, fun k j hk hj => ?_, fun k hk => ?_⟩
  · by_cases ej : j = id
    · subst ej
      rw [upM_same] at e
      cases e
      exact ⟨hl, h1, h2, by rw [upQ_same]; simp⟩
    · rw [upM_other _ _ ej] at e
      obtain ⟨a, b, c', hm⟩ := h.lev j d' l' e
      refine ⟨a, b, c', ?_⟩
      by_cases es : slotOf l' d' = slotOf l d
      · rw [es, upQ_same]; rw [es] at hm; simp [hm]
      · rw [upQ_other _ _ es]; exact hm
  · by_cases es : k = slotOf l d
    · subst es
      rw [upQ_same] at hj
      rcases List.mem_append.1 hj with hj | hj
      · obtain ⟨d', l', e, ek⟩ := h.row _ _ hk hj
        refine ⟨d', l', ?_, ek⟩
        rw [upM_other _ _ (fun ej => by subst ej; rw [hn] at e; cases e)]
        exact e
      · obtain rfl := List.mem_singleton.1 hj
        exact ⟨d, l, upM_same _ _ _, rfl⟩
    · rw [upQ_other _ _ es] at hj
      obtain ⟨d', l', e, ek⟩ := h.row _ _ hk hj
      refine ⟨d', l', ?_, ek⟩
      rw [upM_other _ _ (fun ej => by subst ej; rw [hn] at e; cases e)]
      exact e
  · by_cases es : k = slotOf l d
    · subst es
      rw [upQ_same]
      exact List.nodup_append.2 ⟨h.one _ hk, by simp, fun a ha b hb => by
        obtain rfl := List.mem_singleton.1 hb
        exact fun e => hnot (e ▸ ha)⟩
    · rw [upQ_other _ _ es]
      exact h.one _ hk
theorem Inv.drop {c : Nat → Nat} {m : Mp} {q : Nat → List Int} (h : Inv c m q) {id : Int} {d l : Nat} (hm : m id = some (d, l)) :
    Inv c (upM m id none) (upQ q (slotOf l d) ((q (slotOf l d)).filter fun x => !(x == id))) := by
  obtain ⟨hl, _, _, _⟩ := h.lev id d l hm
  refine ⟨fun j d' l' e => ?_, fun k j hk hj => ?_, fun k hk => ?_⟩
  · by_cases ej : j = id
    · subst ej
      rw [upM_same] at e
      cases e
    · rw [upM_other _ _ ej] at e
      obtain ⟨a, b, c', hi⟩ := h.lev j d' l' e
      refine ⟨a, b, c', ?_⟩
      by_cases es : slotOf l' d' = slotOf l d
      · rw [es, upQ_same]; rw [es] at hi; exact List.mem_filter.2 ⟨hi, by simp [ej]⟩
      · rw [upQ_other _ _ es]; exact hi
  · have key : ∀ d' l', m j = some (d', l') → k = slotOf l' d' → j ≠ id → ∃ d l, upM m id none j = some (d, l) ∧ k = slotOf l d := fun d' l' e ek ej => ⟨d', l', by rw [upM_other _ _ ej]; exact e, ek⟩
    by_cases es : k = slotOf l d
    · subst es
      rw [upQ_same] at hj
      obtain ⟨hj, hne⟩ := List.mem_filter.1 hj
      obtain ⟨d', l', e, ek⟩ := h.row _ _ hk hj
      exact key d' l' e ek (by simpa using hne)
    · rw [upQ_other _ _ es] at hj
      obtain ⟨d', l', e, ek⟩ := h.row _ _ hk hj
      exact key d' l' e ek (fun ej => by subst ej; rw [hm] at e; cases e; exact es ek)
  · by_cases es : k = slotOf l d
    · subst es
      rw [upQ_same]
      exact (h.one _ hk).filter _
    · rw [upQ_other _ _ es]
      exact h.one _ hk
theorem Inv.take {c c' : Nat → Nat} {m : Mp} {q : Nat → List Int} (h : Inv c m q) {l t : Nat} (hl : l < 3) (ht : blkOf l t = c l + 1) (e1 : c' l = c l + 1) (e2 : ∀ j, j < 3 → j ≠ l → c' j = c j) :
    (∀ id ∈ q (slotOf l t), ∃ d, m id = some (d, l) ∧ blkOf l d = blkOf l t) ∧ (∀ id d, m id = some (d, l) → blkOf l d = blkOf l t → id ∈ q (slotOf l t)) ∧ Inv c' (lessM m (q (slotOf l t))) (upQ q (slotOf l t) []) := by
  have hk := slotOf_lt hl t
  have inn : ∀ id ∈ q (slotOf l t), ∃ d, m id = some (d, l) ∧ blkOf l d = blkOf l t := fun id hi => by
    obtain ⟨d, l', e, ek⟩ := h.row _ _ hk hi
    have e3 : l' = l := by rw [← slotOf_div (l := l') d, ← ek, slotOf_div]
    subst e3
    obtain ⟨_, a, b, _⟩ := h.lev id d l' e
    have e4 : blkOf l' t % 64 = blkOf l' d % 64 := by rw [← slotOf_mod t, ek, slotOf_mod]
    exact ⟨d, e, by omega⟩
  refine ⟨inn, fun id d e hb => ?_, fun id d l' e => ?_, fun k id hk' hi => ?_, fun k hk' => ?_⟩
  · have := (h.lev id d l e).2.2.2
    unfold slotOf at this ⊢
    rw [← hb]; exact this
  · unfold lessM at e
    split at e
    · cases e
    · rename_i hno
      obtain ⟨a, b, b', hi⟩ := h.lev id d l' e
      have hs : slotOf l' d ≠ slotOf l t := fun es => hno (es ▸ hi)
      refine ⟨a, ?_, ?_, by rw [upQ_other _ _ hs]; exact hi⟩
      · by_cases el : l' = l
        · subst el
          rw [e1]
          have : blkOf l' d ≠ blkOf l' t := fun e5 => hs (by unfold slotOf; rw [e5])
          omega
        · rw [e2 l' a el]; exact b
      · by_cases el : l' = l
        · subst el; omega
        · rw [e2 l' a el]; exact b'
  · by_cases es : k = slotOf l t
    · subst es; rw [upQ_same] at hi; cases hi
    · rw [upQ_other _ _ es] at hi
      obtain ⟨d, l', e, ek⟩ := h.row _ _ hk' hi
      refine ⟨d, l', ?_, ek⟩
      unfold lessM
      rw [if_neg (fun hin => ?_)]
      · exact e
      · obtain ⟨d', e', hb'⟩ := inn id hin
        rw [e] at e'
        cases e'
        exact es (by rw [ek]; unfold slotOf; rw [hb'])
  · by_cases es : k = slotOf l t
    · subst es; rw [upQ_same]; exact List.nodup_nil
    · rw [upQ_other _ _ es]; exact h.one _ hk'
theorem set_fits {N n : Nat} (h1 : 1 ≤ n) (h2 : n ≤ 262144) : blkOf (lvl n) N < blkOf (lvl n) (N + n) ∧ blkOf (lvl n) (N + n) ≤ blkOf (lvl n) N + 64 := by
  unfold lvl
  split
  · simp only [blkOf]; omega
  · split
    · simp only [blkOf]; omega
    · simp only [blkOf]; omega
def Tie (m : Mp) (L : Tm) : Prop := ∀ id, (m id).map Prod.fst = dueOf L id
theorem Tie.isSome {m : Mp} {L : Tm} (h : Tie m L) (id : Int) : (m id).isSome = hasL L id := by unfold hasL; rw [← h id]; simp
theorem Tie.set {m : Mp} {L : Tm} (h : Tie m L) (hR : Rise L) (id : Int) (d l : Nat) : Tie (upM m id (some (d, l))) (setL id d L) := fun j => by
  rw [dueOf_setL hR]
  unfold upM
  split
  · rfl
  · exact h j
theorem Tie.del {m : Mp} {L : Tm} (h : Tie m L) (hR : Rise L) (id : Int) : Tie (upM m id none) (delL id L) := fun j => by
  rw [dueOf_delL hR]
  unfold upM
  split
  · rfl
  · exact h j
theorem setL_del {L : Tm} (hR : Rise L) (id : Int) (d : Nat) : setL id d (delL id L) = setL id d L := by
  unfold setL
  rw [delL_none (by rw [dueOf_delL hR, if_pos rfl])]
structure St where
  now : Nat
  L : Tm
structure St.ok (s : St) : Prop where
  rise : Rise s.L
  most : s.L.length ≤ 64
  soon : ∀ x ∈ s.L, s.now < x.2 ∧ x.2 ≤ s.now + 262144
  ids : ∀ x ∈ s.L, -9223372036854775808 ≤ x.1 ∧ x.1 ≤ 9223372036854775807
def St.may (s : St) (id n : Int) : Bool := decide (1 ≤ n ∧ n ≤ 262144 ∧ (hasL s.L id = true ∨ s.L.length < 64))
def St.set (s : St) (id n : Int) : St := if s.may id n then ⟨s.now, setL id (s.now + n.toNat) s.L⟩ else s
def St.stop (s : St) (id : Int) : St := ⟨s.now, delL id s.L⟩
def St.tick (s : St) : St := ⟨s.now + 1, restL (s.now + 1) s.L⟩
def St.due (s : St) : List Int := dueL (s.now + 1) s.L
def St.left (s : St) (id : Int) : Option Nat := (dueOf s.L id).map (· - s.now)
def St.next (s : St) : Option Nat := leastL s.now s.L
def St.new : St := ⟨0, []⟩
theorem St.ok.new : St.new.ok := ⟨List.Pairwise.nil, Nat.zero_le _, (fun _ h => by cases h), (fun _ h => by cases h)⟩
theorem St.ok.stop {s : St} (h : s.ok) (id : Int) : (s.stop id).ok :=
  ⟨rise_delL h.rise id, Nat.le_trans (length_delL_le _ _) h.most, fun x hx => h.soon x (mem_delL.1 hx).1, fun x hx => h.ids x (mem_delL.1 hx).1⟩
theorem St.ok.set {s : St} (h : s.ok) {id n : Int} (hi : -9223372036854775808 ≤ id ∧ id ≤ 9223372036854775807) : (s.set id n).ok := by
  unfold St.set
  split
  · rename_i hm
    simp only [St.may, decide_eq_true_eq] at hm
    refine ⟨rise_setL h.rise _ _, length_setL hm.2.2 h.most, fun x hx => ?_, fun x hx => ?_⟩
    · rcases mem_insL.1 hx with rfl | hx
      · show s.now < s.now + n.toNat ∧ s.now + n.toNat ≤ s.now + 262144
        omega
      · exact h.soon x (mem_delL.1 hx).1
    · rcases mem_insL.1 hx with rfl | hx
      · exact hi
      · exact h.ids x (mem_delL.1 hx).1
  · exact h
theorem St.ok.tick {s : St} (h : s.ok) : s.tick.ok := by
  refine ⟨rise_filter h.rise _, Nat.le_trans (List.length_filter_le _ _) h.most, fun x hx => ?_, fun x hx => h.ids x (List.mem_filter.1 hx).1⟩
  obtain ⟨h1, h2⟩ := List.mem_filter.1 hx
  have := h.soon x h1
  simp only [Bool.not_eq_true', beq_eq_false_iff_ne] at h2
  show s.now + 1 < x.2 ∧ x.2 ≤ s.now + 1 + 262144
  omega
theorem mem_dueL {L : Tm} {N : Nat} {id : Int} : id ∈ dueL N L ↔ (id, N) ∈ L := by
  unfold dueL
  simp
theorem sorted_dueL {L : Tm} (hR : Rise L) (N : Nat) : (dueL N L).Pairwise (· < ·) := rise_ids (rise_filter hR _)
theorem length_le_of_sub : ∀ {a b : List Int}, a.Nodup → (∀ x ∈ a, x ∈ b) → a.length ≤ b.length
  | [], _, _, _ => Nat.zero_le _
  | x :: r, b, ha, h => by
    have hx := h x (List.mem_cons_self ..)
    have hn := List.nodup_cons.1 ha
    have := length_le_of_sub (b := b.erase x) hn.2 (fun y hy => (List.mem_erase_of_ne (fun e : y = x => hn.1 (e ▸ hy))).2 (h y (List.mem_cons_of_mem _ hy)))
    rw [List.length_erase_of_mem hx] at this
    have := List.length_pos_of_mem hx
    simp only [List.length_cons]
    omega
theorem Inv.short {c : Nat → Nat} {m : Mp} {q : Nat → List Int} (h : Inv c m q) {L : Tm} (ht : ∀ id, (m id).isSome = true → hasL L id = true) {k : Nat} (hk : k < 192) : (q k).length ≤ L.length := by
  rw [← List.length_map (f := Prod.fst) («as» := L)]
  refine length_le_of_sub (h.one k hk) (fun x hx => ?_)
  obtain ⟨d, l, e, _⟩ := h.row k x hk hx
  have := ht x (by rw [e]; rfl)
  obtain ⟨d', hd⟩ := Option.isSome_iff_exists.1 this
  exact List.mem_map.2 ⟨_, dueOf_mem hd, rfl⟩
end Go.Proofs.YtaicipldjmngaaaGreatDoor.wh

namespace Go.Proofs.YtaicipldjmngaaaGreatDoor.wh
open Go.RowKit Go.Maps Go.Sort
open Go.WideElems (Fit rd rg pl rd_val elemAt rd_key rg_of)
def tmV (x : Nat × Nat) : Value := .agg #[.int .i64 (x.1 : Int), .int .i64 (x.2 : Int)]
def tmD (x : Nat × Nat) : DataW Unit := .agg [.lit (.int .i64 (x.1 : Int)), .lit (.int .i64 (x.2 : Int))]
def tmE (v : Value) : Option (DataW Unit × List MemPlace) :=
  match v with
  | .agg cs => match cs.toList with
    | [.int .i64 d, .int .i64 l] => if 0 ≤ d ∧ 0 ≤ l then some (.agg [.lit (.int .i64 d), .lit (.int .i64 l)], []) else none
    | _ => none
  | _ => none
theorem tmE_mk (x : Nat × Nat) : tmE (tmV x) = some (tmD x, []) := by
  unfold tmE tmV tmD
  simp
theorem tmE_inv {v : Value} {z : DataW Unit × List MemPlace} (h : tmE v = some z) : ∃ x, v = tmV x ∧ z = (tmD x, []) := by
  unfold tmE at h
  split at h
  · rename_i cs
    split at h
    · rename_i d l e
      split at h
      · rename_i hp
        cases h
        refine ⟨(d.toNat, l.toNat), ?_, ?_⟩
        · unfold tmV
          have : cs = #[.int .i64 d, .int .i64 l] := by rw [← Array.toArray_toList (xs := cs), e]
          rw [this, Int.toNat_of_nonneg hp.1, Int.toNat_of_nonneg hp.2]
        · unfold tmD
          rw [Int.toNat_of_nonneg hp.1, Int.toNat_of_nonneg hp.2]
      · cases h
    · cases h
  · cases h
theorem tmD_inj {x y : Nat × Nat} (h : tmD x = tmD y) : x = y := by
  unfold tmD at h
  simp only [DataW.agg.injEq, List.cons.injEq, DataW.lit.injEq, Lit.int.injEq, true_and, and_true] at h
  exact Prod.ext (by omega) (by omega)
def wfI (z : Int) : Prop := -9223372036854775808 ≤ z ∧ z ≤ 9223372036854775807
theorem wfI_lit {z : Int} (h : wfI z) : (Lit.int .i64 z).wf = true := WalkArith.wf_i64 (by unfold wfI at h; omega)
theorem key_isLit {z : Int} (h : wfI z) : WideAt.IsKeyLit (.int .i64 z) := (int_keyed Tryz.underlying3).key (keyOf_int_mk Tryz.underlying3 (wfI_lit h))
abbrev law : Keyed Tryz.prog 3 := int_keyed Tryz.underlying3
def MapIs (w : World) (M : Nat) (m : Mp) (n : Nat) : Prop :=
  ∃ D : DataW Unit, w.ownsMap Tryz.prog 3 tmE M n D ∧ ∀ id, wfI id → has D (.int .i64 id) = (m id).isSome ∧ ∀ x, m id = some x → ∀ z, D.atKey (.int .i64 id) z = tmD x
theorem MapIs.lt {w : World} {M n : Nat} {m : Mp} (h : MapIs w M m n) : M < w.heap.size := by
  obtain ⟨D, h, _⟩ := h
  exact h.lt
theorem MapIs.not_cells {w : World} {M n : Nat} {m : Mp} (h : MapIs w M m n) {cur : Array Value} {t : TypeId} {f : Nat × Nat} : w.heap[M]? ≠ some (.cells cur t f) := by
  obtain ⟨D, ⟨es, clock, hb, _⟩, _⟩ := h
  rw [hb]
  simp
theorem MapIs.made (w : World) : MapIs (w.alloc (.map #[] 0)) w.heap.size (fun _ => none) 0 :=
  ⟨.map [], World.ownsMap_made _ _ _ _, fun _ _ => ⟨rfl, fun _ h => by cases h⟩⟩
theorem MapIs.block {w w' : World} {M n : Nat} {m : Mp} (h : MapIs w M m n) (hb : w'.heap[M]? = w.heap[M]?) : MapIs w' M m n := by
  obtain ⟨D, ⟨es, clock, hb', r⟩, h2⟩ := h
  exact ⟨D, ⟨es, clock, hb.trans hb', r⟩, h2⟩
theorem timer_zero (w : World) : (zeroValue 148).run Tryz.prog w = .ok (tmV (0, 0)) w := by kernel_rfl
theorem MapIs.look {w : World} {M n : Nat} {m : Mp} (h : MapIs w M m n) {id : Int} (hw : wfI id) {v : Nat × Nat} (hv : (m id).getD (0, 0) = v) {is : Bool} (hi : (m id).isSome = is) :
    (Instr.lookup 140 (.map (some M)) (.int .i64 id) true).run Tryz.prog w = .ok (.tuple #[.agg #[.int .i64 (v.1 : Int), .int .i64 (v.2 : Int)], .bool is]) w := by
  obtain ⟨D, ho, h2⟩ := h
  obtain ⟨u, ps, hrun, hR⟩ := ho.look_ok law Tryz.underlying140 (timer_zero w) (tmE_mk (0, 0)) (keyOf_int_mk Tryz.underlying3 (wfI_lit hw))
  obtain ⟨h3, h4⟩ := h2 id hw
  rw [hrun, h3, hi]
  obtain ⟨x, rfl, hx⟩ := tmE_inv hR
  simp only [Prod.mk.injEq] at hx
  have : x = v := by
    subst hv
    cases hm : m id with
    | none =>
      rw [hm] at h3
      have := atKey_of_not_has h3 (tmD (0, 0))
      rw [this] at hx
      exact (tmD_inj hx.1).symm
    | some y =>
      rw [h4 y hm] at hx
      exact (tmD_inj hx.1).symm
  rw [this]
  rfl
theorem MapIs.look1 {w : World} {M n : Nat} {m : Mp} (h : MapIs w M m n) {id : Int} (hw : wfI id) {v : Nat × Nat} (hv : (m id).getD (0, 0) = v) :
    (Instr.lookup 140 (.map (some M)) (.int .i64 id) false).run Tryz.prog w = .ok (.agg #[.int .i64 (v.1 : Int), .int .i64 (v.2 : Int)]) w := by
  obtain ⟨D, ho, h2⟩ := h
  obtain ⟨u, ps, hrun, hR⟩ := ho.lookup law Tryz.underlying140 (timer_zero w) (tmE_mk (0, 0)) (keyOf_int_mk Tryz.underlying3 (wfI_lit hw))
  obtain ⟨h3, h4⟩ := h2 id hw
  rw [hrun]
  obtain ⟨x, rfl, hx⟩ := tmE_inv hR
  simp only [Prod.mk.injEq] at hx
  have : x = v := by
    subst hv
    cases hm : m id with
    | none =>
      rw [hm] at h3
      have := atKey_of_not_has h3 (tmD (0, 0))
      rw [this] at hx
      exact (tmD_inj hx.1).symm
    | some y =>
      rw [h4 y hm] at hx
      exact (tmD_inj hx.1).symm
  rw [this]
  rfl
theorem lit_ne {a b : Int} (h : a ≠ b) : (Lit.int .i64 a) ≠ (Lit.int .i64 b) := fun e => h (by simpa using e)
theorem MapIs.put {w : World} {M n : Nat} {m : Mp} (h : MapIs w M m n) {id : Int} (hw : wfI id) (x : Nat × Nat) (hn : n < maxLen) :
    ∃ w', (Instr.mapUpdate 140 (.map (some M)) (.int .i64 id) (.agg #[.int .i64 (x.1 : Int), .int .i64 (x.2 : Int)])).run Tryz.prog w = .ok () w' ∧ MapIs w' M (upM m id (some x)) (n + 1) ∧ w.grownBy w' (some M) ∧ w'.heap.size = w.heap.size := by
  obtain ⟨D, ho, h2⟩ := h
  obtain ⟨w', hrun, ho', ht⟩ := ho.store law Tryz.underlying140 hn (keyOf_int_mk Tryz.underlying3 (wfI_lit hw)) (tmE_mk x)
  refine ⟨w', hrun, ⟨_, ho', fun j hj => ?_⟩, ht.grown, ?_⟩
  · by_cases e : j = id
    · subst e
      rw [upM_same]
      exact ⟨has_put_same ho.isMap (key_isLit hw) _, fun y hy z => by cases hy; exact atKey_put_same ho.isMap (key_isLit hw) _ z⟩
    · rw [upM_other _ _ e, has_put_other (lit_ne e)]
      exact ⟨(h2 j hj).1, fun y hy z => by rw [atKey_put_other (lit_ne e)]; exact (h2 j hj).2 y hy z⟩
  · obtain ⟨_, _, _, _, _, rfl⟩ := ht
    simp [ChangeMaps.setBlock]
theorem MapIs.drop {w : World} {M n : Nat} {m : Mp} (h : MapIs w M m n) {id : Int} (hw : wfI id) (ty : TypeId) :
    ∃ w', (Builtin.delete_ #[140, 3] ty #[.map (some M), .int .i64 id]).run Tryz.prog w = .ok (.tuple #[]) w' ∧ MapIs w' M (upM m id none) n ∧ w.grownBy w' (some M) ∧ w'.heap.size = w.heap.size := by
  obtain ⟨D, ho, h2⟩ := h
  obtain ⟨w', hrun, ho', ht⟩ := ho.drop law Tryz.underlying140 (keyOf_int_mk Tryz.underlying3 (wfI_lit hw)) ty
  refine ⟨w', hrun, ⟨_, ho', fun j hj => ?_⟩, ht.grown, ?_⟩
  · by_cases e : j = id
    · subst e
      rw [upM_same]
      exact ⟨has_del_same, fun y hy => by cases hy⟩
    · rw [upM_other _ _ e, has_del_other (lit_ne e)]
      exact ⟨(h2 j hj).1, fun y hy z => by rw [atKey_del_other (lit_ne e)]; exact (h2 j hj).2 y hy z⟩
  · obtain ⟨_, _, _, _, _, rfl⟩ := ht
    simp [ChangeMaps.setBlock]
theorem MapIs.keys {w : World} {M n : Nat} {m : Mp} {D : DataW Unit} (ho : w.ownsMap Tryz.prog 3 tmE M n D) (h2 : ∀ id, wfI id → has D (.int .i64 id) = (m id).isSome ∧ ∀ x, m id = some x → ∀ z, D.atKey (.int .i64 id) z = tmD x)
    {L : Tm} (ht : Tie m L) (hR : Rise L) (hi : ∀ x ∈ L, wfI x.1) : (L.map Prod.fst).Perm (intKeys D) := by
  obtain ⟨es, hD, hpw, _⟩ := ho.entries law
  obtain ⟨es', hD', hko⟩ := ho.keysOf
  obtain rfl : es = es' := by rw [hD] at hD'; simpa using hD'
  subst hD
  have hk : ∀ p ∈ es, ∃ x, p.1 = .int .i64 x ∧ wfI x := fun p hp => by
    obtain ⟨v, hv⟩ := hko p hp
    obtain ⟨x, _, hx, hw⟩ := Maps.keyOf_i64 Tryz.underlying3 hv
    refine ⟨x, hx, ?_⟩
    unfold wfI
    have e1 : IntKind.i64.min = -9223372036854775808 := by decide
    have e2 : IntKind.i64.max = 9223372036854775807 := by decide
    simp [Lit.wf] at hw
    omega
  refine perm_intKeys hpw (fun p hp => (hk p hp).imp fun _ h => h.1) (rise_nodup hR) (fun x => ?_)
  constructor
  · intro hx
    obtain ⟨⟨y, d⟩, hy, rfl⟩ := List.mem_map.1 hx
    rw [(h2 _ (hi _ hy)).1, ht.isSome]
    unfold hasL
    rw [dueOf_of_mem hR hy]
    rfl
  · intro hx
    have hwx : wfI x := by
      rw [has_eq, List.any_eq_true] at hx
      obtain ⟨p, hp, hs⟩ := hx
      obtain ⟨y, e, hw⟩ := hk p hp
      rw [e] at hs
      have : x = y := by simpa [Lit.sameKey, eq_comm] using hs
      rw [this]; exact hw
    rw [(h2 x hwx).1, ht.isSome] at hx
    obtain ⟨d, hd⟩ := Option.isSome_iff_exists.1 hx
    exact List.mem_map.2 ⟨_, dueOf_mem hd, rfl⟩
theorem size_intKeys (D : DataW Unit) : (intKeys D).length = Maps.size D := by
  cases D <;> simp [intKeys, Maps.size]
theorem own_size {w : World} {M n : Nat} {D : DataW Unit} (ho : w.ownsMap Tryz.prog 3 tmE M n D) : w.ownsMap Tryz.prog 3 tmE M (Maps.size D) D := by
  obtain ⟨es, clock, hb, F, hs, hD⟩ := ho
  refine ⟨es, clock, hb, F, ?_, hD⟩
  rw [hD]
  simp [Maps.size, length_sorted]
theorem MapIs.count {w : World} {M n : Nat} {m : Mp} (h : MapIs w M m n) {L : Tm} (ht : Tie m L) (hR : Rise L) (hi : ∀ x ∈ L, wfI x.1) : MapIs w M m L.length := by
  obtain ⟨D, ho, h2⟩ := h
  have h3 := own_size ho
  have := (MapIs.keys ho h2 ht hR hi).length_eq
  rw [size_intKeys, List.length_map] at this
  rw [← this] at h3
  exact ⟨D, h3, h2⟩
theorem MapIs.len {w : World} {M n : Nat} {m : Mp} (h : MapIs w M m n) {L : Tm} (ht : Tie m L) (hR : Rise L) (hi : ∀ x ∈ L, wfI x.1) (ty : TypeId) :
    (Builtin.len_ #[140] ty #[.map (some M)]).run Tryz.prog w = .ok (.int .i64 (L.length : Int)) w := by
  obtain ⟨D, ho, h2⟩ := h
  have := (MapIs.keys ho h2 ht hR hi).length_eq
  rw [size_intKeys, List.length_map] at this
  rw [ho.len Tryz.underlying140 ty, this]
def rowOwn (w : World) (v : Value) (l : List Int) : Prop := w.ownsRow 0 3 1 v l.length (l.map encZ)
theorem rowOwn.nil (w : World) : rowOwn w (.slice none 0 0) [] := World.ownsRow_nil _ _ _ _
theorem own_lt {w : World} {v : Value} {l : List Int} (h : rowOwn w v l) {b : Nat} (hb : v.ownBlock = some b) : b < w.heap.size := by
  rcases h.2 with ⟨rfl, _⟩ | ⟨g, cap, cur, rfl, _, hh, _⟩
  · cases hb
  · cases hb
    exact block_lt hh
theorem own_cells {w : World} {v : Value} {l : List Int} (h : rowOwn w v l) {b : Nat} (hb : v.ownBlock = some b) : ∃ cur, w.heap[b]? = some (.cells cur 3 (0, 0)) := by
  rcases h.2 with ⟨rfl, _⟩ | ⟨g, cap, cur, rfl, _, hh, _⟩
  · cases hb
  · cases hb
    exact ⟨cur, hh⟩
structure RowsAt (S : Nat → Prop) (w : World) (g : Nat → Value) (q : Nat → List Int) : Prop where
  own : ∀ k, k < 192 → rowOwn w (g k) (q k)
  inS : ∀ k b, k < 192 → (g k).ownBlock = some b → S b
  apart : ∀ j k b, j < 192 → k < 192 → (g j).ownBlock = some b → (g k).ownBlock = some b → j = k
def upG (g : Nat → Value) (k : Nat) (v : Value) : Nat → Value := fun j => if j = k then v else g j
theorem upG_same (g : Nat → Value) (k : Nat) (v : Value) : upG g k v k = v := if_pos rfl
theorem upG_other (g : Nat → Value) {k j : Nat} (v : Value) (h : j ≠ k) : upG g k v j = g j := if_neg h
theorem RowsAt.change {S T : Nat → Prop} {w w' : World} {g : Nat → Value} {q : Nat → List Int} (h : RowsAt S w g q) {k : Nat} (hk : k < 192) (hb : But T w w') (hT : ∀ b, T b → b < w.heap.size → (g k).ownBlock = some b)
    {v : Value} {l : List Int} (hown : rowOwn w' v l) (hloc : ∀ b, v.ownBlock = some b → (g k).ownBlock = some b ∨ (w.heap.size ≤ b ∧ S b)) : RowsAt S w' (upG g k v) (upQ q k l) := by
  refine ⟨fun j hj => ?_, fun j b hj hjb => ?_, fun j j' b hj hj' h1 h2 => ?_⟩
  · by_cases e : j = k
    · subst e; rw [upG_same, upQ_same]; exact hown
    · rw [upG_other _ _ e, upQ_other _ _ e]
      exact own_but (h.own j hj) hb (fun b hjb ht => e (h.apart j k b hj hk hjb (hT b ht (own_lt (h.own j hj) hjb))))
  · by_cases e : j = k
    · subst e; rw [upG_same] at hjb
      rcases hloc b hjb with h1 | h1
      · exact h.inS j b hj h1
      · exact h1.2
    · rw [upG_other _ _ e] at hjb
      exact h.inS j b hj hjb
  · have key : ∀ j, j < 192 → j ≠ k → (g j).ownBlock = some b → v.ownBlock = some b → False := fun j hj e h1 h2 => by
      rcases hloc b h2 with h3 | h3
      · exact e (h.apart j k b hj hk h1 h3)
      · have := own_lt (h.own j hj) h1; omega
    by_cases e : j = k
    · by_cases e' : j' = k
      · rw [e, e']
      · subst e
        rw [upG_same] at h1
        rw [upG_other _ _ e'] at h2
        exact (key j' hj' e' h2 h1).elim
    · rw [upG_other _ _ e] at h1
      by_cases e' : j' = k
      · subst e'
        rw [upG_same] at h2
        exact (key j hj e h1 h2).elim
      · rw [upG_other _ _ e'] at h2
        exact h.apart j j' b hj hj' h1 h2
theorem RowsAt.but {S T : Nat → Prop} {w w' : World} {g : Nat → Value} {q : Nat → List Int} (h : RowsAt S w g q) (hb : But T w w') (hT : ∀ k b, k < 192 → (g k).ownBlock = some b → ¬ T b) : RowsAt S w' g q :=
  ⟨fun k hk => own_but (h.own k hk) hb (fun b hkb => hT k b hk hkb), h.inS, h.apart⟩
def Kept (S : Nat → Prop) (w w' : World) : Prop := But S w w' ∧ ∀ (k : Nat) (cur : Array Value) (t : TypeId) (f : Nat × Nat), w.heap[k]? = some (.cells cur t f) → t ≠ 144 → t ≠ 3 → w'.heap[k]? = some (.cells cur t f)
theorem Kept.refl (S : Nat → Prop) (w : World) : Kept S w w := ⟨But.refl _ _, fun _ _ _ _ h _ _ => h⟩
theorem Kept.trans {S : Nat → Prop} {a b c : World} (h : Kept S a b) (k : Kept S b c) : Kept S a c := ⟨h.1.trans k.1, fun i cur t f e h1 h2 => k.2 i cur t f (h.2 i cur t f e h1 h2) h1 h2⟩
theorem Kept.of_below {S : Nat → Prop} {w w' : World} (h : Below w.heap.size w w') : Kept S w w' := ⟨But.of_below h, fun k _ _ _ e _ _ => (h.block k (block_lt e)).trans e⟩
theorem Kept.mono {S T : Nat → Prop} {w w' : World} (h : Kept S w w') (hs : ∀ k, S k → T k) : Kept T w w' := ⟨h.1.mono hs, h.2⟩
structure WhIs (S : Nat → Prop) (w : World) (B M : Nat) (g : Nat → Value) (N : Nat) (m : Mp) (n : Nat) (q : Nat → List Int) : Prop where
  sB : S B
  sM : S M
  blk : ∃ cur, w.heap[B]? = some (.cells cur 144 (0, 0)) ∧ cur[0]? = some (.int .i64 (N : Int)) ∧ cur[1]? = some (.map (some M)) ∧ ∀ k, k < 192 → cur[2 + k]? = some (g k)
  map : MapIs w M m n
  rows : RowsAt S w g q
section
variable {S T : Nat → Prop} {w w' : World} {B M N n : Nat} {g : Nat → Value} {m : Mp} {q : Nat → List Int}
theorem WhIs.lt (h : WhIs S w B M g N m n q) : B < w.heap.size := by obtain ⟨cur, hb, _⟩ := h.blk; exact block_lt hb
theorem WhIs.neM (h : WhIs S w B M g N m n q) : M ≠ B := fun e => by obtain ⟨cur, hb, _⟩ := h.blk; exact h.map.not_cells (e ▸ hb)
theorem WhIs.neRow (h : WhIs S w B M g N m n q) {k b : Nat} (hk : k < 192) (hb : (g k).ownBlock = some b) : b ≠ B ∧ b ≠ M := by
  obtain ⟨cur, hc⟩ := own_cells (h.rows.own k hk) hb
  refine ⟨fun e => ?_, fun e => h.map.not_cells (e ▸ hc)⟩
  obtain ⟨cur', hb', _⟩ := h.blk
  rw [e, hb'] at hc
  simp at hc
theorem WhIs.c0 (h : WhIs S w B M g N m n q) : w.cell? ⟨B, 0, none⟩ = some (.int .i64 (N : Int)) := by
  obtain ⟨cur, hb, h0, _⟩ := h.blk
  rw [cell_of_row _ _ _ _ _ _ hb]; exact h0
theorem WhIs.c1 (h : WhIs S w B M g N m n q) : w.cell? ⟨B, 1, none⟩ = some (.map (some M)) := by
  obtain ⟨cur, hb, _, h1, _⟩ := h.blk
  rw [cell_of_row _ _ _ _ _ _ hb]; exact h1
theorem WhIs.c2 (h : WhIs S w B M g N m n q) {k : Nat} (hk : k < 192) : w.cell? ⟨B, 2 + k, none⟩ = some (g k) := by
  obtain ⟨cur, hb, _, _, h2⟩ := h.blk
  rw [cell_of_row _ _ _ _ _ _ hb]; exact h2 k hk
theorem WhIs.fz (h : WhIs S w B M g N m n q) (i : Nat) : w.frozen? ⟨B, i, none⟩ = false := by
  obtain ⟨cur, hb, _⟩ := h.blk
  simp [World.frozen?, hb]
theorem WhIs.mono (h : WhIs S w B M g N m n q) (hs : ∀ k, k < w.heap.size → S k → T k) : WhIs T w B M g N m n q :=
  ⟨hs _ h.lt h.sB, hs _ h.map.lt h.sM, h.blk, h.map, ⟨h.rows.own, fun k b hk hb => hs _ (own_lt (h.rows.own k hk) hb) (h.rows.inS k b hk hb), h.rows.apart⟩⟩
theorem WhIs.but (h : WhIs S w B M g N m n q) (hb : But T w w') (hT : ∀ k, T k → k < w.heap.size → ¬ S k) : WhIs S w' B M g N m n q := by
  have hB : w'.heap[B]? = w.heap[B]? := hb.block B h.lt (fun ht => hT B ht h.lt h.sB)
  have hM : w'.heap[M]? = w.heap[M]? := hb.block M h.map.lt (fun ht => hT M ht h.map.lt h.sM)
  refine ⟨h.sB, h.sM, ?_, h.map.block hM, h.rows.but hb (fun k b hk hkb ht => hT b ht (own_lt (h.rows.own k hk) hkb) (h.rows.inS k b hk hkb))⟩
  rw [hB]
  exact h.blk
theorem WhIs.below (h : WhIs S w B M g N m n q) (hb : Below w.heap.size w w') : WhIs S w' B M g N m n q := h.but (T := fun _ => False) (But.of_below hb) (fun _ h => h.elim)
theorem WhIs.drewN (h : WhIs S w B M g N m n q) (k : Nat) : WhIs S (w.drewN k) B M g N m n q := h.below (below_drewN (Below.refl _ _) k)
theorem WhIs.keptB (h : WhIs S w B M g N m n q) (hb : But (· = B) w w') : Kept S w w' :=
  ⟨hb.mono (fun k e => e ▸ h.sB), fun k cur t f e h1 _ => (hb.block k (block_lt e) (fun e2 => by
    obtain ⟨cur', hb', _⟩ := h.blk
    rw [e2, hb'] at e
    simp only [Option.some.injEq, Obj.cells.injEq] at e
    exact h1 e.2.1.symm)).trans e⟩
theorem WhIs.setSlot (h : WhIs S w B M g N m n q) {k : Nat} (hk : k < 192) {v : Value} {q' : Nat → List Int} (hr : RowsAt S w (upG g k v) q') : WhIs S (w.setCell ⟨B, 2 + k, none⟩ v) B M (upG g k v) N m n q' ∧ Kept S w (w.setCell ⟨B, 2 + k, none⟩ v) := by
  have hbut : But (· = B) w (w.setCell ⟨B, 2 + k, none⟩ v) := But.set (S := (· = B)) _ (p := ⟨B, 2 + k, none⟩) rfl _
  have hne : ∀ j b, j < 192 → (upG g k v j).ownBlock = some b → ¬ b = B := fun j b hj hjb e => by
    obtain ⟨cur, hc⟩ := own_cells (hr.own j hj) hjb
    obtain ⟨cur', hb', _⟩ := h.blk
    rw [e, hb'] at hc
    simp at hc
  refine ⟨⟨h.sB, h.sM, ?_, h.map.block (hbut.block M h.map.lt h.neM), hr.but hbut hne⟩, h.keptB hbut⟩
  obtain ⟨cur, hb, h0, h1, h2⟩ := h.blk
  refine ⟨_, block_set hb _ _, ?_, ?_, fun j hj => ?_⟩
  · rw [Array.getElem?_setIfInBounds_ne (by omega)]; exact h0
  · rw [Array.getElem?_setIfInBounds_ne (by omega)]; exact h1
  · by_cases e : j = k
    · subst e
      have := (Array.getElem?_eq_some_iff.1 (h2 j hj)).1
      rw [upG_same]
      simp [this]
    · rw [Array.getElem?_setIfInBounds_ne (by omega), upG_other _ _ e]
      exact h2 j hj
theorem WhIs.rowTurn (h : WhIs S w B M g N m n q) {k : Nat} (hk : k < 192) (hb : But T w w') (hT : ∀ b, T b → b < w.heap.size → (g k).ownBlock = some b)
    {v : Value} {l : List Int} (hown : rowOwn w' v l) (hloc : ∀ b, v.ownBlock = some b → (g k).ownBlock = some b ∨ (w.heap.size ≤ b ∧ S b)) :
    WhIs S (w'.setCell ⟨B, 2 + k, none⟩ v) B M (upG g k v) N m n (upQ q k l) ∧ But (fun x => x = B ∨ (g k).ownBlock = some x) w (w'.setCell ⟨B, 2 + k, none⟩ v) := by
  have hr := h.rows.change hk hb hT hown hloc
  have nT : ∀ x, x < w.heap.size → (x = B ∨ x = M) → ¬ T x := fun x hx e ht => by
    have := h.neRow hk (hT x ht hx)
    rcases e with e | e
    · exact this.1 e
    · exact this.2 e
  have hB : w'.heap[B]? = w.heap[B]? := hb.block B h.lt (nT B h.lt (.inl rfl))
  have hM : w'.heap[M]? = w.heap[M]? := hb.block M h.map.lt (nT M h.map.lt (.inr rfl))
  have hS : But (fun x => x = B ∨ (g k).ownBlock = some x) w w' := ⟨hb.os, hb.tape, hb.output, hb.size, fun x hx hn => hb.block x hx (fun ht => hn (.inr (hT x ht hx)))⟩
  have hbut : But (· = B) w' (w'.setCell ⟨B, 2 + k, none⟩ v) := But.set (S := (· = B)) _ (p := ⟨B, 2 + k, none⟩) rfl _
  have hbl : ∃ cur, w'.heap[B]? = some (.cells cur 144 (0, 0)) ∧ cur[0]? = some (.int .i64 (N : Int)) ∧ cur[1]? = some (.map (some M)) ∧ ∀ k, k < 192 → cur[2 + k]? = some (g k) := by rw [hB]; exact h.blk
  obtain ⟨cur, hbb, h0, h1, h2⟩ := hbl
  have hne : ∀ j b, j < 192 → (upG g k v j).ownBlock = some b → ¬ b = B := fun j b hj hjb e => by
    obtain ⟨cur', hc⟩ := own_cells (hr.own j hj) hjb
    rw [e, hbb] at hc
    simp at hc
  have hm' : MapIs w' M m n := h.map.block hM
  refine ⟨⟨h.sB, h.sM, ?_, hm'.block (hbut.block M hm'.lt h.neM), hr.but hbut hne⟩, hS.trans (But.set _ (p := ⟨B, 2 + k, none⟩) (.inl rfl) _)⟩
  refine ⟨_, block_set hbb _ _, ?_, ?_, fun j hj => ?_⟩
  · rw [Array.getElem?_setIfInBounds_ne (by omega)]; exact h0
  · rw [Array.getElem?_setIfInBounds_ne (by omega)]; exact h1
  · by_cases e : j = k
    · subst e
      have := (Array.getElem?_eq_some_iff.1 (h2 j hj)).1
      rw [upG_same]
      simp [this]
    · rw [Array.getElem?_setIfInBounds_ne (by omega), upG_other _ _ e]
      exact h2 j hj
theorem WhIs.mapTurn (h : WhIs S w B M g N m n q) {m' : Mp} {n' : Nat} (hg : w.grownBy w' (some M)) (hm : MapIs w' M m' n') : WhIs S w' B M g N m' n' q ∧ Kept S w w' := by
  have hb : But (· = M) w w' := But.of_grown hg (fun r e _ => by cases e; rfl)
  have hB : w'.heap[B]? = w.heap[B]? := hb.block B h.lt (fun e => h.neM e.symm)
  refine ⟨⟨h.sB, h.sM, ?_, hm, h.rows.but hb (fun k b hk hkb e => (h.neRow hk hkb).2 e)⟩, hb.mono (fun k e => e ▸ h.sM), fun k cur t f e _ _ => (hb.block k (block_lt e) (fun e2 => h.map.not_cells (e2 ▸ e))).trans e⟩
  rw [hB]
  exact h.blk
end
end Go.Proofs.YtaicipldjmngaaaGreatDoor.wh

namespace Go.Proofs.YtaicipldjmngaaaGreatDoor.wh
open Go.RowKit
set_option linter.unusedSimpArgs false
theorem i64_and63 (n : Int) : bits .and .i64 n 63 = n % 64 := by
  have h127 : (BitVec.ofInt 64 63).toNat = 2 ^ 6 - 1 := by decide
  have key : (BitVec.ofInt 64 n &&& BitVec.ofInt 64 63).toNat = (n % ((2 ^ 64 : Nat) : Int)).toNat % 2 ^ 6 := by
    rw [BitVec.toNat_and, BitVec.toNat_ofInt, h127, Nat.and_two_pow_sub_one_eq_mod]
  show IntKind.i64.wrap ((BitVec.ofInt 64 n &&& BitVec.ofInt 64 63).toNat : Nat) = n % 64
  rw [key, IntKind.wrap_i64]
  omega
theorem ret_i64 {a b : Int} (h : a = b) : Ending.returned (.int .i64 a) = .returned (.int .i64 b) := by rw [h]
theorem slot_any (t l : Nat) (w : World) (hl : l < 3) (ht : t ≤ 4611686018427387904) : Calls Tryz.prog 120 #[.int .i64 (t : Int), .int .i64 (l : Int)] w fun e w' => e = .returned (.int .i64 ((blkOf l t % 64 : Nat) : Int)) ∧ w = w' := by
  have q0 : (0 : Int) ≤ (t : Int) := by omega
  have h3 : l = 0 ∨ l = 1 ∨ l = 2 := by omega
  rcases h3 with rfl | rfl | rfl
  all_goals
    go_enter Tryz.func120, Tryz.ntmps120
    go_wp2
    go_ret
    exact ⟨ret_i64 (by rw [i64_and63]; simp only [blkOf]; omega), rfl⟩
def Unmade (w : World) (v : Value) : Prop := v = .pointer none ∨ ∃ B cur, v = .pointer (some ⟨B, 0, none⟩) ∧ w.heap[B]? = some (.cells cur 144 (0, 0)) ∧ cur[1]? = some (.map none)
theorem made_no (v : Value) (w : World) (h : Unmade w v) : Calls Tryz.prog 71 #[v] w fun e w' => e = .returned (.bool false) ∧ w = w' := by
  rcases h with rfl | ⟨B, cur, rfl, hh, h1⟩
  · go_enter Tryz.func71, Tryz.ntmps71
    go_wp2
    go_ret
    exact ⟨rfl, rfl⟩
  · have c1 : w.cell? ⟨B, 1, none⟩ = some (.map none) := by rw [cell_of_row _ _ _ _ _ _ hh]; exact h1
    have HH := Lib.hid hh
    have H1 := Lib.hid h1
    clear hh h1
    have qM := fun (w : World) (r : Option Nat) => run_neq_map_nil (P := Tryz.prog) w 140 3 148 r Tryz.underlying140
    go_enter Tryz.func71, Tryz.ntmps71
    go_wp2
    go_ret
    exact ⟨rfl, rfl⟩
theorem made_yes {S : Nat → Prop} {B M N n : Nat} {g : Nat → Value} {m : Mp} {q : Nat → List Int} (w : World) (h : WhIs S w B M g N m n q) : Calls Tryz.prog 71 #[.pointer (some ⟨B, 0, none⟩)] w fun e w' => e = .returned (.bool true) ∧ w = w' := by
  have c1 := h.c1
  clear h
  have qM := fun (w : World) (r : Option Nat) => run_neq_map_nil (P := Tryz.prog) w 140 3 148 r Tryz.underlying140
  go_enter Tryz.func71, Tryz.ntmps71
  go_wp2
  go_ret
  exact ⟨rfl, rfl⟩
end Go.Proofs.YtaicipldjmngaaaGreatDoor.wh

namespace Go.Proofs.YtaicipldjmngaaaGreatDoor.wh
open Go.RowKit
set_option linter.unusedSimpArgs false
def Place (l j K O : Nat) : Prop := (l = 0 ∧ K = 0 + j ∧ O = 2 + j) ∨ (l = 1 ∧ K = 64 + j ∧ O = 66 + j) ∨ (l = 2 ∧ K = 128 + j ∧ O = 130 + j)
theorem place_of {l t : Nat} (hl : l < 3) : Place l (blkOf l t % 64) (slotOf l t) (2 + slotOf l t) := by
  unfold Place slotOf
  omega
set_option maxHeartbeats 1000000 in
theorem take_any {S : Nat → Prop} {B M N n : Nat} {g : Nat → Value} {m : Mp} {q : Nat → List Int} (w : World) (h : WhIs S w B M g N m n q) (l : Nat) (hl : l < 3) (hN : N ≤ 1099511627776) :
    Calls Tryz.prog 73 #[.pointer (some ⟨B, 0, none⟩), .int .i64 (l : Int)] w fun e w' =>
      e = .returned (g (slotOf l N)) ∧ WhIs S w' B M (upG g (slotOf l N) (.slice none 0 0)) N m n (upQ q (slotOf l N) []) ∧ Kept S w w' ∧ rowOwn w' (g (slotOf l N)) (q (slotOf l N)) := by
  have c0 := h.c0
  have hk := slotOf_lt hl N
  have hp := place_of (t := N) hl
  have HC := Lib.hid (slot_any N l w hl (by omega))
  obtain ⟨K, hK⟩ : ∃ K, slotOf l N = K := ⟨_, rfl⟩
  rw [hK] at hk hp ⊢
  obtain ⟨j, hj⟩ : ∃ j, blkOf l N % 64 = j := ⟨_, rfl⟩
  have hj64 : j < 64 := by omega
  rw [hj] at HC hp
  have c2 := h.c2 hk
  have f2 := h.fz (2 + K)
  have HS := Lib.hid (h.setSlot hk (h.rows.change hk (But.refl (fun _ => False) w) (fun _ h => h.elim) (rowOwn.nil w) (fun _ e => by cases e)))
  have HO := Lib.hid (own_but (h.rows.own K hk) (But.set (S := (· = B)) w (p := ⟨B, 2 + K, none⟩) rfl (.slice none 0 0)) (fun b hb => (h.neRow hk hb).1))
  obtain ⟨O, hO⟩ : ∃ O, 2 + K = O := ⟨_, rfl⟩
  rw [hO] at c2 f2 hp HS HO
  obtain ⟨u, hu⟩ : ∃ u, g K = u := ⟨_, rfl⟩
  rw [hu] at c2 HO ⊢
  clear h hK hj hu hO
  rcases hp with ⟨rfl, rfl, rfl⟩ | ⟨rfl, rfl, rfl⟩ | ⟨rfl, rfl, rfl⟩
  all_goals
    go_enter Tryz.func73, Tryz.ntmps73
    go_wp2_with fail
    refine HC.out.mono ?_
    rintro e w' ⟨rfl, rfl⟩
    go_wp2
    go_ret
    exact ⟨rfl, HS.out.1, HS.out.2, HO.out⟩
def zeroWheel : Array Value := #[.int .i64 0, .map none] ++ Array.replicate 192 (.slice none 0 0)
theorem wheel_zero (w : World) : (zeroValue 144).run Tryz.prog w = .ok (.agg zeroWheel) w := by kernel_rfl
theorem zeroWheel_size : zeroWheel.size = 194 := by kernel_rfl
theorem zeroWheel_now : zeroWheel[0]? = some (.int .i64 ((0 : Nat) : Int)) := by
  unfold zeroWheel
  rw [Array.getElem?_append_left (by simp)]
  simp
theorem zeroWheel_slot {k : Nat} (h : k < 192) : zeroWheel[2 + k]? = some (.slice none 0 0) := by
  unfold zeroWheel
  rw [Array.getElem?_append_right (by simp)]
  simp [h]
theorem new_is (w : World) : WhIs (fun k => w.heap.size ≤ k) ((w.alloc (.map #[] 0)).alloc (.cells (zeroWheel.setIfInBounds 1 (.map (some w.heap.size))) 144)) (w.heap.size + 1) w.heap.size (fun _ => .slice none 0 0) 0 (fun _ => none) 0 (fun _ => []) := by
  have e : (w.alloc (.map #[] 0)).heap.size = w.heap.size + 1 := by simp
  refine ⟨Nat.le_succ _, Nat.le_refl _, ⟨_, e ▸ heap_alloc_new _ _, ?_, ?_, fun k hk => ?_⟩, (MapIs.made w).block (heap_alloc_old _ _ (by simp)), ⟨fun _ _ => rowOwn.nil _, fun _ _ _ h => (by cases h), fun _ _ _ _ _ h => (by cases h)⟩⟩
  · rw [Array.getElem?_setIfInBounds_ne (by omega)]; exact zeroWheel_now
  · rw [Array.getElem?_setIfInBounds_self_of_lt (by rw [zeroWheel_size]; omega)]
  · rw [Array.getElem?_setIfInBounds_ne (by omega)]; exact zeroWheel_slot hk
set_option maxHeartbeats 4000000 in
set_option maxRecDepth 100000 in
theorem new_any (w : World) : Calls Tryz.prog 66 #[] w fun e w' => ∃ B M g, e = .returned (.pointer (some ⟨B, 0, none⟩)) ∧ WhIs (fun k => w.heap.size ≤ k) w' B M g 0 (fun _ => none) 0 (fun _ => []) ∧ Below w.heap.size w w' := by
  have hmm := @run_makeMap Tryz.prog
  have HZ := Lib.hid (zeroWheel_size)
  have hz := wheel_zero
  have HI := Lib.hid (new_is w)
  have hlt : ¬ zeroWheel.size < 2 := by rw [HZ.out]; omega
  go_enter Tryz.func66, Tryz.ntmps66
  go_wp2
  go_ret
  exact ⟨_, _, _, rfl, HI.out, ((Below.refl _ w).alloc (Nat.le_refl _) _).alloc (by simp) _⟩
end Go.Proofs.YtaicipldjmngaaaGreatDoor.wh

namespace Go.Proofs.YtaicipldjmngaaaGreatDoor.wh
open Go.RowKit
set_option linter.unusedSimpArgs false
theorem stepOf_append {P : Program} {ops : Array Oper} {Q : Exit → Act → World → Prop} {o : Oper} {K : Act → World → Prop} {a : Act} {w w' : World} {v vx v' : Value} (s x : Operand) (t : TypeId)
    (ho : o.op = .call { callee := .builtin .append, args := #[s, x], argTypes := #[t, t] }) (hg : o.guard = none) (hs : a.eval s = v) (hx : a.eval x = vx)
    (hr : (Builtin.append_ #[t, t] o.type #[v, vx]).run P w = .ok v' w') (h : K (a.put o.dst v') w') : Go.Rel.stepOf P ops Q o K a w := by
  unfold Go.Rel.stepOf
  rw [if_pos (by simp [Region.wanted, hg])]
  unfold Oper.wp execOp
  simp only [ho, resolve, invoke, builtin, Sem.run_bind, Sem.run_pure, Result.andThen_ok, List.map_toArray, List.map_cons, List.map_nil, hs, hx, hr]
  exact h
def rowB (g : Nat → Value) (K : Nat) : Nat → Prop := fun b => (g K).ownBlock = some b
def rowI (S : Nat → Prop) (w0 : World) (B M : Nat) (g : Nat → Value) (N : Nat) (m : Mp) (n : Nat) (q : Nat → List Int) (K : Nat) (l : List Int) (v1 : Value) (room : Prop) (a z : Bool) (w : World) : Prop :=
  (z = true → ∃ g', WhIs S w B M g' N m n (upQ q K l) ∧ But (fun x => x = B ∨ rowB g K x) w0 w) ∧ (z = false → (a = true → room → rowOwn w v1 l ∧ But (rowB g K) w0 w) ∧ ((a = true → ¬ room) → Below w0.heap.size w0 w))
def rowR (room : Prop) (v1 : Value) (l : List Int) (w0 : World) (v : Value) (w : World) : Prop :=
  (room → v = v1) ∧ (¬ room → ∃ b c, v = .slice (some ⟨b, 0, none⟩) l.length c ∧ w0.heap.size ≤ b ∧ rowOwn w v l)
def Olds (S : Nat → Prop) (w0 : World) : Nat → Prop := fun k => S k ∧ k < w0.heap.size
theorem rowR_stable {S : Nat → Prop} {room : Prop} {v1 : Value} {l : List Int} {w0 : World} {v : Value} {w w' : World} (h : rowR room v1 l w0 v w) (g : But (Olds S w0) w w') : rowR room v1 l w0 v w' :=
  ⟨h.1, fun hr => by
    obtain ⟨b, c, e, h0, h1⟩ := h.2 hr
    exact ⟨b, c, e, h0, own_but h1 g (fun x hx hs => by rw [e] at hx; cases hx; exact absurd hs.2 (Nat.not_lt.2 h0))⟩⟩
section
variable {S : Nat → Prop} {w0 w : World} {B M N n K : Nat} {g : Nat → Value} {m : Mp} {q : Nat → List Int} {l : List Int} {v1 v : Value} {room : Prop}
theorem rowI.start : rowI S w0 B M g N m n q K l v1 room false false { w0 with drawn := w0.drawn + 1 } :=
  ⟨(fun h => by cases h), fun _ => ⟨(fun h => by cases h), fun _ => ⟨rfl, rfl, rfl, Nat.le_refl _, fun _ _ => rfl⟩⟩⟩
theorem rowI.alloc {a : Bool} (h : rowI S w0 B M g N m n q K l v1 room a false w) (ha : a = false) (o : Obj) : rowI S w0 B M g N m n q K l v1 room a false (w.alloc o) := by
  subst ha
  have hb := (h.2 rfl).2 (fun e => by cases e)
  exact ⟨(fun h => by cases h), fun _ => ⟨(fun h => by cases h), fun _ => hb.alloc hb.size o⟩⟩
theorem rowI.block {a : Bool} (h : rowI S w0 B M g N m n q K l v1 room a false w) {b : Nat} (hb : b < w0.heap.size) (hne : ¬ rowB g K b) : w.heap[b]? = w0.heap[b]? := by
  by_cases hr : a = true ∧ room
  · exact ((h.2 rfl).1 hr.1 hr.2).2.block b hb hne
  · exact ((h.2 rfl).2 (fun e hr' => hr ⟨e, hr'⟩)).block b hb
theorem rowI.blockB (hW : WhIs S w0 B M g N m n q) (hk : K < 192) {a : Bool} (h : rowI S w0 B M g N m n q K l v1 room a false w) : w.heap[B]? = w0.heap[B]? :=
  h.block hW.lt (fun e => (hW.neRow hk e).1 rfl)
theorem rowI.cell (hW : WhIs S w0 B M g N m n q) (hk : K < 192) {a : Bool} (h : rowI S w0 B M g N m n q K l v1 room a false w) (i : Nat) : w.cell? ⟨B, i, none⟩ = w0.cell? ⟨B, i, none⟩ ∧ w.frozen? ⟨B, i, none⟩ = w0.frozen? ⟨B, i, none⟩ := by
  have := rowI.blockB hW hk h
  exact ⟨World.cell?_of_block this, by simp [World.frozen?, this]⟩
theorem rowI.size {a : Bool} (h : rowI S w0 B M g N m n q K l v1 room a false w) : w0.heap.size ≤ w.heap.size := by
  by_cases hr : a = true ∧ room
  · exact ((h.2 rfl).1 hr.1 hr.2).2.size
  · exact ((h.2 rfl).2 (fun e hr' => hr ⟨e, hr'⟩)).size
theorem rowI.grow {w' : World} {row : Option Nat} (hW : WhIs S w0 B M g N m n q) (hk : K < 192) (h : rowI S w0 B M g N m n q K l v1 room false false w) (hg : w.grownBy w' row) (hrow : ∀ b, row = some b → rowB g K b ∧ room) (hown : room → rowOwn w' v1 l) :
    rowI S w0 B M g N m n q K l v1 room true false w' ∧ But (Olds S w0) w w' := by
  have hb := (h.2 rfl).2 (fun e => by cases e)
  refine ⟨⟨(fun h => by cases h), fun _ => ⟨fun _ hr => ⟨hown hr, (But.of_below (S := rowB g K) hb).then_ (But.of_grown (S := fun b => row = some b) hg (fun r e _ => e)) (fun b e _ => (hrow b e).1)⟩, fun hn => ?_⟩⟩, But.of_grown hg (fun r e _ => ?_)⟩
  · exact hb.trans ⟨hg.os, hg.tape, hg.output, hg.size, fun k hk' => hg.block k (Nat.lt_of_lt_of_le hk' hb.size) (fun e => hn rfl (hrow k e.symm).2)⟩
  · have := (hrow r e).1
    exact ⟨hW.rows.inS K r hk this, own_lt (hW.rows.own K hk) this⟩
theorem rowI.store (hW : WhIs S w0 B M g N m n q) (hk : K < 192) (hcl : ∀ k, w0.heap.size ≤ k → S k) (hv1 : room → ∃ row c, v1 = .slice (some ⟨row, 0, none⟩) l.length c ∧ rowB g K row)
    (h : rowI S w0 B M g N m n q K l v1 room true false w) (hR : rowR room v1 l w0 v w) {O : Nat} (hO : 2 + K = O) :
    ∃ b c, v = .slice (some ⟨b, 0, none⟩) l.length c ∧ w.cell? ⟨B, O, none⟩ = some (g K) ∧ w.frozen? ⟨B, O, none⟩ = false ∧ But (Olds S w0) w (w.setCell ⟨B, O, none⟩ v) ∧ rowI S w0 B M g N m n q K l v1 room true true (w.setCell ⟨B, O, none⟩ v) := by
  subst hO
  have hc := rowI.cell hW hk h (2 + K)
  have key : ∃ b c, v = .slice (some ⟨b, 0, none⟩) l.length c ∧ (∃ T : Nat → Prop, But T w0 w ∧ (∀ b, T b → b < w0.heap.size → (g K).ownBlock = some b)) ∧ rowOwn w v l ∧ (∀ b, v.ownBlock = some b → (g K).ownBlock = some b ∨ (w0.heap.size ≤ b ∧ S b)) := by
    by_cases hr : room
    · obtain ⟨row, c, e, hb⟩ := hv1 hr
      obtain ⟨h1, h2⟩ := (h.2 rfl).1 rfl hr
      rw [hR.1 hr]
      exact ⟨row, c, e, ⟨_, h2, fun b hb _ => hb⟩, h1, fun b hb' => by rw [e] at hb'; cases hb'; exact .inl hb⟩
    · obtain ⟨b, c, e, h0, h1⟩ := hR.2 hr
      have h2 := (h.2 rfl).2 (fun _ => hr)
      exact ⟨b, c, e, ⟨fun _ => False, But.of_below h2, fun _ h => h.elim⟩, h1, fun x hx => by rw [e] at hx; cases hx; exact .inr ⟨h0, hcl _ h0⟩⟩
  obtain ⟨b, c, e, ⟨T, hT, hT2⟩, h1, h2⟩ := key
  obtain ⟨f1, f2⟩ := hW.rowTurn hk hT hT2 h1 h2
  exact ⟨b, c, e, hc.1.trans (hW.c2 hk), hc.2.trans (hW.fz _), But.set _ (p := ⟨B, 2 + K, none⟩) ⟨hW.sB, hW.lt⟩ _, ⟨fun _ => ⟨_, f1, f2⟩, fun h => by cases h⟩⟩
end
theorem WhIs.keptRow {S : Nat → Prop} {w0 w : World} {B M N n K : Nat} {g : Nat → Value} {m : Mp} {q : Nat → List Int} (h : WhIs S w0 B M g N m n q) (hk : K < 192) (hb : But (fun x => x = B ∨ rowB g K x) w0 w) : Kept S w0 w :=
  ⟨hb.mono (fun x hx => by
    rcases hx with rfl | hx
    · exact h.sB
    · exact h.rows.inS K x hk hx), fun k cur t f e h1 h2 => (hb.block k (block_lt e) (fun e2 => by
    rcases e2 with rfl | e2
    · obtain ⟨cur', hb', _⟩ := h.blk
      rw [hb'] at e
      simp only [Option.some.injEq, Obj.cells.injEq] at e
      exact h1 e.2.1.symm
    · obtain ⟨cur', hc⟩ := own_cells (h.rows.own K hk) e2
      rw [hc] at e
      simp only [Option.some.injEq, Obj.cells.injEq] at e
      exact h2 e.2.1.symm)).trans e⟩
theorem stepOf_delete {P : Program} {ops : Array Oper} {Q : Exit → Act → World → Prop} {o : Oper} {K : Act → World → Prop} {a : Act} {w w' : World} {v vx v' : Value} (s x : Operand) (t t2 : TypeId)
    (ho : o.op = .call { callee := .builtin .delete, args := #[s, x], argTypes := #[t, t2] }) (hg : o.guard = none) (hs : a.eval s = v) (hx : a.eval x = vx)
    (hr : (Builtin.delete_ #[t, t2] o.type #[v, vx]).run P w = .ok v' w') (h : K (a.put o.dst v') w') : Go.Rel.stepOf P ops Q o K a w := by
  unfold Go.Rel.stepOf
  rw [if_pos (by simp [Region.wanted, hg])]
  unfold Oper.wp execOp
  simp only [ho, resolve, invoke, builtin, Sem.run_bind, Sem.run_pure, Result.andThen_ok, List.map_toArray, List.map_cons, List.map_nil, hs, hx, hr]
  exact h
theorem int_info : (Tryz.prog.info? 3).map (fun i => (i.zero, i.size, i.bytes)) = some (some (.int .i64 0), 1, 8) := by kernel_rfl
theorem row_room {w : World} {u : Value} {l : List Int} (h : rowOwn w u l) : ∃ (room : Prop) (v1 : Value), (room → ∃ b c, u = .slice (some ⟨b, 0, none⟩) l.length c ∧ l.length + 1 ≤ c ∧ v1 = .slice (some ⟨b, 0, none⟩) (l.length + 1) c) ∧ (¬ room → u = .slice none 0 0 ∨ ∃ b c, u = .slice (some ⟨b, 0, none⟩) l.length c ∧ ¬ l.length + 1 ≤ c) := by
  rcases h.2 with ⟨rfl, _⟩ | ⟨b, c, cur, rfl, _⟩
  · exact ⟨False, .slice none 0 0, fun h => h.elim, fun _ => .inl rfl⟩
  · by_cases hr : l.length + 1 ≤ c
    · exact ⟨True, _, fun _ => ⟨b, c, rfl, hr, rfl⟩, fun h => absurd trivial h⟩
    · exact ⟨False, .slice none 0 0, fun h => h.elim, fun _ => .inr ⟨b, c, rfl, hr⟩⟩
theorem rowI.append {S : Nat → Prop} {w0 w : World} {B M N n K : Nat} {g : Nat → Value} {m : Mp} {q : Nat → List Int} {v1 : Value} {room : Prop} {id : Int} (hW : WhIs S w0 B M g N m n q) (hk : K < 192)
    (hr1 : room → ∃ b c, g K = .slice (some ⟨b, 0, none⟩) (q K).length c ∧ (q K).length + 1 ≤ c ∧ v1 = .slice (some ⟨b, 0, none⟩) ((q K).length + 1) c)
    (hr2 : ¬ room → g K = .slice none 0 0 ∨ ∃ b c, g K = .slice (some ⟨b, 0, none⟩) (q K).length c ∧ ¬ (q K).length + 1 ≤ c) (hq : (q K).length ≤ 4096)
    (h : rowI S w0 B M g N m n q K (q K ++ [id]) v1 room false false w) {X : Nat} (hX2 : w.cell? ⟨X, 0, none⟩ = some (.int .i64 id)) (ty : TypeId) :
    ∃ v' w', (Builtin.append_ #[58, 58] ty #[g K, .slice (some ⟨X, 0, none⟩) 1 1]).run Tryz.prog w = .ok v' w' ∧ But (Olds S w0) w w' ∧ rowI S w0 B M g N m n q K (q K ++ [id]) v1 room true false w' ∧ rowR room v1 (q K ++ [id]) w0 v' w' := by
  obtain ⟨i0, hi, hz0, hz1, hz2⟩ := info_parts int_info
  have hb := (h.2 rfl).2 (fun e => by cases e)
  have hown := bown_keep (hW.rows.own K hk) hb
  have hown2 := bown_keep (hW.rows.own K hk) hb
  have hnews : ∀ j u, [(Value.int .i64 id)][j]? = some u → w.cell? ((⟨X, 0, none⟩ : Addr).add j) = some u := fun j u hj => by
    match j, hj with
    | 0, hj => simp at hj; subst hj; simpa [Addr.add] using hX2
  have happ : (q K ++ [id]).map encZ = (q K).map encZ ++ [Value.int .i64 id] := by simp [encZ]
  have hlen : (q K ++ [id]).length = (q K).length + 1 := by simp
  obtain ⟨v', w', hrun, ho, hg, _, hloc⟩ := run_append_own_at (P := Tryz.prog) w 0 58 ty 3 i0 (.int .i64 0) 1 8 Tryz.underlying58 hi hz0 hz1 hz2 rfl (by decide) _ _ _ hown ⟨X, 0, none⟩ 1 1 [.int .i64 id] rfl hnews (fun u hu => by obtain rfl := List.mem_singleton.1 hu; rfl) (by unfold maxLen; omega) (by omega) (Nat.zero_le _)
  refine ⟨v', w', hrun, ?_⟩
  by_cases hr : room
  · obtain ⟨b, c, e, hle, e1⟩ := hr1 hr
    rw [e] at hrun hg hown
    rcases hown.2 with ⟨e0, _⟩ | ⟨b', c', cur, e0, _, hh, hnc, hcm, hcs, ht⟩
    · cases e0
    · simp only [Value.slice.injEq, Option.some.injEq, Addr.mk.injEq, true_and, and_true] at e0
      obtain ⟨rfl, rfl⟩ := e0
      have hr2 := run_append_room (P := Tryz.prog) w 58 ty 3 i0 Tryz.underlying58 hi b (q K).length c cur hh ⟨X, 0, none⟩ 1 1 [.int .i64 id] (by rw [hz1]; rfl) hnews (fun u hu => by obtain rfl := List.mem_singleton.1 hu; rfl) hle (by rw [hz1]; simp; omega)
      rw [hrun] at hr2
      simp only [Result.ok.injEq] at hr2
      have ev : v' = v1 := by rw [e1]; exact hr2.1
      have ho' : rowOwn w' v1 (q K ++ [id]) := by rw [← ev, rowOwn, happ, hlen]; exact ho
      obtain ⟨f1, f2⟩ := rowI.grow hW hk h hg (fun b2 e2 => ⟨by rw [rowB, e]; exact e2, hr⟩) (fun _ => ho')
      exact ⟨f2, f1, fun _ => ev, fun h => absurd hr h⟩
  · have hnew : w.grownBy w' none ∧ v'.ownBlock = some w.heap.size := by
      rcases hr2 hr with e | ⟨b, c, e, hle⟩
      · rw [e] at hrun hg hown hloc
        have h0 : (q K).length = 0 := by
          rcases hown.2 with ⟨_, e2⟩ | ⟨_, _, _, e2, _⟩
          · exact e2
          · cases e2
        refine ⟨⟨hg.os, hg.tape, hg.output, hg.size, fun k hk' _ => hg.block k hk' (by simp [Value.ownBlock])⟩, ?_⟩
        rcases hloc with e2 | e2
        · exfalso
          rcases ho.2 with ⟨_, e3⟩ | ⟨_, _, _, e3, _⟩
          · omega
          · rw [e3] at e2; cases e2
        · exact e2
      · rw [e] at hrun hown
        have holds : ∀ j u, ((q K).map encZ)[j]? = some u → w.cell? ((⟨b, 0, none⟩ : Addr).add j) = some u := hown.cells (g := b) rfl
        have hr3 := run_append_grow (P := Tryz.prog) w 58 ty 3 i0 (.int .i64 0) Tryz.underlying58 hi hz0 ⟨b, 0, none⟩ (q K).length c ((q K).map encZ) (by rw [hz1]; simp) holds ⟨X, 0, none⟩ 1 1 [.int .i64 id] (by rw [hz1]; rfl) hnews (by omega) (by omega) (growslice_fits (by omega) (by rw [hz2]; omega))
        rw [hrun] at hr3
        simp only [Result.ok.injEq] at hr3
        obtain ⟨rfl, rfl⟩ := hr3
        exact ⟨⟨rfl, rfl, rfl, by simp, fun k hk' _ => heap_alloc_old _ _ hk'⟩, rfl⟩
    obtain ⟨f1, f2⟩ := rowI.grow hW hk h hnew.1 (fun b2 e2 => by cases e2) (fun h => absurd h hr)
    refine ⟨f2, f1, fun h => absurd h hr, fun _ => ?_⟩
    rcases ho.2 with ⟨_, e3⟩ | ⟨b, c, cur, e3, _⟩
    · omega
    · have : b = w.heap.size := by rw [e3] at hnew; simpa [Value.ownBlock] using hnew.2
      refine ⟨b, c, by rw [hlen]; exact e3, by rw [this]; exact hb.size, ?_⟩
      rw [rowOwn, happ, hlen]; exact ho
end Go.Proofs.YtaicipldjmngaaaGreatDoor.wh
