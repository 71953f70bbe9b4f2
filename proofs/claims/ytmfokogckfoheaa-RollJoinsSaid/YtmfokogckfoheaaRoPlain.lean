/-
  Plain lemmas on rolls (layer 9): what a node believes of each node, as a function; the document's list, and its Put. Nothing of any program stands here.
-/
import Derived.Test.YtmfokogckfoheaaRkPlain
namespace Go.Proofs.Ytmfokogckfoheaa

/-- What a roll believes: its own node, and what stands of each node. -/
structure Ro where
  own : Int
  T : Int → Option Up
def put (T : Int → Option Up) (u : Up) : Int → Option Up := fun n => if n = u.node then some u else T n
theorem put_same (T : Int → Option Up) (u : Up) : put T u u.node = some u := by unfold put; rw [if_pos rfl]
theorem put_other (T : Int → Option Up) (u : Up) {n : Int} (h : n ≠ u.node) : put T u n = T n := by unfold put; rw [if_neg h]
/-- What stands there is right, and of that node; the own node has something. -/
structure Ro.ok (r : Ro) : Prop where
  at_ : ∀ n u, r.T n = some u → u.right = true ∧ u.node = n
  self : ∃ u, r.T r.own = some u
def Ro.new (self : Int) (inc : Nat) : Ro := ⟨self, fun n => if n = self then some ⟨self, inc, 0⟩ else none⟩
def Ro.selfU (r : Ro) : Up := (r.T r.own).getD ⟨0, 0, 0⟩
def zU : Up := ⟨0, 0, 0⟩
/-- Apply: the kind, the old and the new one, and the roll then. -/
def Ro.apply (r : Ro) (u : Up) : Nat × Up × Up × Ro :=
  if u.right = false then (0, zU, zU, r)
  else if u.node = r.own then
    if r.selfU.st = 3 ∨ u.above r.selfU = false then (0, zU, zU, r)
    else if (refuteN r.selfU.inc u.inc).2 ≠ 0 then (4, r.selfU, r.selfU, r)
    else (3, r.selfU, ⟨r.own, (refuteN r.selfU.inc u.inc).1, 0⟩, ⟨r.own, put r.T ⟨r.own, (refuteN r.selfU.inc u.inc).1, 0⟩⟩)
  else match r.T u.node with
    | none => (1, zU, u, ⟨r.own, put r.T u⟩)
    | some old => if u.above old then (2, old, u, ⟨r.own, put r.T u⟩) else (0, zU, zU, r)
def Ro.leave (r : Ro) : Up × Bool × Ro :=
  if r.selfU.st = 3 then (r.selfU, false, r) else (⟨r.selfU.node, r.selfU.inc, 3⟩, true, ⟨r.own, put r.T ⟨r.selfU.node, r.selfU.inc, 3⟩⟩)
theorem Ro.selfU_eq {r : Ro} {u : Up} (h : r.T r.own = some u) : r.selfU = u := by unfold Ro.selfU; rw [h]; rfl
theorem Ro.ok.selfAt {r : Ro} (h : r.ok) : r.T r.own = some r.selfU ∧ r.selfU.right = true ∧ r.selfU.node = r.own := by
  obtain ⟨u, hu⟩ := h.self
  rw [Ro.selfU_eq hu]
  exact ⟨hu, h.at_ _ _ hu⟩
theorem right_of (node : Int) (inc : Nat) (st : Int) : (⟨node, inc, st⟩ : Up).right = true ↔ (0 ≤ node ∧ node < 8 ∧ (st = 0 ∨ st = 1 ∨ st = 2 ∨ st = 3)) := by unfold Up.right; simp
theorem Ro.ok.ownR {r : Ro} (h : r.ok) : 0 ≤ r.own ∧ r.own < 8 := by
  obtain ⟨_, h2, h3⟩ := h.selfAt
  unfold Up.right at h2
  have := of_decide_eq_true h2
  omega
theorem Ro.ok.new {self : Int} {inc : Nat} (h : 0 ≤ self ∧ self < 8) : (Ro.new self inc).ok := by
  refine ⟨fun n u hu => ?_, ⟨⟨self, inc, 0⟩, by unfold Ro.new; simp⟩⟩
  unfold Ro.new at hu
  simp only at hu
  split at hu
  · rename_i e
    cases hu
    exact ⟨(right_of _ _ _).2 ⟨h.1, h.2, .inl rfl⟩, e.symm⟩
  · cases hu
theorem Ro.ok.put {r : Ro} (h : r.ok) {u : Up} (hu : u.right = true) : (⟨r.own, put r.T u⟩ : Ro).ok := by
  refine ⟨fun n v hv0 => ?_, ?_⟩
  · have hv : Go.Proofs.Ytmfokogckfoheaa.put r.T u n = some v := hv0
    by_cases e : n = u.node
    · subst e
      rw [put_same] at hv
      cases hv
      exact ⟨hu, rfl⟩
    · rw [put_other _ _ e] at hv
      exact h.at_ n v hv
  · by_cases e : r.own = u.node
    · exact ⟨u, by show Go.Proofs.Ytmfokogckfoheaa.put r.T u r.own = _; rw [e, put_same]⟩
    · obtain ⟨v, hv⟩ := h.self
      exact ⟨v, by show Go.Proofs.Ytmfokogckfoheaa.put r.T u r.own = _; rw [put_other _ _ e]; exact hv⟩
theorem Ro.ok.apply {r : Ro} (h : r.ok) (u : Up) : (r.apply u).2.2.2.ok := by
  unfold Ro.apply
  split
  · exact h
  · rename_i hr
    have hr : u.right = true := by simpa using hr
    split
    · split
      · exact h
      · split
        · exact h
        · exact h.put ((right_of _ _ _).2 ⟨h.ownR.1, h.ownR.2, .inl rfl⟩)
    · split
      · exact h.put hr
      · split
        · exact h.put hr
        · exact h
theorem Ro.apply_own (r : Ro) (u : Up) : (r.apply u).2.2.2.own = r.own := by
  unfold Ro.apply
  repeat (first | rfl | split)
theorem Ro.ok.leave {r : Ro} (h : r.ok) : r.leave.2.2.ok := by
  unfold Ro.leave
  split
  · exact h
  · obtain ⟨_, h2, h3⟩ := h.selfAt
    refine h.put ((right_of _ _ _).2 ?_)
    have := h.ownR
    rw [h3]
    exact ⟨this.1, this.2, .inr (.inr (.inr rfl))⟩
/-- Another node's place is what is told of all that was said. -/
theorem Ro.apply_at {r : Ro} (u : Up) {n : Int} (hn : n ≠ r.own) : (r.apply u).2.2.2.T n = stepB n (r.T n) u := by
  unfold Ro.apply
  split
  · rename_i hr
    rw [stepB_wrong _ _ hr]
  · rename_i hr
    have hr : u.right = true := by simpa using hr
    split
    · rename_i ho
      rw [stepB_other _ (by omega)]
      split
      · rfl
      · split
        · rfl
        · exact put_other _ _ hn
    · rename_i ho
      split
      · rename_i hT
        by_cases e : n = u.node
        · subst e
          rw [hT, stepB_new hr rfl (.inl rfl)]
          exact put_same _ _
        · rw [stepB_other _ (fun h => e h.symm)]
          exact put_other _ _ e
      · rename_i old hT
        split
        · rename_i ha
          by_cases e : n = u.node
          · subst e
            rw [hT, stepB_new hr rfl (.inr ⟨old, rfl, ha⟩)]
            exact put_same _ _
          · rw [stepB_other _ (fun h => e h.symm)]
            exact put_other _ _ e
        · rename_i ha
          by_cases e : n = u.node
          · subst e
            rw [hT]
            exact (stepB_below _ (by simpa using ha)).symm
          · rw [stepB_other _ (fun h => e h.symm)]
def Ro.all (r : Ro) (l : List Up) : Ro := l.foldl (fun r u => (r.apply u).2.2.2) r
theorem Ro.all_snoc (r : Ro) (l : List Up) (u : Up) : r.all (l ++ [u]) = ((r.all l).apply u).2.2.2 := by simp [Ro.all]
theorem Ro.all_own (r : Ro) (l : List Up) : (r.all l).own = r.own := by
  have key : ∀ m : List Up, (r.all m.reverse).own = r.own := fun m => by
    induction m with
    | nil => rfl
    | cons u m ih => rw [List.reverse_cons, Ro.all_snoc, Ro.apply_own]; exact ih
  have := key l.reverse
  rwa [List.reverse_reverse] at this
theorem Ro.all_at {self : Int} {inc : Nat} (l : List Up) {n : Int} (hn : n ≠ self) : ((Ro.new self inc).all l).T n = bestOf n l := by
  have key : ∀ m : List Up, ((Ro.new self inc).all m.reverse).T n = bestOf n m.reverse := fun m => by
    induction m with
    | nil => exact if_neg hn
    | cons u m ih =>
      rw [List.reverse_cons, Ro.all_snoc, Ro.apply_at _ (by rw [Ro.all_own]; exact hn), ih, bestOf_snoc]
  have := key l.reverse
  rwa [List.reverse_reverse] at this
/-- Those of other nodes tell the same of another node. -/
theorem bestOf_others {own n : Int} (hn : n ≠ own) (l : List Up) : bestOf n (l.filter fun u => decide (u.node ≠ own)) = bestOf n l := by
  have key : ∀ m : List Up, bestOf n (m.reverse.filter fun u => decide (u.node ≠ own)) = bestOf n m.reverse := fun m => by
    induction m with
    | nil => rfl
    | cons u m ih =>
      rw [List.reverse_cons, List.filter_append, bestOf_snoc]
      by_cases h : u.node = own
      · have e : [u].filter (fun u => decide (u.node ≠ own)) = [] := by simp [h]
        rw [e, List.append_nil, ih, stepB_other _ (by omega)]
      · have e : [u].filter (fun u => decide (u.node ≠ own)) = [u] := by simp [h]
        rw [e, bestOf_snoc, ih]
  have := key l.reverse
  rwa [List.reverse_reverse] at this
/-- Nothing goes down. -/
theorem Ro.apply_rises {r : Ro} (u : Up) {n : Int} {b : Up} (hb : r.T n = some b) : ∃ v, (r.apply u).2.2.2.T n = some v ∧ b.above v = false := by
  by_cases hn : n = r.own
  · subst hn
    have hs := Ro.selfU_eq hb
    unfold Ro.apply
    split
    · exact ⟨b, hb, Up.irrefl b⟩
    · split
      · split
        · exact ⟨b, hb, Up.irrefl b⟩
        · split
          · exact ⟨b, hb, Up.irrefl b⟩
          · rename_i hk
            refine ⟨⟨r.own, (refuteN r.selfU.inc u.inc).1, 0⟩, put_same r.T ⟨r.own, (refuteN r.selfU.inc u.inc).1, 0⟩, ?_⟩
            rw [hs] at hk ⊢
            rw [Up.above_false]
            show ¬ (b.node = r.own ∧ ((refuteN b.inc u.inc).1 < b.inc ∨ _))
            unfold refuteN at hk ⊢
            split
            · rename_i hm
              rw [if_pos hm] at hk
              simp at hk
            · simp only
              omega
      · rename_i ho
        split
        · exact ⟨b, by rw [← hb]; exact put_other _ _ (by omega), Up.irrefl b⟩
        · split
          · exact ⟨b, by rw [← hb]; exact put_other _ _ (by omega), Up.irrefl b⟩
          · exact ⟨b, hb, Up.irrefl b⟩
  · rw [Ro.apply_at u hn, hb]
    by_cases hu : u.right = true ∧ u.node = n
    · cases ha : u.above b with
      | true => exact ⟨u, stepB_new hu.1 hu.2 (.inr ⟨b, rfl, ha⟩), Up.asymm ha⟩
      | false => exact ⟨b, stepB_below _ ha, Up.irrefl b⟩
    · refine ⟨b, ?_, Up.irrefl b⟩
      by_cases hr : u.right = true
      · exact stepB_other _ (fun e => hu ⟨hr, e⟩)
      · exact stepB_wrong _ _ (by simpa using hr)
theorem Ro.leave_rises {r : Ro} (h : r.ok) {n : Int} {b : Up} (hb : r.T n = some b) : ∃ v, r.leave.2.2.T n = some v ∧ b.above v = false := by
  unfold Ro.leave
  split
  · exact ⟨b, hb, Up.irrefl b⟩
  · obtain ⟨h1, h2, h3⟩ := h.selfAt
    by_cases e : n = r.selfU.node
    · subst e
      refine ⟨⟨r.selfU.node, r.selfU.inc, 3⟩, put_same r.T ⟨r.selfU.node, r.selfU.inc, 3⟩, ?_⟩
      have hbs : b = r.selfU := by
        rw [h3, h1] at hb
        exact (Option.some.inj hb).symm
      subst hbs
      unfold Up.right at h2
      have h2 := of_decide_eq_true h2
      rw [Up.above_false]
      simp only
      omega
    · exact ⟨b, by rw [← hb]; exact put_other _ _ e, Up.irrefl b⟩

/-! ### The document's list -/
def listTo (T : Int → Option Up) (m : Nat) : List Up := (List.range m).filterMap fun k : Nat => T (k : Int)
theorem listTo_succ (T : Int → Option Up) (m : Nat) : listTo T (m + 1) = listTo T m ++ (match T (m : Int) with
    | some u => [u]
    | none => []) := by
  unfold listTo
  rw [List.range_succ, List.filterMap_append]
  congr 1
  simp only [List.filterMap_cons, List.filterMap_nil]
  cases T (m : Int) <;> rfl
theorem listTo_some {T : Int → Option Up} {m : Nat} {x : Up} (h : T (m : Int) = some x) : listTo T (m + 1) = listTo T m ++ [x] := by rw [listTo_succ, h]
theorem listTo_none {T : Int → Option Up} {m : Nat} (h : T (m : Int) = none) : listTo T (m + 1) = listTo T m := by rw [listTo_succ, h, List.append_nil]
theorem listTo_congr {T T' : Int → Option Up} : ∀ m : Nat, (∀ k : Nat, k < m → T (k : Int) = T' (k : Int)) → listTo T m = listTo T' m
  | 0, _ => rfl
  | m + 1, h => by
    rw [listTo_succ, listTo_succ, h m (by omega), listTo_congr m (fun k hk => h k (by omega))]
/-- Put goes over the list: what it has made, and whether the new one is laid. -/
def putStep (u : Up) (s : List Up × Bool) (x : Up) : List Up × Bool :=
  if x.node = u.node then (s.1 ++ [u], true) else if s.2 = false ∧ u.node < x.node then (s.1 ++ [u] ++ [x], true) else (s.1 ++ [x], s.2)
def putGo (u : Up) (l : List Up) : List Up × Bool := l.foldl (putStep u) ([], false)
def putL (u : Up) (l : List Up) : List Up := if (putGo u l).2 then (putGo u l).1 else (putGo u l).1 ++ [u]
theorem putGo_snoc (u : Up) (l : List Up) (x : Up) : putGo u (l ++ [x]) = putStep u (putGo u l) x := by simp [putGo]
theorem putGo_listTo {T : Int → Option Up} (hT : ∀ n v, T n = some v → v.node = n) {u : Up} {j : Nat} (hj : u.node = (j : Int)) : ∀ m : Nat,
    ((putGo u (listTo T m)).2 = false ∧ (putGo u (listTo T m)).1 = listTo T m ∧ ∀ k : Nat, j ≤ k → k < m → T (k : Int) = none) ∨
    ((putGo u (listTo T m)).2 = true ∧ j < m ∧ (putGo u (listTo T m)).1 = listTo (put T u) m)
  | 0 => .inl ⟨rfl, rfl, fun k _ h => absurd h (Nat.not_lt_zero _)⟩
  | m + 1 => by
    cases hx : T (m : Int) with
    | none =>
      rw [listTo_none hx]
      rcases putGo_listTo hT hj m with ⟨h1, h2, h3⟩ | ⟨h1, h2, h3⟩
      · refine .inl ⟨h1, h2, fun k hk hkm => ?_⟩
        rcases Nat.lt_or_ge k m with h | h
        · exact h3 k hk h
        · obtain rfl : k = m := by omega
          exact hx
      · refine .inr ⟨h1, by omega, ?_⟩
        rw [h3, listTo_none (T := put T u) (by rw [put_other T u (by omega)]; exact hx)]
    | some x =>
      have hxn := hT _ _ hx
      rw [listTo_some hx, putGo_snoc]
      unfold putStep
      rcases putGo_listTo hT hj m with ⟨h1, h2, h3⟩ | ⟨h1, h2, h3⟩
      · by_cases e : x.node = u.node
        · rw [if_pos e]
          have hmj : m = j := by omega
          refine .inr ⟨rfl, by omega, ?_⟩
          rw [h2, listTo_some (T := put T u) (x := u) (by rw [← hxn, e]; exact put_same _ _)]
          show listTo T m ++ [u] = listTo (put T u) m ++ [u]
          rw [listTo_congr m (fun k hk => (put_other T u (by omega)).symm)]
        · rw [if_neg e]
          by_cases hlt : u.node < x.node
          · rw [if_pos ⟨h1, hlt⟩]
            refine .inr ⟨rfl, by omega, ?_⟩
            have hpx : put T u (m : Int) = some x := by rw [put_other _ _ (by omega)]; exact hx
            rw [listTo_some hpx]
            congr 1
            rw [h2]
            -- behind j nothing stood
            have key : ∀ i : Nat, j + 1 + i ≤ m → listTo (put T u) (j + 1 + i) = listTo T (j + 1 + i) ++ [u] := by
              intro i
              induction i with
              | zero =>
                intro hi
                rw [Nat.add_zero, listTo_some (x := u) (by rw [← hj]; exact put_same _ _), listTo_none (h3 j (Nat.le_refl _) (by omega))]
                congr 1
                exact listTo_congr j (fun k hk => put_other T u (by omega))
              | succ i ih =>
                intro hi
                have hn := h3 (j + 1 + i) (by omega) (by omega)
                rw [← Nat.add_assoc, listTo_none hn, listTo_none (by rw [put_other _ _ (by omega)]; exact hn)]
                exact ih (by omega)
            have := key (m - (j + 1)) (by omega)
            rw [show j + 1 + (m - (j + 1)) = m by omega] at this
            rw [this]
          · rw [if_neg (fun h => hlt h.2)]
            refine .inl ⟨h1, by rw [h2], fun k hk hkm => ?_⟩
            omega
      · have hne : ¬ x.node = u.node := by omega
        rw [if_neg hne, if_neg (fun h => by rw [h1] at h; cases h.1)]
        refine .inr ⟨h1, by omega, ?_⟩
        rw [h3, listTo_some (by rw [put_other _ _ (by omega)]; exact hx)]
/-- Put keeps the list that of the function. -/
theorem putL_listTo {T : Int → Option Up} (hT : ∀ n v, T n = some v → v.node = n) {u : Up} (hu : u.right = true) : putL u (listTo T 8) = listTo (put T u) 8 := by
  obtain ⟨j, hj8, hj⟩ := right_lt hu
  unfold putL
  rcases putGo_listTo hT hj 8 with ⟨h1, h2, h3⟩ | ⟨h1, h2, h3⟩
  · rw [h1, if_neg (by decide), h2]
    have key : ∀ i : Nat, j + 1 + i ≤ 8 → listTo (put T u) (j + 1 + i) = listTo T (j + 1 + i) ++ [u] := by
      intro i
      induction i with
      | zero =>
        intro hi
        rw [Nat.add_zero, listTo_some (x := u) (by rw [← hj]; exact put_same _ _), listTo_none (h3 j (Nat.le_refl _) (by omega))]
        congr 1
        exact listTo_congr j (fun k hk => put_other T u (by omega))
      | succ i ih =>
        intro hi
        have hn := h3 (j + 1 + i) (by omega) (by omega)
        rw [← Nat.add_assoc, listTo_none hn, listTo_none (by rw [put_other _ _ (by omega)]; exact hn)]
        exact ih (by omega)
    have := key (8 - (j + 1)) (by omega)
    rw [show j + 1 + (8 - (j + 1)) = 8 by omega] at this
    exact this.symm
  · rw [h1, if_pos rfl, h3]
/-- The list of the table is found in as the function tells. -/
theorem findU_listTo {T : Int → Option Up} (hT : ∀ n v, T n = some v → v.node = n) (n : Int) : ∀ m : Nat, findU (listTo T m) n = if 0 ≤ n ∧ n < (m : Int) then T n else none
  | 0 => by
    have : ¬ (0 ≤ n ∧ n < ((0 : Nat) : Int)) := by omega
    rw [if_neg this]
    rfl
  | m + 1 => by
    have ih := findU_listTo hT n m
    rw [listTo_succ]
    unfold findU at ih ⊢
    rw [List.find?_append, ih]
    by_cases h1 : 0 ≤ n ∧ n < (m : Int)
    · rw [if_pos h1, if_pos (by omega)]
      cases hb : T n with
      | some u => rfl
      | none =>
        cases hm : T (m : Int) with
        | none => rfl
        | some v =>
          have hv := hT _ _ hm
          have : ¬ v.node = n := by omega
          simp [this]
    · rw [if_neg h1]
      by_cases h2 : n = (m : Int)
      · rw [if_pos (by omega), h2]
        cases hm : T (m : Int) with
        | none => rfl
        | some v =>
          have hv := hT _ _ hm
          simp [hv]
      · rw [if_neg (by omega)]
        cases hm : T (m : Int) with
        | none => rfl
        | some v =>
          have hv := hT _ _ hm
          have : ¬ v.node = n := by omega
          simp [this]
theorem listTo_len (T : Int → Option Up) (m : Nat) : (listTo T m).length ≤ m := by
  have := List.length_filterMap_le (fun k : Nat => T (k : Int)) (List.range m)
  simpa [listTo] using this
/-- Who lives. -/
def liveOf (r : Ro) (peers : Bool) : List Int := ((listTo r.T 8).filter fun u => decide (u.st < 2) && !(peers && decide (u.node = r.own))).map Up.node
end Go.Proofs.Ytmfokogckfoheaa
