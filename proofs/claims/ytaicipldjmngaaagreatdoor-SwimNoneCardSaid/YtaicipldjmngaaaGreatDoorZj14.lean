import Derived.Test.YtaicipldjmngaaaGreatDoorZj1
namespace Go.Proofs.YtaicipldjmngaaaGreatDoor.ru
structure Ru where
  u : Up
  sent : Nat
  wh : Nat
deriving DecidableEq
def Ru.lt (a b : Ru) : Prop := a.sent < b.sent ∨ (a.sent = b.sent ∧ b.wh < a.wh)
def Ru.ltB (a b : Ru) : Bool := decide (a.sent < b.sent ∨ (a.sent = b.sent ∧ b.wh < a.wh))
theorem Ru.ltB_iff (a b : Ru) : a.ltB b = true ↔ a.lt b := by unfold Ru.ltB Ru.lt; simp
theorem Ru.lt_irrefl (a : Ru) : ¬ a.lt a := by unfold Ru.lt; omega
theorem Ru.lt_asymm {a b : Ru} (h : a.lt b) : ¬ b.lt a := by unfold Ru.lt at *; omega
theorem Ru.lt_trans {a b c : Ru} (h : a.lt b) (k : b.lt c) : a.lt c := by unfold Ru.lt at *; omega
theorem Ru.lt_total {a b : Ru} (h : a.wh ≠ b.wh) : a.lt b ∨ b.lt a := by unfold Ru.lt; omega
theorem sorted_unique : ∀ {l l' : List Ru}, l.Pairwise Ru.lt → l'.Pairwise Ru.lt → l.Perm l' → l = l'
  | [], l', _, _, hp => (List.nil_perm.mp hp).symm
  | a :: l, [], _, _, hp => absurd (List.perm_nil.mp hp) (by simp)
  | a :: l, b :: l', h, h', hp => by
    have h1 := List.pairwise_cons.mp h
    have h2 := List.pairwise_cons.mp h'
    have ea : a ∈ b :: l' := hp.subset (by simp)
    have eb : b ∈ a :: l := hp.symm.subset (by simp)
    have e : a = b := by
      rcases List.mem_cons.mp ea with e | e
      · exact e
      · rcases List.mem_cons.mp eb with e' | e'
        · exact e'.symm
        · exact absurd (h2.1 a e) (Ru.lt_asymm (h1.1 b e'))
    subst e
    rw [sorted_unique h1.2 h2.2 (List.perm_cons a |>.mp hp)]
def ins (r : Ru) : List Ru → List Ru
  | [] => [r]
  | x :: l => if r.ltB x then r :: x :: l else x :: ins r l
theorem ins_perm (r : Ru) : ∀ l, (ins r l).Perm (r :: l)
  | [] => List.Perm.refl _
  | x :: l => by
    unfold ins
    split
    · exact List.Perm.refl _
    · exact ((ins_perm r l).cons x).trans (List.Perm.swap r x l)
theorem ins_sorted (r : Ru) : ∀ {l : List Ru}, l.Pairwise Ru.lt → (∀ x ∈ l, x.wh ≠ r.wh) → (ins r l).Pairwise Ru.lt
  | [], _, _ => by simp [ins]
  | x :: l, h, hd => by
    have h1 := List.pairwise_cons.mp h
    unfold ins
    by_cases hr : r.ltB x = true
    · rw [if_pos hr]
      have hr' := (Ru.ltB_iff r x).mp hr
      refine List.pairwise_cons.mpr ⟨?_, h⟩
      intro y hy
      rcases List.mem_cons.mp hy with e | e
      · rw [e]; exact hr'
      · exact Ru.lt_trans hr' (h1.1 y e)
    · rw [if_neg hr]
      have hx : x.lt r := by
        rcases Ru.lt_total (hd x (by simp)) with e | e
        · exact e
        · exact absurd ((Ru.ltB_iff r x).mpr e) hr
      refine List.pairwise_cons.mpr ⟨?_, ins_sorted r h1.2 (fun y hy => hd y (by simp [hy]))⟩
      intro y hy
      rcases List.mem_cons.mp ((ins_perm r l).subset hy) with e | e
      · rw [e]; exact hx
      · exact h1.1 y e
def sortQ (l : List Ru) : List Ru := l.foldl (fun q r => ins r q) []
theorem foldl_ins_perm : ∀ (l q : List Ru), (l.foldl (fun q r => ins r q) q).Perm (q ++ l)
  | [], q => by simp
  | r :: l, q => by
    refine (foldl_ins_perm l (ins r q)).trans ?_
    refine ((ins_perm r q).append_right l).trans ?_
    exact (List.perm_middle (l₁ := q) (l₂ := l) (a := r)).symm
theorem sortQ_perm (l : List Ru) : (sortQ l).Perm l := by simpa [sortQ] using foldl_ins_perm l []
theorem foldl_ins_sorted : ∀ (l q : List Ru), q.Pairwise Ru.lt → ((q ++ l).map (·.wh)).Nodup → (l.foldl (fun q r => ins r q) q).Pairwise Ru.lt
  | [], q, h, _ => h
  | r :: l, q, h, hd => by
    have hd2 : (r :: (q ++ l)).map (·.wh) |>.Nodup := ((List.perm_middle (l₁ := q) (l₂ := l) (a := r)).map (·.wh)).nodup_iff.mp hd
    refine foldl_ins_sorted l (ins r q) (ins_sorted r h ?_) ?_
    · intro x hx e
      rw [List.map_cons, List.nodup_cons] at hd2
      exact hd2.1 (by rw [← e]; exact List.mem_map.mpr ⟨x, by simp [hx], rfl⟩)
    · exact ((((ins_perm r q).append_right l).map (·.wh)).nodup_iff).mpr hd2
theorem sortQ_sorted {l : List Ru} (h : (l.map (·.wh)).Nodup) : (sortQ l).Pairwise Ru.lt := foldl_ins_sorted l [] (by simp) (by simpa using h)
def digits : Nat → Nat → Nat
  | 0, _ => 0
  | f + 1, n => if n = 0 then 0 else digits f (n / 2) + 1
def limitQ (mult : Nat) (members : Int) : Nat := mult * digits 64 (if members < 1 then 1 else members.toNat)
structure Qu where
  mult : Nat
  L : List Ru
  clock : Nat
structure Qu.ok (q : Qu) : Prop where
  right : ∀ r ∈ q.L, r.u.right = true
  nodes : (q.L.map (·.u.node)).Nodup
  sorted : q.L.Pairwise Ru.lt
  whs : (q.L.map (·.wh)).Nodup
  old : ∀ r ∈ q.L, r.wh ≤ q.clock
  mult1 : 1 ≤ q.mult
  mult8 : q.mult ≤ 8
def clampQ (m : Int) : Nat := if m < 1 then 1 else if m > 8 then 8 else m.toNat
def Qu.new (m : Int) : Qu := ⟨clampQ m, [], 0⟩
theorem Qu.new_ok (m : Int) : (Qu.new m).ok := by
  refine ⟨by simp [Qu.new], by simp [Qu.new], by simp [Qu.new], by simp [Qu.new], by simp [Qu.new], ?_, ?_⟩
  · show 1 ≤ clampQ m
    unfold clampQ; split
    · omega
    · split <;> omega
  · show clampQ m ≤ 8
    unfold clampQ; split
    · omega
    · split <;> omega
def Qu.at_ (q : Qu) (n : Int) : Option Ru := q.L.find? fun r => decide (r.u.node = n)
theorem Qu.at_mem {q : Qu} {n : Int} {r : Ru} (h : q.at_ n = some r) : r ∈ q.L ∧ r.u.node = n := ⟨List.mem_of_find?_eq_some h, by simpa using List.find?_some h⟩
theorem node_inj : ∀ {l : List Ru}, (l.map (·.u.node)).Nodup → ∀ {r s : Ru}, r ∈ l → s ∈ l → r.u.node = s.u.node → r = s
  | [], _, _, _, h, _, _ => by simp at h
  | x :: l, hd, r, s, hr, hs, e => by
    rw [List.map_cons, List.nodup_cons] at hd
    rcases List.mem_cons.mp hr with h | h <;> rcases List.mem_cons.mp hs with k | k
    · rw [h, k]
    · exact absurd (List.mem_map.mpr ⟨s, k, by rw [← e, h]⟩) hd.1
    · exact absurd (List.mem_map.mpr ⟨r, h, by rw [e, k]⟩) hd.1
    · exact node_inj hd.2 h k e
def Qu.takes (q : Qu) (u : Up) : Bool := u.right && (match q.at_ u.node with
  | none => true
  | some r => u.above r.u)
def Qu.push (q : Qu) (u : Up) : Qu := if q.takes u then ⟨q.mult, ⟨u, 0, q.clock + 1⟩ :: q.L.filter (fun r => decide (r.u.node ≠ u.node)), q.clock + 1⟩ else q
theorem Qu.push_ok {q : Qu} (h : q.ok) (u : Up) : (q.push u).ok := by
  unfold Qu.push
  by_cases ht : q.takes u = true
  · rw [if_pos ht]
    have hsub := List.filter_sublist (l := q.L) (p := fun r => decide (r.u.node ≠ u.node))
    refine ⟨?_, ?_, ?_, ?_, ?_, h.mult1, h.mult8⟩
    · intro r hr
      rcases List.mem_cons.mp hr with e | e
      · rw [e]; unfold Qu.takes at ht; simp only [Bool.and_eq_true] at ht; exact ht.1
      · exact h.right r (hsub.subset e)
    · show ((⟨u, 0, q.clock + 1⟩ :: q.L.filter (fun r => decide (r.u.node ≠ u.node))).map (·.u.node) : List Int).Nodup
      rw [List.map_cons, List.nodup_cons]
      refine ⟨?_, (hsub.map _).nodup h.nodes⟩
      intro hm
      obtain ⟨r, hr, e⟩ := List.mem_map.mp hm
      have := (List.mem_filter.mp hr).2
      simp at this
      exact this e
    · refine List.pairwise_cons.mpr ⟨?_, h.sorted.sublist hsub⟩
      intro r hr
      have h1 := h.old r (hsub.subset hr)
      show (0 : Nat) < r.sent ∨ ((0 : Nat) = r.sent ∧ r.wh < q.clock + 1)
      omega
    · show ((⟨u, 0, q.clock + 1⟩ :: q.L.filter (fun r => decide (r.u.node ≠ u.node))).map (·.wh) : List Nat).Nodup
      rw [List.map_cons, List.nodup_cons]
      refine ⟨?_, (hsub.map _).nodup h.whs⟩
      intro hm
      obtain ⟨r, hr, e⟩ := List.mem_map.mp hm
      have h1 := h.old r (hsub.subset hr)
      have e2 : r.wh = q.clock + 1 := e
      omega
    · intro r hr
      show r.wh ≤ q.clock + 1
      rcases List.mem_cons.mp hr with e | e
      · rw [e]; exact Nat.le_refl _
      · have := h.old r (hsub.subset e); omega
  · rw [if_neg ht]; exact h
def Ru.more (r : Ru) : Ru := ⟨r.u, r.sent + 1, r.wh⟩
def left (most lim : Nat) (L : List Ru) : List Ru := ((L.take most).map Ru.more).filter (fun r => decide (r.sent < lim)) ++ L.drop most
def Qu.take (q : Qu) (most lim : Nat) : List Up × Qu := ((q.L.take most).map (·.u), ⟨q.mult, sortQ (left most lim q.L), q.clock⟩)
theorem left_sub {α : Type} (f : Ru → α) (hf : ∀ r : Ru, f r.more = f r) (most lim : Nat) (L : List Ru) : ((left most lim L).map f).Sublist (L.map f) := by
  unfold left
  rw [List.map_append]
  have h1 : (((L.take most).map Ru.more).filter (fun r => decide (r.sent < lim)) |>.map f).Sublist ((L.take most).map f) := by
    have h2 := (List.filter_sublist (l := (L.take most).map Ru.more) (p := fun r => decide (r.sent < lim))).map f
    rw [List.map_map] at h2
    have e : (f ∘ Ru.more) = f := funext hf
    rwa [e] at h2
  have h3 := h1.append (List.Sublist.refl ((L.drop most).map f))
  have e2 : (L.take most).map f ++ (L.drop most).map f = L.map f := by rw [← List.map_append, List.take_append_drop]
  rw [e2] at h3
  exact h3
theorem left_mem {most lim : Nat} {L : List Ru} {s : Ru} (h : s ∈ left most lim L) : ∃ r ∈ L, s.u = r.u ∧ s.wh = r.wh := by
  unfold left at h
  rcases List.mem_append.mp h with e | e
  · obtain ⟨r, hr, rfl⟩ := List.mem_map.mp (List.mem_filter.mp e).1
    exact ⟨r, List.mem_of_mem_take hr, rfl, rfl⟩
  · exact ⟨s, List.mem_of_mem_drop e, rfl, rfl⟩
theorem Qu.take_ok {q : Qu} (h : q.ok) (most lim : Nat) : (q.take most lim).2.ok := by
  have hw : ((left most lim q.L).map (·.wh)).Nodup := (left_sub (·.wh) (fun _ => rfl) most lim q.L).nodup h.whs
  have hp := sortQ_perm (left most lim q.L)
  refine ⟨?_, ?_, sortQ_sorted hw, ?_, ?_, h.mult1, h.mult8⟩
  · intro r hr
    obtain ⟨s, hs, e, _⟩ := left_mem (hp.subset hr)
    rw [e]; exact h.right s hs
  · exact ((hp.map (·.u.node)).nodup_iff).mpr ((left_sub (·.u.node) (fun _ => rfl) most lim q.L).nodup h.nodes)
  · exact ((hp.map (·.wh)).nodup_iff).mpr hw
  · intro r hr
    obtain ⟨s, hs, _, e⟩ := left_mem (hp.subset hr)
    rw [e]; exact h.old s hs
def owe (lim : Nat) (L : List Ru) : Nat := (L.map (fun r => lim - r.sent)).sum
theorem owe_perm {lim : Nat} {L L' : List Ru} (h : L.Perm L') : owe lim L = owe lim L' := (h.map _).sum_nat
theorem owe_append (lim : Nat) (L M : List Ru) : owe lim (L ++ M) = owe lim L + owe lim M := by unfold owe; simp
theorem owe_more (lim : Nat) : ∀ (L : List Ru), (∀ r ∈ L, r.sent < lim) → owe lim ((L.map Ru.more).filter (fun r => decide (r.sent < lim))) + L.length = owe lim L
  | [], _ => by simp [owe]
  | r :: L, h => by
    have h1 := owe_more lim L (fun x hx => h x (by simp [hx]))
    have h2 := h r (by simp)
    have e : owe lim (r :: L) = (lim - r.sent) + owe lim L := by simp [owe]
    rw [List.map_cons, List.filter_cons, e, List.length_cons]
    by_cases hl : r.sent + 1 < lim
    · have : decide (r.more.sent < lim) = true := by rw [decide_eq_true_iff]; exact hl
      rw [if_pos this]
      have e2 : ∀ M : List Ru, owe lim (r.more :: M) = (lim - (r.sent + 1)) + owe lim M := fun M => by simp [owe, Ru.more]
      rw [e2]; omega
    · have : decide (r.more.sent < lim) = false := by rw [decide_eq_false_iff_not]; exact hl
      rw [if_neg (by rw [this]; simp)]; omega
theorem owe_left (most lim : Nat) (L : List Ru) (h : ∀ r ∈ L, r.sent < lim) : owe lim (left most lim L) + min most L.length = owe lim L := by
  have h1 := owe_more lim (L.take most) (fun r hr => h r (List.mem_of_mem_take hr))
  have h2 : owe lim L = owe lim (L.take most) + owe lim (L.drop most) := by rw [← owe_append, List.take_append_drop]
  unfold left
  rw [owe_append, h2, ← h1, List.length_take]; omega
theorem left_sent {most lim : Nat} {L : List Ru} (h : ∀ r ∈ L, r.sent < lim) : ∀ r ∈ left most lim L, r.sent < lim := by
  intro r hr
  unfold left at hr
  rcases List.mem_append.mp hr with e | e
  · simpa using (List.mem_filter.mp e).2
  · exact h r (List.mem_of_mem_drop e)
def countU (u : Up) (l : List Up) : Nat := l.countP (fun x => decide (x = u))
theorem countU_none {u : Up} {L : List Ru} (h : ∀ r ∈ L, r.u ≠ u) : countU u (L.map (·.u)) = 0 := by
  unfold countU; rw [List.countP_eq_zero]; intro x hx
  obtain ⟨r, hr, rfl⟩ := List.mem_map.mp hx
  simpa using h r hr
theorem countU_one : ∀ {L : List Ru}, (L.map (·.u.node)).Nodup → ∀ {r : Ru}, r ∈ L → countU r.u (L.map (·.u)) = 1
  | [], _, _, h => by simp at h
  | x :: L, hd, r, hr => by
    have hd0 := hd
    rw [List.map_cons, List.nodup_cons] at hd
    by_cases e : x.u = r.u
    · have : countU r.u (L.map (·.u)) = 0 := countU_none (fun s hs k => hd.1 (List.mem_map.mpr ⟨s, hs, by show s.u.node = x.u.node; rw [k, e]⟩))
      unfold countU at *
      rw [List.map_cons, List.countP_cons, this, if_pos (by simp [e])]
    · rcases List.mem_cons.mp hr with k | k
      · exact absurd (by rw [k]) e
      · have := countU_one hd.2 k
        unfold countU at *
        rw [List.map_cons, List.countP_cons, this, if_neg (by simp [e])]
def Stands (u : Up) (lim n : Nat) (L : List Ru) : Prop := (∃ r ∈ L, r.u = u ∧ r.sent = n) ∨ ((∀ r ∈ L, r.u.node ≠ u.node) ∧ n = lim)
theorem Stands.perm {u : Up} {lim n : Nat} {L L' : List Ru} (h : Stands u lim n L) (hp : L'.Perm L) : Stands u lim n L' := by
  rcases h with ⟨r, hr, k⟩ | ⟨h, k⟩
  · exact .inl ⟨r, hp.symm.subset hr, k⟩
  · exact .inr ⟨fun r hr => h r (hp.subset hr), k⟩
theorem Stands.left {u : Up} {lim n most : Nat} {L : List Ru} (h : Stands u lim n L) (hn : (L.map (·.u.node)).Nodup) (hs : ∀ r ∈ L, r.sent < lim) : Stands u lim (n + countU u ((L.take most).map (·.u))) (left most lim L) := by
  have hsplit : L.take most ++ L.drop most = L := List.take_append_drop most L
  rcases h with ⟨r, hr, rfl, rfl⟩ | ⟨h, k⟩
  · have hr2 := hr
    rw [← hsplit, List.mem_append] at hr2
    by_cases hX : r ∈ L.take most
    · rw [countU_one (((List.take_sublist most L).map _).nodup hn) hX]
      have hlt := hs r hr
      by_cases hl : r.sent + 1 < lim
      · refine .inl ⟨r.more, ?_, rfl, rfl⟩
        unfold Go.Proofs.YtaicipldjmngaaaGreatDoor.ru.left
        exact List.mem_append.mpr (.inl (List.mem_filter.mpr ⟨List.mem_map.mpr ⟨r, hX, rfl⟩, by rw [decide_eq_true_iff]; exact hl⟩))
      · refine .inr ⟨?_, by omega⟩
        intro s hs2 e
        unfold Go.Proofs.YtaicipldjmngaaaGreatDoor.ru.left at hs2
        rcases List.mem_append.mp hs2 with k | k
        · obtain ⟨t, ht, rfl⟩ := List.mem_map.mp (List.mem_filter.mp k).1
          have e2 : t = r := node_inj hn (List.mem_of_mem_take ht) hr e
          have := (List.mem_filter.mp k).2
          rw [e2] at this
          exact hl (of_decide_eq_true this)
        · have e2 : s = r := node_inj hn (List.mem_of_mem_drop k) hr e
          rw [e2] at k
          have hd := hn
          rw [← hsplit, List.map_append] at hd
          exact (List.nodup_append.mp hd).2.2 r.u.node (List.mem_map.mpr ⟨r, hX, rfl⟩) r.u.node (List.mem_map.mpr ⟨r, k, rfl⟩) rfl
    · have hY : r ∈ L.drop most := by
        rcases hr2 with e | e
        · exact absurd e hX
        · exact e
      rw [countU_none (fun s hs2 e => hX (by rw [← node_inj hn (List.mem_of_mem_take hs2) hr (by rw [e])]; exact hs2))]
      refine .inl ⟨r, ?_, rfl, rfl⟩
      unfold Go.Proofs.YtaicipldjmngaaaGreatDoor.ru.left
      exact List.mem_append.mpr (.inr hY)
  · rw [countU_none (fun s hs2 e => h s (List.mem_of_mem_take hs2) (by rw [e]))]
    refine .inr ⟨?_, k⟩
    intro s hs2
    obtain ⟨t, ht, e, _⟩ := left_mem hs2
    rw [e]; exact h t ht
theorem few_nodes : ∀ (m : Nat) (l : List Int), l.Nodup → (∀ x ∈ l, 0 ≤ x ∧ x < (m : Int)) → l.length ≤ m
  | 0, l, _, h => by
    cases l with
    | nil => simp
    | cons x l => have := h x (by simp); omega
  | m + 1, l, hd, h => by
    have h1 := few_nodes m (l.erase (m : Int)) (hd.erase _) (fun x hx => by
      have h2 := h x (List.mem_of_mem_erase hx)
      have h3 : x ≠ (m : Int) := (List.Nodup.mem_erase_iff hd |>.mp hx).1
      omega)
    rw [List.length_erase] at h1
    split at h1 <;> omega
theorem Qu.few {q : Qu} (h : q.ok) : q.L.length ≤ 8 := by
  have := few_nodes 8 (q.L.map (·.u.node)) h.nodes (fun x hx => by
    obtain ⟨r, hr, rfl⟩ := List.mem_map.mp hx
    have := h.right r hr
    unfold Up.right at this
    simp at this
    omega)
  simpa using this
theorem owe_le (lim : Nat) : ∀ (L : List Ru), owe lim L ≤ L.length * lim
  | [] => by simp [owe]
  | r :: L => by
    have h := owe_le lim L
    have e : owe lim (r :: L) = (lim - r.sent) + owe lim L := by simp [owe]
    rw [e, List.length_cons, Nat.succ_mul]; omega
theorem owe_zero {lim : Nat} {L : List Ru} (h : ∀ r ∈ L, r.sent < lim) (h0 : owe lim L = 0) : L = [] := by
  cases L with
  | nil => rfl
  | cons r L =>
    have e : owe lim (r :: L) = (lim - r.sent) + owe lim L := by simp [owe]
    have := h r (by simp)
    omega
structure Enough (u : Up) (lim k n : Nat) (q : Qu) : Prop where
  ok : q.ok
  sent : ∀ r ∈ q.L, r.sent < lim
  owes : owe lim q.L = 0 ∨ owe lim q.L + k ≤ 8 * lim
  stands : Stands u lim n q.L
theorem Enough.step {u : Up} {lim k n : Nat} {q : Qu} (h : Enough u lim k n q) : Enough u lim (k + 1) (n + countU u (q.take 2 lim).1) (q.take 2 lim).2 := by
  have hp := sortQ_perm (Go.Proofs.YtaicipldjmngaaaGreatDoor.ru.left 2 lim q.L)
  refine ⟨Qu.take_ok h.ok 2 lim, fun r hr => left_sent h.sent r (hp.subset hr), ?_, (h.stands.left h.ok.nodes h.sent).perm hp⟩
  have h1 := owe_left 2 lim q.L h.sent
  have h2 : owe lim (q.take 2 lim).2.L = owe lim (Go.Proofs.YtaicipldjmngaaaGreatDoor.ru.left 2 lim q.L) := owe_perm hp
  rw [h2]
  rcases h.owes with e | e
  · left; omega
  · by_cases h0 : q.L = []
    · left; rw [h0]; simp [owe, Go.Proofs.YtaicipldjmngaaaGreatDoor.ru.left]
    · have : 1 ≤ q.L.length := by cases hq : q.L with
        | nil => exact absurd hq h0
        | cons a b => simp
      right; omega
theorem Enough.done {u : Up} {lim k n : Nat} {q : Qu} (h : Enough u lim k n q) (hl : 1 ≤ lim) (hk : 9 * lim ≤ k) : q.L = [] ∧ n = lim := by
  have h0 : owe lim q.L = 0 := by rcases h.owes with e | e <;> omega
  have e := owe_zero h.sent h0
  refine ⟨e, ?_⟩
  rcases h.stands with ⟨r, hr, _⟩ | ⟨_, k⟩
  · rw [e] at hr; simp at hr
  · exact k
structure Ahead (n : Int) (q : Qu) : Prop where
  ok : q.ok
  sent : ∀ r ∈ q.L, r.sent = 0
  other : ∀ r ∈ q.L, r.u.node ≠ n
theorem Ahead.new (n m : Int) : Ahead n (Qu.new m) := ⟨Qu.new_ok m, by simp [Qu.new], by simp [Qu.new]⟩
theorem Qu.push_mem {q : Qu} {u : Up} {r : Ru} (h : r ∈ (q.push u).L) : r ∈ q.L ∨ r = ⟨u, 0, q.clock + 1⟩ := by
  unfold Qu.push at h
  split at h
  · rcases List.mem_cons.mp h with e | e
    · exact .inr e
    · exact .inl (List.mem_filter.mp e).1
  · exact .inl h
theorem Ahead.push {n : Int} {q : Qu} (h : Ahead n q) {x : Up} (hx : x.node ≠ n) : Ahead n (q.push x) := by
  refine ⟨Qu.push_ok h.ok x, ?_, ?_⟩
  · intro r hr; rcases Qu.push_mem hr with e | e
    · exact h.sent r e
    · rw [e]
  · intro r hr; rcases Qu.push_mem hr with e | e
    · exact h.other r e
    · rw [e]; exact hx
theorem Ahead.takes {q : Qu} {u : Up} (h : Ahead u.node q) (hr : u.right = true) : q.takes u = true := by
  unfold Qu.takes
  rw [hr]
  cases e : q.at_ u.node with
  | none => rfl
  | some r => exact absurd (Qu.at_mem e).2 (h.other r (Qu.at_mem e).1)
theorem Ahead.start {q : Qu} {u : Up} {lim : Nat} (h : Ahead u.node q) (hr : u.right = true) (hl : 1 ≤ lim) : Enough u lim 0 0 (q.push u) := by
  have ok := Qu.push_ok h.ok u
  refine ⟨ok, ?_, ?_, ?_⟩
  · intro r hr; rcases Qu.push_mem hr with e | e
    · have := h.sent r e; omega
    · rw [e]; exact hl
  · right
    have h1 := owe_le lim (q.push u).L
    have h2 := Nat.mul_le_mul_right lim (Qu.few ok)
    omega
  · refine .inl ⟨⟨u, 0, q.clock + 1⟩, ?_, rfl, rfl⟩
    unfold Qu.push
    rw [if_pos (h.takes hr)]
    simp
theorem digits_le : ∀ (f k n : Nat), n < 2 ^ k → digits f n ≤ k
  | 0, _, _, _ => Nat.zero_le _
  | f + 1, 0, n, h => by
    have : n = 0 := by simpa using h
    unfold digits; rw [if_pos this]; exact Nat.zero_le _
  | f + 1, k + 1, n, h => by
    unfold digits
    split
    · omega
    · have := digits_le f k (n / 2) (by rw [Nat.pow_succ] at h; omega)
      omega
theorem limitQ_le {mult : Nat} (h : mult ≤ 8) {members : Int} (hm : members ≤ 65535) : limitQ mult members ≤ 128 := by
  unfold limitQ
  have : digits 64 (if members < 1 then 1 else members.toNat) ≤ 16 := digits_le _ _ _ (by split <;> omega)
  calc _ ≤ 8 * 16 := Nat.mul_le_mul h this
    _ = 128 := rfl
end Go.Proofs.YtaicipldjmngaaaGreatDoor.ru
