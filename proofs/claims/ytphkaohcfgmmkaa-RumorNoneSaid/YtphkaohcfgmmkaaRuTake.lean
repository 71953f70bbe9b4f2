/-
  Take of the program's queue: what a round does to the map, in plain words; no queue (layer 10).
-/
import Derived.Test.YtphkaohcfgmmkaaRuList
import Derived.Test.YtphkaohcfgmmkaaRuPush
namespace Go.Proofs.Ytphkaohcfgmmkaa
open Go.RowKit Go.Maps
set_option linter.unusedSimpArgs false
set_option linter.unusedVariables false

theorem atL_append (F G : List Ru) (n : Int) : atL (F ++ G) n = (atL F n).or (atL G n) := by unfold atL; rw [List.find?_append]
theorem atL_cons (x : Ru) (G : List Ru) (n : Int) : atL (x :: G) n = if x.u.node = n then some x else atL G n := by
  unfold atL
  rw [List.find?_cons]
  by_cases h : x.u.node = n <;> simp [h]
theorem atL_out {F : List Ru} {n : Int} (h : ∀ r ∈ F, r.u.node ≠ n) : atL F n = none := by
  cases e : atL F n with
  | none => rfl
  | some r => exact absurd (atL_mem e).2 (h r (atL_mem e).1)
theorem left_now (lim : Nat) {L : List Ru} {k : Nat} (hk : k < L.length) : left k lim L = ((L.take k).map Ru.more).filter (fun r => decide (r.sent < lim)) ++ L[k] :: L.drop (k + 1) := by
  unfold left
  rw [List.drop_eq_getElem_cons hk]
theorem left_next (lim : Nat) {L : List Ru} {k : Nat} (hk : k < L.length) : left (k + 1) lim L = ((L.take k).map Ru.more).filter (fun r => decide (r.sent < lim)) ++ ((if L[k].sent + 1 < lim then [L[k].more] else []) ++ L.drop (k + 1)) := by
  unfold left
  rw [List.take_succ_eq_append_getElem hk, List.map_append, List.filter_append, List.append_assoc]
  congr 2
  rw [List.map_cons, List.map_nil, List.filter_cons]
  by_cases h : L[k].sent + 1 < lim
  · rw [if_pos h, if_pos (by rw [decide_eq_true_iff]; exact h)]
    rfl
  · rw [if_neg h, if_neg (by rw [decide_eq_true_iff]; exact h)]
    rfl
/-- What a round of Take does to the map. -/
theorem left_at (lim : Nat) {L : List Ru} (hd : (L.map (·.u.node)).Nodup) {k : Nat} (hk : k < L.length) (n : Int) :
    atL (left (k + 1) lim L) n = putR (atL (left k lim L)) L[k].u.node (if L[k].sent + 1 < lim then some L[k].more else none) n := by
  have hn : ((left k lim L).map (·.u.node)).Nodup := (left_sub (·.u.node) (fun _ => rfl) k lim L).nodup hd
  rw [left_now lim hk, List.map_append, List.map_cons] at hn
  rw [left_next lim hk, left_now lim hk]
  obtain ⟨F, hF⟩ : ∃ F, ((L.take k).map Ru.more).filter (fun r => decide (r.sent < lim)) = F := ⟨_, rfl⟩
  rw [hF] at hn ⊢
  obtain ⟨x, hx⟩ : ∃ x, L[k] = x := ⟨_, rfl⟩
  rw [hx] at hn ⊢
  have hn2 := List.nodup_append.1 hn
  have h1 : ∀ r ∈ F, r.u.node ≠ x.u.node := fun r hr e => hn2.2.2 _ (List.mem_map.2 ⟨r, hr, rfl⟩) _ (by rw [e]; simp) rfl
  have h2 : ∀ r ∈ L.drop (k + 1), r.u.node ≠ x.u.node := fun r hr e => by
    have := List.nodup_cons.1 hn2.2.1
    exact this.1 (List.mem_map.2 ⟨r, hr, e⟩)
  by_cases e : n = x.u.node
  · subst e
    rw [putR_same, atL_append, atL_out h1, Option.none_or, atL_append, atL_out h2]
    by_cases hl : x.sent + 1 < lim
    · rw [if_pos hl, if_pos hl, atL_cons, if_pos (show x.more.u.node = x.u.node from rfl)]; rfl
    · rw [if_neg hl, if_neg hl]; rfl
  · have e' : ¬ x.u.node = n := fun h => e h.symm
    rw [putR_other _ _ e, atL_append, atL_append, atL_append, atL_cons (G := L.drop (k + 1)), if_neg e']
    by_cases hl : x.sent + 1 < lim
    · rw [if_pos hl, atL_cons, if_neg (show ¬ x.more.u.node = n from e')]; rfl
    · rw [if_neg hl]; rfl
theorem left_len (lim : Nat) (L : List Ru) (k : Nat) : (left k lim L).length ≤ L.length := by
  have := (left_sub (·.u.node) (fun _ => rfl) k lim L).length_le
  simpa using this
theorem left_nodes {L : List Ru} (h : (L.map (·.u.node)).Nodup) (lim k : Nat) : ((left k lim L).map (·.u.node)).Nodup := (left_sub (·.u.node) (fun _ => rfl) k lim L).nodup h
theorem left_wf {L : List Ru} (h : ∀ r ∈ L, wfI r.u.node) (lim k : Nat) : ∀ r ∈ left k lim L, wfI r.u.node := fun r hr => by
  obtain ⟨s, hs, e, _⟩ := left_mem hr
  rw [e]; exact h s hs
theorem left_zero (lim : Nat) (L : List Ru) : left 0 lim L = L := by unfold left; simp
theorem take_cut (q : Qu) (m lim : Nat) : q.take (min m q.L.length) lim = q.take m lim := by
  have e : ∀ L : List Ru, L.take (min m L.length) = L.take m := fun L => by
    rcases Nat.le_total m L.length with h | h
    · rw [Nat.min_eq_left h]
    · rw [Nat.min_eq_right h, List.take_of_length_le (Nat.le_refl _), List.take_of_length_le h]
  have e2 : ∀ L : List Ru, L.drop (min m L.length) = L.drop m := fun L => by
    rcases Nat.le_total m L.length with h | h
    · rw [Nat.min_eq_left h]
    · rw [Nat.min_eq_right h, List.drop_of_length_le (Nat.le_refl _), List.drop_of_length_le h]
  unfold Qu.take left
  rw [e, e2]
/-- The queue between two rounds of Take. -/
structure TkAt (w : World) (B M : Nat) (q : Qu) (lim k : Nat) : Prop where
  blk : w.heap[B]? = some (.cells #[.int .i64 (q.mult : Int), .int .i64 (q.clock : Int), .map (some M)] 47 (0, 0))
  map : QMap w M (atL (left k lim q.L)) (left k lim q.L).length
theorem TkAt.keep {w w' : World} {B M : Nat} {q : Qu} {lim k : Nat} (h : TkAt w B M q lim k) (h1 : w'.heap[B]? = w.heap[B]?) (h2 : w'.heap[M]? = w.heap[M]?) : TkAt w' B M q lim k := ⟨h1.trans h.blk, h.map.block h2⟩
theorem TkAt.lt {w : World} {B M : Nat} {q : Qu} {lim k : Nat} (h : TkAt w B M q lim k) : B < w.heap.size ∧ M < w.heap.size := ⟨block_lt h.blk, h.map.lt⟩
theorem TkAt.below {w w' : World} {B M : Nat} {q : Qu} {lim k : Nat} (h : TkAt w B M q lim k) (hb : Below w.heap.size w w') : TkAt w' B M q lim k := h.keep (hb.block B h.lt.1) (hb.block M h.lt.2)
theorem TkAt.start {w : World} {B M : Nat} {q : Qu} (lim : Nat) (h : QuAt w B M q) : TkAt w B M q lim 0 := ⟨h.blk, by rw [left_zero]; exact h.map⟩
theorem TkAt.done {w : World} {B M : Nat} {q : Qu} {lim m : Nat} (h : TkAt w B M q lim m) (hok : q.ok) : QuAt w B M (q.take m lim).2 := by
  have hk := Qu.take_ok hok m lim
  have hp := sortQ_perm (left m lim q.L)
  refine ⟨h.blk, ?_, hk⟩
  have h1 : QMap w M (atL (q.take m lim).2.L) (left m lim q.L).length := h.map.congr (fun n _ => (atL_perm hp hk.nodes n).symm)
  exact QMap.count h1 hk.nodes hk.wf
/-- The map's change is a round's. -/
theorem TkAt.step {w' : World} {B M : Nat} {q : Qu} {lim k n : Nat} (hok : q.ok) (hk : k < q.L.length) (hm : QMap w' M (putR (atL (left k lim q.L)) q.L[k].u.node (if q.L[k].sent + 1 < lim then some q.L[k].more else none)) n)
    (hB : w'.heap[B]? = some (.cells #[.int .i64 (q.mult : Int), .int .i64 (q.clock : Int), .map (some M)] 47 (0, 0))) : TkAt w' B M q lim (k + 1) :=
  ⟨hB, QMap.count (hm.congr (fun n _ => (left_at lim hok.nodes hk n).symm)) (left_nodes hok.nodes lim _) (left_wf hok.wf lim _)⟩
theorem upRow_cells {w : World} {base : Nat} {v : Value} {l : List Up} (h : upRow w base v l) {b : Nat} (hb : v.ownBlock = some b) : ∃ cur, w.heap[b]? = some (.cells cur 29 (0, 0)) := by
  rcases h.2 with ⟨rfl, _⟩ | ⟨g, cap, cur, rfl, _, hh, _⟩
  · cases hb
  · cases hb
    exact ⟨cur, hh⟩
theorem rowK_from {w : World} {base : Nat} {v : Value} {l : List Up} (h : upRow w base v l) : ∀ r, v.ownBlock = some r → base ≤ r := fun r hr => by
  rcases h.2 with ⟨rfl, _⟩ | ⟨g, _, _, rfl, hg, hh, _⟩
  · cases hr
  · cases hr
    exact hg
/-- What Take leaves. -/
def TakePost (w : World) (B M : Nat) (q : Qu) (m lim : Nat) (e : Ending) (w' : World) : Prop := ∃ v, e = .returned v ∧ upRow w' w.heap.size v (q.take m lim).1 ∧ QuAt w' B M (q.take m lim).2 ∧ ButQ B M w w'
theorem take_no (v : Value) (a b : Int) (w : World) (h : NoQu w v) : Calls Try.prog 8 #[v, .int .i64 a, .int .i64 b] w fun e w' => e = .returned (.slice none 0 0) ∧ w = w' := by
  have HM := Lib.hid (made_no v w h)
  clear h
  go_enter Try.func8, Try.ntmps8
  go_wp2_with fail
  refine HM.out.mono ?_
  rintro e w' ⟨rfl, rfl⟩
  go_wp2
  go_ret
  exact ⟨rfl, rfl⟩
end Go.Proofs.Ytphkaohcfgmmkaa
