/-
  Push of the program's queue, walked (layer 10).
-/
import Derived.Test.YtphkaohcfgmmkaaRuHas
namespace Go.Proofs.Ytphkaohcfgmmkaa
open Go.RowKit Go.Maps
set_option linter.unusedSimpArgs false
set_option linter.unusedVariables false

theorem push_at {q : Qu} (h : q.ok) {u : Up} (ht : q.takes u = true) (n : Int) : atL (q.push u).L n = putR (atL q.L) u.node (some ⟨u, 0, q.clock + 1⟩) n := by
  have hn := (Qu.push_ok h u).nodes
  unfold Qu.push at hn ⊢
  rw [if_pos ht] at hn ⊢
  apply Option.ext
  intro r
  rw [atL_iff hn]
  by_cases e : n = u.node
  · subst e
    rw [putR_same]
    constructor
    · rintro ⟨h1, h2⟩
      rcases List.mem_cons.1 h1 with h3 | h3
      · rw [h3]
      · have := (List.mem_filter.1 h3).2
        simp at this
        exact absurd h2 this
    · intro h1
      cases h1
      exact ⟨by simp, rfl⟩
  · rw [putR_other _ _ e, atL_iff h.nodes]
    constructor
    · rintro ⟨h1, h2⟩
      rcases List.mem_cons.1 h1 with h3 | h3
      · rw [h3] at h2
        exact absurd h2.symm e
      · exact ⟨(List.mem_filter.1 h3).1, h2⟩
    · rintro ⟨h1, h2⟩
      exact ⟨List.mem_cons_of_mem _ (List.mem_filter.2 ⟨h1, by simp; rw [h2]; exact e⟩), h2⟩
theorem push_at_none {q : Qu} {u : Up} (hr : u.right = true) (h : atL q.L u.node = none) : q.takes u = true := by
  unfold Qu.takes
  rw [hr, Qu.at_eq, h]
  rfl
theorem push_at_some {q : Qu} {u : Up} {r : Ru} (hr : u.right = true) (h : atL q.L u.node = some r) : q.takes u = u.above r.u := by
  unfold Qu.takes
  rw [hr, Qu.at_eq, h]
  rfl
/-- But for the queue's two blocks nothing changes. -/
abbrev ButQ (B M : Nat) : World → World → Prop := But (fun k => k = B ∨ k = M)
def PushPost (w : World) (B M : Nat) (q : Qu) (u : Up) (e : Ending) (w' : World) : Prop := e = .returned (.bool (q.takes u)) ∧ QuAt w' B M (q.push u) ∧ ButQ B M w w'
theorem push_no (v : Value) (u : Up) (w : World) (h : NoQu w v) : Calls Try.prog 9 #[v, .agg #[.int .i64 u.node, .int .u32 (u.inc : Int), .int .i64 u.st]] w fun e w' => e = .returned (.bool false) ∧ Below w.heap.size w w' := by
  have HM := Lib.hid (made_no v _ (h.below (below1 w (.cells #[.int .i64 u.node, .int .u32 (u.inc : Int), .int .i64 u.st] 29))))
  clear h
  go_enter Try.func9, Try.ntmps9
  go_wp2_with fail
  refine HM.out.mono ?_
  rintro e w' ⟨rfl, rfl⟩
  go_wp2
  go_ret
  exact ⟨rfl, below1 _ _⟩
/-- The queue behind the pushed update's two stores. -/
theorem QuAt.pushed {w w1 w2 : World} {B M : Nat} {q : Qu} {u : Up} (h : QuAt w B M q) (ht : q.takes u = true) (h1 : w1 = w.setCell ⟨B, 1, none⟩ (.int .i64 ((q.clock + 1 : Nat) : Int))) (h2 : QMap w2 M (putR (atL q.L) u.node (some ⟨u, 0, q.clock + 1⟩)) (q.L.length + 1)) (hg : w1.grownBy w2 (some M)) : QuAt w2 B M (q.push u) ∧ ButQ B M w w2 := by
  have hok := Qu.push_ok h.ok u
  have hb1 : But (· = B) w w1 := by rw [h1]; exact But.set (S := (· = B)) _ (p := ⟨B, 1, none⟩) rfl _
  have hb2 : But (· = M) w1 w2 := But.of_grown hg (fun r e _ => by cases e; rfl)
  refine ⟨⟨?_, ?_, hok⟩, (hb1.mono (fun k e => .inl e)).trans (hb2.mono (fun k e => .inr e))⟩
  · rw [hb2.block B (Nat.lt_of_lt_of_le h.lt.1 hb1.size) h.ne, h1, block_set h.blk 1 _]
    have e1 : (q.push u).mult = q.mult := q.push_mult u
    have e2 : (q.push u).clock = q.clock + 1 := by unfold Qu.push; rw [if_pos ht]
    rw [e1, e2]
    rfl
  · exact QMap.count (h2.congr (fun n _ => (push_at h.ok ht n).symm)) hok.nodes hok.wf
end Go.Proofs.Ytphkaohcfgmmkaa
