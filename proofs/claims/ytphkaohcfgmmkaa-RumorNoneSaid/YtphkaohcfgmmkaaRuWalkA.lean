/-
  made, New, Values of the program's queue's map, walked (layer 10).
-/
import Derived.Test.YtphkaohcfgmmkaaRuMem
import Derived.WalkSpells
namespace Go.Proofs.Ytphkaohcfgmmkaa
open Go.RowKit Go.Maps
set_option linter.unusedSimpArgs false
set_option linter.unusedVariables false

theorem made_no (v : Value) (w : World) (h : NoQu w v) : Calls Try.prog 15 #[v] w fun e w' => e = .returned (.bool false) ∧ w = w' := by
  rcases h with rfl | ⟨B, rfl, hh⟩
  · go_enter Try.func15, Try.ntmps15
    go_wp2
    go_ret
    exact ⟨rfl, rfl⟩
  · have c1 : w.cell? ⟨B, 2, none⟩ = some (.map none) := by rw [cell_of_row _ _ _ _ _ _ hh]; rfl
    have HH := Lib.hid hh
    clear hh
    have qM := fun (w : World) (r : Option Nat) => run_neq_map_nil (P := Try.prog) w 45 3 53 r Try.underlying45
    go_enter Try.func15, Try.ntmps15
    go_wp2
    go_ret
    exact ⟨rfl, rfl⟩
theorem made_yes {B M : Nat} {q : Qu} (w : World) (h : QuAt w B M q) : Calls Try.prog 15 #[.pointer (some ⟨B, 0, none⟩)] w fun e w' => e = .returned (.bool true) ∧ w = w' := by
  have c1 := h.c2
  clear h
  have qM := fun (w : World) (r : Option Nat) => run_neq_map_nil (P := Try.prog) w 45 3 53 r Try.underlying45
  go_enter Try.func15, Try.ntmps15
  go_wp2
  go_ret
  exact ⟨rfl, rfl⟩
theorem clampQ_eq (m : Int) : min (max m 1) 8 = (clampQ m : Int) := by
  unfold clampQ
  split
  · omega
  · split <;> omega
set_option maxHeartbeats 4000000 in
theorem new_any (m : Int) (w : World) : Calls Try.prog 6 #[.int .i64 m] w fun e w' => ∃ B M, e = .returned (.pointer (some ⟨B, 0, none⟩)) ∧ QuAt w' B M (Qu.new m) ∧ w.heap.size ≤ B ∧ w.heap.size ≤ M ∧ Below w.heap.size w w' := by
  have hmm := @run_makeMap Try.prog
  have hm0 := QMap.made w
  have HM0 := Lib.hid hm0
  have HC := Lib.hid (clampQ_eq m)
  clear hm0
  go_enter Try.func6, Try.ntmps6
  go_wp2
  go_ret
  have hs : (w.alloc (.map #[] 0)).heap.size = w.heap.size + 1 := by simp
  refine ⟨_, _, rfl, ⟨?_, ?_, Qu.new_ok m⟩, by omega, Nat.le_refl _, ((Below.refl _ w).alloc (Nat.le_refl _) _).alloc (by simp) _⟩
  · have := heap_alloc_new (w.alloc (.map #[] 0)) (.cells #[.int .i64 (clampQ m : Int), .int .i64 0, .map (some w.heap.size)] 47)
    show _ = some (Obj.cells #[.int .i64 ((clampQ m : Nat) : Int), .int .i64 0, .map (some w.heap.size)] 47)
    rw [← HC.out, hs] at this
    rw [← HC.out]
    exact this
  · exact HM0.out.block (heap_alloc_old _ _ HM0.out.lt)
theorem values_any (mb : Option Nat) (w : World) : Calls Try.prog 19 #[.map mb] w fun e w' => e = .returned (.func (.func 27) #[] #[.pointer (some ⟨w.heap.size, 0, none⟩)]) ∧ w' = w.alloc (.cells #[.map mb] 45) := by
  go_enter Try.func19, Try.ntmps19
  go_wp2
  go_ret
  exact ⟨rfl, rfl⟩
/-- cmp.Or of two. -/
def orI (x y : Int) : Int := if x = 0 then y else x
set_option maxHeartbeats 4000000 in
theorem or_any (x y : Int) (X : Nat) (w : World) (h0 : w.cell? ⟨X, 0, none⟩ = some (.int .i64 x)) (h1 : w.cell? ⟨X, 1, none⟩ = some (.int .i64 y)) :
    Calls Try.prog 21 #[.slice (some ⟨X, 0, none⟩) 2 2] w fun e w' => e = .returned (.int .i64 (orI x y)) ∧ w = w' := by
  by_cases hx : x = 0
  · have e : orI x y = y := by unfold orI; rw [if_pos hx]
    rw [e]
    subst hx
    clear e
    by_cases hy : y = 0
    · subst hy
      go_enter Try.func21, Try.ntmps21
      go_wp2
      refine wp_loop_rounds 3 ?_
      rw [rounds_succ]
      go_wp2
      rw [rounds_succ]
      go_wp2
      rw [rounds_succ]
      go_wp2
      go_ret
      exact ⟨rfl, rfl⟩
    · have zy : (y != 0) = true := by simpa using hy
      clear hy
      go_enter Try.func21, Try.ntmps21
      go_wp2
      refine wp_loop_rounds 2 ?_
      rw [rounds_succ]
      go_wp2
      rw [rounds_succ]
      go_wp2
      go_ret
      exact ⟨rfl, rfl⟩
  · have e : orI x y = x := by unfold orI; rw [if_neg hx]
    rw [e]
    have zx : (x != 0) = true := by simpa using hx
    clear hx e
    go_enter Try.func21, Try.ntmps21
    go_wp2
    refine wp_loop_rounds 1 ?_
    rw [rounds_succ]
    go_wp2
    go_ret
    exact ⟨rfl, rfl⟩
end Go.Proofs.Ytphkaohcfgmmkaa
