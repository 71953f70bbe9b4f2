import Derived.Test.YtaicipldjmngaaaGreatDoorZj3
import Derived.Laws.CopyOwn
namespace Go.Proofs.YtaicipldjmngaaaGreatDoor
open Go.RowKit
set_option linter.unusedSimpArgs false
set_option linter.unusedVariables false
theorem below2 (w : World) (o p : Obj) : Below w.heap.size w ((w.alloc o).alloc p) := ((Below.refl _ w).alloc (Nat.le_refl _) _).alloc (by simp) _
theorem below1 (w : World) (o : Obj) : Below w.heap.size w (w.alloc o) := (Below.refl _ w).alloc (Nat.le_refl _) _
theorem ret_bool {a b : Bool} (h : a = b) : Ending.returned (.bool a) = .returned (.bool b) := by rw [h]
theorem Up.right_iff (u : Up) : u.right = true ↔ 0 ≤ u.node ∧ u.node < 8 ∧ (u.st = 0 ∨ u.st = 1 ∨ u.st = 2 ∨ u.st = 3) := by unfold Up.right; simp
theorem set3_blk {W : World} {X : Nat} {u0 u1 u2 : Value} {t : TypeId} (h : W.heap[X]? = some (.cells #[u0, u1, u2] t (0, 0))) (a b c : Value) :
    (((W.setCell ⟨X, 0, none⟩ a).setCell ⟨X, 1, none⟩ b).setCell ⟨X, 2, none⟩ c).heap[X]? = some (.cells #[a, b, c] t (0, 0)) := block_set (block_set (block_set h 0 a) 1 b) 2 c
theorem blk3 {W : World} {X : Nat} {a b c : Value} {t : TypeId} (h : W.heap[X]? = some (.cells #[a, b, c] t (0, 0))) : W.cell? ⟨X, 0, none⟩ = some a ∧ W.cell? ⟨X, 1, none⟩ = some b ∧ W.cell? ⟨X, 2, none⟩ = some c := by
  refine ⟨?_, ?_, ?_⟩ <;> (rw [cell_of_row _ _ _ _ _ _ h]; rfl)
theorem blk_froz {W : World} {X : Nat} {cur : Array Value} {t : TypeId} (h : W.heap[X]? = some (.cells cur t (0, 0))) (i : Nat) : W.frozen? ⟨X, i, none⟩ = false := by simp [World.frozen?, h]
theorem UpAt.below {w w' : World} {X o : Nat} {x : Up} (h : UpAt w X o x) (hb : Below w.heap.size w w') : UpAt w' X o x := by
  have hlt : X < w.heap.size := bcell_lt h.1
  exact h.of_block (hb.block X hlt)
theorem wpList_append_up {w : World} {ops : Array Oper} {rest : List Oper} {o : Oper} {a : Act} {Q : Exit → Act → World → Prop} (hgd : o.guard = none) (s x : Operand)
    (ho : o.op = .call { callee := .builtin .append, args := #[s, x], argTypes := #[43, 43] })
    (base : Nat) (v : Value) (l : List Up) (hs : a.eval s = v) (hown : upRow w base v l) (X : Nat) (y : Up) (hx : a.eval x = .slice (some ⟨X, 0, none⟩) 1 1) (hc : UpAt w X 0 y)
    (hl : l.length ≤ 1000) (hbase : base ≤ w.heap.size)
    (h : Hid (∀ v' w', upRow w' base v' (l ++ [y]) → w.grownBy w' v.ownBlock → wpList Tryz.prog ops Q rest (a.put o.dst v') w')) : wpList Tryz.prog ops Q (o :: rest) a w := by
  obtain ⟨i0, hi, hz0, hz1, hz2⟩ := info_parts up_info
  refine wpList_append_own w hgd s x _ ho base 63 i0 _ 3 24 Tryz.underlying43 hi hz0 hz1 hz2 up_zc (by decide) v l.length (upsC l) hs hown ⟨X, 0, none⟩ 1 1 (upC y) hx rfl (fun j u hu => ?_) (fun u hu => upsC_one [y] u (by simpa [upsC] using hu)) (by unfold maxLen; omega) (by omega) hbase (fun v' w' h2 h3 _ => h.out v' w' ?_ h3)
  · rw [plain_add, Nat.zero_add]
    obtain ⟨h0, h1, h2⟩ := hc
    match j, hu with
    | 0, hu => simp only [upC, List.getElem?_cons_zero, Option.some.injEq] at hu; subst hu; exact h0
    | 1, hu => simp only [upC, List.getElem?_cons_succ, List.getElem?_cons_zero, Option.some.injEq] at hu; subst hu; exact h1
    | 2, hu => simp only [upC, List.getElem?_cons_succ, List.getElem?_cons_zero, Option.some.injEq] at hu; subst hu; exact h2
  · unfold upRow
    rw [upsC_append, List.length_append]
    have e : upsC [y] = upC y := by simp [upsC]
    rw [e]
    exact h2
end Go.Proofs.YtaicipldjmngaaaGreatDoor

namespace Go.Proofs.YtaicipldjmngaaaGreatDoor
open Go.RowKit
set_option linter.unusedSimpArgs false
set_option linter.unusedVariables false
set_option maxHeartbeats 4000000 in
theorem pright_any (a : Up) (w : World) (r : Bool) (hr : a.right = r) :
    Calls Tryz.prog 112 #[.agg #[.int .i64 a.node, .int .u32 (a.inc : Int), .int .i64 a.st]] w fun e w' => e = .returned (.bool r) ∧ Below w.heap.size w w' := by
  have h0 := Up.right_iff a
  rw [hr] at h0
  have HI := Lib.hid h0
  clear h0 hr
  obtain ⟨na, ia, sa⟩ := a
  simp only at HI ⊢
  go_enter Tryz.func112, Tryz.ntmps112
  go_wp2
  all_goals go_ret
  all_goals refine ⟨ret_bool ?_, below1 _ _⟩
  all_goals (first | (rw [Bool.eq_iff_iff, HI.out]; simp_all <;> omega) | skip)
end Go.Proofs.YtaicipldjmngaaaGreatDoor

namespace Go.Proofs.YtaicipldjmngaaaGreatDoor
open Go.RowKit
set_option linter.unusedSimpArgs false
set_option linter.unusedVariables false
set_option maxHeartbeats 2000000 in
theorem pabove_any (a b : Up) (w : World) (r : Bool) (hr : a.above b = r) :
    Calls Tryz.prog 28 #[.agg #[.int .i64 a.node, .int .u32 (a.inc : Int), .int .i64 a.st], .agg #[.int .i64 b.node, .int .u32 (b.inc : Int), .int .i64 b.st]] w fun e w' => e = .returned (.bool r) ∧ Below w.heap.size w w' := by
  have h0 := Up.above_iff a b
  rw [hr] at h0
  have HI := Lib.hid h0
  clear h0 hr
  obtain ⟨na, ia, sa⟩ := a
  obtain ⟨nb, ib, sb⟩ := b
  simp only at HI ⊢
  go_enter Tryz.func28, Tryz.ntmps28
  go_wp2
  all_goals go_ret
  all_goals refine ⟨ret_bool ?_, below2 _ _ _⟩
  all_goals (first | (rw [Bool.eq_iff_iff, HI.out]; simp_all <;> omega) | skip)
end Go.Proofs.YtaicipldjmngaaaGreatDoor

namespace Go.Proofs.YtaicipldjmngaaaGreatDoor
open Go.RowKit
set_option linter.unusedSimpArgs false
set_option linter.unusedVariables false
end Go.Proofs.YtaicipldjmngaaaGreatDoor

namespace Go.Proofs.YtaicipldjmngaaaGreatDoor
open Go.RowKit
set_option linter.unusedSimpArgs false
set_option linter.unusedVariables false
end Go.Proofs.YtaicipldjmngaaaGreatDoor

namespace Go.Proofs.YtaicipldjmngaaaGreatDoor
open Go.RowKit
set_option linter.unusedSimpArgs false
set_option linter.unusedVariables false
set_option maxHeartbeats 4000000 in
theorem prefute_any (own : Nat) (u : Up) (w : World) (r k : Nat) (h : refuteN own u.inc = (r, k)) (ho : own ≤ 4294967295) (hi : u.inc ≤ 4294967295) :
    Calls Tryz.prog 218 #[.int .u32 (own : Int), .agg #[.int .i64 u.node, .int .u32 (u.inc : Int), .int .i64 u.st]] w fun e w' => e = .returned (.tuple #[.int .u32 (r : Int), .int .i64 (k : Int)]) ∧ Below w.heap.size w w' := by
  obtain ⟨nu, iu, su⟩ := u
  simp only at h hi ⊢
  unfold refuteN at h
  by_cases hlt : own < iu
  · by_cases hmax : iu = 4294967295
    · rw [if_pos (by omega)] at h
      obtain ⟨rfl, rfl⟩ := Prod.mk.inj h
      have z : ((iu : Int) == 4294967295) = true := by rw [beq_iff_eq]; omega
      have h1 : (iu : Int) ≤ 4294967295 := by omega
      have h2 : (4294967295 : Int) ≤ (iu : Int) := by omega
      have h3 : (own : Int) ≤ 4294967295 := by omega
      clear hmax ho hi h
      clear h3 h2
      go_enter Tryz.func218, Tryz.ntmps218
      go_wp2
      go_ret2
      exact ⟨by simp, below1 _ _⟩
    · rw [if_neg (by omega)] at h
      obtain ⟨rfl, rfl⟩ := Prod.mk.inj h
      have z : ((iu : Int) == 4294967295) = false := by rw [beq_eq_false_iff_ne]; omega
      have h1 : (iu : Int) < 4294967295 := by omega
      have hmx : max own iu = iu := by omega
      rw [hmx]
      have h3 : (own : Int) ≤ 4294967295 := by omega
      clear hmax ho hi h hmx
      clear h3
      go_enter Tryz.func218, Tryz.ntmps218
      go_wp2
      go_ret2
      exact ⟨by simp, below1 _ _⟩
  · by_cases hmax : own = 4294967295
    · rw [if_pos (by omega)] at h
      obtain ⟨rfl, rfl⟩ := Prod.mk.inj h
      have z : ((own : Int) == 4294967295) = true := by rw [beq_iff_eq]; omega
      have h1 : (own : Int) ≤ 4294967295 := by omega
      have h2 : (4294967295 : Int) ≤ (own : Int) := by omega
      have h3 : (iu : Int) ≤ 4294967295 := by omega
      clear hmax ho hi h
      clear h3 h2
      go_enter Tryz.func218, Tryz.ntmps218
      go_wp2
      go_ret2
      exact ⟨by simp, below1 _ _⟩
    · rw [if_neg (by omega)] at h
      obtain ⟨rfl, rfl⟩ := Prod.mk.inj h
      have z : ((own : Int) == 4294967295) = false := by rw [beq_eq_false_iff_ne]; omega
      have h1 : (own : Int) < 4294967295 := by omega
      have hmx : max own iu = own := by omega
      rw [hmx]
      have h3 : (iu : Int) ≤ 4294967295 := by omega
      clear hmax ho hi h hmx
      clear h3
      go_enter Tryz.func218, Tryz.ntmps218
      go_wp2
      go_ret2
      exact ⟨by simp, below1 _ _⟩
end Go.Proofs.YtaicipldjmngaaaGreatDoor

namespace Go.Proofs.YtaicipldjmngaaaGreatDoor
open Go.RowKit
set_option linter.unusedSimpArgs false
set_option linter.unusedVariables false
end Go.Proofs.YtaicipldjmngaaaGreatDoor

namespace Go.Proofs.YtaicipldjmngaaaGreatDoor
open Go.RowKit
set_option linter.unusedSimpArgs false
set_option linter.unusedVariables false
end Go.Proofs.YtaicipldjmngaaaGreatDoor

namespace Go.Proofs.YtaicipldjmngaaaGreatDoor
open Go.RowKit
set_option linter.unusedSimpArgs false
end Go.Proofs.YtaicipldjmngaaaGreatDoor

namespace Go.Proofs.YtaicipldjmngaaaGreatDoor
open Go.RowKit
set_option linter.unusedSimpArgs false
set_option linter.unusedVariables false
end Go.Proofs.YtaicipldjmngaaaGreatDoor

namespace Go.Proofs.YtaicipldjmngaaaGreatDoor
open Go.RowKit
set_option linter.unusedSimpArgs false
set_option linter.unusedVariables false
end Go.Proofs.YtaicipldjmngaaaGreatDoor

namespace Go.Proofs.YtaicipldjmngaaaGreatDoor
open Go.RowKit
set_option linter.unusedSimpArgs false
set_option linter.unusedVariables false
end Go.Proofs.YtaicipldjmngaaaGreatDoor

namespace Go.Proofs.YtaicipldjmngaaaGreatDoor
open Go.RowKit
set_option linter.unusedSimpArgs false
set_option linter.unusedVariables false
theorem SUp.lt {w : World} {A : Option Addr} {n : Nat} {ss : List Up} (h : SUp w A n ss) (hn : 0 < n) {b off : Nat} (e : A = some ⟨b, off, none⟩) : b < w.heap.size := by
  obtain ⟨b', off', e', hlt, _⟩ := h.2 hn
  rw [e] at e'
  simp only [Option.some.injEq, Addr.mk.injEq] at e'
  omega
end Go.Proofs.YtaicipldjmngaaaGreatDoor

namespace Go.Proofs.YtaicipldjmngaaaGreatDoor
open Go.RowKit
set_option linter.unusedSimpArgs false
set_option linter.unusedVariables false
def JoinPost (w : World) (j : List Up) (e : Ending) (w' : World) : Prop := ∃ A c, e = .returned (.slice A j.length c) ∧ SUp w' A j.length j ∧ j.length ≤ c ∧ c ≤ maxLen ∧ Below w.heap.size w w'
theorem JoinPost.of {w : World} {j : List Up} {e : Ending} {w' : World} (h : (∃ v, e = .returned v ∧ upRow w' w.heap.size v j) ∧ Below w.heap.size w w') : JoinPost w j e w' := by
  obtain ⟨⟨v, rfl, hv⟩, hb⟩ := h
  obtain ⟨A, c, rfl, h1, h2, h3⟩ := SUp.of_row hv
  exact ⟨A, c, rfl, h1, h2, h3, hb⟩
end Go.Proofs.YtaicipldjmngaaaGreatDoor
