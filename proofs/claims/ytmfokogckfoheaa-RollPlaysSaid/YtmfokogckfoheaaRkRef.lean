/-
  Both Refutes; blocks of three cells (layer 8; without the laws of layer 8).
-/
import Derived.Test.YtmfokogckfoheaaRkWalkA
namespace Go.Proofs.Ytmfokogckfoheaa
open Go.RowKit
set_option linter.unusedSimpArgs false
set_option linter.unusedVariables false

theorem wrap_u64 (n : Nat) (h : n < 18446744073709551616) : IntKind.u64.wrap (n : Int) = (n : Int) := by
  simp [IntKind.wrap, IntKind.signed, IntKind.bits]
  omega
theorem wrap_u32 (n : Nat) (h : n < 4294967296) : IntKind.u32.wrap (n : Int) = (n : Int) := by
  simp [IntKind.wrap, IntKind.signed, IntKind.bits]
  omega
theorem set3_blk {W : World} {X : Nat} {u0 u1 u2 : Value} {t : TypeId} (h : W.heap[X]? = some (.cells #[u0, u1, u2] t (0, 0))) (a b c : Value) :
    (((W.setCell ⟨X, 0, none⟩ a).setCell ⟨X, 1, none⟩ b).setCell ⟨X, 2, none⟩ c).heap[X]? = some (.cells #[a, b, c] t (0, 0)) := block_set (block_set (block_set h 0 a) 1 b) 2 c
theorem blk3 {W : World} {X : Nat} {a b c : Value} {t : TypeId} (h : W.heap[X]? = some (.cells #[a, b, c] t (0, 0))) : W.cell? ⟨X, 0, none⟩ = some a ∧ W.cell? ⟨X, 1, none⟩ = some b ∧ W.cell? ⟨X, 2, none⟩ = some c := by
  refine ⟨?_, ?_, ?_⟩ <;> (rw [cell_of_row _ _ _ _ _ _ h]; rfl)
theorem blk_froz {W : World} {X : Nat} {cur : Array Value} {t : TypeId} (h : W.heap[X]? = some (.cells cur t (0, 0))) (i : Nat) : W.frozen? ⟨X, i, none⟩ = false := by simp [World.frozen?, h]
theorem UpAt.below {w w' : World} {X o : Nat} {x : Up} (h : UpAt w X o x) (hb : Below w.heap.size w w') : UpAt w' X o x := by
  have hlt : X < w.heap.size := bcell_lt h.1
  exact h.of_block (hb.block X hlt)
set_option maxHeartbeats 4000000 in
theorem prefute_any (own : Nat) (u : Up) (w : World) (r k : Nat) (h : refuteN own u.inc = (r, k)) (ho : own ≤ 4294967295) (hi : u.inc ≤ 4294967295) :
    Calls Try.prog 39 #[.int .u32 (own : Int), .agg #[.int .i64 u.node, .int .u32 (u.inc : Int), .int .i64 u.st]] w fun e w' => e = .returned (.tuple #[.int .u32 (r : Int), .int .i64 (k : Int)]) ∧ Below w.heap.size w w' := by
  obtain ⟨nu, iu, su⟩ := u
  simp only at h hi ⊢
  unfold refuteN at h
  by_cases hlt : own < iu
  · by_cases hmax : iu = 4294967295
    · rw [if_pos (by omega)] at h
      obtain ⟨rfl, rfl⟩ := Prod.mk.inj h
      have z : ((iu : Int) == 4294967295) = true := by rw [beq_iff_eq]; omega
      have h1 : (iu : Int) ≤ 4294967295 := by omega
      have h2 : (4294967295 : Int) ≤ (iu : Int) := by omega
      have h3 : (own : Int) ≤ 4294967295 := by omega
      clear hmax ho hi h
      clear h3 h2
      go_enter Try.func39, Try.ntmps39
      go_wp2
      go_ret2
      exact ⟨by simp, below1 _ _⟩
    · rw [if_neg (by omega)] at h
      obtain ⟨rfl, rfl⟩ := Prod.mk.inj h
      have z : ((iu : Int) == 4294967295) = false := by rw [beq_eq_false_iff_ne]; omega
      have h1 : (iu : Int) < 4294967295 := by omega
      have hmx : max own iu = iu := by omega
      rw [hmx]
      have h3 : (own : Int) ≤ 4294967295 := by omega
      clear hmax ho hi h hmx
      clear h3
      go_enter Try.func39, Try.ntmps39
      go_wp2
      go_ret2
      exact ⟨by simp, below1 _ _⟩
  · by_cases hmax : own = 4294967295
    · rw [if_pos (by omega)] at h
      obtain ⟨rfl, rfl⟩ := Prod.mk.inj h
      have z : ((own : Int) == 4294967295) = true := by rw [beq_iff_eq]; omega
      have h1 : (own : Int) ≤ 4294967295 := by omega
      have h2 : (4294967295 : Int) ≤ (own : Int) := by omega
      have h3 : (iu : Int) ≤ 4294967295 := by omega
      clear hmax ho hi h
      clear h3 h2
      go_enter Try.func39, Try.ntmps39
      go_wp2
      go_ret2
      exact ⟨by simp, below1 _ _⟩
    · rw [if_neg (by omega)] at h
      obtain ⟨rfl, rfl⟩ := Prod.mk.inj h
      have z : ((own : Int) == 4294967295) = false := by rw [beq_eq_false_iff_ne]; omega
      have h1 : (own : Int) < 4294967295 := by omega
      have hmx : max own iu = own := by omega
      rw [hmx]
      have h3 : (iu : Int) ≤ 4294967295 := by omega
      clear hmax ho hi h hmx
      clear h3
      go_enter Try.func39, Try.ntmps39
      go_wp2
      go_ret2
      exact ⟨by simp, below1 _ _⟩
set_option maxHeartbeats 4000000 in
theorem rrefute_any (own : Nat) (u : Up) (w : World) (r k : Nat) (h : refuteN own u.inc = (r, k)) (ho : own ≤ 4294967295) (hi : u.inc ≤ 4294967295) :
    Calls Try.prog 34 #[.int .u32 (own : Int), .agg #[.int .i64 u.node, .int .u32 (u.inc : Int), .int .i64 u.st]] w fun e w' => e = .returned (.tuple #[.int .u32 (r : Int), .int .i64 (k : Int)]) ∧ Below w.heap.size w w' := by
  obtain ⟨nu, iu, su⟩ := u
  simp only at h hi ⊢
  unfold refuteN at h
  have w1 : IntKind.u64.wrap (own : Int) = (own : Int) := wrap_u64 own (by omega)
  have w2 : IntKind.u64.wrap (iu : Int) = (iu : Int) := wrap_u64 iu (by omega)
  by_cases hlt : own < iu
  · have w3 : IntKind.u64.wrap ((iu : Int) + 1) = (iu : Int) + 1 := wrap_u64 (iu + 1) (by omega)
    have hmx : max own iu = iu := by omega
    rw [hmx] at h
    clear hmx
    by_cases hmax : iu = 4294967295
    · rw [if_pos (by omega)] at h
      obtain ⟨rfl, rfl⟩ := Prod.mk.inj h
      have h1 : (4294967295 : Int) < (iu : Int) + 1 := by omega
      clear hmax ho hi h
      go_enter Try.func34, Try.ntmps34
      go_wp2
      go_ret2
      exact ⟨by simp, below1 _ _⟩
    · rw [if_neg (by omega)] at h
      obtain ⟨rfl, rfl⟩ := Prod.mk.inj h
      have h1 : decide ((4294967295 : Int) < (iu : Int) + 1) = false := by simp; omega
      have w4 : IntKind.u32.wrap ((iu : Int) + 1) = (iu : Int) + 1 := wrap_u32 (iu + 1) (by omega)
      clear hmax ho hi h
      go_enter Try.func34, Try.ntmps34
      go_wp2
      go_ret2
      exact ⟨by simp, below1 _ _⟩
  · have w3 : IntKind.u64.wrap ((own : Int) + 1) = (own : Int) + 1 := wrap_u64 (own + 1) (by omega)
    have hmx : max own iu = own := by omega
    rw [hmx] at h
    clear hmx
    by_cases hmax : own = 4294967295
    · rw [if_pos (by omega)] at h
      obtain ⟨rfl, rfl⟩ := Prod.mk.inj h
      have h1 : (4294967295 : Int) < (own : Int) + 1 := by omega
      clear hmax ho hi h
      go_enter Try.func34, Try.ntmps34
      go_wp2
      go_ret2
      exact ⟨by simp, below1 _ _⟩
    · rw [if_neg (by omega)] at h
      obtain ⟨rfl, rfl⟩ := Prod.mk.inj h
      have h1 : decide ((4294967295 : Int) < (own : Int) + 1) = false := by simp; omega
      have w4 : IntKind.u32.wrap ((own : Int) + 1) = (own : Int) + 1 := wrap_u32 (own + 1) (by omega)
      clear hmax ho hi h
      go_enter Try.func34, Try.ntmps34
      go_wp2
      go_ret2
      exact ⟨by simp, below1 _ _⟩
end Go.Proofs.Ytmfokogckfoheaa
