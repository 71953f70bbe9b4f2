/-
  bound and firstNum, walked (layer 4).
-/
import Derived.Test.YtgjgndpeopiifaaDLayA
namespace Go.Proofs.Ytgjgndpeopiifaa
open Go.RowKit
set_option linter.unusedSimpArgs false

theorem bound_any (m : Int) (w : World) (h1 : m ≤ 9223372036854775807) : Calls Try.prog 53 #[.int .i64 m] w fun e w' => e = .returned (.int .u64 (m.toNat : Int)) ∧ w = w' := by
  by_cases h : m < 0
  · have e : m.toNat = 0 := by omega
    rw [e]
    have hx : max m 0 = 0 := by omega
    go_enter Try.func53, Try.ntmps53
    go_wp2
    go_ret
    exact ⟨rfl, rfl⟩
  · obtain ⟨k, rfl⟩ : ∃ k : Nat, m = (k : Int) := ⟨m.toNat, by omega⟩
    have e : (k : Int).toNat = k := by omega
    rw [e]
    have h0 : (0 : Int) ≤ (k : Int) := by omega
    clear h e
    go_enter Try.func53, Try.ntmps53
    go_wp2
    go_ret
    exact ⟨rfl, rfl⟩

/-- What firstNum answers. -/
def fnAns (v sz e : Nat) : Ending := .returned (.tuple #[.int .u64 (v : Int), .int .i64 (sz : Int), .int .i64 (e : Int)])
theorem fn_empty (A : Option Addr) (c most : Nat) (w : World) : Calls Try.prog 44 #[.slice A 0 c, .int .u64 (most : Int)] w fun e w' => e = fnAns 0 0 30 ∧ w = w' := by
  go_enter Try.func44, Try.ntmps44
  go_wp2
  go_ret3
  exact ⟨rfl, rfl⟩
theorem fn_wide (b off n c many most : Nat) (w : World) (hn : 0 < n) (hn' : n ≤ 140737488355328) (h0 : w.cell? ⟨b, off, none⟩ = some (.int .u8 (many : Int))) (h8 : 8 < many) (h9 : many ≤ 255) :
    Calls Try.prog 44 #[.slice (some ⟨b, off, none⟩) n c, .int .u64 (most : Int)] w fun e w' => e = fnAns 0 0 40 ∧ w = w' := by
  have q1 : ((n : Int) == 0) = false := by rw [beq_eq_false_iff_ne]; omega
  have q2 : (0 : Int) < (n : Int) := by omega
  have q3 : decide ((8 : Int) < (many : Int)) = true := by simp; omega
  go_enter Try.func44, Try.ntmps44
  go_wp2
  go_ret3
  exact ⟨rfl, rfl⟩
theorem fn_zero (b off n c many most : Nat) (w : World) (hn : 1 < n) (hn' : n ≤ 140737488355328) (h0 : w.cell? ⟨b, off, none⟩ = some (.int .u8 (many : Int))) (h1 : w.cell? ⟨b, off + 1, none⟩ = some (.int .u8 0)) (h8 : many ≤ 8) (h9 : 0 < many) :
    Calls Try.prog 44 #[.slice (some ⟨b, off, none⟩) n c, .int .u64 (most : Int)] w fun e w' => e = fnAns 0 0 40 ∧ w = w' := by
  have q1 : ((n : Int) == 0) = false := by rw [beq_eq_false_iff_ne]; omega
  have q2 : (0 : Int) < (n : Int) := by omega
  have q4 : (1 : Int) < (n : Int) := by omega
  have q3 : ¬ (8 : Int) < (many : Int) := by omega
  have q5 : (0 : Int) < (many : Int) := by omega
  go_enter Try.func44, Try.ntmps44
  go_wp2
  go_ret3
  exact ⟨rfl, rfl⟩
theorem fn_short (b off n c many most : Nat) (w : World) (hn : 0 < n) (hn' : n ≤ 140737488355328) (h0 : w.cell? ⟨b, off, none⟩ = some (.int .u8 (many : Int))) (x : Nat) (h1 : 1 < n → w.cell? ⟨b, off + 1, none⟩ = some (.int .u8 (x : Int))) (hx : x ≠ 0) (h8 : many ≤ 8) (h9 : n < 1 + many) :
    Calls Try.prog 44 #[.slice (some ⟨b, off, none⟩) n c, .int .u64 (most : Int)] w fun e w' => e = fnAns 0 0 30 ∧ w = w' := by
  have q1 : ((n : Int) == 0) = false := by rw [beq_eq_false_iff_ne]; omega
  have q2 : (0 : Int) < (n : Int) := by omega
  have q3 : ¬ (8 : Int) < (many : Int) := by omega
  have q5 : (0 : Int) < (many : Int) := by omega
  have q6 : ((x : Int) == 0) = false := by rw [beq_eq_false_iff_ne]; omega
  have q7 : (n : Int) < 1 + (many : Int) := by omega
  clear hx
  by_cases h : 1 < n
  · have h1' := h1 h
    have q4 : (1 : Int) < (n : Int) := by omega
    clear h1
    go_enter Try.func44, Try.ntmps44
    go_wp2
    go_ret3
    exact ⟨rfl, rfl⟩
  · obtain rfl : n = 1 := by omega
    clear h1
    go_enter Try.func44, Try.ntmps44
    go_wp2
    go_ret3
    exact ⟨rfl, rfl⟩
end Go.Proofs.Ytgjgndpeopiifaa
