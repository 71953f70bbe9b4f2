/-
  slot, begins, made and Now of the program's wheel, walked (layer 6).
-/
import Derived.Test.YtcekpkjibabjmaaWMem
import Derived.Laws.Bits128
import Derived.WalkSpells
namespace Go.Proofs.Ytcekpkjibabjmaa
open Go.RowKit
set_option linter.unusedSimpArgs false

theorem i64_and0 (n : Int) : bits .and .i64 n 0 = 0 := by
  have e : (BitVec.ofInt 64 n &&& BitVec.ofInt 64 0).toNat = 0 := by simp
  show IntKind.i64.wrap ((BitVec.ofInt 64 n &&& BitVec.ofInt 64 0).toNat : Nat) = 0
  rw [e, IntKind.wrap_i64]
  omega
theorem i64_and63 (n : Int) : bits .and .i64 n 63 = n % 64 := by
  have h127 : (BitVec.ofInt 64 63).toNat = 2 ^ 6 - 1 := by decide
  have key : (BitVec.ofInt 64 n &&& BitVec.ofInt 64 63).toNat = (n % ((2 ^ 64 : Nat) : Int)).toNat % 2 ^ 6 := by
    rw [BitVec.toNat_and, BitVec.toNat_ofInt, h127, Nat.and_two_pow_sub_one_eq_mod]
  show IntKind.i64.wrap ((BitVec.ofInt 64 n &&& BitVec.ofInt 64 63).toNat : Nat) = n % 64
  rw [key, IntKind.wrap_i64]
  omega
theorem i64_and4095 (n : Int) : bits .and .i64 n 4095 = n % 4096 := by
  have h127 : (BitVec.ofInt 64 4095).toNat = 2 ^ 12 - 1 := by decide
  have key : (BitVec.ofInt 64 n &&& BitVec.ofInt 64 4095).toNat = (n % ((2 ^ 64 : Nat) : Int)).toNat % 2 ^ 12 := by
    rw [BitVec.toNat_and, BitVec.toNat_ofInt, h127, Nat.and_two_pow_sub_one_eq_mod]
  show IntKind.i64.wrap ((BitVec.ofInt 64 n &&& BitVec.ofInt 64 4095).toNat : Nat) = n % 4096
  rw [key, IntKind.wrap_i64]
  omega
theorem ret_i64 {a b : Int} (h : a = b) : Ending.returned (.int .i64 a) = .returned (.int .i64 b) := by rw [h]
theorem ret_b {a b : Bool} (h : a = b) : Ending.returned (.bool a) = .returned (.bool b) := by rw [h]
theorem slot_any (t l : Nat) (w : World) (hl : l < 3) (ht : t ≤ 4611686018427387904) : Calls Try.prog 25 #[.int .i64 (t : Int), .int .i64 (l : Int)] w fun e w' => e = .returned (.int .i64 ((blkOf l t % 64 : Nat) : Int)) ∧ w = w' := by
  have q0 : (0 : Int) ≤ (t : Int) := by omega
  have h3 : l = 0 ∨ l = 1 ∨ l = 2 := by omega
  rcases h3 with rfl | rfl | rfl
  all_goals
    go_enter Try.func25, Try.ntmps25
    go_wp2
    go_ret
    exact ⟨ret_i64 (by rw [i64_and63]; simp only [blkOf]; omega), rfl⟩
theorem begins_any (t l : Nat) (w : World) (hl : l < 3) (ht : t ≤ 4611686018427387904) : Calls Try.prog 30 #[.int .i64 (t : Int), .int .i64 (l : Int)] w fun e w' => e = .returned (.bool (t % pow64 l == 0)) ∧ w = w' := by
  have q0 : (0 : Int) ≤ (t : Int) := by omega
  have h3 : l = 0 ∨ l = 1 ∨ l = 2 := by omega
  rcases h3 with rfl | rfl | rfl
  all_goals
    go_enter Try.func30, Try.ntmps30
    go_wp2
    go_ret
    refine ⟨ret_b ?_, rfl⟩
    first | rw [i64_and0] | rw [i64_and63] | rw [i64_and4095]
    rw [Bool.eq_iff_iff]
    simp [pow64, BEq.beq]
    try omega
/-- What is no wheel that New made: nil, or whose map is nil. -/
def Unmade (w : World) (v : Value) : Prop := v = .pointer none ∨ ∃ B cur, v = .pointer (some ⟨B, 0, none⟩) ∧ w.heap[B]? = some (.cells cur 48 (0, 0)) ∧ cur[1]? = some (.map none)
theorem made_no (v : Value) (w : World) (h : Unmade w v) : Calls Try.prog 22 #[v] w fun e w' => e = .returned (.bool false) ∧ w = w' := by
  rcases h with rfl | ⟨B, cur, rfl, hh, h1⟩
  · go_enter Try.func22, Try.ntmps22
    go_wp2
    go_ret
    exact ⟨rfl, rfl⟩
  · have c1 : w.cell? ⟨B, 1, none⟩ = some (.map none) := by rw [cell_of_row _ _ _ _ _ _ hh]; exact h1
    have HH := Lib.hid hh
    have H1 := Lib.hid h1
    clear hh h1
    have qM := fun (w : World) (r : Option Nat) => run_neq_map_nil (P := Try.prog) w 44 3 58 r Try.underlying44
    go_enter Try.func22, Try.ntmps22
    go_wp2
    go_ret
    exact ⟨rfl, rfl⟩
theorem made_yes {S : Nat → Prop} {B M N n : Nat} {g : Nat → Value} {m : Mp} {q : Nat → List Int} (w : World) (h : WhIs S w B M g N m n q) : Calls Try.prog 22 #[.pointer (some ⟨B, 0, none⟩)] w fun e w' => e = .returned (.bool true) ∧ w = w' := by
  have c1 := h.c1
  clear h
  have qM := fun (w : World) (r : Option Nat) => run_neq_map_nil (P := Try.prog) w 44 3 58 r Try.underlying44
  go_enter Try.func22, Try.ntmps22
  go_wp2
  go_ret
  exact ⟨rfl, rfl⟩
theorem now_any {S : Nat → Prop} {B M N n : Nat} {g : Nat → Value} {m : Mp} {q : Nat → List Int} (w : World) (h : WhIs S w B M g N m n q) : Calls Try.prog 21 #[.pointer (some ⟨B, 0, none⟩)] w fun e w' => e = .returned (.int .i64 (N : Int)) ∧ w = w' := by
  have c0 := h.c0
  have HM := Lib.hid (made_yes w h)
  clear h
  go_enter Try.func21, Try.ntmps21
  go_wp2_with fail
  refine HM.out.mono ?_
  rintro e w' ⟨rfl, rfl⟩
  go_wp2
  go_ret
  exact ⟨rfl, rfl⟩
end Go.Proofs.Ytcekpkjibabjmaa
