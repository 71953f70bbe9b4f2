/-
  A number's key, walked (layer 18).
-/
import Derived.Test.YtnobpbbedclbkaaZj29
import Derived.Laws.IdiomStrings
namespace Go.Proofs.Ytnobpbbedclbkaa
open Go.RowKit
set_option linter.unusedSimpArgs false
set_option linter.unusedVariables false

/-- The digits of a number that are laid so far, and zeros ahead of them. -/
def layK (n i : Nat) : List Value := List.replicate (16 - n) (.int .u8 0) ++ (digsS digH n i).map fun x => .int .u8 (x.toNat : Int)
theorem digs_head (d : Nat → UInt8) : ∀ n i, digsS d (n + 1) i = d (i / 16 ^ n % 16) :: digsS d n i
  | 0, i => by simp [digsS]
  | n + 1, i => by
    rw [digsS, digs_head d n (i / 16), digsS, Nat.div_div_eq_div_mul, ← Nat.pow_succ']
    rfl
theorem layK_len {n : Nat} (hn : n ≤ 16) (i : Nat) : (layK n i).length = 16 := by
  unfold layK
  rw [List.length_append, List.length_replicate, List.length_map, digs_len]
  omega
theorem layK_set {n : Nat} (hn : n < 16) (i : Nat) : (layK n i).set (15 - n) (.int .u8 ((digH (i / 16 ^ n % 16)).toNat : Int)) = layK (n + 1) i := by
  unfold layK
  obtain ⟨m, hm⟩ : ∃ m, 15 - n = m := ⟨_, rfl⟩
  have e1 : 16 - n = m + 1 := by omega
  have e2 : 16 - (n + 1) = m := by omega
  rw [hm, e1, e2, digs_head, List.replicate_succ', List.append_assoc, List.set_append_right _ _ (by simp)]
  simp
def zerosK : List Value := List.replicate 16 (.int .u8 0)
theorem layK_zero (i : Nat) : layK 0 i = zerosK := by simp [layK, digsS, zerosK]
theorem u64_and15 (n : Int) : bits .and .u64 n 15 = n % 16 := by
  have h15 : (BitVec.ofInt 64 15).toNat = 2 ^ 4 - 1 := by decide
  have key : (BitVec.ofInt 64 n &&& BitVec.ofInt 64 15).toNat = (n % ((2 ^ 64 : Nat) : Int)).toNat % 2 ^ 4 := by
    rw [BitVec.toNat_and, BitVec.toNat_ofInt, h15, Nat.and_two_pow_sub_one_eq_mod]
  show IntKind.u64.wrap ((BitVec.ofInt 64 n &&& BitVec.ofInt 64 15).toNat : Nat) = n % 16
  rw [key, IntKind.wrap_u64]
  omega
theorem and_digit (i n : Nat) : bits .and .u64 ((i : Int) / 2 ^ (4 * n)) 15 = ((i / 16 ^ n % 16 : Nat) : Int) := by
  have e : (2 : Nat) ^ (4 * n) = 16 ^ n := by rw [Nat.pow_mul]
  have e2 : (2 : Int) ^ (4 * n) = ((16 ^ n : Nat) : Int) := by rw [← e, Int.natCast_pow]; rfl
  rw [u64_and15, e2]
  omega
theorem dig_at (q : Nat) (hq : q < 16) : (⟨#[48, 49, 50, 51, 52, 53, 54, 55, 56, 57, 97, 98, 99, 100, 101, 102]⟩ : ByteArray)[q]'hq = digH q :=
  (by decide : ∀ q : Fin 16, (⟨#[48, 49, 50, 51, 52, 53, 54, 55, 56, 57, 97, 98, 99, 100, 101, 102]⟩ : ByteArray)[q.val]'q.isLt = digH q.val) ⟨q, hq⟩
set_option maxHeartbeats 2000000 in
set_option maxRecDepth 100000 in
theorem key_any (i : Nat) (w : World) (hi : i < 18446744073709551616) : Calls Try.prog 28 #[.int .u64 (i : Int)] w fun e w' => e = .returned (.string (keyS digH i)) ∧ Below w.heap.size w w' := by
  obtain ⟨X, hX⟩ : ∃ X, w.heap.size = X := ⟨_, rfl⟩
  have HX := Lib.hid hX
  obtain ⟨W, hW⟩ : ∃ W, w.alloc (.cells zerosK.toArray 83) = W := ⟨_, rfl⟩
  have HW := Lib.hid hW
  have HB0 : Hid (Below X w W) := Lib.hid (by rw [← hW, ← hX]; exact below1 _ _ _)
  have HK0 : Hid (W.heap[X]? = some (.cells (layK 0 i).toArray 83 (0, 0))) := Lib.hid (by rw [layK_zero, ← hW, ← hX]; exact heap_alloc_new w _)
  rw [hX]
  clear hX hW
  go_enter Try.func28, Try.ntmps28
  go_wp2
  rw [show w.alloc (.cells #[.int .u8 0, .int .u8 0, .int .u8 0, .int .u8 0, .int .u8 0, .int .u8 0, .int .u8 0, .int .u8 0, .int .u8 0, .int .u8 0, .int .u8 0, .int .u8 0, .int .u8 0, .int .u8 0, .int .u8 0, .int .u8 0] 83) = W from HW.out, HX.out]
  go_loopw [5] (fun s5 wr => ∃ n : Nat, n ≤ 16 ∧ s5 = .int .i64 (n : Int) ∧ Hid (wr.heap[X]? = some (.cells (layK n i).toArray 83 (0, 0))) ∧ Hid (Below X w wr)) (fun s5 _ => 16 - (intOf s5).toNat)
  case atStart => exact ⟨0, by omega, rfl, HK0, HB0⟩
  case round =>
    obtain ⟨n, hn, rfl, hk, hb⟩ := hrel
    by_cases hlt : n < 16
    · obtain ⟨m, hm⟩ : ∃ m, 15 - n = m := ⟨_, rfl⟩
      have hwr : IntKind.i64.wrap (15 - (n : Int)) = (m : Int) := by rw [IntKind.wrap_i64]; omega
      have hbt := and_digit i n
      have hst := layK_set hlt i
      obtain ⟨q, hq⟩ : ∃ q, i / 16 ^ n % 16 = q := ⟨_, rfl⟩
      have hq16 : q < 16 := by omega
      rw [hq] at hbt hst
      rw [hm] at hst
      have cb := cellsN hk.out m ((layK n i).getD m undef) (by rw [List.getElem?_toArray, List.getD_eq_getElem?_getD, List.getElem?_eq_getElem (by rw [layK_len hn]; omega)]; rfl)
      have fz := blk_froz hk.out m
      have hl := block_lt hk.out
      have HSt : Hid ((wr.setCell ⟨X, m, none⟩ (.int .u8 ((digH q).toNat : Int))).heap[X]? = some (.cells (layK (n + 1) i).toArray 83 (0, 0))) := Lib.hid (by
        rw [← hst]
        have := block_set hk.out m (.int .u8 ((digH q).toNat : Int))
        rw [List.setIfInBounds_toArray] at this
        exact this)
      have HB2 : Hid (Below X w (wr.setCell ⟨X, m, none⟩ (.int .u8 ((digH q).toNat : Int)))) := Lib.hid (hb.out.setCell (p := ⟨X, m, none⟩) (Nat.le_refl _) _)
      have hdg := dig_at q hq16
      have hq0 : (q : Int) < 16 := by omega
      clear hst hq hk
      go_wp2
      go_roundw
      case rel => exact ⟨n + 1, by omega, by go_num, HSt, HB2⟩
      case measure => simp [intOf]; omega
    · obtain rfl : n = 16 := by omega
      obtain ⟨D, hD⟩ : ∃ D, digsS digH 16 i = D := ⟨_, rfl⟩
      have hDl : D.length = 16 := by rw [← hD, digs_len]
      have hl : layK 16 i = D.map fun x => .int .u8 (x.toNat : Int) := by unfold layK; rw [hD]; rfl
      have kc : (convert 84 9 (.slice (some ⟨X, 0, none⟩) 16 16)).run Try.prog wr = .ok (.string ⟨D.toArray⟩) wr := by
        have := run_convert_bytes_back (P := Try.prog) wr 84 9 5 ⟨X, 0, none⟩ 16 D Try.underlying84 Try.underlying5 Try.underlying9 fun j hj => by
          have e := cellsN hk.out j (.int .u8 (D[j].toNat : Int)) (by rw [hl]; simp [List.getElem?_eq_getElem hj])
          rw [plain_add, Nat.zero_add]
          exact e
        rw [hDl] at this
        exact this
      have HD : Hid (keyS digH i = ⟨D.toArray⟩) := Lib.hid (by unfold keyS; rw [hD])
      clear hD hl hk
      go_wp2
      go_ret
      exact ⟨by rw [HD.out]; rfl, hb.out⟩
end Go.Proofs.Ytnobpbbedclbkaa
