/-
  A reader that is not there, and one that no call made, read nothing: the law sodalitylaw04.FieldNone over the contracts.
-/
import Derived.Test.YtgjgndpeopiifaaDNone
import Derived.Test.YtgjgndpeopiifaaDLayD
namespace Go.Proofs.Ytgjgndpeopiifaa
open Go.RowKit
set_option linter.unusedSimpArgs false

set_option maxHeartbeats 4000000 in
theorem none_walk (kind many most : Int) (num : Nat) (w : World) (h1 : many ≤ 9223372036854775807) :
    Calls Try.prog 7 #[.agg #[.int .i64 kind, .int .i64 many, .int .i64 most, .int .u64 (num : Int)]] w fun e w' => e = .returned (.bool true) ∧ Below w.heap.size w w' := by
  have HW := Lib.hid (fun w => works_any w)
  go_enter Try.func7, Try.ntmps7
  go_wp2
  obtain ⟨W3, hW3⟩ : ∃ W3, ((w.alloc (.cells #[.int .i64 kind, .int .i64 many, .int .i64 most, .int .u64 (num : Int)] 48)).alloc (.cells #[.bool false, .slice none 0 0, .int .i64 0] 62)).alloc (.cells #[.pointer none, .pointer (some ⟨w.heap.size + 1, 0, none⟩)] 41) = W3 := ⟨_, rfl⟩
  rw [hW3]
  have hs3 : W3.heap.size = w.heap.size + 3 := by rw [← hW3]; simp
  have hB3 : Below w.heap.size w W3 := by
    rw [← hW3]
    exact (((Below.refl _ w).alloc (Nat.le_refl _) _).alloc (by simp) _).alloc (by simp; omega) _
  obtain ⟨b0, hb0⟩ : ∃ b0, w.heap.size = b0 := ⟨_, rfl⟩
  have k0 : W3.heap[b0]? = some (.cells #[.int .i64 kind, .int .i64 many, .int .i64 most, .int .u64 (num : Int)] 48 (0, 0)) := by
    rw [← hW3, ← hb0, Below.heap_alloc _ _ _ (by simp; omega), Below.heap_alloc _ _ _ (by simp)]
    exact heap_alloc_new w _
  have k1 : W3.heap[b0 + 1]? = some (.cells #[.bool false, .slice none 0 0, .int .i64 0] 62 (0, 0)) := by
    rw [← hW3, ← hb0, Below.heap_alloc _ _ _ (by simp)]
    have := heap_alloc_new (w.alloc (.cells #[.int .i64 kind, .int .i64 many, .int .i64 most, .int .u64 (num : Int)] 48)) (.cells #[.bool false, .slice none 0 0, .int .i64 0] 62)
    simpa using this
  have k2 : W3.heap[b0 + 1 + 1]? = some (.cells #[.pointer none, .pointer (some ⟨b0 + 1, 0, none⟩)] 41 (0, 0)) := by
    rw [← hW3, ← hb0]
    have := heap_alloc_new ((w.alloc (.cells #[.int .i64 kind, .int .i64 many, .int .i64 most, .int .u64 (num : Int)] 48)).alloc (.cells #[.bool false, .slice none 0 0, .int .i64 0] 62)) (.cells #[.pointer none, .pointer (some ⟨w.heap.size + 1, 0, none⟩)] 41)
    simpa using this
  have HC : Hid (∀ w', Below W3.heap.size W3 w' → w'.cell? ⟨b0, 1, none⟩ = some (.int .i64 many) ∧ w'.cell? ⟨b0, 2, none⟩ = some (.int .i64 most) ∧ w'.cell? ⟨b0, 3, none⟩ = some (.int .u64 (num : Int)) ∧ w'.cell? ⟨b0 + 1 + 1, 0, none⟩ = some (.pointer none) ∧ w'.cell? ⟨b0 + 1 + 1, 1, none⟩ = some (.pointer (some ⟨b0 + 1, 0, none⟩)) ∧ NoRd w' (.pointer (some ⟨b0 + 1, 0, none⟩))) := Lib.hid (by
    intro w' hb
    have j0 := (hb.block b0 (by omega)).trans k0
    have j1 := (hb.block (b0 + 1) (by omega)).trans k1
    have j2 := (hb.block (b0 + 1 + 1) (by omega)).trans k2
    exact ⟨by rw [cell_of_row _ _ _ _ _ _ j0]; rfl, by rw [cell_of_row _ _ _ _ _ _ j0]; rfl, by rw [cell_of_row _ _ _ _ _ _ j0]; rfl, by rw [cell_of_row _ _ _ _ _ _ j2]; rfl, by rw [cell_of_row _ _ _ _ _ _ j2]; rfl, .inr ⟨_, rfl, j1⟩⟩)
  rw [hb0]
  have HB3 := Lib.hid hB3
  have Hb0 := Lib.hid hb0
  have hbs : b0 ≤ W3.heap.size := by omega
  clear hW3 hs3 hB3 k0 k1 k2 hb0
  go_loopw [5] (fun kv wr => ∃ k : Nat, k ≤ 2 ∧ kv = .int .i64 (k : Int) ∧ Hid (Below W3.heap.size W3 wr)) (fun kv _ => 2 - (intOf kv).toNat)
  case atStart => exact ⟨0, by omega, rfl, Lib.hid (Below.refl _ _)⟩
  case round =>
    obtain ⟨k, hk, rfl, hbr⟩ := hrel
    have hk3 : k = 0 ∨ k = 1 ∨ k = 2 := by omega
    rcases hk3 with rfl | rfl | rfl
    · rw [show ((0 : Nat) : Int) = 0 from rfl]
      obtain ⟨c1, c2, c3, d0, d1, nr⟩ := HC.out _ hbr.out
      clear nr
      go_wp2_with fail
      refine (noNum_any (.pointer none) num _ (.inl rfl)).mono ?_
      rintro e w0 ⟨rfl, q0⟩
      have hb0 : Hid (Below W3.heap.size W3 w0) := Lib.hid (hbr.out.trans (q0.mono hbr.out.size))
      clear c1 c2 c3 d0 d1 q0
      obtain ⟨c1, c2, c3, d0, d1, nr⟩ := HC.out _ hb0.out
      clear nr
      go_wp2_with fail
      refine (noText_any (.pointer none) most _ (.inl rfl)).mono ?_
      rintro e w1 ⟨rfl, q1⟩
      have hb1 : Hid (Below W3.heap.size W3 w1) := Lib.hid (hb0.out.trans (q1.mono hb0.out.size))
      clear c1 c2 c3 d0 d1 q1
      obtain ⟨c1, c2, c3, d0, d1, nr⟩ := HC.out _ hb1.out
      clear nr
      go_wp2_with fail
      refine (noFlag_any (.pointer none) _ (.inl rfl)).mono ?_
      rintro e w2 ⟨rfl, q2⟩
      have hb2 : Hid (Below W3.heap.size W3 w2) := Lib.hid (hb1.out.trans (q2.mono hb1.out.size))
      clear c1 c2 c3 d0 d1 q2
      obtain ⟨c1, c2, c3, d0, d1, nr⟩ := HC.out _ hb2.out
      clear nr
      go_wp2_with fail
      refine (noTexts_any (.pointer none) many most _ (.inl rfl) h1).mono ?_
      rintro e w3 ⟨rfl, q3⟩
      have hb3 : Hid (Below W3.heap.size W3 w3) := Lib.hid (hb2.out.trans (q3.mono hb2.out.size))
      clear c1 c2 c3 d0 d1 q3
      obtain ⟨c1, c2, c3, d0, d1, nr⟩ := HC.out _ hb3.out
      clear nr
      go_wp2_with fail
      refine (noNums_any (.pointer none) many num _ (.inl rfl) h1).mono ?_
      rintro e w4 ⟨rfl, q4⟩
      have hb4 : Hid (Below W3.heap.size W3 w4) := Lib.hid (hb3.out.trans (q4.mono hb3.out.size))
      clear c1 c2 c3 d0 d1 q4
      obtain ⟨c1, c2, c3, d0, d1, nr⟩ := HC.out _ hb4.out
      clear nr
      go_wp2_with fail
      refine (noLeft_any (.pointer none) _ (.inl rfl)).mono ?_
      rintro e w5 ⟨rfl, rfl⟩
      go_wp2_with fail
      refine (noWrong_any (.pointer none) _ (.inl rfl)).mono ?_
      rintro e w6 ⟨rfl, rfl⟩
      go_wp2_with fail
      refine (noDone_any (.pointer none) _ (.inl rfl)).mono ?_
      rintro e w7 ⟨rfl, rfl⟩
      go_wp2
      go_roundw
      case rel => exact ⟨1, by omega, by go_num, hb4⟩
      case measure => simp [intOf]
    · rw [show ((1 : Nat) : Int) = 1 from rfl]
      obtain ⟨c1, c2, c3, d0, d1, nr⟩ := HC.out _ hbr.out
      clear nr
      go_wp2_with fail
      refine (noNum_any (.pointer (some ⟨b0 + 1, 0, none⟩)) num _ (HC.out _ hbr.out).2.2.2.2.2).mono ?_
      rintro e w0 ⟨rfl, q0⟩
      have hb0 : Hid (Below W3.heap.size W3 w0) := Lib.hid (hbr.out.trans (q0.mono hbr.out.size))
      clear c1 c2 c3 d0 d1 q0
      obtain ⟨c1, c2, c3, d0, d1, nr⟩ := HC.out _ hb0.out
      clear nr
      go_wp2_with fail
      refine (noText_any (.pointer (some ⟨b0 + 1, 0, none⟩)) most _ (HC.out _ hb0.out).2.2.2.2.2).mono ?_
      rintro e w1 ⟨rfl, q1⟩
      have hb1 : Hid (Below W3.heap.size W3 w1) := Lib.hid (hb0.out.trans (q1.mono hb0.out.size))
      clear c1 c2 c3 d0 d1 q1
      obtain ⟨c1, c2, c3, d0, d1, nr⟩ := HC.out _ hb1.out
      clear nr
      go_wp2_with fail
      refine (noFlag_any (.pointer (some ⟨b0 + 1, 0, none⟩)) _ (HC.out _ hb1.out).2.2.2.2.2).mono ?_
      rintro e w2 ⟨rfl, q2⟩
      have hb2 : Hid (Below W3.heap.size W3 w2) := Lib.hid (hb1.out.trans (q2.mono hb1.out.size))
      clear c1 c2 c3 d0 d1 q2
      obtain ⟨c1, c2, c3, d0, d1, nr⟩ := HC.out _ hb2.out
      clear nr
      go_wp2_with fail
      refine (noTexts_any (.pointer (some ⟨b0 + 1, 0, none⟩)) many most _ (HC.out _ hb2.out).2.2.2.2.2 h1).mono ?_
      rintro e w3 ⟨rfl, q3⟩
      have hb3 : Hid (Below W3.heap.size W3 w3) := Lib.hid (hb2.out.trans (q3.mono hb2.out.size))
      clear c1 c2 c3 d0 d1 q3
      obtain ⟨c1, c2, c3, d0, d1, nr⟩ := HC.out _ hb3.out
      clear nr
      go_wp2_with fail
      refine (noNums_any (.pointer (some ⟨b0 + 1, 0, none⟩)) many num _ (HC.out _ hb3.out).2.2.2.2.2 h1).mono ?_
      rintro e w4 ⟨rfl, q4⟩
      have hb4 : Hid (Below W3.heap.size W3 w4) := Lib.hid (hb3.out.trans (q4.mono hb3.out.size))
      clear c1 c2 c3 d0 d1 q4
      obtain ⟨c1, c2, c3, d0, d1, nr⟩ := HC.out _ hb4.out
      clear nr
      go_wp2_with fail
      refine (noLeft_any (.pointer (some ⟨b0 + 1, 0, none⟩)) _ (HC.out _ hb4.out).2.2.2.2.2).mono ?_
      rintro e w5 ⟨rfl, rfl⟩
      go_wp2_with fail
      refine (noWrong_any (.pointer (some ⟨b0 + 1, 0, none⟩)) _ (HC.out _ hb4.out).2.2.2.2.2).mono ?_
      rintro e w6 ⟨rfl, rfl⟩
      go_wp2_with fail
      refine (noDone_any (.pointer (some ⟨b0 + 1, 0, none⟩)) _ (HC.out _ hb4.out).2.2.2.2.2).mono ?_
      rintro e w7 ⟨rfl, rfl⟩
      go_wp2
      go_roundw
      case rel => exact ⟨2, by omega, by go_num, hb4⟩
      case measure => simp [intOf]
    · rw [show ((2 : Nat) : Int) = 2 from rfl]
      go_wp2_with fail
      refine (HW.out _).mono ?_
      rintro e w1 ⟨rfl, q1⟩
      have HB1 : Hid (Below b0 w w1) := Lib.hid (HB3.out.mono (by rw [Hb0.out]; exact Nat.le_refl _) |>.trans ((hbr.out.trans (q1.mono hbr.out.size)).mono hbs))
      clear q1
      go_wp2
      go_ret
      exact ⟨rfl, by rw [Hb0.out]; exact HB1.out⟩
end Go.Proofs.Ytgjgndpeopiifaa
