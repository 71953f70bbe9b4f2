/-
  A doubt that is not there, and one that no call made, is never due: the law sodalitylaw11.DoubtNone, walked.
-/
import Derived.Test.YtnmcomciocffpaaDoorDbStep
namespace Go.Proofs.YtnmcomciocffpaaDoor
open Go.RowKit
set_option linter.unusedSimpArgs false
set_option linter.unusedVariables false

abbrev Drawn (W w : World) : Prop := ∃ m, w = W.drewN m
theorem drawn_next {W w w' : World} (h : Drawn W w) (k : ∃ m, w' = w.drewN m) : Drawn W w' := by
  obtain ⟨a, rfl⟩ := h
  obtain ⟨b, rfl⟩ := k
  exact ⟨a + b, World.drewN_drewN _ _ _⟩
set_option maxHeartbeats 16000000 in
theorem none_walk (f : Int) (w : World) (hs : ScIs w) :
    Calls Tryd.prog 6 #[.int .i64 f] w fun e w' => e = .returned (.bool true) ∧ Below w.heap.size w w' := by
  obtain ⟨W3, hW3⟩ : ∃ W3, (w.alloc (.cells #[.int .i64 0, .int .i64 0, .int .i64 0, .int .i64 0, .int .i64 0, .map none] TD)).alloc (.cells #[.pointer none, .pointer (some ⟨w.heap.size, 0, none⟩)] 28) = W3 := ⟨_, rfl⟩
  obtain ⟨b0, hb0⟩ : ∃ b0, w.heap.size = b0 := ⟨_, rfl⟩
  have hb3 : Below w.heap.size w W3 := by
    rw [← hW3]
    exact ((Below.refl _ w).alloc (Nat.le_refl _) _).alloc (by simp) _
  have k0 : W3.heap[b0]? = some (.cells #[.int .i64 0, .int .i64 0, .int .i64 0, .int .i64 0, .int .i64 0, .map none] TD (0, 0)) := by
    rw [← hW3, ← hb0, Below.heap_alloc _ _ _ (by simp)]
    exact heap_alloc_new w _
  have k1 : W3.heap[b0 + 1]? = some (.cells #[.pointer none, .pointer (some ⟨b0, 0, none⟩)] 28 (0, 0)) := by
    rw [← hW3, ← hb0]
    have := heap_alloc_new (w.alloc (.cells #[.int .i64 0, .int .i64 0, .int .i64 0, .int .i64 0, .int .i64 0, .map none] TD)) (.cells #[.pointer none, .pointer (some ⟨w.heap.size, 0, none⟩)] 28)
    simpa using this
  have HSc := Lib.hid (hs.below hb3)
  have HB3 := Lib.hid hb3
  have HW3 := Lib.hid hW3
  have HB0 := Lib.hid hb0
  have HK0 := Lib.hid k0
  have HK1 := Lib.hid k1
  obtain ⟨b1, hb1⟩ : ∃ b1, b0 + 1 = b1 := ⟨_, rfl⟩
  have HB1 := Lib.hid hb1
  clear hs hW3 hb0 hb3 k0 k1 hb1
  go_enter Tryd.func6, Tryd.ntmps6
  go_wp2_with fail
  rw [HW3.out, HB0.out, HB1.out]
  go_loopw [5] (fun kv wr => ∃ k : Nat, k ≤ 2 ∧ kv = .int .i64 (k : Int) ∧ Hid (Drawn W3 wr)) (fun kv _ => 2 - (intOf kv).toNat)
  case atStart => exact ⟨0, by omega, rfl, Lib.hid ⟨0, rfl⟩⟩
  case round =>
    obtain ⟨k, hk, rfl, hq0⟩ := hrel
    by_cases hlt : k < 2
    · obtain ⟨v, hv⟩ : ∃ v : Value, (if k = 0 then .pointer none else .pointer (some ⟨b0, 0, none⟩)) = v := ⟨_, rfl⟩
      have HC : Hid (∀ w', Drawn W3 w' → w'.cell? ⟨b1, k, none⟩ = some v) := Lib.hid (fun w' h => by
        obtain ⟨m, rfl⟩ := h
        have h1 : (W3.drewN m).heap[b1]? = some (.cells #[.pointer none, .pointer (some ⟨b0, 0, none⟩)] 28 (0, 0)) := by rw [← HB1.out]; exact HK1.out
        rw [cell_of_row _ _ _ _ _ _ h1, ← hv]
        have hk01 : k = 0 ∨ k = 1 := by omega
        rcases hk01 with rfl | rfl <;> rfl)
      have HNo : Hid (∀ w', Drawn W3 w' → NoDb w' v) := Lib.hid (fun w' h => by
        obtain ⟨m, rfl⟩ := h
        rw [← hv]
        by_cases hk0 : k = 0
        · rw [if_pos hk0]; exact .inl rfl
        · rw [if_neg hk0]; exact .inr ⟨b0, rfl, HK0.out⟩)
      have HCo : Hid (∀ w', Drawn W3 w' → Calls Tryd.prog 11 #[v, .int .i64 f] w' (Quiet w' (.bool false))) := Lib.hid (fun w' h => confirm_no v f w' (HNo.out w' h))
      have HTi : Hid (∀ w', Drawn W3 w' → Calls Tryd.prog 13 #[v] w' (Quiet w' (.bool false))) := Lib.hid (fun w' h => tick_no v w' (HNo.out w' h))
      have HEl : Hid (∀ w', Drawn W3 w' → Calls Tryd.prog 16 #[v] w' (Quiet w' (.int .i64 0))) := Lib.hid (fun w' h => elapsed_no v w' (HNo.out w' h))
      have HWa : Hid (∀ w', Drawn W3 w' → Calls Tryd.prog 15 #[v] w' (Quiet w' (.int .i64 0))) := Lib.hid (fun w' h => wait_none v w' (HNo.out w' h))
      have HHa : Hid (∀ w', Drawn W3 w' → Calls Tryd.prog 17 #[v] w' (Quiet w' (.int .i64 0))) := Lib.hid (fun w' h => have_no v w' (HNo.out w' h))
      have HDu : Hid (∀ w', Drawn W3 w' → Calls Tryd.prog 18 #[v] w' (Quiet w' (.bool false))) := Lib.hid (fun w' h => due_no v w' (HNo.out w' h))
      have c0 := HC.out wr hq0.out
      have q1 : (0 : Int) ≤ (k : Int) := by omega
      have q2 : (k : Int) < 2 := by omega
      clear hv HNo
      go_wp2_with fail
      refine (HCo.out wr hq0.out).mono ?_
      rintro e w1 ⟨rfl, hq⟩
      have HQ1 := Lib.hid (drawn_next hq0.out hq)
      have c1 := HC.out w1 HQ1.out
      clear hq
      go_wp2_with fail
      refine (HTi.out w1 HQ1.out).mono ?_
      rintro e w2 ⟨rfl, hq⟩
      have HQ2 := Lib.hid (drawn_next HQ1.out hq)
      have c2 := HC.out w2 HQ2.out
      clear hq
      go_wp2_with fail
      refine (HEl.out w2 HQ2.out).mono ?_
      rintro e w3 ⟨rfl, hq⟩
      have HQ3 := Lib.hid (drawn_next HQ2.out hq)
      have c3 := HC.out w3 HQ3.out
      clear hq
      go_wp2_with fail
      refine (HWa.out w3 HQ3.out).mono ?_
      rintro e w4 ⟨rfl, hq⟩
      have HQ4 := Lib.hid (drawn_next HQ3.out hq)
      have c4 := HC.out w4 HQ4.out
      clear hq
      go_wp2_with fail
      refine (HHa.out w4 HQ4.out).mono ?_
      rintro e w5 ⟨rfl, hq⟩
      have HQ5 := Lib.hid (drawn_next HQ4.out hq)
      have c5 := HC.out w5 HQ5.out
      clear hq
      go_wp2_with fail
      refine (HDu.out w5 HQ5.out).mono ?_
      rintro e w6 ⟨rfl, hq⟩
      have HQ6 := Lib.hid (drawn_next HQ5.out hq)
      have c6 := HC.out w6 HQ6.out
      clear hq
      go_wp2
      go_roundw
      case rel => exact ⟨k + 1, by omega, by go_num, HQ6⟩
      case measure => simp [intOf]; omega
    · obtain rfl : k = 2 := by omega
      have HWk : Hid (Calls Tryd.prog 9 #[] wr (Quiet wr (.bool true))) := Lib.hid (works_any wr (by
        obtain ⟨m, e⟩ := hq0.out
        rw [e]
        exact HSc.out.below (below_drewN (Below.refl _ _) m)))
      go_wp2_with fail
      refine HWk.out.mono ?_
      rintro e w' ⟨rfl, hq⟩
      have HQ1 := Lib.hid (drawn_next hq0.out hq)
      clear hq
      go_wp2
      go_ret
      obtain ⟨m, e⟩ := HQ1.out
      exact ⟨rfl, by rw [e]; exact below_drewN HB3.out m⟩
end Go.Proofs.YtnmcomciocffpaaDoor
