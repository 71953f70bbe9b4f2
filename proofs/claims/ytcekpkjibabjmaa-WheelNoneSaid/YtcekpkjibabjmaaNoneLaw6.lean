/-
  A wheel that is not there, and one that no call made, sets nothing: the law sodalitylaw06.WheelNone over the contracts.
-/
import Derived.Test.YtcekpkjibabjmaaWWorks
namespace Go.Proofs.Ytcekpkjibabjmaa
open Go.RowKit
set_option linter.unusedSimpArgs false

theorem Unmade.below {w w' : World} {v : Value} (h : Unmade w v) (hb : Below w.heap.size w w') : Unmade w' v := by
  rcases h with rfl | ⟨B, cur, rfl, hh, h1⟩
  · exact .inl rfl
  · exact .inr ⟨B, cur, rfl, (hb.block B (block_lt hh)).trans hh, h1⟩
/-- What a call hands back at such a wheel; nothing that was there has changed. -/
def Nought (w : World) (v : Value) (e : Ending) (w' : World) : Prop := e = .returned v ∧ Below w.heap.size w w'
theorem set_none (w : World) (v : Value) (h : Unmade w v) (id n : Int) : Calls Try.prog 8 #[v, .int .i64 id, .int .i64 n] w (Nought w (.bool false)) := by
  have HM := Lib.hid (made_no v w h)
  clear h
  go_enter Try.func8, Try.ntmps8
  go_wp2_with fail
  refine HM.out.mono ?_
  rintro e w' ⟨rfl, rfl⟩
  go_wp2
  go_ret
  exact ⟨rfl, Below.refl _ _⟩
theorem stop_none (w : World) (v : Value) (h : Unmade w v) (id : Int) : Calls Try.prog 10 #[v, .int .i64 id] w (Nought w (.bool false)) := by
  have hb : Below w.heap.size w (w.alloc (.cells #[.int .i64 id] 3)) := (Below.refl _ w).alloc (Nat.le_refl _) _
  have HM := Lib.hid (made_no v _ (h.below hb))
  have HB := Lib.hid hb
  clear h hb
  go_enter Try.func10, Try.ntmps10
  go_wp2_with fail
  refine HM.out.mono ?_
  rintro e w' ⟨rfl, rfl⟩
  go_wp2
  go_ret
  exact ⟨rfl, HB.out⟩
theorem tick_none (w : World) (v : Value) (h : Unmade w v) (hp : ∃ p, v = .pointer p) : Calls Try.prog 14 #[v] w (Nought w (.slice none 0 0)) := by
  obtain ⟨p, rfl⟩ := hp
  have hb : Below w.heap.size w (w.alloc (.cells #[.pointer p] 23)) := (Below.refl _ w).alloc (Nat.le_refl _) _
  have HM := Lib.hid (made_no _ _ (h.below hb))
  have HB := Lib.hid hb
  clear h hb
  go_enter Try.func14, Try.ntmps14
  go_wp2_with fail
  refine HM.out.mono ?_
  rintro e w' ⟨rfl, rfl⟩
  go_wp2
  go_ret
  exact ⟨rfl, HB.out⟩
theorem now_none (w : World) (v : Value) (h : Unmade w v) : Calls Try.prog 21 #[v] w (Nought w (.int .i64 0)) := by
  have HM := Lib.hid (made_no v w h)
  clear h
  go_enter Try.func21, Try.ntmps21
  go_wp2_with fail
  refine HM.out.mono ?_
  rintro e w' ⟨rfl, rfl⟩
  go_wp2
  go_ret
  exact ⟨rfl, Below.refl _ _⟩
theorem ids_none (w : World) (v : Value) (h : Unmade w v) : Calls Try.prog 18 #[v] w (Nought w (.slice none 0 0)) := by
  have HM := Lib.hid (made_no v w h)
  clear h
  go_enter Try.func18, Try.ntmps18
  go_wp2_with fail
  refine HM.out.mono ?_
  rintro e w' ⟨rfl, rfl⟩
  go_wp2
  go_ret
  exact ⟨rfl, Below.refl _ _⟩
theorem left_none (w : World) (v : Value) (h : Unmade w v) (id : Int) : Calls Try.prog 19 #[v, .int .i64 id] w (Nought w (.tuple #[.int .i64 0, .bool false])) := by
  have HM := Lib.hid (made_no v w h)
  clear h
  go_enter Try.func19, Try.ntmps19
  go_wp2_with fail
  refine HM.out.mono ?_
  rintro e w' ⟨rfl, rfl⟩
  go_wp2
  go_ret2
  exact ⟨rfl, Below.refl _ _⟩
theorem next_none (w : World) (v : Value) (h : Unmade w v) : Calls Try.prog 20 #[v] w (Nought w (.tuple #[.int .i64 0, .bool false])) := by
  have HM := Lib.hid (made_no v w h)
  clear h
  go_enter Try.func20, Try.ntmps20
  go_wp2_with fail
  refine HM.out.mono ?_
  rintro e w' ⟨rfl, rfl⟩
  go_wp2
  go_ret2
  exact ⟨rfl, Below.refl _ _⟩
set_option maxHeartbeats 16000000 in
set_option maxRecDepth 100000 in
theorem none_walk (id n : Int) (w : World) :
    Calls Try.prog 6 #[.int .i64 id, .int .i64 n] w fun e w' => e = .returned (.bool true) ∧ Below w.heap.size w w' := by
  have hz := wheel_zero
  have HWk := Lib.hid (fun w => works_any w)
  obtain ⟨W, hW⟩ : ∃ W, (w.alloc (.cells zeroWheel 48)).alloc (.cells #[.pointer none, .pointer (some ⟨w.heap.size, 0, none⟩)] 23) = W := ⟨_, rfl⟩
  obtain ⟨X, hX⟩ : ∃ X, w.heap.size + 1 = X := ⟨_, rfl⟩
  have hb0 : Below w.heap.size w W := by rw [← hW]; exact ((Below.refl _ w).alloc (Nat.le_refl _) _).alloc (by simp) _
  have hZ : W.heap[w.heap.size]? = some (.cells zeroWheel 48 (0, 0)) := by
    rw [← hW, heap_alloc_old _ _ (by simp)]
    exact heap_alloc_new _ _
  have hXh : W.heap[X]? = some (.cells #[.pointer none, .pointer (some ⟨w.heap.size, 0, none⟩)] 23 (0, 0)) := by
    rw [← hW, ← hX]
    have e : (w.alloc (.cells zeroWheel 48)).heap.size = w.heap.size + 1 := by simp
    rw [← e]
    exact heap_alloc_new _ _
  have hz1 : zeroWheel[1]? = some (.map none) := by
    unfold zeroWheel
    rw [Array.getElem?_append_left (by simp)]
    rfl
  have HUn : Hid (∀ k, k < 2 → ∃ p, (∀ wr, Below W.heap.size W wr → wr.cell? ⟨X, k, none⟩ = some (.pointer p)) ∧ Unmade W (.pointer p)) := Lib.hid (fun k hk => by
    have h2 : k = 0 ∨ k = 1 := by omega
    rcases h2 with rfl | rfl
    · exact ⟨none, fun wr hb => by rw [hb.cell (p := ⟨X, 0, none⟩) (block_lt hXh), cell_of_row _ _ _ _ _ _ hXh]; rfl, .inl rfl⟩
    · exact ⟨some ⟨w.heap.size, 0, none⟩, fun wr hb => by rw [hb.cell (p := ⟨X, 1, none⟩) (block_lt hXh), cell_of_row _ _ _ _ _ _ hXh]; rfl, .inr ⟨_, _, rfl, hZ, hz1⟩⟩)
  have HW := Lib.hid hW
  have HX := Lib.hid hX
  have HB0 := Lib.hid hb0
  have HRef : Hid (Below W.heap.size W W) := Lib.hid (Below.refl _ _)
  clear hW hX hb0 hZ hXh hz1
  go_enter Try.func6, Try.ntmps6
  go_wp2
  rw [HW.out, HX.out]
  go_loopw [7] (fun kv wr => ∃ (k : Nat), kv = .int .i64 (k : Int) ∧ k ≤ 2 ∧ Hid (Below W.heap.size W wr)) (fun kv _ => 2 - (RowKit.intOf kv).toNat)
  case atStart => exact ⟨0, rfl, Nat.zero_le _, HRef⟩
  case round =>
    obtain ⟨k, rfl, hk, hbe⟩ := hrel
    by_cases hlt : k < 2
    · obtain ⟨p, hcell, hun⟩ := HUn.out k hlt
      have q2 : (k : Int) < 2 := by omega
      have HC := Lib.hid hcell
      have HU : Hid (∀ w', Below W.heap.size W w' → Unmade w' (.pointer p)) := Lib.hid (fun w' hb => hun.below hb)
      have cr := hcell wr hbe.out
      have C1 := Lib.hid (left_none wr _ (HU.out wr hbe.out) id)
      clear hcell hun
      go_wp2_with fail
      refine C1.out.mono ?_
      rintro e w1 ⟨rfl, hb1⟩
      have HB1 : Hid (Below W.heap.size W w1) := Lib.hid (hbe.out.trans (hb1.mono hbe.out.size))
      have C2 := Lib.hid (next_none w1 _ (HU.out w1 HB1.out))
      have cr1 := HC.out w1 HB1.out
      clear hb1 cr
      go_wp2_with fail
      refine C2.out.mono ?_
      rintro e w2 ⟨rfl, hb2⟩
      have HB2 : Hid (Below W.heap.size W w2) := Lib.hid (HB1.out.trans (hb2.mono HB1.out.size))
      have C3 := Lib.hid (set_none w2 _ (HU.out w2 HB2.out) id n)
      have cr2 := HC.out w2 HB2.out
      clear hb2 cr1
      go_wp2_with fail
      refine C3.out.mono ?_
      rintro e w3 ⟨rfl, hb3⟩
      have HB3 : Hid (Below W.heap.size W w3) := Lib.hid (HB2.out.trans (hb3.mono HB2.out.size))
      have C4 := Lib.hid (stop_none w3 _ (HU.out w3 HB3.out) id)
      have cr3 := HC.out w3 HB3.out
      clear hb3 cr2
      go_wp2_with fail
      refine C4.out.mono ?_
      rintro e w4 ⟨rfl, hb4⟩
      have HB4 : Hid (Below W.heap.size W w4) := Lib.hid (HB3.out.trans (hb4.mono HB3.out.size))
      have C5 := Lib.hid (tick_none w4 _ (HU.out w4 HB4.out) ⟨p, rfl⟩)
      have cr4 := HC.out w4 HB4.out
      clear hb4 cr3
      go_wp2_with fail
      refine C5.out.mono ?_
      rintro e w5 ⟨rfl, hb5⟩
      have HB5 : Hid (Below W.heap.size W w5) := Lib.hid (HB4.out.trans (hb5.mono HB4.out.size))
      have C6 := Lib.hid (now_none w5 _ (HU.out w5 HB5.out))
      have cr5 := HC.out w5 HB5.out
      clear hb5 cr4
      go_wp2_with fail
      refine C6.out.mono ?_
      rintro e w6 ⟨rfl, hb6⟩
      have HB6 : Hid (Below W.heap.size W w6) := Lib.hid (HB5.out.trans (hb6.mono HB5.out.size))
      have C7 := Lib.hid (ids_none w6 _ (HU.out w6 HB6.out))
      have cr6 := HC.out w6 HB6.out
      clear hb6 cr5
      go_wp2_with fail
      refine C7.out.mono ?_
      rintro e w7 ⟨rfl, hb7⟩
      have HB7 : Hid (Below W.heap.size W w7) := Lib.hid (HB6.out.trans (hb7.mono HB6.out.size))
      clear hb7 cr6
      go_wp2
      go_roundw
      case rel => exact ⟨k + 1, by go_num, by omega, HB7⟩
      case measure => simp [RowKit.intOf]; omega
    · obtain rfl : k = 2 := by omega
      have CW := Lib.hid (HWk.out wr)
      clear hlt
      go_wp2_with fail
      refine CW.out.mono ?_
      rintro e w8 ⟨rfl, hb8⟩
      have HB8 := Lib.hid hb8
      clear hb8
      go_wp2
      go_ret
      have h1 := HB0.out.trans (hbe.out.mono HB0.out.size)
      exact ⟨rfl, h1.trans (HB8.out.mono h1.size)⟩
end Go.Proofs.Ytcekpkjibabjmaa
