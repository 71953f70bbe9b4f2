/-
  works and same of the law, walked (layer 12).
-/
import Derived.Test.YtckeknhoimgccaaPrPair
namespace Go.Proofs.Ytckeknhoimgccaa
open Go.RowKit
set_option linter.unusedSimpArgs false
set_option linter.unusedVariables false

theorem two_below {B b : Nat} {w0 w w' : World} (h : But (Two B b) w w') (hb : Below w0.heap.size w0 w) (h1 : w0.heap.size ≤ B) (h2 : w0.heap.size ≤ b) : Below w0.heap.size w0 w' :=
  hb.trans (h.below hb.size (fun k hk e => by rcases e with rfl | rfl <;> omega))
set_option maxHeartbeats 4000000 in
theorem works_any (w : World) : Calls Try.prog 23 #[] w fun e w' => e = .returned (.bool true) ∧ Below w.heap.size w w' := by
  have HN := Lib.hid (rgnew_any w)
  obtain ⟨B, hB⟩ : ∃ B, w.heap.size = B := ⟨_, rfl⟩
  rw [hB] at HN
  have HB := Lib.hid hB
  clear hB
  go_enter Try.func23, Try.ntmps23
  go_wp2_with fail
  refine HN.out.mono ?_
  rintro e w1 ⟨rfl, hw1⟩
  have HW1 := Lib.hid hw1
  have HD := Lib.hid (new_any none 0 0 [] w1 (RV.zero _ _) (fun _ => rfl) (Nat.le_refl _) (by omega) (by simp))
  clear hw1
  go_wp2_with fail
  refine HD.out.mono ?_
  rintro e w2 ⟨b, rfl, hb, hb2, hd, hbl⟩
  have hs1 : w1.heap.size = B + 1 := by rw [HW1.out, ← HB.out]; simp
  have hbB : B ≤ b := by omega
  obtain ⟨hp, hbw⟩ := pr_made HB.out HW1.out hb hb2 hd hbl
  have hadd := hp.add 1
  rw [show Rg.new.takes 1 = true by decide, show Rg.new.added 1 ⟨[].take 4096, 0⟩ = ⟨[1], 0⟩ by rfl] at hadd
  have HA := Lib.hid hadd
  have HBw := Lib.hid hbw
  have HbB := Lib.hid hbB
  clear hb hb2 hd hbl hs1 hp hbw hadd hbB
  go_wp2_with fail
  refine HA.out.mono ?_
  rintro e w3 ⟨rfl, hp3, hb3⟩
  obtain ⟨d3, hd3⟩ : ∃ d3, Dr.added ⟨[].take 4096, 0⟩ Rg.new 1 = d3 := ⟨_, rfl⟩
  rw [hd3] at hp3
  obtain ⟨X, hX⟩ : ∃ X, w3.heap.size = X := ⟨_, rfl⟩
  obtain ⟨W4, hW4⟩ : ∃ W4, w3.alloc (.cells #[.int .i64 1] 3) = W4 := ⟨_, rfl⟩
  have hb4 : Below w3.heap.size w3 W4 := by rw [← hW4]; exact (Below.refl _ _).alloc (Nat.le_refl _) _
  have hk : W4.heap[X]? = some (.cells #[.int .i64 1] 3 (0, 0)) := by rw [← hW4, ← hX]; exact heap_alloc_new w3 _
  have hl : Lst (Two B b) W4 (some ⟨X, 0, none⟩) 1 1 [1] := ⟨⟨⟨rfl, fun _ => ⟨X, 0, rfl, block_lt hk, fun j hj => by
    obtain rfl : j = 0 := by simpa using hj
    rw [cell_of_row _ _ _ _ _ _ hk]
    rfl⟩⟩, fun b' off e _ hs => by
      simp only [Option.some.injEq, Addr.mk.injEq] at e
      have := hp3.lt b' hs
      omega⟩, Nat.le_refl _, by omega⟩
  have hnx := (hp3.below hb4).next (some ⟨X, 0, none⟩) 1 1 [1] hl
  obtain ⟨ea, eb⟩ := Rg.asked_first (g := ⟨[1], 0⟩) (live := [1]) (d := d3) (x := 1) (k := 1) (by decide)
  rw [ea] at hnx
  have HX := Lib.hid hX
  have HW4 := Lib.hid hW4
  have HNx := Lib.hid hnx
  have HB4 : Hid (Below w.heap.size w W4) := Lib.hid (by
    have h1 := two_below hb3 HBw.out (by rw [HB.out]; exact Nat.le_refl _) (by rw [HB.out]; exact HbB.out)
    exact h1.trans (hb4.mono h1.size))
  clear hp3 hb3 hd3 hX hW4 hb4 hk hl hnx ea eb
  go_wp2_with fail
  rw [HX.out, HW4.out]
  refine HNx.out.mono ?_
  rintro e w5 ⟨rfl, _, hb5⟩
  have HB5 : Hid (Below w.heap.size w w5) := Lib.hid (two_below hb5 HB4.out (by rw [HB.out]; exact Nat.le_refl _) (by rw [HB.out]; exact HbB.out))
  clear hb5
  go_wp2
  go_ret
  exact ⟨rfl, HB5.out⟩
set_option maxHeartbeats 1000000 in
theorem same_any (A A2 : Option Addr) (n c c2 : Nat) (l : List Int) (w : World) (h1 : RV w A n (l.map nV)) (h2 : RV w A2 n (l.map nV)) (hn : n ≤ 4096) :
    Calls Try.prog 17 #[.slice A n c, .slice A2 n c2] w fun e w' => e = .returned (.bool true) ∧ Below w.heap.size w w' := by
  have hln : l.length = n := by simpa using h1.1
  have H1 := Lib.hid h1
  have H2 := Lib.hid h2
  have HLn := Lib.hid hln
  clear h1 h2 hln
  go_enter Try.func17, Try.ntmps17
  go_wp2
  go_loopw [5] (fun kv wr => ∃ k : Nat, k ≤ n ∧ kv = .int .i64 (k : Int) ∧ Hid (Below w.heap.size w wr)) (fun kv _ => n - (intOf kv).toNat)
  case atStart => exact ⟨0, Nat.zero_le _, rfl, Lib.hid (Below.refl _ _)⟩
  case round =>
    obtain ⟨k, hk, rfl, hb⟩ := hrel
    by_cases hlt : k < n
    · have hk' : k < l.length := by rw [HLn.out]; exact hlt
      obtain ⟨b, off, rfl, _, hc1⟩ := (H1.out.below hb.out).at_ hlt
      obtain ⟨b2, off2, rfl, _, hc2⟩ := (H2.out.below hb.out).at_ hlt
      rw [List.getElem_map] at hc1 hc2
      obtain ⟨x, hx⟩ : ∃ x, l[k] = x := ⟨_, rfl⟩
      rw [hx] at hc1 hc2
      unfold nV at hc1 hc2
      have q1 : (k : Int) < (n : Int) := by omega
      have q2 : (0 : Int) ≤ (k : Int) := by omega
      clear hx hk'
      go_wp2
      go_quiet (fail)
      have HB := Lib.hid (below_drewN hb.out nq)
      go_wp2
      go_roundw
      case rel => exact ⟨k + 1, by omega, by go_num, HB⟩
      case measure => simp [intOf]; omega
    · obtain rfl : k = n := by omega
      go_wp2
      go_ret
      exact ⟨rfl, hb.out⟩
end Go.Proofs.Ytckeknhoimgccaa
