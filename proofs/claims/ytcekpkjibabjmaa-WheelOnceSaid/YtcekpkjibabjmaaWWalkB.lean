/-
  take and New of the program's wheel, walked (layer 6).
-/
import Derived.Test.YtcekpkjibabjmaaWWalkA
namespace Go.Proofs.Ytcekpkjibabjmaa
open Go.RowKit
set_option linter.unusedSimpArgs false

/-- A slot's place in the wheel's block, as the walk spells it. -/
def Place (l j K O : Nat) : Prop := (l = 0 ∧ K = 0 + j ∧ O = 2 + j) ∨ (l = 1 ∧ K = 64 + j ∧ O = 66 + j) ∨ (l = 2 ∧ K = 128 + j ∧ O = 130 + j)
theorem place_of {l t : Nat} (hl : l < 3) : Place l (blkOf l t % 64) (slotOf l t) (2 + slotOf l t) := by
  unfold Place slotOf
  omega
set_option maxHeartbeats 1000000 in
theorem take_any {S : Nat → Prop} {B M N n : Nat} {g : Nat → Value} {m : Mp} {q : Nat → List Int} (w : World) (h : WhIs S w B M g N m n q) (l : Nat) (hl : l < 3) (hN : N ≤ 1099511627776) :
    Calls Try.prog 29 #[.pointer (some ⟨B, 0, none⟩), .int .i64 (l : Int)] w fun e w' =>
      e = .returned (g (slotOf l N)) ∧ WhIs S w' B M (upG g (slotOf l N) (.slice none 0 0)) N m n (upQ q (slotOf l N) []) ∧ Kept S w w' ∧ rowOwn w' (g (slotOf l N)) (q (slotOf l N)) := by
  have c0 := h.c0
  have hk := slotOf_lt hl N
  have hp := place_of (t := N) hl
  have HC := Lib.hid (slot_any N l w hl (by omega))
  obtain ⟨K, hK⟩ : ∃ K, slotOf l N = K := ⟨_, rfl⟩
  rw [hK] at hk hp ⊢
  obtain ⟨j, hj⟩ : ∃ j, blkOf l N % 64 = j := ⟨_, rfl⟩
  have hj64 : j < 64 := by omega
  rw [hj] at HC hp
  have c2 := h.c2 hk
  have f2 := h.fz (2 + K)
  have HS := Lib.hid (h.setSlot hk (h.rows.change hk (But.refl (fun _ => False) w) (fun _ h => h.elim) (rowOwn.nil w) (fun _ e => by cases e)))
  have HO := Lib.hid (own_but (h.rows.own K hk) (But.set (S := (· = B)) w (p := ⟨B, 2 + K, none⟩) rfl (.slice none 0 0)) (fun b hb => (h.neRow hk hb).1))
  obtain ⟨O, hO⟩ : ∃ O, 2 + K = O := ⟨_, rfl⟩
  rw [hO] at c2 f2 hp HS HO
  obtain ⟨u, hu⟩ : ∃ u, g K = u := ⟨_, rfl⟩
  rw [hu] at c2 HO ⊢
  clear h hK hj hu hO
  rcases hp with ⟨rfl, rfl, rfl⟩ | ⟨rfl, rfl, rfl⟩ | ⟨rfl, rfl, rfl⟩
  all_goals
    go_enter Try.func29, Try.ntmps29
    go_wp2_with fail
    refine HC.out.mono ?_
    rintro e w' ⟨rfl, rfl⟩
    go_wp2
    go_ret
    exact ⟨rfl, HS.out.1, HS.out.2, HO.out⟩

def zeroWheel : Array Value := #[.int .i64 0, .map none] ++ Array.replicate 192 (.slice none 0 0)
theorem wheel_zero (w : World) : (zeroValue 48).run Try.prog w = .ok (.agg zeroWheel) w := by kernel_rfl
theorem zeroWheel_size : zeroWheel.size = 194 := by kernel_rfl
theorem zeroWheel_now : zeroWheel[0]? = some (.int .i64 ((0 : Nat) : Int)) := by
  unfold zeroWheel
  rw [Array.getElem?_append_left (by simp)]
  simp
theorem zeroWheel_slot {k : Nat} (h : k < 192) : zeroWheel[2 + k]? = some (.slice none 0 0) := by
  unfold zeroWheel
  rw [Array.getElem?_append_right (by simp)]
  simp [h]
theorem new_is (w : World) : WhIs (fun k => w.heap.size ≤ k) ((w.alloc (.map #[] 0)).alloc (.cells (zeroWheel.setIfInBounds 1 (.map (some w.heap.size))) 48)) (w.heap.size + 1) w.heap.size (fun _ => .slice none 0 0) 0 (fun _ => none) 0 (fun _ => []) := by
  have e : (w.alloc (.map #[] 0)).heap.size = w.heap.size + 1 := by simp
  refine ⟨Nat.le_succ _, Nat.le_refl _, ⟨_, e ▸ heap_alloc_new _ _, ?_, ?_, fun k hk => ?_⟩, (MapIs.made w).block (heap_alloc_old _ _ (by simp)), ⟨fun _ _ => rowOwn.nil _, fun _ _ _ h => (by cases h), fun _ _ _ _ _ h => (by cases h)⟩⟩
  · rw [Array.getElem?_setIfInBounds_ne (by omega)]; exact zeroWheel_now
  · rw [Array.getElem?_setIfInBounds_self_of_lt (by rw [zeroWheel_size]; omega)]
  · rw [Array.getElem?_setIfInBounds_ne (by omega)]; exact zeroWheel_slot hk
set_option maxHeartbeats 4000000 in
set_option maxRecDepth 100000 in
theorem new_any (w : World) : Calls Try.prog 7 #[] w fun e w' => ∃ B M g, e = .returned (.pointer (some ⟨B, 0, none⟩)) ∧ WhIs (fun k => w.heap.size ≤ k) w' B M g 0 (fun _ => none) 0 (fun _ => []) ∧ Below w.heap.size w w' := by
  have hmm := @run_makeMap Try.prog
  have HZ := Lib.hid (zeroWheel_size)
  have hz := wheel_zero
  have HI := Lib.hid (new_is w)
  have hlt : ¬ zeroWheel.size < 2 := by rw [HZ.out]; omega
  go_enter Try.func7, Try.ntmps7
  go_wp2
  go_ret
  exact ⟨_, _, _, rfl, HI.out, ((Below.refl _ w).alloc (Nat.le_refl _) _).alloc (by simp) _⟩
end Go.Proofs.Ytcekpkjibabjmaa
