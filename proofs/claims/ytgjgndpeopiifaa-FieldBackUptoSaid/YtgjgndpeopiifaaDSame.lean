/-
  texts and nums of the law: of two lists that are the same (layer 4).
-/
import Derived.Test.YtgjgndpeopiifaaDItems
import Derived.Deep.Draws
namespace Go.Proofs.Ytgjgndpeopiifaa
open Go.RowKit
set_option linter.unusedSimpArgs false

theorem below_drewN {B : Nat} {a w : World} (h : Below B a w) (n : Nat) : Below B a (w.drewN n) := h.trans ⟨rfl, rfl, rfl, Nat.le_refl _, fun _ _ => rfl⟩

set_option maxHeartbeats 1000000 in
theorem texts_same (A B : Option Addr) (n c d : Nat) (l : List (List UInt8)) (w : World) (h1 : RV w A n (l.map strV)) (h2 : RV w B n (l.map strV)) (hn : n ≤ 140737488355328) :
    Calls Try.prog 28 #[.slice A n c, .slice B n d] w fun e w' => e = .returned (.bool true) ∧ Below w.heap.size w w' := by
  have hln : l.length = n := by simpa using h1.1
  have H1 := Lib.hid h1
  have H2 := Lib.hid h2
  have HLn := Lib.hid hln
  clear h1 h2 hln
  go_enter Try.func28, Try.ntmps28
  go_wp2
  go_loopw [5] (fun kv wr => ∃ k : Nat, k ≤ n ∧ kv = .int .i64 (k : Int) ∧ Hid (Below w.heap.size w wr)) (fun kv _ => n - (intOf kv).toNat)
  case atStart => exact ⟨0, Nat.zero_le _, rfl, Lib.hid (Below.refl _ _)⟩
  case round =>
    obtain ⟨k, hk, rfl, hb⟩ := hrel
    by_cases hlt : k < n
    · have hk' : k < l.length := by rw [HLn.out]; exact hlt
      obtain ⟨b, off, rfl, _, hc1⟩ := (H1.out.below hb.out).at_ hlt
      obtain ⟨b2, off2, rfl, _, hc2⟩ := (H2.out.below hb.out).at_ hlt
      rw [List.getElem_map] at hc1 hc2
      obtain ⟨x, hx⟩ : ∃ x, l[k] = x := ⟨_, rfl⟩
      rw [hx] at hc1 hc2
      unfold strV at hc1 hc2
      obtain ⟨bs, hbs⟩ : ∃ bs : ByteArray, (⟨x.toArray⟩ : ByteArray) = bs := ⟨_, rfl⟩
      rw [hbs] at hc1 hc2
      clear hbs
      have q1 : (k : Int) < (n : Int) := by omega
      have q2 : (0 : Int) ≤ (k : Int) := by omega
      clear hx hk'
      go_wp2
      go_quiet (fail)
      have HB := Lib.hid (below_drewN hb.out nq)
      go_wp2
      go_roundw
      case rel => exact ⟨k + 1, by omega, by go_num, HB⟩
      case measure => simp [intOf]; omega
    · obtain rfl : k = n := by omega
      go_wp2
      go_ret
      exact ⟨rfl, hb.out⟩

set_option maxHeartbeats 1000000 in
theorem nums_same (A B : Option Addr) (n c d : Nat) (l : List Nat) (w : World) (h1 : RV w A n (l.map u64V)) (h2 : RV w B n (l.map u64V)) (hn : n ≤ 140737488355328) :
    Calls Try.prog 30 #[.slice A n c, .slice B n d] w fun e w' => e = .returned (.bool true) ∧ Below w.heap.size w w' := by
  have hln : l.length = n := by simpa using h1.1
  have H1 := Lib.hid h1
  have H2 := Lib.hid h2
  have HLn := Lib.hid hln
  clear h1 h2 hln
  go_enter Try.func30, Try.ntmps30
  go_wp2
  go_loopw [5] (fun kv wr => ∃ k : Nat, k ≤ n ∧ kv = .int .i64 (k : Int) ∧ Hid (Below w.heap.size w wr)) (fun kv _ => n - (intOf kv).toNat)
  case atStart => exact ⟨0, Nat.zero_le _, rfl, Lib.hid (Below.refl _ _)⟩
  case round =>
    obtain ⟨k, hk, rfl, hb⟩ := hrel
    by_cases hlt : k < n
    · have hk' : k < l.length := by rw [HLn.out]; exact hlt
      obtain ⟨b, off, rfl, _, hc1⟩ := (H1.out.below hb.out).at_ hlt
      obtain ⟨b2, off2, rfl, _, hc2⟩ := (H2.out.below hb.out).at_ hlt
      rw [List.getElem_map] at hc1 hc2
      obtain ⟨x, hx⟩ : ∃ x, l[k] = x := ⟨_, rfl⟩
      rw [hx] at hc1 hc2
      unfold u64V at hc1 hc2
      have q1 : (k : Int) < (n : Int) := by omega
      have q2 : (0 : Int) ≤ (k : Int) := by omega
      clear hx hk'
      go_wp2
      go_quiet (fail)
      have HB := Lib.hid (below_drewN hb.out nq)
      go_wp2
      go_roundw
      case rel => exact ⟨k + 1, by omega, by go_num, HB⟩
      case measure => simp [intOf]; omega
    · obtain rfl : k = n := by omega
      go_wp2
      go_ret
      exact ⟨rfl, hb.out⟩
end Go.Proofs.Ytgjgndpeopiifaa
