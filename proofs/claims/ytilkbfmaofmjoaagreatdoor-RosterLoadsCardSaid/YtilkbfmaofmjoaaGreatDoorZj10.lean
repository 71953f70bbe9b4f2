import Derived.Test.YtilkbfmaofmjoaaGreatDoorZj8
import Derived.Shelf.Abstract
namespace Go.Proofs.YtilkbfmaofmjoaaGreatDoor
open Go.RowKit Go.Shelf
set_option linter.unusedSimpArgs false
set_option linter.unusedVariables false
set_option maxHeartbeats 1000000 in
theorem search_any (g n : Nat) (eg : ∀ args w, (callFunc g args).run Tryz.prog w = .ok (.enter g args) w) (hn : n ≤ 1000) (lb : Array Value) (p : Nat → Bool) (w : World)
    (hf : ∀ i W, i < n → Below w.heap.size w W → Calls Tryz.prog g (#[.int .i64 (i : Int)] ++ lb) W fun e W' => e = .returned (.bool (p i)) ∧ Below W.heap.size W W')
    (hmono : ∀ a b, a ≤ b → b < n → p a = true → p b = true) :
    Calls Tryz.prog 133 #[.int .i64 (n : Int), .func (.func g) #[] lb] w fun e w' => ∃ m : Nat, e = .returned (.int .i64 (m : Int)) ∧ m ≤ n ∧ ((∀ i, i < m → p i = false) ∧ ∀ i, m ≤ i → i < n → p i = true) ∧ Below w.heap.size w w' := by
  have HF := Lib.hid hf
  have HM := Lib.hid hmono
  clear hf hmono
  go_enter Tryz.func133, Tryz.ntmps133
  go_wp2
  go_loopw [5, 6] (fun s5 s6 wr => ∃ lo hi : Nat, s5 = .int .i64 (lo : Int) ∧ s6 = .int .i64 (hi : Int) ∧ lo ≤ hi ∧ hi ≤ n ∧ Hid ((∀ i, i < lo → p i = false) ∧ ∀ i, hi ≤ i → i < n → p i = true) ∧ Hid (Below w.heap.size w wr)) (fun s5 s6 _ => (intOf s6).toNat - (intOf s5).toNat)
  case atStart => exact ⟨0, n, rfl, rfl, Nat.zero_le _, Nat.le_refl _, Lib.hid ⟨fun i hi => absurd hi (Nat.not_lt_zero _), fun i h1 h2 => by omega⟩, Lib.hid (Below.refl _ _)⟩
  case round =>
    obtain ⟨lo, hi, rfl, rfl, hlh, hin, hI, hb⟩ := hrel
    by_cases hlt : lo < hi
    · have hc := HF.out ((lo + hi) / 2) wr (by omega) hb.out
      obtain ⟨m, hm⟩ : ∃ m, (lo + hi) / 2 = m := ⟨_, rfl⟩
      have hq : ((lo : Int) + (hi : Int)) / 2 = (m : Int) := by omega
      rw [hm] at hc
      cases hp : p m <;> rw [hp] at hc
      · have HI : Hid ((∀ i, i < m + 1 → p i = false) ∧ ∀ i, hi ≤ i → i < n → p i = true) := Lib.hid ⟨(fun i hi2 => by
          rw [Bool.eq_false_iff]
          intro e
          have := HM.out i m (by omega) (by omega) e
          rw [hp] at this
          cases this), hI.out.2⟩
        have HC := Lib.hid hc
        clear hp hc
        go_wp2_with (go_at_fn g; refine HC.out.mono ?_; rintro e w' ⟨rfl, hb2⟩)
        have HB := Lib.hid (hb.out.trans (hb2.mono hb.out.size))
        clear hb2 HC
        go_roundw
        case rel => exact ⟨m + 1, hi, by go_num, rfl, by omega, hin, HI, HB⟩
        case measure => simp [intOf]; omega
      · have HI : Hid ((∀ i, i < lo → p i = false) ∧ ∀ i, m ≤ i → i < n → p i = true) := Lib.hid ⟨hI.out.1, fun i h1 h2 => HM.out m i h1 h2 hp⟩
        have HC := Lib.hid hc
        clear hp hc
        go_wp2_with (go_at_fn g; refine HC.out.mono ?_; rintro e w' ⟨rfl, hb2⟩)
        have HB := Lib.hid (hb.out.trans (hb2.mono hb.out.size))
        clear hb2 HC
        go_roundw
        case rel => exact ⟨lo, m, rfl, rfl, by omega, by omega, HI, HB⟩
        case measure => simp [intOf]; omega
    · obtain rfl : lo = hi := by omega
      go_wp2
      go_ret
      exact ⟨lo, rfl, hin, hI.out, hb.out⟩
end Go.Proofs.YtilkbfmaofmjoaaGreatDoor
