/-
  What is drawn below a number is at least 0, and below it; and one draw is taken at most: the law sodalitylaw05.DrawBelow over the contracts.
-/
import Derived.Test.YtonbojecgggheaaERefS
namespace Go.Proofs.Ytonbojecgggheaa
open Go.RowKit
set_option linter.unusedSimpArgs false

/-- Taken and Left, of any draws that have so many. -/
theorem left_of (S : Nat → Prop) (v : Value) (d : Dr) (w : World) (h : DwAt S w v d) {L : Nat} (hL : d.l.length - d.at_ = L) : Calls Try.prog 18 #[v] w fun e w' => e = .returned (.int .i64 (L : Int)) ∧ w = w' := by rw [← hL]; exact left_any S v d w h
theorem taken_of (S : Nat → Prop) (v : Value) (d : Dr) (w : World) (h : DwAt S w v d) {T : Nat} (hT : d.at_ = T) : Calls Try.prog 17 #[v] w fun e w' => e = .returned (.int .i64 (T : Int)) ∧ w = w' := by rw [← hT]; exact taken_any S v d w h
set_option maxHeartbeats 2000000 in
theorem below_walk (A : Option Addr) (n c : Nat) (xs : List Nat) (z : Int) (w : World) (hR : RV w A n (xs.map u32V)) (hnil : A = none → c = 0) (hnc : n ≤ c) (hn : n ≤ 35184372088832) (hx : ∀ x ∈ xs, x < 4294967296) (hz : z ≤ 9223372036854775807) :
    Calls Try.prog 4 #[.slice A n c, .int .i64 z] w fun e w' => e = .returned (.bool true) ∧ Below w.heap.size w w' := by
  have s1 := new_any A n c xs w hR hnil hnc hn hx
  have hl := List.length_take (i := 4096) (l := xs)
  obtain ⟨ys, hys⟩ : ∃ ys, xs.take 4096 = ys := ⟨_, rfl⟩
  rw [hys] at s1 hl
  have hL4 : ys.length ≤ 4096 := by omega
  have S1 := Lib.hid s1
  have HWk := Lib.hid (fun w => works_any w)
  clear s1 hR hnil hx hys hl
  obtain ⟨L, hL⟩ : ∃ L, ys.length = L := ⟨_, rfl⟩
  rw [hL] at hL4
  obtain ⟨X, hX⟩ : ∃ X, Dr.below z ⟨ys, 0⟩ = X := ⟨_, rfl⟩
  obtain ⟨d2, hd2⟩ : ∃ d2, Dr.next z ⟨ys, 0⟩ = d2 := ⟨_, rfl⟩
  have hT : ∃ T L2 : Nat, d2.at_ = T ∧ d2.l.length - d2.at_ = L2 ∧ T ≤ 1 ∧ L2 + T = L := by
    rw [← hd2]
    unfold Dr.next
    split
    · exact ⟨0, L, rfl, by simp [hL], by omega, by omega⟩
    · rename_i hs
      have : ¬ ys.length ≤ 0 := fun h => hs (.inr h)
      exact ⟨1, L - 1, rfl, by simp [hL], by omega, by omega⟩
  obtain ⟨T, L2, hT1, hT2, hT3, hT4⟩ := hT
  have HX := Lib.hid hX
  have HD2 := Lib.hid hd2
  have HL := Lib.hid hL
  have HT1 := Lib.hid hT1
  have HT2 := Lib.hid hT2
  have HLt : Hid (okDr ⟨ys, 0⟩ → 1 ≤ z → (X : Int) < z) := Lib.hid (fun h h1 => hX ▸ below_lt h h1)
  have HLz : Hid (z < 1 → X = 0) := Lib.hid (fun h => by rw [← hX, Dr.below, if_pos (.inl (by show z < 2; omega))])
  clear hX hd2 hL hT1 hT2
  go_enter Try.func4, Try.ntmps4
  go_wp2_with fail
  refine S1.out.mono ?_
  rintro e w1 ⟨B, rfl, hB, hlt, hd, hb1⟩
  have s2 := left_of _ _ _ w1 hd (L := L) (by rw [HL.out]; rfl)
  have S2 := Lib.hid s2
  have HD := Lib.hid hd
  have HB1 := Lib.hid hb1
  have hXz : (X : Int) < z ∨ X = 0 := by
    by_cases h : 1 ≤ z
    · exact .inl (HLt.out hd.1.1 h)
    · exact .inr (HLz.out (by omega))
  clear s2 hd hb1
  go_wp2_with fail
  refine S2.out.mono ?_
  rintro e w2 ⟨rfl, rfl⟩
  have s3 := below_any _ _ _ z w1 HD.out hz
  rw [HX.out, HD2.out] at s3
  have S3 := Lib.hid s3
  clear s3
  go_wp2_with fail
  refine S3.out.mono ?_
  rintro e w3 ⟨rfl, hd3, hb3⟩
  have HB3 : Hid (Below w.heap.size w w3) := Lib.hid (HB1.out.trans (hb3.below HB1.out.size (fun k hk e => by
    simp only [Tgt, Value.pointer.injEq, Option.some.injEq, Addr.mk.injEq] at e
    omega)))
  have s4 := left_of _ _ _ w3 hd3 HT2.out
  have s5 := taken_of _ _ _ w3 hd3 HT1.out
  have S4 := Lib.hid s4
  have S5 := Lib.hid s5
  have HWk3 := Lib.hid (HWk.out w3)
  clear s4 s5 hd3 hb3
  have hT5 : (T = 0 ∧ L2 = L) ∨ (T = 1 ∧ L = L2 + 1) := by omega
  clear hT3 hT4
  have hX0 : (0 : Int) ≤ (X : Int) := by omega
  by_cases hlt2 : (X : Int) < z
  all_goals
    first
    | (have hz1 : decide ((X : Int) < z) = true := by simpa using hlt2)
    | (have hz0 : X = 0 := by omega
       subst hz0
       have hz1 : decide ((0 : Int) < z) = false := by simpa using hlt2)
    rcases hT5 with ⟨rfl, rfl⟩ | ⟨rfl, rfl⟩
    all_goals
      go_wp2_with (first | (go_at_call 18; refine S4.out.mono ?_; rintro e w' ⟨rfl, rfl⟩) | (go_at_call 17; refine S5.out.mono ?_; rintro e w' ⟨rfl, rfl⟩) | (go_at_call 19; refine HWk3.out.mono ?_; rintro e w4 ⟨rfl, hb4⟩))
      all_goals
        go_ret
        exact ⟨rfl, HB3.out.trans (hb4.mono HB3.out.size)⟩
end Go.Proofs.Ytonbojecgggheaa
