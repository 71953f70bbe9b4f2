/-
  What Choose tells, where it is known which one is chosen (layer 17).
-/
import Derived.Test.YtmegfkclpjddgaaZj44
import Derived.Test.YtmegfkclpjddgaaZj35
import Derived.BigQuiet
namespace Go.Proofs.Ytmegfkclpjddgaa
open Go.RowKit
theorem ChPost.is {w w' : World} {l : List Ir} {s d : ByteArray} {b : Bool} {e : Ending} {o : Option Nat} (h : ChPost w l s d b e w') (ho : Chosen l s d o) : e = .returned (.tuple #[.bool (cA l b o), .int .i64 (cK o)]) ∧ Below w.heap.size w w' := by
  obtain ⟨o2, h1, h2, h3⟩ := h
  obtain rfl := h1.uniq ho
  exact ⟨h2, h3⟩
end Go.Proofs.Ytmegfkclpjddgaa
/-
  The law's unlike, walked (layer 17).
-/
namespace Go.Proofs.Ytmegfkclpjddgaa
open Go.RowKit
set_option linter.unusedSimpArgs false
set_option linter.unusedVariables false

set_option maxHeartbeats 4000000 in
theorem unlike_any (A : Option Addr) (n c : Nat) (l : List Ir) (w : World) (hS : SK irC 5 w A n l) (hn : n ≤ maxLen) :
    Calls Try.prog 23 #[.slice A n c] w fun e w' => ∃ u, e = .returned (.bool u) ∧ (u = true → Unl l) ∧ Below w.heap.size w w' := by
  unfold maxLen at hn
  have hm : (n : Int) ≤ 9223372036854775807 := by omega
  have HS := Lib.hid hS
  have HL := Lib.hid hS.1
  clear hS hn
  go_enter Try.func23, Try.ntmps23
  go_wp2
  go_loopw [3, 4] (fun iv _ wr => ∃ k : Nat, k ≤ n ∧ iv = .int .i64 (k : Int) ∧ Hid (∀ i j, i < k → j < i → ∀ hi : i < l.length, ∀ hj : j < l.length, ¬ (l[j].src = l[i].src ∧ l[j].dst = l[i].dst)) ∧ Hid (Below w.heap.size w wr)) (fun iv _ _ => n - (intOf iv).toNat)
  case atStart => exact ⟨0, Nat.zero_le _, rfl, Lib.hid (fun i j h => absurd h (Nat.not_lt_zero i)), Lib.hid (Below.refl _ _)⟩
  case round =>
    obtain ⟨k, hk, rfl, hno, hb⟩ := hrel
    obtain ⟨wo, rfl⟩ : ∃ wo : World, wo = wr := ⟨_, rfl⟩
    by_cases hlt : k < n
    · have hkl : k < l.length := by rw [HL.out]; exact hlt
      go_wp2
      go_loopw [4] (fun jv wr => ∃ j : Nat, j ≤ k ∧ jv = .int .i64 (j : Int) ∧ Hid (∀ i, i < j → ∀ hi : i < l.length, ¬ (l[i].src = l[k].src ∧ l[i].dst = l[k].dst)) ∧ Hid (Below w.heap.size w wr)) (fun jv _ => k - (intOf jv).toNat)
      case atStart => exact ⟨0, Nat.zero_le _, rfl, Lib.hid (fun i h => absurd h (Nat.not_lt_zero i)), hb⟩
      case round =>
        obtain ⟨j, hj, rfl, hnj, hbj⟩ := hrel
        by_cases hjk : j < k
        · have hjl : j < l.length := by omega
          have hjn : j < n := by omega
          obtain ⟨bb, off, rfl, hbl, hit⟩ := (HS.out.below hbj.out).at_ hlt hkl
          obtain ⟨bb2, off2, e2, hbl2, hit2⟩ := (HS.out.below hbj.out).at_ hjn hjl
          simp only [Option.some.injEq, Addr.mk.injEq, and_true] at e2
          obtain ⟨rfl, rfl⟩ := e2
          obtain ⟨x, hx⟩ : ∃ x, l[k] = x := ⟨_, rfl⟩
          obtain ⟨y, hy⟩ : ∃ y, l[j] = y := ⟨_, rfl⟩
          rw [hx] at hit
          rw [hy] at hit2
          obtain ⟨e0, e1, _⟩ := ir_cells hit
          obtain ⟨d0, d1, _⟩ := ir_cells hit2
          have g0 : (0 : Int) ≤ (j : Int) := by omega
          have g1 : (j : Int) < (n : Int) := by omega
          have g2 : (0 : Int) ≤ (k : Int) := by omega
          have g3 : (k : Int) < (n : Int) := by omega
          have HNx : Hid (¬ (y.src = x.src ∧ y.dst = x.dst) → ∀ i, i < j + 1 → ∀ hi : i < l.length, ¬ (l[i].src = l[k].src ∧ l[i].dst = l[k].dst)) := Lib.hid fun h i hi hil => by
            by_cases hij : i < j
            · exact hnj.out i hij hil
            · obtain rfl : i = j := by omega
              rw [hy, hx]
              exact h
          clear hit hit2 hx hy
          cases q1 : (y.src.toList == x.src.toList) with
          | false =>
            have HN := Lib.hid (HNx.out (fun e => by rw [text_same.2 e.1] at q1; cases q1))
            go_wp2
            go_quiet (fail)
            go_wp2
            go_roundw
            case rel => exact ⟨j + 1, by omega, by go_num, HN, Lib.hid (below_drewN hbj.out nq)⟩
            case measure => simp [intOf]; omega
          | true =>
            cases q2 : (y.dst.toList == x.dst.toList) with
            | false =>
              have HN := Lib.hid (HNx.out (fun e => by rw [text_same.2 e.2] at q2; cases q2))
              go_wp2
              go_quiet (fail)
              go_wp2
              go_roundw
              case rel => exact ⟨j + 1, by omega, by go_num, HN, Lib.hid (below_drewN hbj.out nq)⟩
              case measure => simp [intOf]; omega
            | true =>
              go_wp2
              go_quiet (fail)
              go_wp2
              go_ret
              exact ⟨false, rfl, (fun h => by cases h), below_drewN hbj.out nq⟩
        · have HD : Hid (∀ i j, i < k + 1 → j < i → ∀ hi : i < l.length, ∀ hj : j < l.length, ¬ (l[j].src = l[i].src ∧ l[j].dst = l[i].dst)) := Lib.hid fun i j2 hi hji hil hjl => by
            by_cases e : i < k
            · exact hno.out i j2 e hji hil hjl
            · obtain rfl : i = k := by omega
              exact hnj.out j2 (by omega) hjl
          clear hnj hno
          go_wp2
          go_roundw
          case rel => exact ⟨k + 1, by omega, by go_num, HD, hbj⟩
          case measure => simp [intOf]; omega
    · have HD : Hid (Unl l) := Lib.hid fun i j hi hj e1 e2 => by
        have hkl := HL.out
        rcases Nat.lt_trichotomy i j with q | q | q
        · exact absurd ⟨e1, e2⟩ (hno.out j i (by omega) q hj hi)
        · exact q
        · exact absurd ⟨e1.symm, e2.symm⟩ (hno.out i j (by omega) q hi hj)
      clear hno
      go_wp2
      go_ret
      exact ⟨true, rfl, fun _ => HD.out, hb.out⟩
end Go.Proofs.Ytmegfkclpjddgaa
