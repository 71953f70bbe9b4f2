/-
  The bytes and the spelling of names and keys, walked (layer 1), for later layers.
-/
import Derived.Test.YtmegfkclpjddgaaZj3
import Derived.Test.YtmegfkclpjddgaaZj15
import Derived.WalkLawsBesides
import Derived.WalkSpells
import Derived.Handy
import Derived.Shelf.Vars
namespace Go.Proofs.Ytmegfkclpjddgaa
open Go.RowKit
set_option linter.unusedSimpArgs false

/-- The byte as the walk has it. -/
theorem byte_back (c : UInt8) : ((c.toNat : Int)).toNat.toUInt8 = c := by simp
theorem has_any (a : ByteArray) (c : UInt8) (w : World) :
    Calls Try.prog 94 #[.string a, .int .u8 (c.toNat : Int)] w fun e w' => e = .returned (.bool (okB a.data.toList c)) ∧ w = w' := by
  have hix := Lib.contains_iff_indexByte a.data.toList c
  have hc := Try.strings_IndexByte a (c.toNat : Int) w
  rw [byte_back] at hc
  have hlt := c.toNat_lt
  by_cases h1 : c.toNat < 48
  · have hp : plainB c = false := by simp [plainB]; omega
    go_enter Try.func94, Try.ntmps94
    go_wp2_with (go_at_call 103; refine hc.mono ?_; rintro e w' ⟨rfl, rfl⟩)
    go_ret
    exact ⟨ret_bool (by first | (simp only [okB, hp, hix, Bool.false_or]; done) | (simp [okB, hp, hix]; done) | (simp [okB, hp, hix]; omega)), rfl⟩
  · by_cases h2 : c.toNat ≤ 57
    · have hp : plainB c = true := by simp [plainB]; omega
      go_enter Try.func94, Try.ntmps94
      go_wp2
      go_ret
      exact ⟨ret_bool (by first | (simp only [okB, hp, Bool.true_or]; done) | (simp [okB, hp]; done) | (simp [okB, hp]; omega)), rfl⟩
    · by_cases h3 : c.toNat < 97
      · have hp : plainB c = false := by simp [plainB]; omega
        have d1 : decide ((97 : Int) ≤ (c.toNat : Int)) = false := by simp; omega
        have d2 : decide ((48 : Int) ≤ (c.toNat : Int)) = true := by simp; omega
        have d3 : decide ((c.toNat : Int) ≤ 57) = false := by simp; omega
        go_enter Try.func94, Try.ntmps94
        go_wp2_with (go_at_call 103; refine hc.mono ?_; rintro e w' ⟨rfl, rfl⟩)
        go_ret
        exact ⟨ret_bool (by first | (simp only [okB, hp, hix, Bool.false_or]; done) | (simp [okB, hp, hix]; done) | (simp [okB, hp, hix]; omega)), rfl⟩
      · by_cases h4 : c.toNat ≤ 122
        · have hp : plainB c = true := by simp [plainB]; omega
          go_enter Try.func94, Try.ntmps94
          go_wp2
          go_ret
          exact ⟨ret_bool (by first | (simp only [okB, hp, Bool.true_or]; done) | (simp [okB, hp]; done) | (simp [okB, hp]; omega)), rfl⟩
        · have hp : plainB c = false := by simp [plainB]; omega
          have d1 : decide ((97 : Int) ≤ (c.toNat : Int)) = true := by simp; omega
          have d2 : decide ((c.toNat : Int) ≤ 122) = false := by simp; omega
          have d3 : decide ((48 : Int) ≤ (c.toNat : Int)) = true := by simp; omega
          have d4 : decide ((c.toNat : Int) ≤ 57) = false := by simp; omega
          go_enter Try.func94, Try.ntmps94
          go_wp2_with (go_at_call 103; refine hc.mono ?_; rintro e w' ⟨rfl, rfl⟩)
          go_ret
          exact ⟨ret_bool (by first | (simp only [okB, hp, hix, Bool.false_or]; done) | (simp [okB, hp, hix]; done) | (simp [okB, hp, hix]; omega)), rfl⟩
theorem plain_any (c : UInt8) (w : World) :
    Calls Try.prog 47 #[.int .u8 (c.toNat : Int)] w fun e w' => e = .returned (.bool (plainB c)) ∧ w = w' := by
  have hlt := c.toNat_lt
  by_cases h1 : c.toNat < 48
  · have hp : plainB c = false := by simp [plainB]; omega
    go_enter Try.func47, Try.ntmps47
    go_wp2
    go_ret
    exact ⟨ret_bool (by first | rfl | (simp; done) | (simp; omega)), rfl⟩
  · by_cases h2 : c.toNat ≤ 57
    · have hp : plainB c = true := by simp [plainB]; omega
      go_enter Try.func47, Try.ntmps47
      go_wp2
      go_ret
      exact ⟨ret_bool (by first | rfl | (simp; done) | (simp; omega)), rfl⟩
    · by_cases h3 : c.toNat < 97
      · have hp : plainB c = false := by simp [plainB]; omega
        have d1 : decide ((97 : Int) ≤ (c.toNat : Int)) = false := by simp; omega
        have d2 : decide ((48 : Int) ≤ (c.toNat : Int)) = true := by simp; omega
        have d3 : decide ((c.toNat : Int) ≤ 57) = false := by simp; omega
        go_enter Try.func47, Try.ntmps47
        go_wp2
        go_ret
        exact ⟨ret_bool (by first | rfl | (simp; done) | (simp; omega)), rfl⟩
      · by_cases h4 : c.toNat ≤ 122
        · have hp : plainB c = true := by simp [plainB]; omega
          go_enter Try.func47, Try.ntmps47
          go_wp2
          go_ret
          exact ⟨ret_bool (by first | rfl | (simp; done) | (simp; omega)), rfl⟩
        · have hp : plainB c = false := by simp [plainB]; omega
          have d1 : decide ((97 : Int) ≤ (c.toNat : Int)) = true := by simp; omega
          have d2 : decide ((c.toNat : Int) ≤ 122) = false := by simp; omega
          have d3 : decide ((48 : Int) ≤ (c.toNat : Int)) = true := by simp; omega
          have d4 : decide ((c.toNat : Int) ≤ 57) = false := by simp; omega
          go_enter Try.func47, Try.ntmps47
          go_wp2
          go_ret
          exact ⟨ret_bool (by first | rfl | (simp; done) | (simp; omega)), rfl⟩
set_option maxHeartbeats 400000 in
theorem spells_any (a s : ByteArray) (w : World) (hs : s.size ≤ maxLen) :
    Calls Try.prog 76 #[.string a, .string s] w fun e w' => e = .returned (.bool (spellsB a.data.toList s.data.toList)) ∧ w = w' := by
  unfold maxLen at hs
  go_enter Try.func76, Try.ntmps76
  go_wp2
  go_loop [8] (fun i => ∃ k : Nat, k ≤ s.size ∧ i = .int .i64 k ∧ Spelt a.data.toList s.data.toList k) (fun i => s.size - (intOf i).toNat)
  case atStart => exact ⟨0, Nat.zero_le _, rfl, Spelt.zero _ _⟩
  case round =>
    obtain ⟨k, hk, rfl, hsp⟩ := hrel
    by_cases hlt : k < s.size
    · cases ho : okB a.data.toList s[k] with
      | true =>
        have HS := Lib.hid (hsp.next hlt ho)
        clear hsp
        go_wp2_with (go_at_call 94; refine (has_any _ _ _).mono ?_; rintro e w' ⟨rfl, rfl⟩)
        go_round
        case rel => exact ⟨k + 1, by omega, by go_num, HS.out⟩
        case measure => simp [intOf]; omega
      | false =>
        have HS := Lib.hid (Spelt.no hlt ho)
        clear hsp
        go_wp2_with (go_at_call 94; refine (has_any _ _ _).mono ?_; rintro e w' ⟨rfl, rfl⟩)
        go_ret
        exact ⟨ret_bool HS.out.symm, rfl⟩
    · obtain rfl : k = s.size := by omega
      have HS := Lib.hid hsp.yes
      clear hsp
      go_wp2
      go_ret
      exact ⟨ret_bool HS.out, rfl⟩
end Go.Proofs.Ytmegfkclpjddgaa
