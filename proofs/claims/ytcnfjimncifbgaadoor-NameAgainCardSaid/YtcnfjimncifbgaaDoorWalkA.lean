/-
  The walks of package name's and the document's plain functions on single texts (layer 1): each returns the word of XPlain.lean and leaves the world as it was (name.everyPart and name.Key make new blocks; nothing that was there has changed).
-/
import Derived.Test.YtcnfjimncifbgaaDoorPlain
import Derived.Test.YtcnfjimncifbgaaDoorShelf
import Derived.WalkKit
import Derived.ProofKit
import Derived.WalkLawsBesides
import Derived.WalkSpells
import Derived.Below
import Derived.Handy
namespace Go.Proofs.YtcnfjimncifbgaaDoor
open Go.RowKit Go.ChangeShapes Go.WideShapes Go.ChangeAt

theorem ret_bool {a b : Bool} (h : a = b) : Ending.returned (.bool a) = .returned (.bool b) := by rw [h]

set_option linter.unusedSimpArgs false
/-- The byte as the walk has it. -/
theorem byte_back (c : UInt8) : ((c.toNat : Int)).toNat.toUInt8 = c := by simp

theorem has_any (a : ByteArray) (c : UInt8) (w : World) :
    Calls Tryd.prog 46 #[.string a, .int .u8 (c.toNat : Int)] w fun e w' => e = .returned (.bool (okB a.data.toList c)) ∧ w = w' := by
  have hix := Lib.contains_iff_indexByte a.data.toList c
  have hc := Tryd.strings_IndexByte a (c.toNat : Int) w
  rw [byte_back] at hc
  have hlt := c.toNat_lt
  by_cases h1 : c.toNat < 48
  · have hp : plainB c = false := by simp [plainB]; omega
    go_enter Tryd.func46, Tryd.ntmps46
    go_wp2_with (go_at_call 55; refine hc.mono ?_; rintro e w' ⟨rfl, rfl⟩)
    go_ret
    exact ⟨ret_bool (by first | (simp only [okB, hp, hix, Bool.false_or]; done) | (simp [okB, hp, hix]; done) | (simp [okB, hp, hix]; omega)), rfl⟩
  · by_cases h2 : c.toNat ≤ 57
    · have hp : plainB c = true := by simp [plainB]; omega
      go_enter Tryd.func46, Tryd.ntmps46
      go_wp2
      go_ret
      exact ⟨ret_bool (by first | (simp only [okB, hp, Bool.true_or]; done) | (simp [okB, hp]; done) | (simp [okB, hp]; omega)), rfl⟩
    · by_cases h3 : c.toNat < 97
      · have hp : plainB c = false := by simp [plainB]; omega
        have d1 : decide ((97 : Int) ≤ (c.toNat : Int)) = false := by simp; omega
        have d2 : decide ((48 : Int) ≤ (c.toNat : Int)) = true := by simp; omega
        have d3 : decide ((c.toNat : Int) ≤ 57) = false := by simp; omega
        go_enter Tryd.func46, Tryd.ntmps46
        go_wp2_with (go_at_call 55; refine hc.mono ?_; rintro e w' ⟨rfl, rfl⟩)
        go_ret
        exact ⟨ret_bool (by first | (simp only [okB, hp, hix, Bool.false_or]; done) | (simp [okB, hp, hix]; done) | (simp [okB, hp, hix]; omega)), rfl⟩
      · by_cases h4 : c.toNat ≤ 122
        · have hp : plainB c = true := by simp [plainB]; omega
          go_enter Tryd.func46, Tryd.ntmps46
          go_wp2
          go_ret
          exact ⟨ret_bool (by first | (simp only [okB, hp, Bool.true_or]; done) | (simp [okB, hp]; done) | (simp [okB, hp]; omega)), rfl⟩
        · have hp : plainB c = false := by simp [plainB]; omega
          have d1 : decide ((97 : Int) ≤ (c.toNat : Int)) = true := by simp; omega
          have d2 : decide ((c.toNat : Int) ≤ 122) = false := by simp; omega
          have d3 : decide ((48 : Int) ≤ (c.toNat : Int)) = true := by simp; omega
          have d4 : decide ((c.toNat : Int) ≤ 57) = false := by simp; omega
          go_enter Tryd.func46, Tryd.ntmps46
          go_wp2_with (go_at_call 55; refine hc.mono ?_; rintro e w' ⟨rfl, rfl⟩)
          go_ret
          exact ⟨ret_bool (by first | (simp only [okB, hp, hix, Bool.false_or]; done) | (simp [okB, hp, hix]; done) | (simp [okB, hp, hix]; omega)), rfl⟩

theorem plain_any (c : UInt8) (w : World) :
    Calls Tryd.prog 35 #[.int .u8 (c.toNat : Int)] w fun e w' => e = .returned (.bool (plainB c)) ∧ w = w' := by
  have hlt := c.toNat_lt
  by_cases h1 : c.toNat < 48
  · have hp : plainB c = false := by simp [plainB]; omega
    go_enter Tryd.func35, Tryd.ntmps35
    go_wp2
    go_ret
    exact ⟨ret_bool (by first | rfl | (simp; done) | (simp; omega)), rfl⟩
  · by_cases h2 : c.toNat ≤ 57
    · have hp : plainB c = true := by simp [plainB]; omega
      go_enter Tryd.func35, Tryd.ntmps35
      go_wp2
      go_ret
      exact ⟨ret_bool (by first | rfl | (simp; done) | (simp; omega)), rfl⟩
    · by_cases h3 : c.toNat < 97
      · have hp : plainB c = false := by simp [plainB]; omega
        have d1 : decide ((97 : Int) ≤ (c.toNat : Int)) = false := by simp; omega
        have d2 : decide ((48 : Int) ≤ (c.toNat : Int)) = true := by simp; omega
        have d3 : decide ((c.toNat : Int) ≤ 57) = false := by simp; omega
        go_enter Tryd.func35, Tryd.ntmps35
        go_wp2
        go_ret
        exact ⟨ret_bool (by first | rfl | (simp; done) | (simp; omega)), rfl⟩
      · by_cases h4 : c.toNat ≤ 122
        · have hp : plainB c = true := by simp [plainB]; omega
          go_enter Tryd.func35, Tryd.ntmps35
          go_wp2
          go_ret
          exact ⟨ret_bool (by first | rfl | (simp; done) | (simp; omega)), rfl⟩
        · have hp : plainB c = false := by simp [plainB]; omega
          have d1 : decide ((97 : Int) ≤ (c.toNat : Int)) = true := by simp; omega
          have d2 : decide ((c.toNat : Int) ≤ 122) = false := by simp; omega
          have d3 : decide ((48 : Int) ≤ (c.toNat : Int)) = true := by simp; omega
          have d4 : decide ((c.toNat : Int) ≤ 57) = false := by simp; omega
          go_enter Tryd.func35, Tryd.ntmps35
          go_wp2
          go_ret
          exact ⟨ret_bool (by first | rfl | (simp; done) | (simp; omega)), rfl⟩
end Go.Proofs.YtcnfjimncifbgaaDoor
