/-
  Limit of the program's queue, walked (layer 10).
-/
import Derived.Test.YtphkaohcfgmmkaaRuCmp
import Derived.IntWalk
namespace Go.Proofs.Ytphkaohcfgmmkaa
open Go.RowKit Go.Maps
set_option linter.unusedSimpArgs false
set_option linter.unusedVariables false

theorem digits_eq : ∀ (f n : Nat), digits f n = Lib.bitLenAux f n
  | 0, _ => rfl
  | f + 1, n => by
    unfold digits Lib.bitLenAux
    rw [digits_eq f (n / 2)]
    split
    · rfl
    · omega
theorem digits_fuel : ∀ (f n : Nat), digits f n ≤ f
  | 0, _ => Nat.le_refl _
  | f + 1, n => by
    unfold digits
    have := digits_fuel f (n / 2)
    split <;> omega
theorem limitQ_eq (mult : Nat) (m : Int) : limitQ mult m = mult * Lib.bitLen (max m 1).toNat := by
  unfold limitQ Lib.bitLen
  rw [digits_eq]
  congr 2
  split
  · have : max m 1 = 1 := by omega
    rw [this]; rfl
  · have : max m 1 = m := by omega
    rw [this]
theorem limitQ_512 {mult : Nat} (h : mult ≤ 8) (m : Int) : limitQ mult m ≤ 512 := by
  unfold limitQ
  have := digits_fuel 64 (if m < 1 then 1 else m.toNat)
  calc _ ≤ 8 * 64 := Nat.mul_le_mul h this
    _ = 512 := rfl
theorem limit_no (v : Value) (m : Int) (w : World) (h : NoQu w v) : Calls Try.prog 13 #[v, .int .i64 m] w fun e w' => e = .returned (.int .i64 0) ∧ w = w' := by
  have HM := Lib.hid (made_no v w h)
  clear h
  go_enter Try.func13, Try.ntmps13
  go_wp2_with fail
  refine HM.out.mono ?_
  rintro e w' ⟨rfl, rfl⟩
  go_wp2
  go_ret
  exact ⟨rfl, rfl⟩
set_option maxHeartbeats 4000000 in
theorem limit_any {B M : Nat} {q : Qu} (m : Int) (hm : wfI m) (w : World) (h : QuAt w B M q) :
    Calls Try.prog 13 #[.pointer (some ⟨B, 0, none⟩), .int .i64 m] w fun e w' => e = .returned (.int .i64 (limitQ q.mult m : Int)) ∧ ∃ n, w' = w.drewN n := by
  have HM := Lib.hid (made_yes w h)
  have c0 := h.c0
  have hm8 := h.ok.mult8
  have hl := limitQ_512 hm8 m
  have hle := limitQ_eq q.mult m
  unfold wfI at hm
  obtain ⟨x, hx⟩ : ∃ x, max m 1 = x := ⟨_, rfl⟩
  have hx1 : 1 ≤ x := by omega
  have hx2 : x ≤ 9223372036854775807 := by omega
  have hL : ∀ w, Calls Try.prog 17 #[.int .u64 x] w fun e w' => e = .returned (.int .i64 (Lib.bitLen x.toNat)) ∧ w' = w := fun w => Try.bits_Len x w (by omega) (by omega)
  rw [hx] at hle
  obtain ⟨k, hk⟩ : ∃ k, Lib.bitLen x.toNat = k := ⟨_, rfl⟩
  rw [hk] at hle hL
  obtain ⟨mu, hmu⟩ : ∃ k, q.mult = k := ⟨_, rfl⟩
  rw [hmu] at hle c0 hl ⊢
  have wx : IntKind.u64.wrap x = x := by
    simp [IntKind.wrap, IntKind.signed, IntKind.bits]
    omega
  have wm : IntKind.i64.wrap ((mu : Int) * (k : Int)) = (limitQ mu m : Int) := by
    rw [hle] at hl ⊢
    have : ((mu * k : Nat) : Int) = (mu : Int) * (k : Int) := by simp
    rw [← this]
    exact IntWalk.i64_in _ (by omega)
  have HL := Lib.hid hL
  have HX : Hid (max m 1 = x) := Lib.hid hx
  clear h hm8 hl hle hx hL hk hmu hm hx1 hx2
  go_enter Try.func13, Try.ntmps13
  go_wp2_with fail
  refine HM.out.mono ?_
  rintro e w' ⟨rfl, rfl⟩
  have hx := HX.out
  clear HM HX
  go_wp2
  go_quiet ((go_at_call 17; exact Calls.quiet_of_same ((HL.out _).mono (fun _ _ ⟨h1, h2⟩ => ⟨h1, h2⟩))))
  go_wp2
  go_ret
  exact ⟨rfl, nq, rfl⟩
end Go.Proofs.Ytphkaohcfgmmkaa
