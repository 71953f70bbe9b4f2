/-
  What Put hands back, whatever it was given; and as text (layer 20).
-/
import Derived.Test.YtbhhalkpghcflaaZj33
namespace Go.Proofs.Ytbhhalkpghcflaa
open Go.RowKit
set_option linter.unusedSimpArgs false
set_option linter.unusedVariables false

theorem bs_nil (w : World) : Bs w (.slice none 0 0) [] := ⟨none, 0, rfl, ⟨rfl, fun h => absurd h (by decide)⟩, fun _ => rfl, Nat.le_refl _, by decide⟩
theorem bs_conv {w : World} {v : Value} {ys : List UInt8} (h : Bs w v ys) : (convert 32 9 v).run Try.prog w = .ok (.string ⟨ys.toArray⟩) w := by
  obtain ⟨A, c, rfl, h, _⟩ := h.ex
  rcases Nat.eq_zero_or_pos ys.length with h0 | hp
  · obtain rfl : ys = [] := List.eq_nil_of_length_eq_zero h0
    rw [show ([] : List UInt8).length = 0 from rfl, run_convert_bytes_string w _ _ _ _ 0 c Try.underlying32 Try.underlying5 Try.underlying9]
    cases A <;> simp [Conv.bytesToString, loadCells]
    all_goals rfl
  · obtain ⟨b, off, rfl, _, hc⟩ := h.2 hp
    refine run_convert_bytes_back w _ _ _ ⟨b, off, none⟩ c ys Try.underlying32 Try.underlying5 Try.underlying9 fun j hj => ?_
    rw [plain_add, hc j (by simpa using hj)]
    first | done | simp [byteV]
/-- What Put hands back, with its word. -/
def PutU (w : World) (n : Int) (zs : List UInt8) (e : Ending) (w' : World) : Prop := ∃ v, e = .returned (.tuple #[v, .int .i64 n]) ∧ Bs w' v zs ∧ Below w.heap.size w w'
theorem PutP.uni {w w' : World} {ok : Bool} {ys : List UInt8} {e : Ending} (h : PutP w ok ys e w') : PutU w (cond ok 0 2) (cond ok ys []) e w' := by
  obtain ⟨hb, h1, h2⟩ := h
  cases ok with
  | false => exact ⟨_, h1 rfl, bs_nil w', hb⟩
  | true =>
    obtain ⟨v, h3, h4⟩ := h2 rfl
    exact ⟨v, h3, h4, hb⟩
end Go.Proofs.Ytbhhalkpghcflaa
/-
  The law's works (layer 20).
-/
namespace Go.Proofs.Ytbhhalkpghcflaa
open Go.RowKit
set_option linter.unusedSimpArgs false
set_option linter.unusedVariables false

theorem numB_byte {n : Nat} (h0 : 0 < n) (h : n < 256) : numB n = [1, UInt8.ofNat n] := by
  rw [numB, digs_pos (show n ≠ 0 by omega), show n / 256 = 0 by omega, digs_zero]
  simp
  rw [Nat.mod_eq_of_lt h]
def wkX : CmW := ⟨10, 0, 0, 0, [], [], [], [], [97], [49], [], [], none, 0, 0, false, 0, 0, none, 0, 0⟩
theorem wk_small : CmS wkX := by
  refine ⟨by decide, ?_, ?_, by decide, by decide, by decide, by decide⟩
  · intro z hz
    have : z = 0 := by simpa [CmW.nums, wkX] using hz
    subst this
    decide
  · intro s hs
    have : s = [] ∨ s = [97] ∨ s = [49] := by
      simp only [CmW.texts, wkX, List.mem_cons, List.not_mem_nil, or_false] at hs
      rcases hs with h | h | h | h | h | h | h | h <;> simp [h]
    rcases this with rfl | rfl | rfl <;> (unfold maxLen; simp)
theorem wk_cm (w : World) : Cm1 w wkX [] [] := by
  refine ⟨⟨wk_small, ⟨rfl, fun h => absurd h (by decide)⟩, fun s h => by cases h⟩, ?_, fun y h => by cases h⟩
  exact ⟨rfl, fun h => absurd h (by decide)⟩
theorem wk_bytes : ordB 1 5 wkX [] [] = [1, 1, 1, 5, 1, 10, 1, 1, 97, 1, 1, 49] := by
  have e1 : ordB 1 5 wkX [] [] = numB 1 ++ numB 5 ++ (numB 10 ++ [] ++ [] ++ [] ++ [] ++ [] ++ [] ++ [] ++ (numB 1 ++ [97]) ++ (numB 1 ++ [49]) ++ [] ++ [] ++ [] ++ [] ++ [] ++ [] ++ []) := rfl
  rw [e1, numB_byte (n := 1) (by decide) (by decide), numB_byte (n := 5) (by decide) (by decide), numB_byte (n := 10) (by decide) (by decide)]
  rfl
set_option maxRecDepth 100000 in
theorem works_any (w : World) : Calls Try.prog 10 #[] w (YesB true w) := by
  have C := Lib.hid (Put_any 1 5 wkX [] [] w (wk_cm w) (by decide) (by decide))
  rw [wk_bytes, show ordOk 1 wkX [] [] = true by decide] at C
  unfold orV cmC strV wkX at C
  go_enter Try.func10, Try.ntmps10
  go_wp2_with fail
  refine C.out.mono ?_
  rintro e w1 ⟨hb, _, h1⟩
  obtain ⟨v, rfl, hv⟩ := h1 rfl
  obtain ⟨A, c, rfl, hr, hn, hnc, hcm⟩ := hv.ex
  have hr : RB w1 A 12 [1, 1, 1, 5, 1, 10, 1, 1, 97, 1, 1, 49] := hr
  have k1 := own_conv hr c
  have HB := Lib.hid hb
  clear hb h1 hv hr hn hnc hcm C
  go_wp2
  go_ret
  exact ⟨rfl, HB.out⟩
end Go.Proofs.Ytbhhalkpghcflaa
