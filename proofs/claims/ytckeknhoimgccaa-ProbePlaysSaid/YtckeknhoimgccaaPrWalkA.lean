/-
  made, New, Index, Contains, Clone, picked, List, At of the program's ring, walked (layer 12).
-/
import Derived.Test.YtckeknhoimgccaaPrMem
namespace Go.Proofs.Ytckeknhoimgccaa
open Go.RowKit
set_option linter.unusedSimpArgs false
set_option linter.unusedVariables false

theorem made_no (v : Value) (w : World) (h : NoRg w v) : Calls Try.prog 25 #[v] w fun e w' => e = .returned (.bool false) ∧ w = w' := by
  rcases h with rfl | ⟨B, rfl, hh⟩
  · go_enter Try.func25, Try.ntmps25
    go_wp2
    go_ret
    exact ⟨rfl, rfl⟩
  · have c0 : w.cell? ⟨B, 0, none⟩ = some (.bool false) := by rw [cell_of_row _ _ _ _ _ _ hh]; rfl
    clear hh
    go_enter Try.func25, Try.ntmps25
    go_wp2
    go_ret
    exact ⟨rfl, rfl⟩
theorem made_yes {S : Nat → Prop} {B : Nat} {A : Option Addr} {c : Nat} {g : Rg} (w : World) (h : RgIs true S w B A c g) : Calls Try.prog 25 #[.pointer (some ⟨B, 0, none⟩)] w fun e w' => e = .returned (.bool true) ∧ w = w' := by
  have c0 := h.built
  clear h
  go_enter Try.func25, Try.ntmps25
  go_wp2
  go_ret
  exact ⟨rfl, rfl⟩
theorem rgnew_any (w : World) : Calls Try.prog 8 #[] w fun e w' => e = .returned (.pointer (some ⟨w.heap.size, 0, none⟩)) ∧ w' = w.alloc (.cells #[.bool true, .slice none 0 0, .int .i64 0] TG) := by
  go_enter Try.func8, Try.ntmps8
  go_wp2
  go_ret
  exact ⟨rfl, rfl⟩
theorem rg_new (p : Bool) (S : Nat → Prop) (w : World) (hS : S w.heap.size) {o : Obj} (ho : o = ringC p (.slice none 0 0) 0) : RgAt p S (w.alloc o) w.heap.size Rg.new := by
  subst ho
  exact ⟨Rg.new_ok, none, 0, hS, heap_alloc_new w _, ⟨RV.zero _ _, fun b off e => by cases e⟩, Nat.le_refl _, Nat.zero_le _, fun _ => rfl⟩
set_option maxHeartbeats 1000000 in
theorem index_any {S : Nat → Prop} (A : Option Addr) (n c : Nat) (xs : List Int) (x : Int) (w : World) (h : Lst S w A n c xs) :
    Calls Try.prog 29 #[.slice A n c, .int .i64 x] w fun e w' => e = .returned (.int .i64 (idxI xs x)) ∧ w = w' := by
  have hm := h.max
  have H := Lib.hid h
  have HL := Lib.hid h.len
  clear h
  go_enter Try.func29, Try.ntmps29
  go_wp2
  go_loop [8] (fun iv => ∃ k : Nat, k ≤ n ∧ iv = .int .i64 (k : Int) ∧ Hid ((xs.take k).contains x = false)) (fun iv => n - (intOf iv).toNat)
  case atStart => exact ⟨0, Nat.zero_le _, rfl, Lib.hid (by simp)⟩
  case round =>
    obtain ⟨k, hk, rfl, hno⟩ := hrel
    by_cases hlt : k < n
    · have hk' : k < xs.length := by rw [HL.out]; exact hlt
      obtain ⟨b, off, rfl, _, hc⟩ := H.out.node hlt
      by_cases hx : xs[k] = x
      · have HE : Hid (idxI xs x = (k : Int)) := Lib.hid (by
          obtain ⟨h1, h2⟩ := idxI_at hk' hno.out hx
          unfold idxI
          rw [h1, h2]
          rfl)
        rw [hx] at hc
        clear hx hk'
        go_wp2
        go_ret
        rw [HE.out]
        exact ⟨rfl, rfl⟩
      · have HNo : Hid ((xs.take (k + 1)).contains x = false) := Lib.hid (contains_snoc hk' hno.out hx)
        have hx2 : (x == xs[k]) = false := by rw [beq_eq_false_iff_ne]; exact fun e => hx e.symm
        obtain ⟨y, hy⟩ : ∃ y, xs[k] = y := ⟨_, rfl⟩
        rw [hy] at hc hx2
        clear hx hk' hy
        go_wp2
        go_round
        case rel => exact ⟨k + 1, by omega, by go_num, HNo⟩
        case measure => simp [intOf]; omega
    · obtain rfl : k = n := by omega
      have HE : Hid (idxI xs x = -1) := Lib.hid (idxI_no (by
        have h1 := hno.out
        rw [List.take_of_length_le (by rw [HL.out]; exact Nat.le_refl _)] at h1
        exact h1))
      go_wp2
      go_ret
      rw [HE.out]
      exact ⟨rfl, rfl⟩
theorem idxI_bool (xs : List Int) (x : Int) : (xs.contains x = true ∧ 0 ≤ idxI xs x) ∨ (xs.contains x = false ∧ idxI xs x = -1) := by
  cases h : xs.contains x with
  | false => exact .inr ⟨rfl, idxI_no h⟩
  | true => exact .inl ⟨rfl, by unfold idxI; rw [h]; simp⟩
theorem contains_any {S : Nat → Prop} (A : Option Addr) (n c : Nat) (xs : List Int) (x : Int) (w : World) (h : Lst S w A n c xs) :
    Calls Try.prog 26 #[.slice A n c, .int .i64 x] w fun e w' => e = .returned (.bool (xs.contains x)) ∧ w = w' := by
  have s1 := index_any A n c xs x w h
  obtain ⟨b, hb⟩ : ∃ b, xs.contains x = b := ⟨_, rfl⟩
  have hc := idxI_bool xs x
  rw [hb] at hc ⊢
  obtain ⟨z, hz⟩ : ∃ z, idxI xs x = z := ⟨_, rfl⟩
  rw [hz] at s1 hc
  have S1 := Lib.hid s1
  clear s1 h hb hz
  rcases hc with ⟨rfl, h1⟩ | ⟨rfl, rfl⟩
  all_goals
    go_enter Try.func26, Try.ntmps26
    go_wp2_with fail
    refine S1.out.mono ?_
    rintro e w' ⟨rfl, rfl⟩
    go_wp2
    go_ret
    exact ⟨rfl, rfl⟩
end Go.Proofs.Ytckeknhoimgccaa
