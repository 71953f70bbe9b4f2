/-
  The walks of (alphabet).spells, Right, Pattern and Match, and of the document's plain forms (layer 1).
-/
import Derived.Test.YtcnfjimncifbgaaDoorWalkA
import Derived.Lib.Hide
namespace Go.Proofs.YtcnfjimncifbgaaDoor
open Go.RowKit Go.ChangeShapes Go.WideShapes Go.ChangeAt
set_option linter.unusedSimpArgs false

theorem take_snoc (s : ByteArray) (k : Nat) (h : k < s.size) : s.data.toList.take (k + 1) = s.data.toList.take k ++ [s[k]] := by
  rw [List.take_succ_eq_append_getElem (by simpa using h)]; rfl
theorem get_list (s : ByteArray) (k : Nat) (h : k < s.size) : s.data.toList[k]'(by simpa using h) = s[k] := rfl

def Spelt (al l : List UInt8) (k : Nat) : Prop := ∀ c ∈ l.take k, okB al c = true
theorem Spelt.zero (al l : List UInt8) : Spelt al l 0 := by intro c hc; simp at hc
theorem Spelt.next {al : List UInt8} {s : ByteArray} {k : Nat} (h : Spelt al s.data.toList k) (hk : k < s.size) (ho : okB al s[k] = true) : Spelt al s.data.toList (k + 1) := by
  intro c hc
  rw [take_snoc s k hk, List.mem_append, List.mem_singleton] at hc
  rcases hc with hc | rfl
  · exact h c hc
  · exact ho
theorem Spelt.no {al : List UInt8} {s : ByteArray} {k : Nat} (hk : k < s.size) (ho : okB al s[k] = false) : spellsB al s.data.toList = false := by
  rw [Bool.eq_false_iff]
  intro e
  have := ((spells_of _ _).1 e).2 s[k] (by rw [← get_list s k hk]; exact List.getElem_mem _)
  rw [ho] at this; cases this
theorem Spelt.yes {al : List UInt8} {s : ByteArray} (h : Spelt al s.data.toList s.size) : (!s.toList.isEmpty) = spellsB al s.data.toList := by
  have ha : s.data.toList.all (okB al) = true := by
    rw [List.all_eq_true]
    intro c hc
    refine h c ?_
    rw [List.take_of_length_le (by rw [← Lib.size_eq]; exact Nat.le_refl _)]
    exact hc
  rw [ByteArray.toList_eq]
  simp [spellsB, ha]

set_option maxHeartbeats 400000 in
theorem spells_any (a s : ByteArray) (w : World) (hs : s.size ≤ maxLen) :
    Calls Tryd.prog 32 #[.string a, .string s] w fun e w' => e = .returned (.bool (spellsB a.data.toList s.data.toList)) ∧ w = w' := by
  unfold maxLen at hs
  go_enter Tryd.func32, Tryd.ntmps32
  go_wp2
  go_loop [8] (fun i => ∃ k : Nat, k ≤ s.size ∧ i = .int .i64 k ∧ Spelt a.data.toList s.data.toList k) (fun i => s.size - (intOf i).toNat)
  case atStart => exact ⟨0, Nat.zero_le _, rfl, Spelt.zero _ _⟩
  case round =>
    obtain ⟨k, hk, rfl, hsp⟩ := hrel
    by_cases hlt : k < s.size
    · cases ho : okB a.data.toList s[k] with
      | true =>
        have HS := Lib.hid (hsp.next hlt ho)
        clear hsp
        go_wp2_with (go_at_call 46; refine (has_any _ _ _).mono ?_; rintro e w' ⟨rfl, rfl⟩)
        go_round
        case rel => exact ⟨k + 1, by omega, by go_num, HS.out⟩
        case measure => simp [intOf]; omega
      | false =>
        have HS := Lib.hid (Spelt.no hlt ho)
        clear hsp
        go_wp2_with (go_at_call 46; refine (has_any _ _ _).mono ?_; rintro e w' ⟨rfl, rfl⟩)
        go_ret
        exact ⟨ret_bool HS.out.symm, rfl⟩
    · obtain rfl : k = s.size := by omega
      have HS := Lib.hid hsp.yes
      clear hsp
      go_wp2
      go_ret
      exact ⟨ret_bool HS.out, rfl⟩

set_option maxHeartbeats 400000 in
theorem right_any (s : ByteArray) (w : World) (hs : s.size ≤ maxLen) :
    Calls Tryd.prog 9 #[.string s] w fun e w' => e = .returned (.bool (rightB s.data.toList)) ∧ w = w' := by
  have hm : s.size ≤ 9223372036854775807 := by unfold maxLen at hs; omega
  have c1 := spells_any ⟨#[45]⟩ s w hs
  have c2 := Tryd.strings_HasPrefix s ⟨#[45]⟩ w
  have c3 := Tryd.strings_HasSuffix s ⟨#[45]⟩ w hm
  unfold maxLen at hs
  by_cases h24 : s.size ≤ 24
  · cases e1 : spellsB [45] s.data.toList with
    | false =>
      have HS : Hid (rightB s.data.toList = false) := Lib.hid (by unfold rightB; rw [e1]; simp)
      go_enter Tryd.func9, Tryd.ntmps9
      go_wp2_with (go_at_call 32; refine c1.mono ?_; rintro e w' ⟨rfl, rfl⟩)
      go_ret
      exact ⟨ret_bool HS.out.symm, rfl⟩
    | true =>
      cases e2 : Lib.hasPrefix s.data.toList [45] with
      | true =>
        have HS : Hid (rightB s.data.toList = false) := Lib.hid (by unfold rightB; rw [e2]; simp)
        go_enter Tryd.func9, Tryd.ntmps9
        go_wp2_with (first | (go_at_call 32; refine c1.mono ?_; rintro e w' ⟨rfl, rfl⟩) | (go_at_call 33; refine c2.mono ?_; rintro e w' ⟨rfl, rfl⟩))
        go_ret
        exact ⟨ret_bool HS.out.symm, rfl⟩
      | false =>
        have HS : Hid (rightB s.data.toList = !Lib.hasSuffix s.data.toList [45]) := Lib.hid (by unfold rightB; rw [e1, e2, ← Lib.size_eq]; simp [h24])
        go_enter Tryd.func9, Tryd.ntmps9
        go_wp2_with (first | (go_at_call 32; refine c1.mono ?_; rintro e w' ⟨rfl, rfl⟩) | (go_at_call 33; refine c2.mono ?_; rintro e w' ⟨rfl, rfl⟩) | (go_at_call 34; refine c3.mono ?_; rintro e w' ⟨rfl, rfl⟩))
        go_ret
        exact ⟨ret_bool HS.out.symm, rfl⟩
  · have HS : Hid (rightB s.data.toList = false) := Lib.hid (right_short (by rw [← Lib.size_eq]; omega))
    go_enter Tryd.func9, Tryd.ntmps9
    go_wp2
    go_ret
    exact ⟨ret_bool HS.out.symm, rfl⟩
end Go.Proofs.YtcnfjimncifbgaaDoor
