/-
  The walks of name.Key (with name.everyPart) and name.Under, and of the document's plain forms (layer 1).
-/
import Derived.Test.YtcnfjimncifbgaaDoorWalkC
import Derived.Test.YtcnfjimncifbgaaDoorFrame
namespace Go.Proofs.YtcnfjimncifbgaaDoor
open Go.RowKit Go.ChangeShapes Go.WideShapes Go.ChangeAt
set_option linter.unusedSimpArgs false

/-! ### strings.Split at a slash -/
theorem splitK_le : ∀ (k : Nat) (l : List UInt8), ∀ p ∈ Lib.splitK [47] 0 k l, p.length ≤ l.length
  | 0, l, p, hp => by simp [Lib.splitK] at hp; rw [hp]; exact Nat.le_refl _
  | k + 1, l, p, hp => by
    unfold Lib.splitK at hp
    split at hp
    · simp at hp; rw [hp]; exact Nat.le_refl _
    · rw [List.mem_cons] at hp
      rcases hp with rfl | hp
      · exact List.length_take_le' _ _
      · have := splitK_le k _ p hp
        rw [List.length_drop] at this
        omega

theorem split_any (s : ByteArray) (w : World) (hs : s.size ≤ 32) (hM : MaxIs w) :
    Calls Tryd.prog 49 #[.string s, .string ⟨#[47]⟩] w fun e w' => ∃ P : List ByteArray, P.map (·.data.toList) = Lib.splitK [47] 0 (Lib.count s.data.toList [47]) s.data.toList ∧ P.length ≤ 33 ∧ (∀ p ∈ P, p.size ≤ 32) ∧
      e = .returned (.slice (some ⟨w.heap.size, 0, none⟩) P.length P.length) ∧ (∀ j (h : j < P.length), w'.cell? ⟨w.heap.size, j, none⟩ = some (.string P[j])) ∧ Below w.heap.size w w' := by
  obtain ⟨m, hm⟩ := hM
  refine (Tryd.strings_Split s ⟨#[47]⟩ m w (by omega) hm (by decide)).mono ?_
  rintro e w' ⟨rfl, rfl⟩
  have hd := Lib.splitB_data ⟨#[47]⟩ 0 (Lib.countB s ⟨#[47]⟩) s
  have hl := Lib.splitB_all ⟨#[47]⟩ (by decide) 0 (Lib.countB s ⟨#[47]⟩) s rfl
  have hc := Lib.countB_le ⟨#[47]⟩ (by decide) s.size s (Nat.le_refl _)
  refine ⟨Lib.splitB ⟨#[47]⟩ 0 (Lib.countB s ⟨#[47]⟩) s, hd, by omega, fun p hp => ?_, by rw [hl], fun j hj => ?_, (Below.refl _ _).alloc (Nat.le_refl _) _⟩
  · have h1 : p.data.toList ∈ Lib.splitK [47] 0 (Lib.count s.data.toList [47]) s.data.toList := by
      rw [← hd]
      exact List.mem_map_of_mem hp
    have := splitK_le _ _ _ h1
    rw [← Lib.size_eq, ← Lib.size_eq] at this
    omega
  · have := cell_of_row (w.alloc (.cells ((Lib.splitB ⟨#[47]⟩ 0 (Lib.countB s ⟨#[47]⟩) s).map Value.string).toArray 9)) w.heap.size j _ _ _ (heap_alloc_new w _)
    rw [this]
    simp [hj]

/-! ### name.everyPart at the key's alphabet -/
def goodB (p : List UInt8) : Bool := p.all (okB [45, 95, 46]) && !p.isEmpty
theorem good_spells (p : List UInt8) : spellsB [45, 95, 46] p = goodB p := rfl
def PartsOk (P : List ByteArray) (k : Nat) : Prop := ∀ p ∈ P.take k, goodB p.data.toList = true
theorem PartsOk.zero (P : List ByteArray) : PartsOk P 0 := by intro p hp; simp at hp
theorem PartsOk.next {P : List ByteArray} {k : Nat} (h : PartsOk P k) (hk : k < P.length) (ho : goodB P[k].data.toList = true) : PartsOk P (k + 1) := by
  intro p hp
  rw [List.take_succ_eq_append_getElem hk, List.mem_append, List.mem_singleton] at hp
  rcases hp with hp | rfl
  · exact h p hp
  · exact ho
theorem parts_key {s : ByteArray} {P : List ByteArray} (hP : P.map (·.data.toList) = Lib.splitK [47] 0 (Lib.count s.data.toList [47]) s.data.toList) : keyGo (okB [45, 95, 46]) true s.data.toList = P.all fun p => goodB p.data.toList := by
  rw [← (split_key (okB [45, 95, 46]) s.data.toList).1, ← hP, List.all_map]
  rfl
theorem PartsOk.all {s : ByteArray} {P : List ByteArray} (hP : P.map (·.data.toList) = Lib.splitK [47] 0 (Lib.count s.data.toList [47]) s.data.toList) (h : PartsOk P P.length) : keyGo (okB [45, 95, 46]) true s.data.toList = true := by
  rw [parts_key hP, List.all_eq_true]
  intro p hp
  exact h p (by rw [List.take_length]; exact hp)
theorem parts_no {s : ByteArray} {P : List ByteArray} (hP : P.map (·.data.toList) = Lib.splitK [47] 0 (Lib.count s.data.toList [47]) s.data.toList) {k : Nat} (hk : k < P.length) (ho : goodB P[k].data.toList = false) : keyGo (okB [45, 95, 46]) true s.data.toList = false := by
  rw [parts_key hP, Bool.eq_false_iff]
  intro e
  have := List.all_eq_true.1 e P[k] (List.getElem_mem hk)
  rw [ho] at this; cases this

set_option maxHeartbeats 1000000 in
theorem every_any (s : ByteArray) (w : World) (hs : s.size ≤ 32) (hM : MaxIs w) :
    Calls Tryd.prog 36 #[.string s, .func (.func 32) #[.string ⟨#[45, 95, 46]⟩] #[]] w fun e w' => e = .returned (.bool (keyGo (okB [45, 95, 46]) true s.data.toList)) ∧ Below w.heap.size w w' := by
  have hsp := split_any s w hs hM
  go_enter Tryd.func36, Tryd.ntmps36
  go_wp2_with (go_at_call 49; refine hsp.mono ?_; rintro e w1 ⟨P, hP, hl, hsz, rfl, hc, hb⟩)
  have HP := Lib.hid hP
  have HZ := Lib.hid hsz
  have HC := Lib.hid hc
  have HB := Lib.hid hb
  clear hP hsz hc hb hsp hM
  go_loop [10] (fun i => ∃ k : Nat, k ≤ P.length ∧ i = .int .i64 k ∧ PartsOk P k) (fun i => P.length - (intOf i).toNat)
  case atStart => exact ⟨0, Nat.zero_le _, rfl, PartsOk.zero _⟩
  case round =>
    obtain ⟨k, hk, rfl, hok⟩ := hrel
    by_cases hlt : k < P.length
    · have hcell := HC.out k hlt
      have hz := HZ.out P[k] (List.getElem_mem hlt)
      have hsa := spells_any ⟨#[45, 95, 46]⟩ P[k] w1 (by unfold maxLen; omega)
      cases ho : goodB P[k].data.toList with
      | true =>
        have hsa' : Calls Tryd.prog 32 #[.string ⟨#[45, 95, 46]⟩, .string P[k]] w1 fun e w' => e = .returned (.bool true) ∧ w1 = w' := hsa.mono (by rintro e w' ⟨rfl, rfl⟩; exact ⟨ret_bool ((good_spells _).trans ho), rfl⟩)
        have HS := Lib.hid (hok.next hlt ho)
        clear hok hsa ho
        go_wp2_with (go_at_call 32; refine hsa'.mono ?_; rintro e w' ⟨rfl, rfl⟩)
        go_round
        case rel => exact ⟨k + 1, by omega, by go_num, HS.out⟩
        case measure => simp [intOf]; omega
      | false =>
        have hsa' : Calls Tryd.prog 32 #[.string ⟨#[45, 95, 46]⟩, .string P[k]] w1 fun e w' => e = .returned (.bool false) ∧ w1 = w' := hsa.mono (by rintro e w' ⟨rfl, rfl⟩; exact ⟨ret_bool ((good_spells _).trans ho), rfl⟩)
        have HS := Lib.hid (parts_no HP.out hlt ho)
        clear hok hsa ho
        go_wp2_with (go_at_call 32; refine hsa'.mono ?_; rintro e w' ⟨rfl, rfl⟩)
        go_ret
        exact ⟨ret_bool HS.out.symm, HB.out⟩
    · obtain rfl : k = P.length := by omega
      have HS := Lib.hid (hok.all HP.out)
      clear hok
      go_wp2
      go_ret
      exact ⟨ret_bool HS.out.symm, HB.out⟩

theorem key_any (s : ByteArray) (w : World) (hs : s.size ≤ maxLen) (hM : MaxIs w) :
    Calls Tryd.prog 16 #[.string s] w fun e w' => e = .returned (.bool (keyB s.data.toList)) ∧ Below w.heap.size w w' := by
  unfold maxLen at hs
  by_cases h32 : s.size ≤ 32
  · have c := every_any s w h32 hM
    have HS : Hid (keyB s.data.toList = keyGo (okB [45, 95, 46]) true s.data.toList) := Lib.hid (by unfold keyB; rw [← Lib.size_eq]; simp [h32])
    clear hM
    go_enter Tryd.func16, Tryd.ntmps16
    go_wp2_with (go_at_call 36; refine c.mono ?_; rintro e w1 ⟨rfl, hb⟩)
    go_ret
    exact ⟨ret_bool HS.out.symm, hb⟩
  · have HS : Hid (keyB s.data.toList = false) := Lib.hid (by unfold keyB; rw [← Lib.size_eq]; simp [h32])
    clear hM
    go_enter Tryd.func16, Tryd.ntmps16
    go_wp2
    go_ret
    exact ⟨ret_bool HS.out.symm, Below.refl _ _⟩
end Go.Proofs.YtcnfjimncifbgaaDoor
