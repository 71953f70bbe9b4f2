/-
  The fields of a kind as bits, and the questions that are asked of a field (layer 20).
-/
import Derived.Test.YtbhhalkpghcflaaZj11
import Derived.Test.YtbhhalkpghcflaaZj8
namespace Go.Proofs.Ytbhhalkpghcflaa
open Go.RowKit
set_option linter.unusedSimpArgs false
set_option linter.unusedVariables false

/-- A kind's fields as a number. -/
def maskN (k : Int) : Nat := ((hasT.getD k.toNat []).map (2 ^ ·)).sum
theorem maskN_out {k : Int} (h : k < 1 ∨ 18 < k) : maskN k = 0 := by
  unfold maskN
  rcases h with h | h
  · rw [show k.toNat = 0 by omega]; rfl
  · rw [List.getD_eq_getElem?_getD, List.getElem?_eq_none (by show 19 ≤ k.toNat; omega)]; rfl
theorem maskN_lt (k : Int) : maskN k < 65536 := by
  by_cases h : k < 1 ∨ 18 < k
  · rw [maskN_out h]; decide
  · obtain ⟨n, rfl⟩ : ∃ n : Nat, k = n := ⟨k.toNat, by omega⟩
    have : ∀ n : Nat, n < 19 → maskN (n : Int) < 65536 := by decide
    exact this n (by omega)
theorem maskN_bit (k : Int) {i : Nat} (hi : i < 16) : (maskN k).testBit i = hasB k.toNat i := by
  by_cases h : k < 1 ∨ 18 < k
  · rw [maskN_out h, Nat.zero_testBit]
    unfold hasB
    rcases h with h | h
    · rw [show k.toNat = 0 by omega]; rfl
    · rw [List.getD_eq_getElem?_getD, List.getElem?_eq_none (by show 19 ≤ k.toNat; omega)]; rfl
  · obtain ⟨n, rfl⟩ : ∃ n : Nat, k = n := ⟨k.toNat, by omega⟩
    have : ∀ n : Nat, n < 19 → ∀ i, i < 16 → (maskN (n : Int)).testBit i = hasB (n : Int).toNat i := by decide
    exact this n (by omega) i hi
theorem setOf_any (k : Int) (w : World) : Calls Try.prog 33 #[.int .i64 k] w fun e w' => e = .returned (.int .u64 (maskN k : Int)) ∧ w = w' := by
  by_cases h : k < 1 ∨ 18 < k
  · rw [maskN_out h]
    have g : ∀ j : Int, 1 ≤ j → j ≤ 18 → (k == j) = false := fun j h1 h2 => by simp; omega
    have g1 := g 1 (by decide) (by decide)
    have g2 := g 2 (by decide) (by decide)
    have g3 := g 3 (by decide) (by decide)
    have g4 := g 4 (by decide) (by decide)
    have g5 := g 5 (by decide) (by decide)
    have g6 := g 6 (by decide) (by decide)
    have g7 := g 7 (by decide) (by decide)
    have g8 := g 8 (by decide) (by decide)
    have g9 := g 9 (by decide) (by decide)
    have g10 := g 10 (by decide) (by decide)
    have g11 := g 11 (by decide) (by decide)
    have g12 := g 12 (by decide) (by decide)
    have g13 := g 13 (by decide) (by decide)
    have g14 := g 14 (by decide) (by decide)
    have g15 := g 15 (by decide) (by decide)
    have g16 := g 16 (by decide) (by decide)
    have g17 := g 17 (by decide) (by decide)
    have g18 := g 18 (by decide) (by decide)
    clear g h
    go_enter Try.func33, Try.ntmps33
    go_wp2
    go_ret
    exact ⟨rfl, rfl⟩
  · have hc : k = 1 ∨ k = 2 ∨ k = 3 ∨ k = 4 ∨ k = 5 ∨ k = 6 ∨ k = 7 ∨ k = 8 ∨ k = 9 ∨ k = 10 ∨ k = 11 ∨ k = 12 ∨ k = 13 ∨ k = 14 ∨ k = 15 ∨ k = 16 ∨ k = 17 ∨ k = 18 := by omega
    clear h
    rcases hc with rfl | rfl | rfl | rfl | rfl | rfl | rfl | rfl | rfl | rfl | rfl | rfl | rfl | rfl | rfl | rfl | rfl | rfl
    all_goals
      go_enter Try.func33, Try.ntmps33
      go_wp2
      go_ret
      exact ⟨rfl, rfl⟩
theorem rb {a b : Bool} (h : a = b) : Ending.returned (.bool a) = .returned (.bool b) := by rw [h]
theorem and_u64 (a b : Nat) (ha : a < 2 ^ 64) (hb : b < 2 ^ 64) : bits .and .u64 (a : Int) (b : Int) = ((a &&& b : Nat) : Int) := by
  have k : ∀ x : Nat, x < 2 ^ 64 → (BitVec.ofInt 64 (x : Int)).toNat = x := fun x hx => by rw [BitVec.toNat_ofInt]; omega
  show IntKind.u64.wrap ((BitVec.ofInt 64 (a : Int) &&& BitVec.ofInt 64 (b : Int)).toNat : Int) = _
  rw [BitVec.toNat_and, k _ ha, k _ hb]
  have h1 : a &&& b ≤ a := Nat.and_le_left
  have : IntKind.u64.wrap ((a &&& b : Nat) : Int) = ((a &&& b : Nat) : Int) := by
    unfold IntKind.wrap
    simp [IntKind.signed, IntKind.bits]
    omega
  exact this
theorem bit_val (m k : Nat) (hm : m < 65536) : (bits .and .u64 ((m : Int) / 2 ^ k) 1 == 1) = m.testBit k := by
  have e : ((m : Int) / 2 ^ k) = ((m / 2 ^ k : Nat) : Int) := by
    rw [Int.natCast_ediv, Int.natCast_pow]
    rfl
  have hd : m / 2 ^ k ≤ m := Nat.div_le_self _ _
  rw [e, show (1 : Int) = ((1 : Nat) : Int) from rfl, and_u64 _ _ (by omega) (by decide), Nat.and_one_is_mod, Nat.testBit_eq_decide_div_mod_eq]
  have h2 : m / 2 ^ k % 2 < 2 := Nat.mod_lt _ (by decide)
  rw [Bool.eq_iff_iff, beq_iff_eq, decide_eq_true_eq]
  omega
theorem bit_has (m k : Nat) (w : World) (hm : m < 65536) (hk : k < 16) : Calls Try.prog 35 #[.int .u64 (m : Int), .int .i64 (k : Int)] w fun e w' => e = .returned (.bool (m.testBit k)) ∧ w = w' := by
  have E := Lib.hid (bit_val m k hm)
  go_enter Try.func35, Try.ntmps35
  go_wp2
  go_ret
  exact ⟨rb E.out, rfl⟩
/-! ### Fields that are one value -/
theorem num_empty (b : Nat) (p : Addr) (z : Int) (w : World) (h1 : w.cell? ⟨b, 0, none⟩ = some (.pointer (some p))) (h2 : w.cell? p = some (.int .i64 z)) : Calls Try.prog 57 #[.pointer (some ⟨b, 0, none⟩)] w fun e w' => e = .returned (.bool (Fv.num z).empty) ∧ w = w' := by
  obtain ⟨B, hB⟩ : ∃ B, (z == 0) = B := ⟨_, rfl⟩
  have e : (Fv.num z).empty = B := by rw [← hB]; unfold Fv.empty; rw [Bool.eq_iff_iff]; simp
  rw [e]
  clear e
  go_enter Try.func57, Try.ntmps57
  go_wp2
  go_ret
  exact ⟨rfl, rfl⟩
theorem num_right (b : Nat) (p : Addr) (z : Int) (w : World) (h1 : w.cell? ⟨b, 0, none⟩ = some (.pointer (some p))) (h2 : w.cell? p = some (.int .i64 z)) : Calls Try.prog 58 #[.pointer (some ⟨b, 0, none⟩)] w fun e w' => e = .returned (.bool (Fv.num z).right) ∧ w = w' := by
  show Calls _ _ _ _ fun e w' => e = .returned (.bool (decide (0 ≤ z) && decide (z ≤ 65535))) ∧ w = w'
  by_cases hz : 0 ≤ z
  · obtain ⟨B, hB⟩ : ∃ B, decide (z ≤ 65535) = B := ⟨_, rfl⟩
    rw [hB, decide_eq_true hz, Bool.true_and]
    go_enter Try.func58, Try.ntmps58
    go_wp2
    go_ret
    exact ⟨rfl, rfl⟩
  · rw [decide_eq_false hz, Bool.false_and]
    go_enter Try.func58, Try.ntmps58
    go_wp2
    go_ret
    exact ⟨rfl, rfl⟩
theorem istext_any (s : List UInt8) (w : World) : Calls Try.prog 63 #[strV s] w fun e w' => e = .returned (.bool (decide (s.length ≤ 80))) ∧ w = w' := by
  obtain ⟨st, hst⟩ : ∃ st : ByteArray, (⟨s.toArray⟩ : ByteArray) = st := ⟨_, rfl⟩
  have hz : s.length = st.size := by rw [← hst]; rfl
  unfold strV
  rw [hst, hz]
  clear hst hz
  go_enter Try.func63, Try.ntmps63
  go_wp2
  go_ret
  exact ⟨rb (by rw [decide_eq_decide]; omega), rfl⟩
theorem text_empty (b : Nat) (p : Addr) (s : List UInt8) (w : World) (h1 : w.cell? ⟨b, 0, none⟩ = some (.pointer (some p))) (h2 : w.cell? p = some (strV s)) : Calls Try.prog 61 #[.pointer (some ⟨b, 0, none⟩)] w fun e w' => e = .returned (.bool (Fv.text s).empty) ∧ w = w' := by
  unfold strV at h2
  go_enter Try.func61, Try.ntmps61
  go_wp2
  go_ret
  exact ⟨rb (show s.isEmpty = decide (s = []) by cases s <;> simp), rfl⟩
theorem text_right (b : Nat) (p : Addr) (s : List UInt8) (w : World) (h1 : w.cell? ⟨b, 0, none⟩ = some (.pointer (some p))) (h2 : w.cell? p = some (strV s)) : Calls Try.prog 62 #[.pointer (some ⟨b, 0, none⟩)] w fun e w' => e = .returned (.bool (Fv.text s).right) ∧ w = w' := by
  have C := Lib.hid (istext_any s w)
  unfold strV at h2 C
  go_enter Try.func62, Try.ntmps62
  go_wp2_with (go_at_call 63; refine C.out.mono ?_; rintro e w1 ⟨rfl, rfl⟩)
  go_ret
  exact ⟨rfl, rfl⟩
theorem flag_empty (b : Nat) (p : Addr) (z : Bool) (w : World) (h1 : w.cell? ⟨b, 0, none⟩ = some (.pointer (some p))) (h2 : w.cell? p = some (.bool z)) : Calls Try.prog 75 #[.pointer (some ⟨b, 0, none⟩)] w fun e w' => e = .returned (.bool (Fv.flag z).empty) ∧ w = w' := by
  have hnot : ∀ (x : Bool) (w : World), (Op.unary .not (.bool x)).run Try.prog w = .ok (.bool (!x)) w := fun _ _ => rfl
  go_enter Try.func75, Try.ntmps75
  go_wp2
  go_ret
  exact ⟨rfl, rfl⟩
theorem flag_right (w : World) : Calls Try.prog 76 #[] w fun e w' => e = .returned (.bool true) ∧ w = w' := by
  go_enter Try.func76, Try.ntmps76
  go_wp2
  go_ret
  exact ⟨rfl, rfl⟩
theorem idx_empty (b : Nat) (p : Addr) (z : Nat) (w : World) (h1 : w.cell? ⟨b, 0, none⟩ = some (.pointer (some p))) (h2 : w.cell? p = some (u64V z)) : Calls Try.prog 81 #[.pointer (some ⟨b, 0, none⟩)] w fun e w' => e = .returned (.bool (Fv.idx z).empty) ∧ w = w' := by
  unfold u64V at h2
  go_enter Try.func81, Try.ntmps81
  go_wp2
  go_ret
  exact ⟨rb (show ((z : Int) == 0) = decide (z = 0) by rw [Bool.eq_iff_iff]; simp), rfl⟩
theorem idx_right (w : World) : Calls Try.prog 82 #[] w fun e w' => e = .returned (.bool true) ∧ w = w' := by
  go_enter Try.func82, Try.ntmps82
  go_wp2
  go_ret
  exact ⟨rfl, rfl⟩
end Go.Proofs.Ytbhhalkpghcflaa
/-
  Whether a command may have such tags (layer 20): every, over texts.
-/
namespace Go.Proofs.Ytbhhalkpghcflaa
open Go.RowKit
set_option linter.unusedSimpArgs false
set_option linter.unusedVariables false

abbrev isT (s : List UInt8) : Bool := decide (s.length ≤ 80)
theorem not_text (b : Nat) (s : List UInt8) (w : World) (h : w.cell? ⟨b, 0, none⟩ = some (.func (.func 63) #[] #[])) : Calls Try.prog 96 #[strV s, .pointer (some ⟨b, 0, none⟩)] w fun e w' => e = .returned (.bool (!isT s)) ∧ w = w' := by
  have C := Lib.hid (istext_any s w)
  unfold isT
  obtain ⟨B, hB⟩ : ∃ B, decide (s.length ≤ 80) = B := ⟨_, rfl⟩
  rw [hB] at C ⊢
  clear hB
  unfold strV at C ⊢
  go_enter Try.func96, Try.ntmps96
  go_wp2_with (go_at_call 63; refine C.out.mono ?_; rintro e w1 ⟨rfl, rfl⟩)
  go_ret
  exact ⟨rfl, rfl⟩
/-- Where the first stands that may not be: below 0 if there is none. -/
def Idx (bad : Bool) (w : World) (e : Ending) (w' : World) : Prop := ∃ z : Int, e = .returned (.int .i64 z) ∧ decide (z ≥ 0) = bad ∧ Below w.heap.size w w'
set_option maxHeartbeats 1000000 in
theorem index_str (A : Option Addr) (n c b : Nat) (l : List (List UInt8)) (w : World) (hr : RV w A n (l.map strV)) (hn : n ≤ maxLen) (h : w.cell? ⟨b, 0, none⟩ = some (.func (.func 63) #[] #[])) :
    Calls Try.prog 104 #[.slice A n c, .func (.func 96) #[] #[.pointer (some ⟨b, 0, none⟩)]] w (Idx (!l.all isT) w) := by
  have C := Lib.hid (fun s => not_text b s w h)
  have hl : l.length = n := by simpa using hr.1
  have HR := Lib.hid hr
  have HL := Lib.hid hl
  unfold maxLen at hn
  clear hr hl h
  go_enter Try.func104, Try.ntmps104
  go_wp2
  go_loop [8] (fun i => ∃ k : Nat, k ≤ n ∧ i = .int .i64 k ∧ UpTo (fun _ s => isT s) l k) (fun i => n - (intOf i).toNat)
  case atStart => exact ⟨0, Nat.zero_le _, rfl, UpTo.zero _ _⟩
  case round =>
    obtain ⟨k, hk, rfl, hU⟩ := hrel
    have HU := Lib.hid hU
    clear hU
    by_cases hlt : k < n
    · obtain ⟨p, off, e, hbl, hc⟩ := HR.out.at_ hlt
      obtain ⟨s, hs⟩ : ∃ s, l[k]'(by rw [HL.out]; exact hlt) = s := ⟨_, rfl⟩
      rw [List.getElem_map, hs] at hc
      have HS := Lib.hid hs
      subst e
      have C2 := Lib.hid (C.out s)
      clear hs
      unfold strV at hc C2
      cases ht : isT s with
      | true =>
        rw [ht] at C2
        have HT := Lib.hid ht
        clear ht
        go_wp2_with (go_at_call 96; refine C2.out.mono ?_; rintro e w1 ⟨rfl, rfl⟩)
        go_round
        case rel => exact ⟨k + 1, by omega, by go_num, HU.out.next (by rw [HL.out]; exact hlt) (by rw [HS.out]; exact HT.out)⟩
        case measure => simp [intOf]; omega
      | false =>
        rw [ht] at C2
        have HT := Lib.hid ht
        clear ht
        go_wp2_with (go_at_call 96; refine C2.out.mono ?_; rintro e w1 ⟨rfl, rfl⟩)
        go_ret
        have hm : s ∈ l := by rw [← HS.out]; exact List.getElem_mem _
        exact ⟨k, rfl, by rw [all_no hm HT.out]; simp, Below.refl _ _⟩
    · obtain rfl : k = n := by omega
      go_wp2
      go_ret
      exact ⟨-1, rfl, by rw [HU.out.all_ (f := isT) (Nat.le_of_eq HL.out)]; rfl, Below.refl _ _⟩
theorem contains_str (A : Option Addr) (n c b : Nat) (l : List (List UInt8)) (w : World) (hr : RV w A n (l.map strV)) (hn : n ≤ maxLen) (h : w.cell? ⟨b, 0, none⟩ = some (.func (.func 63) #[] #[])) :
    Calls Try.prog 95 #[.slice A n c, .func (.func 96) #[] #[.pointer (some ⟨b, 0, none⟩)]] w fun e w' => e = .returned (.bool (!l.all isT)) ∧ Below w.heap.size w w' := by
  have C := Lib.hid (index_str A n c b l w hr hn h)
  obtain ⟨B, hB⟩ : ∃ B, (!l.all isT) = B := ⟨_, rfl⟩
  rw [hB] at C ⊢
  clear hr hn h hB
  go_enter Try.func95, Try.ntmps95
  go_wp2_with (go_at_call 104; refine C.out.mono ?_; rintro e w1 ⟨z, rfl, hz, hb⟩; have HB := Lib.hid hb; have HZ := Lib.hid hz; clear hb hz)
  go_ret
  exact ⟨rb HZ.out, HB.out⟩
theorem every_str (A : Option Addr) (n c : Nat) (l : List (List UInt8)) (w : World) (hr : RV w A n (l.map strV)) (hn : n ≤ maxLen) :
    Calls Try.prog 70 #[.slice A n c, .func (.func 63) #[] #[]] w fun e w' => e = .returned (.bool (l.all isT)) ∧ Below w.heap.size w w' := by
  have C := Lib.hid (contains_str A n c w.heap.size l (w.alloc (.cells #[.func (.func 63) #[] #[]] 105)) (hr.below ((Below.refl _ w).alloc (Nat.le_refl _) _)) hn (by rw [cell_of_row _ w.heap.size 0 _ _ (0, 0) (heap_alloc_new w _)]; rfl))
  have hmf := hmf
  obtain ⟨B, hB⟩ : ∃ B, l.all isT = B := ⟨_, rfl⟩
  rw [hB] at C ⊢
  clear hr hn hB
  go_enter Try.func70, Try.ntmps70
  go_wp2_with (go_at_call 95; refine C.out.mono ?_; rintro e w1 ⟨rfl, hb⟩; have HB := Lib.hid hb; clear hb)
  go_ret
  exact ⟨by simp, ((Below.refl _ w).alloc (Nat.le_refl _) _).trans (HB.out.mono (by simp))⟩
theorem texts_empty (b : Nat) (p : Addr) (A : Option Addr) (n c : Nat) (w : World) (h1 : w.cell? ⟨b, 0, none⟩ = some (.pointer (some p))) (h2 : w.cell? p = some (.slice A n c)) (hn : n ≤ maxLen) : Calls Try.prog 68 #[.pointer (some ⟨b, 0, none⟩)] w fun e w' => e = .returned (.bool (decide (n = 0))) ∧ w = w' := by
  unfold maxLen at hn
  go_enter Try.func68, Try.ntmps68
  go_wp2
  go_ret
  exact ⟨rb (show ((n : Int) == 0) = decide (n = 0) by rw [Bool.eq_iff_iff]; simp), rfl⟩
theorem texts_right (b : Nat) (p : Addr) (A : Option Addr) (n c : Nat) (l : List (List UInt8)) (w : World) (h1 : w.cell? ⟨b, 0, none⟩ = some (.pointer (some p))) (h2 : w.cell? p = some (.slice A n c)) (hr : RV w A n (l.map strV)) (hn : n ≤ maxLen) : Calls Try.prog 69 #[.pointer (some ⟨b, 0, none⟩)] w fun e w' => e = .returned (.bool (Fv.texts l).right) ∧ Below w.heap.size w w' := by
  show Calls _ _ _ _ fun e w' => e = .returned (.bool (decide (l.length ≤ 8) && l.all isT)) ∧ Below w.heap.size w w'
  have C := Lib.hid (every_str A n c l w hr hn)
  have hl : l.length = n := by simpa using hr.1
  unfold maxLen at hn
  obtain ⟨B, hB⟩ : ∃ B, l.all isT = B := ⟨_, rfl⟩
  rw [hB] at C ⊢
  rw [hl]
  clear hr hB hl
  by_cases h8 : n ≤ 8
  · have g : decide ((n : Int) ≤ 8) = true := decide_eq_true (by omega)
    rw [decide_eq_true h8, Bool.true_and]
    go_enter Try.func69, Try.ntmps69
    go_wp2_with (go_at_call 70; refine C.out.mono ?_; rintro e w1 ⟨rfl, hb⟩; have HB := Lib.hid hb; clear hb)
    go_ret
    exact ⟨rfl, HB.out⟩
  · have g : decide ((n : Int) ≤ 8) = false := decide_eq_false (by omega)
    rw [decide_eq_false h8, Bool.false_and]
    go_enter Try.func69, Try.ntmps69
    go_wp2
    go_ret
    exact ⟨rfl, Below.refl _ _⟩
end Go.Proofs.Ytbhhalkpghcflaa
