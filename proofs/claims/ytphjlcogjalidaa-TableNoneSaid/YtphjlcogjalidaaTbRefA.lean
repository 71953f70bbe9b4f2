/-
  The document's New, Raise, Get, walked (layer 15).
-/
import Derived.Test.YtphjlcogjalidaaTbMem
namespace Go.Proofs.Ytphjlcogjalidaa
open Go.RowKit
set_option linter.unusedSimpArgs false
set_option linter.unusedVariables false

set_option maxHeartbeats 1000000 in
theorem rnew_any (m : Int) (w : World) (hm : -9223372036854775808 ≤ m ∧ m ≤ 9223372036854775807) :
    Calls Try.prog 8 #[.int .i64 m] w fun e w' => e = .returned (.pointer (some ⟨w.heap.size, 0, none⟩)) ∧ RtAt (· = w.heap.size) w' w.heap.size ⟨mostT m, [], 0⟩ ∧ Below w.heap.size w w' := by
  obtain ⟨X, hX⟩ : ∃ X, w.heap.size = X := ⟨_, rfl⟩
  have HX := Lib.hid hX
  obtain ⟨M, hM⟩ : ∃ M, mostT m = M := ⟨_, rfl⟩
  have HM := Lib.hid hM
  have hm1 := hm.1
  have hm2 := hm.2
  have fin : ∀ k : Int, (k = (mostT m : Int)) → Hid (RtAt (· = w.heap.size) (w.alloc (.cells #[.int .i64 k, .slice none 0 0, .int .u64 0] TD)) w.heap.size ⟨mostT m, [], 0⟩ ∧ Below w.heap.size w (w.alloc (.cells #[.int .i64 k, .slice none 0 0, .int .u64 0] TD))) := fun k hk => Lib.hid ⟨⟨Tb.Ok.new m, none, 0, rfl, by rw [hk]; exact heap_alloc_new _ _, .zero, fun _ _ e => (by cases e), Nat.le_refl _, Nat.zero_le _⟩, (Below.refl _ w).alloc (Nat.le_refl _) _⟩
  rw [hX, hM] at fin
  rw [hX, hM]
  have FIN := Lib.hid fin
  clear hX hM fin hm
  go_enter Try.func8, Try.ntmps8
  by_cases h1 : m < 1
  · go_wp2
    go_ret
    obtain ⟨f1, f2⟩ := (FIN.out 1 (by rw [← HM.out]; unfold mostT; split <;> (try split) <;> omega)).out
    exact ⟨by rw [← HX.out]; rfl, f1, f2⟩
  · by_cases h2 : 64 < m
    · go_wp2
      go_ret
      obtain ⟨f1, f2⟩ := (FIN.out 64 (by rw [← HM.out]; unfold mostT; split <;> (try split) <;> omega)).out
      exact ⟨by rw [← HX.out]; rfl, f1, f2⟩
    · go_wp2
      go_ret
      obtain ⟨f1, f2⟩ := (FIN.out m (by rw [← HM.out]; unfold mostT; split <;> (try split) <;> omega)).out
      exact ⟨by rw [← HX.out]; rfl, f1, f2⟩
theorem raise_max {t : Tb Int} {i : Nat} (h : t.last < i) : t.raise i = { t with last := i } := by
  unfold Tb.raise
  rw [Nat.max_eq_right (Nat.le_of_lt h)]
theorem raise_same {t : Tb Int} {i : Nat} (h : ¬ t.last < i) : t.raise i = t := by
  unfold Tb.raise
  rw [Nat.max_eq_left (by omega)]
set_option maxHeartbeats 1000000 in
theorem rraise_any {S : Nat → Prop} {B : Nat} {t : Tb Int} {A : Option Addr} {c : Nat} (i : Nat) (w : World) (h : RtIs S w B A c t) (hl : t.last < 18446744073709551616) (hi : i < 18446744073709551616) :
    Calls Try.prog 25 #[.pointer (some ⟨B, 0, none⟩), .int .u64 (i : Int)] w fun e w' => e = .returned (.tuple #[]) ∧ RtIs S w' B A c (t.raise i) ∧ But (· = B) w w' := by
  have H := Lib.hid h
  have c2 := h.c2
  have z2 := h.froz 2
  clear h
  go_enter Try.func25, Try.ntmps25
  by_cases h1 : t.last < i
  · have q : (t.last : Int) < (i : Int) := by omega
    go_wp2
    refine bodyPost_end (results_none rfl _ _ _) rfl ?_
    refine ⟨rfl, ?_, But.set (S := (· = B)) w (p := ⟨B, 2, none⟩) rfl _⟩
    rw [raise_max h1]
    exact H.out.setLast i
  · have q : ¬ (t.last : Int) < (i : Int) := by omega
    go_wp2
    refine bodyPost_end (results_none rfl _ _ _) rfl ?_
    refine ⟨rfl, ?_, But.refl _ _⟩
    rw [raise_same h1]
    exact H.out
/-- The row with a key, or the row of none. -/
def gotR (o : Option (Rw Int)) : Value := .tuple #[trV (o.getD noRw), .bool o.isSome]
theorem get_step {l : List (Rw Int)} {k : Nat} {key : ByteArray} (hk : k < l.length) (hno : getR (l.take k) key = none) :
    (l[k].key = key → getR l key = some l[k]) ∧ (l[k].key ≠ key → getR (l.take (k + 1)) key = none) := by
  unfold getR at hno ⊢
  refine ⟨fun e => ?_, fun e => ?_⟩
  · obtain ⟨x, hx⟩ : ∃ x, l[k] = x := ⟨_, rfl⟩
    rw [hx] at e ⊢
    have : l = l.take k ++ x :: l.drop (k + 1) := by rw [← hx]; simp
    rw [this, List.find?_append, hno, List.find?_cons_of_pos (by rw [text_same]; exact e)]
    rfl
  · rw [List.take_succ_eq_append_getElem hk, List.find?_append, hno, List.find?_cons_of_neg (by rw [text_same]; exact e)]
    rfl
theorem get_end {l : List (Rw Int)} {k : Nat} {key : ByteArray} (hk : l.length ≤ k) (hno : getR (l.take k) key = none) : getR l key = none := by
  rw [List.take_of_length_le hk] at hno
  exact hno
set_option maxHeartbeats 2000000 in
theorem rget_any {S : Nat → Prop} {B : Nat} {t : Tb Int} {A : Option Addr} {c : Nat} (key : ByteArray) (w : World) (h : RtIs S w B A c t) :
    Calls Try.prog 11 #[.pointer (some ⟨B, 0, none⟩), .string key] w fun e w' => e = .returned (gotR (getR t.l key)) ∧ Below w.heap.size w w' := by
  obtain ⟨X, hX⟩ : ∃ X, w.heap.size = X := ⟨_, rfl⟩
  obtain ⟨W, hW⟩ : ∃ W, w.alloc (.cells #[.string ⟨#[]⟩, .int .i64 0, .int .u64 0, .int .u64 0] 35) = W := ⟨_, rfl⟩
  have hb0 : Below w.heap.size w W := by rw [← hW]; exact below1 _ _ _
  have hs0 : W.heap.size = X + 1 := by rw [← hW, ← hX]; simp
  have k0 : W.heap[X]? = some (.cells #[.string ⟨#[]⟩, .int .i64 0, .int .u64 0, .int .u64 0] TDR (0, 0)) := by rw [← hW, ← hX]; exact heap_alloc_new w _
  have HB0 := Lib.hid hb0
  have HS0 := Lib.hid hs0
  have HK0 := Lib.hid k0
  have HW := Lib.hid hW
  have HX := Lib.hid hX
  have HT := Lib.hid (h.below hb0)
  obtain ⟨L, hL⟩ : ∃ L, t.l.length = L := ⟨_, rfl⟩
  have hm : L ≤ 9223372036854775807 := by have := h.le; have := h.max; unfold maxLen at this; omega
  have HL := Lib.hid hL
  obtain ⟨o, ho⟩ : ∃ o, getR t.l key = o := ⟨_, rfl⟩
  rw [ho]
  have HO := Lib.hid ho
  clear h hX hL ho hW hb0 hs0 k0
  go_enter Try.func11, Try.ntmps11
  go_wp2_with fail
  rw [HW.out, HX.out]
  go_loopw [6] (fun iv wr => ∃ k : Nat, k ≤ L ∧ iv = .int .i64 (k : Int) ∧ Hid (getR (t.l.take k) key = none) ∧ Hid (Below (X + 1) W wr)) (fun iv _ => L - (intOf iv).toNat)
  case atStart => exact ⟨0, Nat.zero_le _, rfl, Lib.hid rfl, Lib.hid (HS0.out ▸ Below.refl _ _)⟩
  case round =>
    obtain ⟨k, hk, rfl, hno, hb⟩ := hrel
    have ht := HT.out.below (by rw [HS0.out]; exact hb.out)
    have c1 : wr.cell? ⟨B, 1, none⟩ = some (.slice A L c) := by have := ht.c1; rw [HL.out] at this; exact this
    have hj0 := (hb.out.block X (by omega)).trans HK0.out
    have HJ := Lib.hid hj0
    obtain ⟨d0, d1, d2, d3⟩ := blk4 hj0
    have g0 := blk_froz hj0 0
    have g1 := blk_froz hj0 1
    have g2 := blk_froz hj0 2
    have g3 := blk_froz hj0 3
    have hXl := block_lt hj0
    by_cases hlt : k < L
    · have hkl : k < t.l.length := by rw [HL.out]; exact hlt
      obtain ⟨b, off, rfl, hbl, hit⟩ := ht.row.at_ hkl hkl
      obtain ⟨r, hr⟩ : ∃ r, t.l[k] = r := ⟨_, rfl⟩
      have hs := get_step hkl hno.out
      rw [hr] at hit hs
      obtain ⟨e0, e1, e2, e3⟩ := tr_cells hit
      by_cases hz : r.key = key
      · have zz : (r.key.toList == key.toList) = true := text_same.2 hz
        obtain rfl : some r = o := by rw [← HO.out, hs.1 hz]
        have HQ := Lib.hid (set4_blk hj0 (.string r.key) (.int .i64 r.val) (.int .u64 (r.made : Int)) (.int .u64 (r.ix : Int)))
        clear hs hz hr hit ht hj0
        go_wp2
        obtain ⟨q0, q1, q2, q3⟩ := blk4 HQ.out
        refine bodyPost_ret (v := .tuple #[trV r, .bool true]) (by simp [results, Try.results11, go_sem, q0, q1, q2, q3, trV]) rfl ⟨rfl, ?_⟩
        have hbw : Below w.heap.size w wr := HB0.out.trans (hb.out.mono (by have := HX.out; omega))
        rw [HX.out] at hbw ⊢
        exact below_set4 hbw _ _ _ _
      · have zz : (r.key.toList == key.toList) = false := text_other.2 hz
        have HN := Lib.hid (hs.2 hz)
        clear hs hz hr hit ht hj0 d0 d1 d2 d3 g0 g1 g2 g3
        go_wp2
        go_roundw
        case rel => exact ⟨k + 1, by omega, by go_num, HN, hb⟩
        case measure => simp [intOf]; omega
    · have hn := get_end (show t.l.length ≤ k by rw [HL.out]; omega) hno.out
      obtain rfl : none = o := by rw [← HO.out, hn]
      have HQ := Lib.hid (set4_blk hj0 (.string ⟨#[]⟩) (.int .i64 0) (.int .u64 0) (.int .u64 0))
      clear hn ht hj0
      go_wp2
      obtain ⟨q0, q1, q2, q3⟩ := blk4 HQ.out
      refine bodyPost_ret (v := .tuple #[trV noRw, .bool false]) (by simp [results, Try.results11, go_sem, q0, q1, q2, q3, trV, noRw]) rfl ⟨rfl, ?_⟩
      have hbw : Below w.heap.size w wr := HB0.out.trans (hb.out.mono (by have := HX.out; omega))
      rw [HX.out] at hbw ⊢
      exact below_set4 hbw _ _ _ _
end Go.Proofs.Ytphjlcogjalidaa
