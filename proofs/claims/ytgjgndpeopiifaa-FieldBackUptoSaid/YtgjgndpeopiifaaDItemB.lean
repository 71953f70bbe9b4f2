/-
  The Reader's Num, Text, Flag, Left, Wrong, Done (layer 4).
-/
import Derived.Test.YtgjgndpeopiifaaDItem
namespace Go.Proofs.Ytgjgndpeopiifaa
open Go.RowKit
set_option linter.unusedSimpArgs false

theorem RdAt.kept {S : Nat → Prop} {w w' : World} {B : Nat} {s : St} (h : RdAt S w B s) (hb : Below w.heap.size w w') : RdAt S w' B s := h.below hb
theorem Reads.from {S : Nat → Prop} {B : Nat} {w w0 w' : World} {v : Value} {s : St} {e : Ending} (h : Reads S B w v s e w') (hb : Below w0.heap.size w0 w) : Reads S B w0 v s e w' := ⟨h.1, h.2.1, (But.of_below hb).trans h.2.2⟩
theorem rNum_any (S : Nat → Prop) (B most : Nat) (s : St) (w : World) (h : RdAt S w B s) (hmost : most < 256 ^ 8) :
    Calls Try.prog 25 #[.pointer (some ⟨B, 0, none⟩), .int .u64 (most : Int)] w (Reads S B w (u64V ((itNum most).out s)) ((itNum most).next s)) := by
  have hb : Below w.heap.size w (w.alloc (.cells #[.int .u64 (most : Int)] 23)) := (Below.refl _ w).alloc (Nat.le_refl _) _
  have s1 := (item_u64 S B s (w.alloc (.cells #[.int .u64 (most : Int)] 23)) (h.below hb) most w.heap.size hmost (by rw [cell_of_row _ w.heap.size 0 _ _ (0, 0) (heap_alloc_new w _)]; rfl)).mono fun e w' h => Reads.from h hb
  obtain ⟨F, hF⟩ : ∃ F, Reads S B w (u64V ((itNum most).out s)) ((itNum most).next s) = F := ⟨_, rfl⟩
  rw [hF] at s1 ⊢
  have HF := Lib.hid hF
  have S1 := Lib.hid s1
  clear h hb s1 hF hmost
  go_enter Try.func25, Try.ntmps25
  go_wp2_with fail
  refine S1.out.mono ?_
  rintro e w1 hr
  have HR := Lib.hid hr
  rw [← HF.out] at hr
  obtain ⟨rfl, _, _⟩ := hr
  unfold u64V at HR ⊢
  go_wp2
  exact HR.out
theorem rText_any (S : Nat → Prop) (B : Nat) (m : Int) (s : St) (w : World) (h : RdAt S w B s) (hm : m ≤ 9223372036854775807) :
    Calls Try.prog 26 #[.pointer (some ⟨B, 0, none⟩), .int .i64 m] w (Reads S B w (strV ((itText m.toNat).out s)) ((itText m.toNat).next s)) := by
  have hb : Below w.heap.size w (w.alloc (.cells #[.int .i64 m] 3)) := (Below.refl _ w).alloc (Nat.le_refl _) _
  have s1 := (item_str S B s (w.alloc (.cells #[.int .i64 m] 3)) (h.below hb) w.heap.size m hm (by rw [cell_of_row _ w.heap.size 0 _ _ (0, 0) (heap_alloc_new w _)]; rfl)).mono fun e w' h => Reads.from h hb
  obtain ⟨F, hF⟩ : ∃ F, Reads S B w (strV ((itText m.toNat).out s)) ((itText m.toNat).next s) = F := ⟨_, rfl⟩
  rw [hF] at s1 ⊢
  have HF := Lib.hid hF
  have S1 := Lib.hid s1
  clear h hb s1 hF hm
  go_enter Try.func26, Try.ntmps26
  go_wp2_with fail
  refine S1.out.mono ?_
  rintro e w1 hr
  have HR := Lib.hid hr
  rw [← HF.out] at hr
  obtain ⟨rfl, _, _⟩ := hr
  unfold strV at HR ⊢
  obtain ⟨st, hst⟩ : ∃ st : ByteArray, (⟨((itText m.toNat).out s).toArray⟩ : ByteArray) = st := ⟨_, rfl⟩
  rw [hst] at HR ⊢
  clear hst
  go_wp2
  exact HR.out
theorem rFlag_any (S : Nat → Prop) (B : Nat) (s : St) (w : World) (h : RdAt S w B s) :
    Calls Try.prog 27 #[.pointer (some ⟨B, 0, none⟩)] w (Reads S B w (.bool (itFlag.out s)) (itFlag.next s)) := by
  have s1 := item_bool S B s w h
  obtain ⟨F, hF⟩ : ∃ F, Reads S B w (.bool (itFlag.out s)) (itFlag.next s) = F := ⟨_, rfl⟩
  rw [hF] at s1 ⊢
  have HF := Lib.hid hF
  have S1 := Lib.hid s1
  clear h s1 hF
  go_enter Try.func27, Try.ntmps27
  go_wp2_with fail
  refine S1.out.mono ?_
  rintro e w1 hr
  have HR := Lib.hid hr
  rw [← HF.out] at hr
  obtain ⟨rfl, _, _⟩ := hr
  obtain ⟨q, hq⟩ : ∃ q, itFlag.out s = q := ⟨_, rfl⟩
  rw [hq] at HR ⊢
  clear hq
  go_wp2
  exact HR.out
theorem rLeft_any (S : Nat → Prop) (B : Nat) (s : St) (w : World) (h : RdAt S w B s) :
    Calls Try.prog 21 #[.pointer (some ⟨B, 0, none⟩)] w fun e w' => e = .returned (.int .i64 (s.b.length : Int)) ∧ w = w' := by
  obtain ⟨hB, A, n, c, hh, hr, hnc, hA, hn⟩ := h
  obtain ⟨c0, c1, c2, _, _⟩ := RdAt.cells hh
  have hl := hr.1.1
  rw [hl]
  clear hh hr hA hl
  go_enter Try.func21, Try.ntmps21
  go_wp2
  go_ret
  exact ⟨rfl, rfl⟩
theorem rWrong_any (S : Nat → Prop) (B : Nat) (s : St) (w : World) (h : RdAt S w B s) :
    Calls Try.prog 22 #[.pointer (some ⟨B, 0, none⟩)] w fun e w' => e = .returned (.int .i64 (s.e : Int)) ∧ w = w' := by
  obtain ⟨hB, A, n, c, hh, hr, hnc, hA, hn⟩ := h
  obtain ⟨c0, c1, c2, _, _⟩ := RdAt.cells hh
  obtain ⟨E, hE⟩ : ∃ E, s.e = E := ⟨_, rfl⟩
  rw [hE] at c2 ⊢
  clear hh hr hA hE
  go_enter Try.func22, Try.ntmps22
  go_wp2
  go_ret
  exact ⟨rfl, rfl⟩
/-- What Done answers. -/
def doneS (s : St) : Nat := if s.e = 0 ∧ 0 < s.b.length then 41 else s.e
theorem rDone_any (S : Nat → Prop) (B : Nat) (s : St) (w : World) (h : RdAt S w B s) :
    Calls Try.prog 23 #[.pointer (some ⟨B, 0, none⟩)] w fun e w' => e = .returned (.int .i64 (doneS s : Int)) ∧ w = w' := by
  have s1 := rWrong_any S B s w h
  have s2 := rLeft_any S B s w h
  have hn : s.b.length ≤ 140737488355328 := by
    obtain ⟨_, A, n, c, _, hr, _, _, hn⟩ := h
    rw [hr.1.1]; exact hn
  by_cases he : s.e = 0
  · have hd : doneS s = if 0 < s.b.length then 41 else 0 := by
      unfold doneS
      by_cases h0 : 0 < s.b.length
      · rw [if_pos ⟨he, h0⟩, if_pos h0]
      · rw [if_neg (fun h => h0 h.2), if_neg h0, he]
    rw [he] at s1
    rw [hd]
    obtain ⟨n, hnn⟩ : ∃ n, s.b.length = n := ⟨_, rfl⟩
    rw [hnn] at s2 hn ⊢
    clear hd hnn h he
    by_cases h0 : 0 < n
    · rw [if_pos h0]
      have q1 : (0 : Int) < (n : Int) := by omega
      go_enter Try.func23, Try.ntmps23
      go_wp2_with fail
      refine s1.mono ?_
      rintro e w1 ⟨rfl, rfl⟩
      go_wp2_with fail
      refine s2.mono ?_
      rintro e w1 ⟨rfl, rfl⟩
      go_wp2
      go_ret
      exact ⟨rfl, rfl⟩
    · rw [if_neg h0]
      obtain rfl : n = 0 := by omega
      go_enter Try.func23, Try.ntmps23
      go_wp2_with fail
      refine s1.mono ?_
      rintro e w1 ⟨rfl, rfl⟩
      go_wp2_with fail
      refine s2.mono ?_
      rintro e w1 ⟨rfl, rfl⟩
      go_wp2_with fail
      refine s1.mono ?_
      rintro e w1 ⟨rfl, rfl⟩
      go_wp2
      go_ret
      exact ⟨rfl, rfl⟩
  · have hd : doneS s = s.e := by unfold doneS; rw [if_neg (fun h => he h.1)]
    rw [hd]
    obtain ⟨E, hE⟩ : ∃ E, s.e = E := ⟨_, rfl⟩
    rw [hE] at s1 he ⊢
    have q1 : (((E : Nat) : Int) == 0) = false := by rw [beq_eq_false_iff_ne]; omega
    clear hd hE h he s2
    go_enter Try.func23, Try.ntmps23
    go_wp2_with fail
    refine s1.mono ?_
    rintro e w1 ⟨rfl, rfl⟩
    go_wp2_with fail
    refine s1.mono ?_
    rintro e w1 ⟨rfl, rfl⟩
    go_wp2
    go_ret
    exact ⟨rfl, rfl⟩
end Go.Proofs.Ytgjgndpeopiifaa
