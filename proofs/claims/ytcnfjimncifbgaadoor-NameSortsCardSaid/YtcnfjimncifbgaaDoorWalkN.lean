/-
  The walk of the law NameSorts (layer 1).
-/
import Derived.Test.YtcnfjimncifbgaaDoorWalkM
namespace Go.Proofs.YtcnfjimncifbgaaDoor
open Go.RowKit Go.ChangeShapes Go.WideShapes Go.ChangeAt
set_option linter.unusedSimpArgs false
set_option linter.unusedVariables false

theorem works_to (w : World) {W : World} (hM : MaxIs w) (hb : Below w.heap.size w W) :
    Calls Tryd.prog 15 #[] W fun e w' => e = .returned (.bool true) ∧ Below W.heap.size W w' := works_any W (hM.keep hb)

set_option maxHeartbeats 4000000 in
set_option maxRecDepth 100000 in
theorem sorts_few (A : Option Addr) (n c : Nat) (xs : List ByteArray) (s : ByteArray) (w : World) (h : RS w A n xs) (hn : n ≤ 60) (hcap : n ≤ c) (hc64 : c ≤ maxLen) (hnil : A = none → c = 0) (hMx : MaxIs w) :
    Calls Tryd.prog 5 #[.slice A n c, .string s] w fun e w' => e = .returned (.bool true) ∧ Below w.heap.size w w' := by
  obtain ⟨i0, hi, hz0, hz1, hz2⟩ := info_parts str_info
  have hl := h.1
  unfold maxLen at hc64
  have hR := h
  clear h
  have hl60 : xs.length ≤ 60 := by first | omega | (rw [List.length_take]; omega)
  obtain ⟨M, hM⟩ : ∃ M, rSorted xs = M := ⟨_, rfl⟩
  have hMl : M.length ≤ 60 := by have := rSorted_length_all xs; rw [hM] at this; omega
  have hSS := Lib.hid (show SS M from hM ▸ SS_rSorted _)
  have HM := Lib.hid hM
  obtain ⟨Q, hQ⟩ : ∃ Q, withB M s = Q := ⟨_, rfl⟩
  have hQl : Q.length ≤ 121 := by have := withB_length M s; rw [hQ] at this; omega
  have HQ := Lib.hid hQ
  have HSQ := Lib.hid (show SS Q from hQ ▸ SS_withB hSS.out s)
  obtain ⟨T, hT⟩ : ∃ T, withoutB M s = T := ⟨_, rfl⟩
  have hTl : T.length ≤ 60 := by have := withoutB_length M s; rw [hT] at this; omega
  have HT := Lib.hid hT
  obtain ⟨hv, hh⟩ : ∃ hv, hasB M s = hv := ⟨_, rfl⟩
  have HH := Lib.hid hh
  clear hM hQ hT hh
  have hb0 : Below w.heap.size w (w.alloc (.cells #[] 9)) := (Below.refl _ _).alloc (Nat.le_refl _) _
  have hR1 := hR.below hb0
  have hown := World.ownsRow_made (base := w.heap.size) (e := 9) (size := 1) w #[] 0 (Nat.le_refl _) (Nat.zero_le _) rfl
  go_enter Tryd.func5, Tryd.ntmps5
  go_wp2_with (at_builtin; refine wpList_append_rs rfl (.tmp 13) (.tmp 14) 25 rfl w.heap.size 9 i0 (.string ⟨#[]⟩) 16 Tryd.underlying25 hi hz0 hz1 hz2 rfl _ 0 [] rfl hown A n c xs rfl ?c1 hR1 ?c2 ?c3 ?c4 ?_)
  case c1 => exact hnil
  case c2 => unfold maxLen; omega
  case c3 => omega
  case c4 => simp
  intro v1 w1 hown1 hg1
  obtain ⟨Aw, dw, hvw, hRw⟩ := RS.own (n := n) (xs := xs) (by simpa using hown1)
  subst hvw
  have hB0 : Below w.heap.size w w1 := hb0.grown hg1 (by simp) (fun j hj => by simp [Value.ownBlock] at hj; omega)
  have hRl : RS w1 A n xs := hR.below hB0
  clear hown1 hg1 hown hR1 hb0 hR
  go_wp2_with fail
  refine (nsorted_to HM.out hRl (by omega)).mono ?_
  rintro e w_1 ⟨A1, d1, rfl, hr_1, hb_1⟩
  have l_1 := hRl.below hb_1
  clear hRl
  have w_1 := hRw.below hb_1
  clear hRw
  have hB_1 := hB0.trans (hb_1.mono hB0.size)
  clear hB0 hb_1
  go_wp2_with fail
  refine (rsorted_to HM.out l_1 (by omega)).mono ?_
  rintro e w_2 ⟨A2, d2, rfl, hr_2, hb_2⟩
  have l_2 := l_1.below hb_2
  clear l_1
  have w_2 := w_1.below hb_2
  clear w_1
  have m_2 := hr_1.below hb_2
  clear hr_1
  have hB_2 := hB_1.trans (hb_2.mono hB_1.size)
  clear hB_1 hb_2
  go_wp2_with fail
  refine (same_to m_2 hr_2 (by omega)).mono ?_
  rintro e w_3 ⟨rfl, hb_3⟩
  have l_3 := l_2.below hb_3
  clear l_2
  have w_3 := w_2.below hb_3
  clear w_2
  have m_3 := m_2.below hb_3
  clear m_2
  have r_3 := hr_2.below hb_3
  clear hr_2
  have hB_3 := hB_2.trans (hb_3.mono hB_2.size)
  clear hB_2 hb_3
  go_wp2_with fail
  refine (same_to l_3 w_3 (by omega)).mono ?_
  rintro e w_4 ⟨rfl, hb_4⟩
  have l_4 := l_3.below hb_4
  clear l_3
  have w_4 := w_3.below hb_4
  clear w_3
  have m_4 := m_3.below hb_4
  clear m_3
  have r_4 := r_3.below hb_4
  clear r_3
  have hB_4 := hB_3.trans (hb_4.mono hB_3.size)
  clear hB_3 hb_4
  go_wp2_with fail
  refine (has_to hSS.out HH.out m_4 (by omega)).mono ?_
  rintro e w_5 ⟨rfl, hb_5⟩
  have l_5 := l_4.below hb_5
  clear l_4
  have w_5 := w_4.below hb_5
  clear w_4
  have m_5 := m_4.below hb_5
  clear m_4
  have r_5 := r_4.below hb_5
  clear r_4
  have hB_5 := hB_4.trans (hb_5.mono hB_4.size)
  clear hB_4 hb_5
  go_wp2_with fail
  refine (rhas_to HH.out r_5 (by omega)).mono ?_
  rintro e w_6 ⟨rfl, hb_6⟩
  have l_6 := l_5.below hb_6
  clear l_5
  have w_6 := w_5.below hb_6
  clear w_5
  have m_6 := m_5.below hb_6
  clear m_5
  have r_6 := r_5.below hb_6
  clear r_5
  have hB_6 := hB_5.trans (hb_6.mono hB_5.size)
  clear hB_5 hb_6
  go_wp2_with fail
  refine (with_to HQ.out m_6 (by omega)).mono ?_
  rintro e w_7 ⟨A3, d3, rfl, hr_7, hb_7⟩
  have l_7 := l_6.below hb_7
  clear l_6
  have w_7 := w_6.below hb_7
  clear w_6
  have m_7 := m_6.below hb_7
  clear m_6
  have r_7 := r_6.below hb_7
  clear r_6
  have hB_7 := hB_6.trans (hb_7.mono hB_6.size)
  clear hB_6 hb_7
  go_wp2_with fail
  refine (rwith_to hSS.out HQ.out r_7 (by omega)).mono ?_
  rintro e w_8 ⟨A4, d4, rfl, hr_8, hb_8⟩
  have l_8 := l_7.below hb_8
  clear l_7
  have w_8 := w_7.below hb_8
  clear w_7
  have m_8 := m_7.below hb_8
  clear m_7
  have r_8 := r_7.below hb_8
  clear r_7
  have q1_8 := hr_7.below hb_8
  clear hr_7
  have hB_8 := hB_7.trans (hb_8.mono hB_7.size)
  clear hB_7 hb_8
  go_wp2_with fail
  refine (same_to q1_8 hr_8 (by omega)).mono ?_
  rintro e w_9 ⟨rfl, hb_9⟩
  have l_9 := l_8.below hb_9
  clear l_8
  have w_9 := w_8.below hb_9
  clear w_8
  have m_9 := m_8.below hb_9
  clear m_8
  have r_9 := r_8.below hb_9
  clear r_8
  have q1_9 := q1_8.below hb_9
  clear q1_8
  have q2_9 := hr_8.below hb_9
  clear hr_8
  have hB_9 := hB_8.trans (hb_9.mono hB_8.size)
  clear hB_8 hb_9
  go_wp2_with fail
  refine (without_to HT.out m_9 (by omega)).mono ?_
  rintro e w_10 ⟨A5, d5, rfl, hr_10, hb_10⟩
  have l_10 := l_9.below hb_10
  clear l_9
  have w_10 := w_9.below hb_10
  clear w_9
  have m_10 := m_9.below hb_10
  clear m_9
  have r_10 := r_9.below hb_10
  clear r_9
  have q1_10 := q1_9.below hb_10
  clear q1_9
  have q2_10 := q2_9.below hb_10
  clear q2_9
  have hB_10 := hB_9.trans (hb_10.mono hB_9.size)
  clear hB_9 hb_10
  go_wp2_with fail
  refine (rwithout_to HT.out r_10 (by omega)).mono ?_
  rintro e w_11 ⟨A6, d6, rfl, hr_11, hb_11⟩
  have l_11 := l_10.below hb_11
  clear l_10
  have w_11 := w_10.below hb_11
  clear w_10
  have m_11 := m_10.below hb_11
  clear m_10
  have r_11 := r_10.below hb_11
  clear r_10
  have q1_11 := q1_10.below hb_11
  clear q1_10
  have q2_11 := q2_10.below hb_11
  clear q2_10
  have t1_11 := hr_10.below hb_11
  clear hr_10
  have hB_11 := hB_10.trans (hb_11.mono hB_10.size)
  clear hB_10 hb_11
  go_wp2_with fail
  refine (same_to t1_11 hr_11 (by omega)).mono ?_
  rintro e w_12 ⟨rfl, hb_12⟩
  have l_12 := l_11.below hb_12
  clear l_11
  have w_12 := w_11.below hb_12
  clear w_11
  have m_12 := m_11.below hb_12
  clear m_11
  have r_12 := r_11.below hb_12
  clear r_11
  have q1_12 := q1_11.below hb_12
  clear q1_11
  have q2_12 := q2_11.below hb_12
  clear q2_11
  have t1_12 := t1_11.below hb_12
  clear t1_11
  have t2_12 := hr_11.below hb_12
  clear hr_11
  have hB_12 := hB_11.trans (hb_12.mono hB_11.size)
  clear hB_11 hb_12
  go_wp2_with fail
  refine (same_to m_12 r_12 (by omega)).mono ?_
  rintro e w_13 ⟨rfl, hb_13⟩
  have l_13 := l_12.below hb_13
  clear l_12
  have w_13 := w_12.below hb_13
  clear w_12
  have m_13 := m_12.below hb_13
  clear m_12
  have r_13 := r_12.below hb_13
  clear r_12
  have q1_13 := q1_12.below hb_13
  clear q1_12
  have q2_13 := q2_12.below hb_13
  clear q2_12
  have t1_13 := t1_12.below hb_13
  clear t1_12
  have t2_13 := t2_12.below hb_13
  clear t2_12
  have hB_13 := hB_12.trans (hb_13.mono hB_12.size)
  clear hB_12 hb_13
  go_wp2_with fail
  refine (works_to w hMx hB_13).mono ?_
  rintro e w_14 ⟨rfl, hb_14⟩
  have l_14 := l_13.below hb_14
  clear l_13
  have w_14 := w_13.below hb_14
  clear w_13
  have m_14 := m_13.below hb_14
  clear m_13
  have r_14 := r_13.below hb_14
  clear r_13
  have q1_14 := q1_13.below hb_14
  clear q1_13
  have q2_14 := q2_13.below hb_14
  clear q2_13
  have t1_14 := t1_13.below hb_14
  clear t1_13
  have t2_14 := t2_13.below hb_14
  clear t2_13
  have hB_14 := hB_13.trans (hb_14.mono hB_13.size)
  clear hB_13 hb_14
  go_wp2
  go_ret
  exact ⟨rfl, hB_14⟩

set_option maxHeartbeats 4000000 in
set_option maxRecDepth 100000 in
theorem sorts_many (A : Option Addr) (n c : Nat) (xs : List ByteArray) (s : ByteArray) (w : World) (h : RS w A n xs) (hn : 60 < n) (hcap : n ≤ c) (hc64 : c ≤ maxLen) (hnil : A = none → c = 0) (hMx : MaxIs w) :
    Calls Tryd.prog 5 #[.slice A n c, .string s] w fun e w' => e = .returned (.bool true) ∧ Below w.heap.size w w' := by
  obtain ⟨i0, hi, hz0, hz1, hz2⟩ := info_parts str_info
  have hl := h.1
  unfold maxLen at hc64
  obtain ⟨b, off, rfl, hbw, hcx⟩ := h.2 (by omega)
  have hR := h.take (k := 60) (by omega)
  have g1 : (60 : Int) ≤ (c : Int) := by omega
  clear h hcx
  have hl60 : (xs.take 60).length ≤ 60 := by first | omega | (rw [List.length_take]; omega)
  obtain ⟨M, hM⟩ : ∃ M, rSorted (xs.take 60) = M := ⟨_, rfl⟩
  have hMl : M.length ≤ 60 := by have := rSorted_length_all (xs.take 60); rw [hM] at this; omega
  have hSS := Lib.hid (show SS M from hM ▸ SS_rSorted _)
  have HM := Lib.hid hM
  obtain ⟨Q, hQ⟩ : ∃ Q, withB M s = Q := ⟨_, rfl⟩
  have hQl : Q.length ≤ 121 := by have := withB_length M s; rw [hQ] at this; omega
  have HQ := Lib.hid hQ
  have HSQ := Lib.hid (show SS Q from hQ ▸ SS_withB hSS.out s)
  obtain ⟨T, hT⟩ : ∃ T, withoutB M s = T := ⟨_, rfl⟩
  have hTl : T.length ≤ 60 := by have := withoutB_length M s; rw [hT] at this; omega
  have HT := Lib.hid hT
  obtain ⟨hv, hh⟩ : ∃ hv, hasB M s = hv := ⟨_, rfl⟩
  have HH := Lib.hid hh
  clear hM hQ hT hh
  have hb0 : Below w.heap.size w (w.alloc (.cells #[] 9)) := (Below.refl _ _).alloc (Nat.le_refl _) _
  have hR1 := hR.below hb0
  have hown := World.ownsRow_made (base := w.heap.size) (e := 9) (size := 1) w #[] 0 (Nat.le_refl _) (Nat.zero_le _) rfl
  go_enter Tryd.func5, Tryd.ntmps5
  go_wp2_with (at_builtin; refine wpList_append_rs rfl (.tmp 13) (.tmp 14) 25 rfl w.heap.size 9 i0 (.string ⟨#[]⟩) 16 Tryd.underlying25 hi hz0 hz1 hz2 rfl _ 0 [] rfl hown (some ⟨b, off, none⟩) 60 c (xs.take 60) rfl ?c1 hR1 ?c2 ?c3 ?c4 ?_)
  case c1 => intro e; cases e
  case c2 => unfold maxLen; omega
  case c3 => omega
  case c4 => simp
  intro v1 w1 hown1 hg1
  obtain ⟨Aw, dw, hvw, hRw⟩ := RS.own (n := 60) (xs := (xs.take 60)) (by simpa using hown1)
  subst hvw
  have hB0 : Below w.heap.size w w1 := hb0.grown hg1 (by simp) (fun j hj => by simp [Value.ownBlock] at hj; omega)
  have hRl : RS w1 (some ⟨b, off, none⟩) 60 (xs.take 60) := hR.below hB0
  clear hown1 hg1 hown hR1 hb0 hR
  go_wp2_with fail
  refine (nsorted_to HM.out hRl (by omega)).mono ?_
  rintro e w_1 ⟨A1, d1, rfl, hr_1, hb_1⟩
  have l_1 := hRl.below hb_1
  clear hRl
  have w_1 := hRw.below hb_1
  clear hRw
  have hB_1 := hB0.trans (hb_1.mono hB0.size)
  clear hB0 hb_1
  go_wp2_with fail
  refine (rsorted_to HM.out l_1 (by omega)).mono ?_
  rintro e w_2 ⟨A2, d2, rfl, hr_2, hb_2⟩
  have l_2 := l_1.below hb_2
  clear l_1
  have w_2 := w_1.below hb_2
  clear w_1
  have m_2 := hr_1.below hb_2
  clear hr_1
  have hB_2 := hB_1.trans (hb_2.mono hB_1.size)
  clear hB_1 hb_2
  go_wp2_with fail
  refine (same_to m_2 hr_2 (by omega)).mono ?_
  rintro e w_3 ⟨rfl, hb_3⟩
  have l_3 := l_2.below hb_3
  clear l_2
  have w_3 := w_2.below hb_3
  clear w_2
  have m_3 := m_2.below hb_3
  clear m_2
  have r_3 := hr_2.below hb_3
  clear hr_2
  have hB_3 := hB_2.trans (hb_3.mono hB_2.size)
  clear hB_2 hb_3
  go_wp2_with fail
  refine (same_to l_3 w_3 (by omega)).mono ?_
  rintro e w_4 ⟨rfl, hb_4⟩
  have l_4 := l_3.below hb_4
  clear l_3
  have w_4 := w_3.below hb_4
  clear w_3
  have m_4 := m_3.below hb_4
  clear m_3
  have r_4 := r_3.below hb_4
  clear r_3
  have hB_4 := hB_3.trans (hb_4.mono hB_3.size)
  clear hB_3 hb_4
  go_wp2_with fail
  refine (has_to hSS.out HH.out m_4 (by omega)).mono ?_
  rintro e w_5 ⟨rfl, hb_5⟩
  have l_5 := l_4.below hb_5
  clear l_4
  have w_5 := w_4.below hb_5
  clear w_4
  have m_5 := m_4.below hb_5
  clear m_4
  have r_5 := r_4.below hb_5
  clear r_4
  have hB_5 := hB_4.trans (hb_5.mono hB_4.size)
  clear hB_4 hb_5
  go_wp2_with fail
  refine (rhas_to HH.out r_5 (by omega)).mono ?_
  rintro e w_6 ⟨rfl, hb_6⟩
  have l_6 := l_5.below hb_6
  clear l_5
  have w_6 := w_5.below hb_6
  clear w_5
  have m_6 := m_5.below hb_6
  clear m_5
  have r_6 := r_5.below hb_6
  clear r_5
  have hB_6 := hB_5.trans (hb_6.mono hB_5.size)
  clear hB_5 hb_6
  go_wp2_with fail
  refine (with_to HQ.out m_6 (by omega)).mono ?_
  rintro e w_7 ⟨A3, d3, rfl, hr_7, hb_7⟩
  have l_7 := l_6.below hb_7
  clear l_6
  have w_7 := w_6.below hb_7
  clear w_6
  have m_7 := m_6.below hb_7
  clear m_6
  have r_7 := r_6.below hb_7
  clear r_6
  have hB_7 := hB_6.trans (hb_7.mono hB_6.size)
  clear hB_6 hb_7
  go_wp2_with fail
  refine (rwith_to hSS.out HQ.out r_7 (by omega)).mono ?_
  rintro e w_8 ⟨A4, d4, rfl, hr_8, hb_8⟩
  have l_8 := l_7.below hb_8
  clear l_7
  have w_8 := w_7.below hb_8
  clear w_7
  have m_8 := m_7.below hb_8
  clear m_7
  have r_8 := r_7.below hb_8
  clear r_7
  have q1_8 := hr_7.below hb_8
  clear hr_7
  have hB_8 := hB_7.trans (hb_8.mono hB_7.size)
  clear hB_7 hb_8
  go_wp2_with fail
  refine (same_to q1_8 hr_8 (by omega)).mono ?_
  rintro e w_9 ⟨rfl, hb_9⟩
  have l_9 := l_8.below hb_9
  clear l_8
  have w_9 := w_8.below hb_9
  clear w_8
  have m_9 := m_8.below hb_9
  clear m_8
  have r_9 := r_8.below hb_9
  clear r_8
  have q1_9 := q1_8.below hb_9
  clear q1_8
  have q2_9 := hr_8.below hb_9
  clear hr_8
  have hB_9 := hB_8.trans (hb_9.mono hB_8.size)
  clear hB_8 hb_9
  go_wp2_with fail
  refine (without_to HT.out m_9 (by omega)).mono ?_
  rintro e w_10 ⟨A5, d5, rfl, hr_10, hb_10⟩
  have l_10 := l_9.below hb_10
  clear l_9
  have w_10 := w_9.below hb_10
  clear w_9
  have m_10 := m_9.below hb_10
  clear m_9
  have r_10 := r_9.below hb_10
  clear r_9
  have q1_10 := q1_9.below hb_10
  clear q1_9
  have q2_10 := q2_9.below hb_10
  clear q2_9
  have hB_10 := hB_9.trans (hb_10.mono hB_9.size)
  clear hB_9 hb_10
  go_wp2_with fail
  refine (rwithout_to HT.out r_10 (by omega)).mono ?_
  rintro e w_11 ⟨A6, d6, rfl, hr_11, hb_11⟩
  have l_11 := l_10.below hb_11
  clear l_10
  have w_11 := w_10.below hb_11
  clear w_10
  have m_11 := m_10.below hb_11
  clear m_10
  have r_11 := r_10.below hb_11
  clear r_10
  have q1_11 := q1_10.below hb_11
  clear q1_10
  have q2_11 := q2_10.below hb_11
  clear q2_10
  have t1_11 := hr_10.below hb_11
  clear hr_10
  have hB_11 := hB_10.trans (hb_11.mono hB_10.size)
  clear hB_10 hb_11
  go_wp2_with fail
  refine (same_to t1_11 hr_11 (by omega)).mono ?_
  rintro e w_12 ⟨rfl, hb_12⟩
  have l_12 := l_11.below hb_12
  clear l_11
  have w_12 := w_11.below hb_12
  clear w_11
  have m_12 := m_11.below hb_12
  clear m_11
  have r_12 := r_11.below hb_12
  clear r_11
  have q1_12 := q1_11.below hb_12
  clear q1_11
  have q2_12 := q2_11.below hb_12
  clear q2_11
  have t1_12 := t1_11.below hb_12
  clear t1_11
  have t2_12 := hr_11.below hb_12
  clear hr_11
  have hB_12 := hB_11.trans (hb_12.mono hB_11.size)
  clear hB_11 hb_12
  go_wp2_with fail
  refine (same_to m_12 r_12 (by omega)).mono ?_
  rintro e w_13 ⟨rfl, hb_13⟩
  have l_13 := l_12.below hb_13
  clear l_12
  have w_13 := w_12.below hb_13
  clear w_12
  have m_13 := m_12.below hb_13
  clear m_12
  have r_13 := r_12.below hb_13
  clear r_12
  have q1_13 := q1_12.below hb_13
  clear q1_12
  have q2_13 := q2_12.below hb_13
  clear q2_12
  have t1_13 := t1_12.below hb_13
  clear t1_12
  have t2_13 := t2_12.below hb_13
  clear t2_12
  have hB_13 := hB_12.trans (hb_13.mono hB_12.size)
  clear hB_12 hb_13
  go_wp2_with fail
  refine (works_to w hMx hB_13).mono ?_
  rintro e w_14 ⟨rfl, hb_14⟩
  have l_14 := l_13.below hb_14
  clear l_13
  have w_14 := w_13.below hb_14
  clear w_13
  have m_14 := m_13.below hb_14
  clear m_13
  have r_14 := r_13.below hb_14
  clear r_13
  have q1_14 := q1_13.below hb_14
  clear q1_13
  have q2_14 := q2_13.below hb_14
  clear q2_13
  have t1_14 := t1_13.below hb_14
  clear t1_13
  have t2_14 := t2_13.below hb_14
  clear t2_13
  have hB_14 := hB_13.trans (hb_14.mono hB_13.size)
  clear hB_13 hb_14
  go_wp2
  go_ret
  exact ⟨rfl, hB_14⟩
end Go.Proofs.YtcnfjimncifbgaaDoor
