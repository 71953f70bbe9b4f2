/-
  The document's Reader: Flag and Text (layer 4).
-/
import Derived.Test.YtbhhalkpghcflaaZj39
namespace Go.Proofs.Ytbhhalkpghcflaa
open Go.RowKit
set_option linter.unusedSimpArgs false

set_option maxHeartbeats 2000000 in
theorem fFlag_any (S : Nat → Prop) (B : Nat) (s : St) (w : World) (h : RfAt S w B s) :
    Calls Try.prog 49 #[.pointer (some ⟨B, 0, none⟩)] w (ReadsF S B w (.bool (itFlag.out s)) (itFlag.next s)) := by
  obtain ⟨hB, A, n, c, hh, hr, hnc, hA, hn⟩ := h
  obtain ⟨c0, c1, f0, f1⟩ := RfAt.cells hh
  by_cases he : s.e ≠ 0
  · have ho : itFlag.out s = itFlag.none := itFlag.out_err he
    have hx : itFlag.next s = s := itFlag.next_err he
    rw [ho, hx]
    have q1 : (((s.e : Nat) : Int) != 0) = true := by rw [bne_iff_ne]; omega
    have HH : Hid (RfAt S w B s) := Lib.hid ⟨hB, A, n, c, hh, hr, hnc, hA, hn⟩
    obtain ⟨E, hE⟩ : ∃ E, s.e = E := ⟨_, rfl⟩
    rw [hE] at q1 c1
    clear hh hr hA he ho hx hE
    go_enter Try.func49, Try.ntmps49
    go_wp2
    go_ret
    exact ⟨rfl, HH.out, But.refl _ _⟩
  have he0 : s.e = 0 := by simpa using he
  rw [he0] at c1
  have s1 := number_any A n c s.b w hr.1 hn
  have HF : Hid (∀ E : Nat, RfAt S (w.setCell ⟨B, 1, none⟩ (.int .i64 (E : Int))) B ⟨s.b, E⟩) := Lib.hid fun E => RfAt.failed hB hh hr hnc hA hn E
  by_cases hN : errN s.b ≠ 0
  · have hE : itFlag.err s.b = errN s.b := by show errFlag s.b = _; rw [errFlag, if_pos hN]
    have ho : itFlag.out s = false := by rw [It.out, if_neg he, hE, if_pos hN]; rfl
    have hx : itFlag.next s = ⟨s.b, errN s.b⟩ := by rw [It.next, if_neg he, hE, if_pos hN]
    have e1 : rnOf s.b = fnAns 0 0 (errN s.b) := by rw [rnOf, if_pos hN]
    rw [ho, hx]
    rw [e1] at s1
    obtain ⟨E, hE'⟩ : ∃ E, errN s.b = E := ⟨_, rfl⟩
    rw [hE'] at s1 hN ⊢
    have q1 : (((E : Nat) : Int) != 0) = true := by rw [bne_iff_ne]; omega
    have q2 : (((E : Nat) : Int) == 0) = false := by rw [beq_eq_false_iff_ne]; omega
    have S1 := Lib.hid s1
    clear hh hr hA he ho hx hE hE' s1 hN e1 he0
    go_enter Try.func49, Try.ntmps49
    go_wp2_with fail
    refine S1.out.mono ?_
    rintro e w1 ⟨rfl, rfl⟩
    unfold fnAns
    go_wp2
    go_ret
    exact ⟨rfl, HF.out E, But.set (S := fun k => k = B) w (p := ⟨B, 1, none⟩) rfl _⟩
  have hN0 : errN s.b = 0 := by simpa using hN
  have hml := (num_laid hN0).2.2.2
  have e1 : rnOf s.b = fnAns (valN s.b) (1 + manyN s.b) 0 := by rw [rnOf, if_neg hN]
  have hE : itFlag.err s.b = if 1 < valN s.b then 40 else 0 := by show errFlag s.b = _; rw [errFlag, if_neg hN]
  rw [e1] at s1
  by_cases h3 : 1 < valN s.b
  · rw [if_pos h3] at hE
    have ho : itFlag.out s = false := by rw [It.out, if_neg he, hE, if_pos (by omega)]; rfl
    have hx : itFlag.next s = ⟨s.b, 40⟩ := by rw [It.next, if_neg he, hE, if_pos (by omega)]
    rw [ho, hx]
    obtain ⟨V, hV⟩ : ∃ V, valN s.b = V := ⟨_, rfl⟩
    obtain ⟨Z, hZ⟩ : ∃ Z, 1 + manyN s.b = Z := ⟨_, rfl⟩
    rw [hV, hZ] at s1
    rw [hV] at h3
    have q1 : (1 : Int) < (V : Int) := by omega
    have S1 := Lib.hid s1
    clear hh hr hA he ho hx hE s1 hN e1 he0 hN0 hV hZ hml
    go_enter Try.func49, Try.ntmps49
    go_wp2_with fail
    refine S1.out.mono ?_
    rintro e w1 ⟨rfl, rfl⟩
    unfold fnAns
    go_wp2
    go_ret
    exact ⟨rfl, HF.out 40, But.set (S := fun k => k = B) w (p := ⟨B, 1, none⟩) rfl _⟩
  · rw [if_neg h3] at hE
    have ho : itFlag.out s = (valN s.b == 1) := by rw [It.out, if_neg he, hE, if_neg (by simp)]; rfl
    have hx : itFlag.next s = ⟨s.b.drop (1 + manyN s.b), 0⟩ := by rw [It.next, if_neg he, hE, if_neg (by simp)]; rfl
    rw [ho, hx]
    have hpos := errN_pos hN0
    rw [hr.1.1] at hml hpos
    obtain ⟨b, off, rfl, _, _⟩ := hr.1.2 hpos
    have HH : Hid (∀ k, k ≤ n → ∀ A', (A' = if c = k then some ⟨b, off, none⟩ else some ⟨b, off + k, none⟩) → RfAt S (w.setCell ⟨B, 0, none⟩ (.slice A' (n - k) (c - k))) B ⟨s.b.drop k, 0⟩) := Lib.hid fun k hk A' hA' => RfAt.went hB hh hr hnc hn he0 hk A' hA'
    obtain ⟨V, hV⟩ : ∃ V, valN s.b = V := ⟨_, rfl⟩
    obtain ⟨k, hk⟩ : ∃ Z, 1 + manyN s.b = Z := ⟨_, rfl⟩
    rw [hV, hk] at s1
    rw [hV] at h3 ⊢
    rw [hk] at hml ⊢
    have q2 : (k : Int) ≤ (n : Int) := by omega
    have q3 : (k : Int) ≤ (c : Int) := by omega
    have S1 := Lib.hid s1
    have hV01 : V = 0 ∨ V = 1 := by omega
    clear hh hr hA he ho hx hE s1 hN e1 he0 hN0 hV hk HF h3
    rcases hV01 with rfl | rfl
    all_goals
      by_cases hc : c = k
      · subst hc
        go_enter Try.func49, Try.ntmps49
        go_wp2_with fail
        refine S1.out.mono ?_
        rintro e w1 ⟨rfl, rfl⟩
        unfold fnAns
        go_wp2
        go_ret
        have := HH.out c hml (some ⟨b, off, none⟩) (by rw [if_pos rfl])
        rw [Nat.sub_self, show n - c = 0 by omega] at this
        exact ⟨rfl, this, But.set (S := fun k => k = B) w (p := ⟨B, 0, none⟩) rfl _⟩
      · have hc' : ¬ c = k := hc
        go_enter Try.func49, Try.ntmps49
        go_wp2_with fail
        refine S1.out.mono ?_
        rintro e w1 ⟨rfl, rfl⟩
        unfold fnAns
        go_wp2
        go_ret
        exact ⟨rfl, HH.out k hml _ (by rw [if_neg hc]), But.set (S := fun k => k = B) w (p := ⟨B, 0, none⟩) rfl _⟩


set_option maxRecDepth 100000 in
set_option maxHeartbeats 2000000 in
theorem fText_any (S : Nat → Prop) (B : Nat) (m : Int) (s : St) (w : World) (h : RfAt S w B s) (hm1 : m ≤ 9223372036854775807) :
    Calls Try.prog 47 #[.pointer (some ⟨B, 0, none⟩), .int .i64 m] w (ReadsF S B w (strV ((itText m.toNat).out s)) ((itText m.toNat).next s)) := by
  obtain ⟨hB, A, n, c, hh, hr, hnc, hA, hn⟩ := h
  obtain ⟨c0, c1, f0, f1⟩ := RfAt.cells hh
  obtain ⟨most, hmo⟩ : ∃ most, m.toNat = most := ⟨_, rfl⟩
  rw [hmo]
  by_cases he : s.e ≠ 0
  · have ho : (itText most).out s = (itText most).none := (itText most).out_err he
    have hx : (itText most).next s = s := (itText most).next_err he
    rw [ho, hx]
    have q1 : (((s.e : Nat) : Int) != 0) = true := by rw [bne_iff_ne]; omega
    have HH : Hid (RfAt S w B s) := Lib.hid ⟨hB, A, n, c, hh, hr, hnc, hA, hn⟩
    obtain ⟨E, hE⟩ : ∃ E, s.e = E := ⟨_, rfl⟩
    rw [hE] at q1 c1
    clear hh hr hA he ho hx hE hmo
    go_enter Try.func47, Try.ntmps47
    go_wp2
    go_ret
    exact ⟨rfl, HH.out, But.refl _ _⟩
  have he0 : s.e = 0 := by simpa using he
  rw [he0] at c1
  have s1 := number_any A n c s.b w hr.1 hn
  have HF : Hid (∀ E : Nat, RfAt S (w.setCell ⟨B, 1, none⟩ (.int .i64 (E : Int))) B ⟨s.b, E⟩) := Lib.hid fun E => RfAt.failed hB hh hr hnc hA hn E
  have hsign : (m < 0 ∧ most = 0) ∨ (∃ k : Nat, m = (k : Int) ∧ most = k ∧ (0 : Int) ≤ (k : Int)) := by
    by_cases h : m < 0
    · exact .inl ⟨h, by omega⟩
    · exact .inr ⟨m.toNat, by omega, by omega, by omega⟩
  clear hmo
  by_cases hN : errN s.b ≠ 0
  · have hE : (itText most).err s.b = errN s.b := by
      have h1 : errNum most s.b = errN s.b := by rw [errNum, if_pos hN]
      show errText most s.b = _
      rw [errText, h1, if_pos hN]
    have ho : (itText most).out s = [] := by rw [It.out, if_neg he, hE, if_pos hN]; rfl
    have hx : (itText most).next s = ⟨s.b, errN s.b⟩ := by rw [It.next, if_neg he, hE, if_pos hN]
    have e1 : rnOf s.b = fnAns 0 0 (errN s.b) := by rw [rnOf, if_pos hN]
    rw [ho, hx]
    rw [e1] at s1
    obtain ⟨E, hE'⟩ : ∃ E, errN s.b = E := ⟨_, rfl⟩
    rw [hE'] at s1 hN ⊢
    have q1 : (((E : Nat) : Int) != 0) = true := by rw [bne_iff_ne]; omega
    have q2 : (((E : Nat) : Int) == 0) = false := by rw [beq_eq_false_iff_ne]; omega
    have S1 := Lib.hid s1
    clear hh hr hA he ho hx hE hE' s1 hN e1 he0
    rcases hsign with ⟨q3, rfl⟩ | ⟨k, rfl, rfl, q3⟩
    all_goals
      go_enter Try.func47, Try.ntmps47
      go_wp2_with fail
      refine S1.out.mono ?_
      rintro e w1 ⟨rfl, rfl⟩
      unfold fnAns
      go_wp2
      go_ret
      exact ⟨rfl, HF.out E, But.set (S := fun k => k = B) w (p := ⟨B, 1, none⟩) rfl _⟩
  have hN0 : errN s.b = 0 := by simpa using hN
  have hml := (num_laid hN0).2.2.2
  have hv64 := (num_laid hN0).2.1
  have e1 : rnOf s.b = fnAns (valN s.b) (1 + manyN s.b) 0 := by rw [rnOf, if_neg hN]
  have hEN : errNum most s.b = if most < valN s.b then 3 else 0 := by rw [errNum, if_neg hN]
  rw [e1] at s1
  have hpos := errN_pos hN0
  by_cases h3 : most < valN s.b
  · rw [if_pos h3] at hEN
    have hE : (itText most).err s.b = 3 := by show errText most s.b = _; rw [errText, hEN, if_pos (by omega)]
    have ho : (itText most).out s = [] := by rw [It.out, if_neg he, hE, if_pos (by omega)]; rfl
    have hx : (itText most).next s = ⟨s.b, 3⟩ := by rw [It.next, if_neg he, hE, if_pos (by omega)]
    rw [ho, hx]
    obtain ⟨V, hV⟩ : ∃ V, valN s.b = V := ⟨_, rfl⟩
    obtain ⟨Z, hZ⟩ : ∃ Z, 1 + manyN s.b = Z := ⟨_, rfl⟩
    rw [hV, hZ] at s1
    rw [hV] at h3 hv64
    have q1 : (most : Int) < (V : Int) := by omega
    have S1 := Lib.hid s1
    clear hh hr hA he ho hx hE s1 hN e1 he0 hN0 hV hZ hml hEN hv64 hpos
    rcases hsign with ⟨q3, rfl⟩ | ⟨k, rfl, rfl, q3⟩
    · have q4 : (0 : Int) < (V : Int) := by omega
      clear q1
      go_enter Try.func47, Try.ntmps47
      go_wp2_with fail
      refine S1.out.mono ?_
      rintro e w1 ⟨rfl, rfl⟩
      unfold fnAns
      go_wp2
      go_ret
      exact ⟨rfl, HF.out 3, But.set (S := fun k => k = B) w (p := ⟨B, 1, none⟩) rfl _⟩
    · skip
      go_enter Try.func47, Try.ntmps47
      go_wp2_with fail
      refine S1.out.mono ?_
      rintro e w1 ⟨rfl, rfl⟩
      unfold fnAns
      go_wp2
      go_ret
      exact ⟨rfl, HF.out 3, But.set (S := fun k => k = B) w (p := ⟨B, 1, none⟩) rfl _⟩
  rw [if_neg h3] at hEN
  have hET : (itText most).err s.b = if s.b.length - (1 + manyN s.b) < valN s.b then 30 else 0 := by show errText most s.b = _; rw [errText, if_neg (by rw [hEN]; simp)]
  have hbt : (itText most).val s.b = (s.b.drop (1 + manyN s.b)).take (valN s.b) ∧ (itText most).size s.b = 1 + manyN s.b + valN s.b := ⟨rfl, rfl⟩
  rw [hr.1.1] at hET
  by_cases h30 : n - (1 + manyN s.b) < valN s.b
  · rw [if_pos h30] at hET
    have ho : (itText most).out s = [] := by rw [It.out, if_neg he, hET, if_pos (by omega)]; rfl
    have hx : (itText most).next s = ⟨s.b, 30⟩ := by rw [It.next, if_neg he, hET, if_pos (by omega)]
    rw [ho, hx]
    rw [hr.1.1] at hml
    obtain ⟨V, hV⟩ : ∃ V, valN s.b = V := ⟨_, rfl⟩
    obtain ⟨Z, hZ⟩ : ∃ Z, 1 + manyN s.b = Z := ⟨_, rfl⟩
    rw [hV, hZ] at s1 h30
    rw [hV] at h3 hv64
    rw [hZ] at hml
    have q1 : ¬ (most : Int) < (V : Int) := by omega
    have q2 : (n : Int) - (Z : Int) < (V : Int) := by omega
    have S1 := Lib.hid s1
    clear hh hr hA he ho hx s1 hN e1 he0 hN0 hV hZ hEN hET hbt hv64 hpos
    rcases hsign with ⟨q3, rfl⟩ | ⟨k, rfl, rfl, q3⟩
    · omega
    · skip
      go_enter Try.func47, Try.ntmps47
      go_wp2_with fail
      refine S1.out.mono ?_
      rintro e w1 ⟨rfl, rfl⟩
      unfold fnAns
      go_wp2
      go_ret
      exact ⟨rfl, HF.out 30, But.set (S := fun k => k = B) w (p := ⟨B, 1, none⟩) rfl _⟩
  · rw [if_neg h30] at hET
    have ho : (itText most).out s = (s.b.drop (1 + manyN s.b)).take (valN s.b) := by rw [It.out, if_neg he, hET, if_neg (by simp)]; exact hbt.1
    have hx : (itText most).next s = ⟨s.b.drop (1 + manyN s.b + valN s.b), 0⟩ := by rw [It.next, if_neg he, hET, if_neg (by simp), hbt.2]
    rw [ho, hx]
    rw [hr.1.1] at hml hpos
    obtain ⟨b, off, rfl, _, _⟩ := hr.1.2 hpos
    have HH : Hid (∀ k, k ≤ n → ∀ A', (A' = if c = k then some ⟨b, off, none⟩ else some ⟨b, off + k, none⟩) → RfAt S (w.setCell ⟨B, 0, none⟩ (.slice A' (n - k) (c - k))) B ⟨s.b.drop k, 0⟩) := Lib.hid fun k hk A' hA' => RfAt.went hB hh hr hnc hn he0 hk A' hA'
    have HR := Lib.hid hr.1
    obtain ⟨V, hV⟩ : ∃ V, valN s.b = V := ⟨_, rfl⟩
    obtain ⟨Z, hZ⟩ : ∃ Z, 1 + manyN s.b = Z := ⟨_, rfl⟩
    rw [hV, hZ] at s1 h30 ⊢
    rw [hV] at h3 hv64
    rw [hZ] at hml
    have q1 : ¬ (most : Int) < (V : Int) := by omega
    have q2 : ¬ (n : Int) - (Z : Int) < (V : Int) := by omega
    have q5 : (V : Int) ≤ 140737488355328 := by omega
    have q6 : (Z : Int) + (V : Int) ≤ (n : Int) := by omega
    have q7 : (Z : Int) + (V : Int) ≤ (c : Int) := by omega
    obtain ⟨T, hT⟩ : ∃ T, (s.b.drop Z).take V = T := ⟨_, rfl⟩
    rw [hT]
    have HT := Lib.hid hT
    obtain ⟨st, hst⟩ : ∃ st : ByteArray, (⟨T.toArray⟩ : ByteArray) = st := ⟨_, rfl⟩
    have S1 := Lib.hid s1
    have HST := Lib.hid hst
    have hzv : Z + V ≤ n := by omega
    clear hh hr hA he ho hx s1 hN e1 he0 hN0 hV hZ hEN hET hbt hv64 hpos hT HF hst
    by_cases hcz : c = Z
    · obtain rfl : V = 0 := by omega
      have k1 := own_conv (RB.zero w (some ⟨b, off, none⟩)) 0
      have HT0 : Hid (strV T = .string ⟨#[]⟩) := Lib.hid (by rw [← HT.out, List.take_zero]; rfl)
      subst hcz
      rcases hsign with ⟨q3, rfl⟩ | ⟨k, rfl, rfl, q3⟩
      · have q4 : ¬ (0 : Int) < (0 : Int) := by omega
        clear q1
        go_enter Try.func47, Try.ntmps47
        go_wp2_with fail
        refine S1.out.mono ?_
        rintro e w1 ⟨rfl, rfl⟩
        unfold fnAns
        go_wp2
        go_ret
        have := HH.out c hzv (some ⟨b, off, none⟩) (by rw [if_pos rfl])
        rw [Nat.sub_self, show n - c = 0 by omega] at this
        exact ⟨by rw [HT0.out]; rfl, this, But.set (S := fun k => k = B) w (p := ⟨B, 0, none⟩) rfl _⟩
      · skip
        go_enter Try.func47, Try.ntmps47
        go_wp2_with fail
        refine S1.out.mono ?_
        rintro e w1 ⟨rfl, rfl⟩
        unfold fnAns
        go_wp2
        go_ret
        have := HH.out c hzv (some ⟨b, off, none⟩) (by rw [if_pos rfl])
        rw [Nat.sub_self, show n - c = 0 by omega] at this
        exact ⟨by rw [HT0.out]; rfl, this, But.set (S := fun k => k = B) w (p := ⟨B, 0, none⟩) rfl _⟩
    · have hTl : RB w (some ⟨b, off + Z, none⟩) V T := by
        rw [← HT.out]
        exact (rb_drop HR.out (m := Z) hml).take (by omega)
      have k1 := own_conv hTl (c - Z)
      have k2 := own_conv hTl V
      rw [HST.out] at k1 k2
      clear hTl
      have HST' : Hid (strV T = .string st) := Lib.hid (by rw [strV, HST.out])
      by_cases hcv : c = Z + V
      · subst hcv
        clear k1
        have hnv : n = Z + V := by omega
        subst hnv
        rcases hsign with ⟨q3, rfl⟩ | ⟨k, rfl, rfl, q3⟩
        · have q4 : ¬ (0 : Int) < (V : Int) := by omega
          omega
        · skip
          go_enter Try.func47, Try.ntmps47
          go_wp2_with fail
          refine S1.out.mono ?_
          rintro e w1 ⟨rfl, rfl⟩
          unfold fnAns
          go_wp2
          go_ret
          have := HH.out (Z + V) hzv (some ⟨b, off, none⟩) (by rw [if_pos rfl])
          rw [Nat.sub_self] at this
          exact ⟨by rw [HST'.out]; rfl, this, But.set (S := fun k => k = B) w (p := ⟨B, 0, none⟩) rfl _⟩
      · rcases hsign with ⟨q3, rfl⟩ | ⟨k, rfl, rfl, q3⟩
        · have q4 : ¬ (0 : Int) < (V : Int) := by omega
          clear q1
          go_enter Try.func47, Try.ntmps47
          go_wp2_with fail
          refine S1.out.mono ?_
          rintro e w1 ⟨rfl, rfl⟩
          unfold fnAns
          go_wp2
          go_ret
          exact ⟨by rw [HST'.out]; rfl, HH.out (Z + V) hzv _ (by rw [if_neg hcv]), But.set (S := fun k => k = B) w (p := ⟨B, 0, none⟩) rfl _⟩
        · skip
          go_enter Try.func47, Try.ntmps47
          go_wp2_with fail
          refine S1.out.mono ?_
          rintro e w1 ⟨rfl, rfl⟩
          unfold fnAns
          go_wp2
          go_ret
          exact ⟨by rw [HST'.out]; rfl, HH.out (Z + V) hzv _ (by rw [if_neg hcv]), But.set (S := fun k => k = B) w (p := ⟨B, 0, none⟩) rfl _⟩
end Go.Proofs.Ytbhhalkpghcflaa
/-
  The document's Reader: Texts and Nums (layer 4).
-/
namespace Go.Proofs.Ytbhhalkpghcflaa
open Go.RowKit
set_option linter.unusedSimpArgs false

theorem RfAt.widen {S : Nat → Prop} {w : World} {B : Nat} {s : St} (h : RfAt S w B s) : RfAt (fun k => S k ∨ w.heap.size ≤ k) w B s := by
  obtain ⟨hB, A, n, c, hh, hr, hm⟩ := h
  refine ⟨.inl hB, A, n, c, hh, ⟨hr.1, fun b off e hn => ?_⟩, hm⟩
  obtain ⟨b', off', e', hlt, _⟩ := hr.1.2 hn
  rw [e] at e'
  simp only [Option.some.injEq, Addr.mk.injEq] at e'
  rintro (h | h)
  · exact hr.2 b off e hn h
  · omega
theorem RfAt.narrow {S S' : Nat → Prop} {w : World} {B : Nat} {s : St} (h : RfAt S' w B s) (hS : ∀ k, S k → S' k) (hB : S B) : RfAt S w B s := by
  obtain ⟨_, A, n, c, hh, hr, hm⟩ := h
  exact ⟨hB, A, n, c, hh, ⟨hr.1, fun b off e hn hs => hr.2 b off e hn (hS b hs)⟩, hm⟩
theorem RfAt.err {S : Nat → Prop} {w : World} {B : Nat} {s : St} (h : RfAt S w B s) : w.cell? ⟨B, 1, none⟩ = some (.int .i64 (s.e : Int)) := by
  obtain ⟨_, A, n, c, hh, _⟩ := h
  exact (RfAt.cells hh).2.1
def ReadsFL (S : Nat → Prop) (B : Nat) (w : World) (vs : List Value) (s : St) (e : Ending) (w' : World) : Prop :=
  ∃ A c, e = .returned (.slice A vs.length c) ∧ RV w' A vs.length vs ∧ (∀ b off, A = some ⟨b, off, none⟩ → 0 < vs.length → w.heap.size ≤ b) ∧ RfAt S w' B s ∧ But (fun k => k = B) w w'

set_option maxRecDepth 100000 in
set_option maxHeartbeats 2000000 in
theorem fTexts_any (S : Nat → Prop) (B : Nat) (many : Int) (m : Int) (s : St) (w : World) (h : RfAt S w B s) (hm : many ≤ 9223372036854775807) (hm2 : m ≤ 9223372036854775807) (hcap : many.toNat ≤ 1099511627776 ∨ s.b.length ≤ 1099511627776) :
    Calls Try.prog 48 #[.pointer (some ⟨B, 0, none⟩), .int .i64 many, .int .i64 m] w (ReadsFL S B w (((itText m.toNat).listOut many.toNat s).map strV) ((itText m.toNat).listNext many.toNat s)) := by
  obtain ⟨i0, hi, hz0, hz1, hz2⟩ := info_parts str_info
  have hBlt := h.lt
  have hSB : S B := h.1
  have hW := h.widen
  obtain ⟨S', hS'⟩ : ∃ S' : Nat → Prop, (fun k => S k ∨ w.heap.size ≤ k) = S' := ⟨_, rfl⟩
  have HS1 : Hid (∀ k, S k → S' k) := Lib.hid (by rw [← hS']; exact fun k h => .inl h)
  have HS2 : Hid (∀ k, w.heap.size ≤ k → S' k) := Lib.hid (by rw [← hS']; exact fun k h => .inr h)
  rw [hS'] at hW
  have s1 := fNum_any S' B many.toNat s w hW (by omega)
  have hmlt : many.toNat < 256 ^ 8 := by omega
  obtain ⟨M, hM⟩ : ∃ M, many.toNat = M := ⟨_, rfl⟩
  have hsign : (many < 0 ∧ M = 0) ∨ (∃ k : Nat, many = (k : Int) ∧ M = k ∧ (0 : Int) ≤ (k : Int) ∧ (k : Int) ≤ 9223372036854775807) := by
    by_cases h : many < 0
    · exact .inl ⟨h, by omega⟩
    · exact .inr ⟨many.toNat, by omega, by omega, by omega, by omega⟩
  rw [hM] at s1 hcap hmlt ⊢
  have hNlt := listN_lt hmlt s
  have HCap : Hid (∀ k, k ≤ It.listN M s → ((itText m.toNat).after k ((itNum M).next s)).e = 0 → k ≤ 1099511627776) := Lib.hid fun k h1 h2 => many_le (itText m.toNat) (text_takes m.toNat) hcap h1 h2
  obtain ⟨s1', hs1'⟩ : ∃ x, (itNum M).next s = x := ⟨_, rfl⟩
  obtain ⟨N, hN⟩ : ∃ N, It.listN M s = N := ⟨_, rfl⟩
  have hO : (itNum M).out s = N := hN
  rw [hs1', hO] at s1
  rw [hs1', hN] at HCap
  rw [hN] at hNlt
  have HOut : Hid ((itText m.toNat).listNext M s = (itText m.toNat).after N s1' ∧ (itText m.toNat).listOut M s = if ((itText m.toNat).after N s1').e ≠ 0 then [] else (itText m.toNat).outs N s1') := Lib.hid (by
    have e1 : (itText m.toNat).listNext M s = (itText m.toNat).after N s1' := by rw [It.listNext, hN, hs1']
    exact ⟨e1, by rw [It.listOut, e1, hN, hs1']⟩)
  have hN64 : (N : Int) ≤ 18446744073709551615 := by omega
  have HRes : Hid (∀ e w', ReadsFL S B w ((if ((itText m.toNat).after N s1').e ≠ 0 then [] else (itText m.toNat).outs N s1').map strV) ((itText m.toNat).after N s1') e w' → ReadsFL S B w (((itText m.toNat).listOut M s).map strV) ((itText m.toNat).listNext M s) e w') := Lib.hid (fun e w' h => by rw [HOut.out.1, HOut.out.2]; exact h)
  have HCall : Hid (∀ (wr : World) (st : St), RfAt S' wr B st → Calls Try.prog 47 #[.pointer (some ⟨B, 0, none⟩), .int .i64 m] wr (ReadsF S' B wr (strV ((itText m.toNat).out st)) ((itText m.toNat).next st))) := Lib.hid (fun wr st h => fText_any S' B m st wr h hm2)
  have S1 := Lib.hid s1
  have HSB := Lib.hid hSB
  clear h hW hS' s1 hcap hM hs1' hN hO hSB hmlt hNlt hm hm2
  rcases hsign with ⟨qs, rfl⟩ | ⟨m0, rfl, rfl, qs, qm⟩
  all_goals
    go_enter Try.func48, Try.ntmps48
    go_wp2_with fail
    refine S1.out.mono ?_
    rintro e w1 ⟨rfl, hr1, hb1⟩
    have HR1 := Lib.hid hr1
    have HB1 := Lib.hid hb1
    clear hr1 hb1
    unfold u64V
    go_wp2
    go_loopw [8, 9] (fun lv cv wr => ∃ k : Nat, k ≤ N ∧ cv = .int .u64 (k : Int) ∧ Hid (wr.ownsRow w.heap.size 9 1 lv k (((itText m.toNat).outs k s1').map strV)) ∧ Hid (RfAt S' wr B ((itText m.toNat).after k s1')) ∧ Hid (But (fun k => k = B) w wr)) (fun _ cv _ => N - (intOf cv).toNat)
    case atStart => exact ⟨0, Nat.zero_le _, rfl, Lib.hid (World.ownsRow_nil _ _ _ _), HR1, HB1⟩
    case round =>
      obtain ⟨k, hk, rfl, hown, hrd, hbut⟩ := hrel
      have hsz := hbut.out.size
      have hce := hrd.out.err
      obtain ⟨se, hse⟩ : ∃ x, (itText m.toNat).after k s1' = x := ⟨_, rfl⟩
      rw [hse] at hce hrd
      by_cases hE : se.e = 0
      · rw [hE] at hce
        by_cases hlt : k < N
        · have s2 := HCall.out wr _ hrd.out
          have HA : Hid ((itText m.toNat).after (k + 1) s1' = (itText m.toNat).next se ∧ (itText m.toNat).outs (k + 1) s1' = (itText m.toNat).outs k s1' ++ [(itText m.toNat).out se]) := Lib.hid ⟨by rw [(itText m.toNat).after_succ k s1', hse], by rw [(itText m.toNat).outs_succ k s1', hse]⟩
          have hk1 := HCap.out k hk (by rw [hse]; exact hE)
          obtain ⟨x, hx⟩ : ∃ x, (itText m.toNat).out se = x := ⟨_, rfl⟩
          obtain ⟨st, hst⟩ : ∃ st, (itText m.toNat).next se = st := ⟨_, rfl⟩
          rw [hx, hst] at s2 HA
          have S2 := Lib.hid s2
          have HSE := Lib.hid hse
          clear s2 hx hst hse hE
          go_wp2_with fail
          refine S2.out.mono ?_
          rintro e w2 ⟨rfl, hr2, hb2⟩
          have HR2 := Lib.hid hr2
          have HO2 : Hid (w2.ownsRow w.heap.size 9 1 u8 k (((itText m.toNat).outs k s1').map strV)) := Lib.hid (own_but hown.out hb2 (fun j hj e => by have := (hown.out.lt j hj).1; omega))
          have HB2 := Lib.hid (hbut.out.trans hb2)
          have hs2 := hb2.size
          clear hr2 hb2
          unfold strV
          obtain ⟨bs, hbs⟩ : ∃ bs : ByteArray, (⟨x.toArray⟩ : ByteArray) = bs := ⟨_, rfl⟩
          rw [hbs]
          have HST := Lib.hid hbs
          clear hbs
          go_wp2_with (at_builtin; refine wpList_append_valD rfl (.tmp 28) (.tmp 32) 22 rfl w.heap.size 9 i0 (.string ⟨#[]⟩) 16 Try.underlying22 hi hz0 hz1 hz2 rfl u8 k (((itText m.toNat).outs k s1').map strV) rfl w2 (.string bs) rfl rfl HO2.out rfl ?c1 ?c2 ?c3 ?_)
          case c1 => omega
          case c2 => omega
          case c3 => omega
          refine Lib.hid ?_
          intro v4 w4 hown4 hb4
          have HO4 : Hid (w4.ownsRow w.heap.size 9 1 v4 (k + 1) (((itText m.toNat).outs (k + 1) s1').map strV)) := Lib.hid (by
            rw [HA.out.2, List.map_append]
            simpa [strV, HST.out] using hown4)
          have HR4 : Hid (RfAt S' w4 B ((itText m.toNat).after (k + 1) s1')) := Lib.hid (by
            rw [HA.out.1]
            exact HR2.out.but (S' := fun k => w.heap.size ≤ k) ⟨hb4.os, hb4.tape, hb4.output, hb4.size, fun j _ hj => hb4.block j (by omega)⟩ HS2.out (by omega))
          have HB4 := Lib.hid (HB2.out.then_below hb4)
          clear hown4 hb4
          go_wp2
          go_roundw
          case rel => exact ⟨k + 1, by omega, by go_num, HO4, HR4, HB4⟩
          case measure => simp [intOf]; omega
        · obtain rfl : k = N := by omega
          obtain ⟨A2, c2, rfl, hrv, _, _, _⟩ := RV.ownD hown.out
          have HRV := Lib.hid hrv
          have HBlk : Hid (∀ b off, A2 = some ⟨b, off, none⟩ → w.heap.size ≤ b) := Lib.hid (fun b off e => (hown.out.lt b (by rw [e]; rfl)).1)
          have HF : Hid ((if ((itText m.toNat).after k s1').e ≠ 0 then [] else (itText m.toNat).outs k s1') = (itText m.toNat).outs k s1' ∧ ((itText m.toNat).outs k s1').length = k) := Lib.hid (by
            refine ⟨?_, (itText m.toNat).outs_length k s1'⟩
            rw [hse, if_neg (by simp [hE])])
          have HSE := Lib.hid hse
          clear hrv hse hE
          go_wp2
          go_ret
          refine HRes.out _ _ ?_
          rw [HF.out.1]
          have hlen : (((itText m.toNat).outs k s1').map strV).length = k := by rw [List.length_map, HF.out.2]
          exact ⟨A2, c2, by rw [hlen]; rfl, by rw [hlen]; exact HRV.out, (fun b off e _ => HBlk.out b off e), by rw [HSE.out]; exact hrd.out.narrow HS1.out HSB.out, hbut.out⟩
      · have q1 : (((se.e : Nat) : Int) != 0) = true := by rw [bne_iff_ne]; omega
        have q2 : (((se.e : Nat) : Int) == 0) = false := by rw [beq_eq_false_iff_ne]; omega
        have HN : Hid ((itText m.toNat).after N s1' = se ∧ ((itText m.toNat).after N s1').e ≠ 0) := Lib.hid (by
          have h1 := (itText m.toNat).after_stuck (n := N) (s := s1') (k := k) hk (by rw [hse]; exact hE)
          rw [h1, hse]
          exact ⟨rfl, hE⟩)
        obtain ⟨E, hEE⟩ : ∃ E, se.e = E := ⟨_, rfl⟩
        rw [hEE] at hce q1 q2
        clear hE hEE hse
        by_cases hlt : k < N
        all_goals
          go_wp2
          go_ret
          refine HRes.out _ _ ?_
          rw [if_pos HN.out.2, HN.out.1]
          exact ⟨none, 0, rfl, RV.zero _ _, (fun b off e h0 => absurd h0 (by simp)), hrd.out.narrow HS1.out HSB.out, hbut.out⟩

end Go.Proofs.Ytbhhalkpghcflaa
