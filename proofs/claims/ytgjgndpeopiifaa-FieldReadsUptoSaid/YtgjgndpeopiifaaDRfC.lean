/-
  The document's Reader: Flag and Text (layer 4).
-/
import Derived.Test.YtgjgndpeopiifaaDRfB
namespace Go.Proofs.Ytgjgndpeopiifaa
open Go.RowKit
set_option linter.unusedSimpArgs false

set_option maxHeartbeats 2000000 in
theorem fFlag_any (S : Nat → Prop) (B : Nat) (s : St) (w : World) (h : RfAt S w B s) :
    Calls Try.prog 39 #[.pointer (some ⟨B, 0, none⟩)] w (ReadsF S B w (.bool (itFlag.out s)) (itFlag.next s)) := by
  obtain ⟨hB, A, n, c, hh, hr, hnc, hA, hn⟩ := h
  obtain ⟨c0, c1, f0, f1⟩ := RfAt.cells hh
  by_cases he : s.e ≠ 0
  · have ho : itFlag.out s = itFlag.none := itFlag.out_err he
    have hx : itFlag.next s = s := itFlag.next_err he
    rw [ho, hx]
    have q1 : (((s.e : Nat) : Int) != 0) = true := by rw [bne_iff_ne]; omega
    have HH : Hid (RfAt S w B s) := Lib.hid ⟨hB, A, n, c, hh, hr, hnc, hA, hn⟩
    obtain ⟨E, hE⟩ : ∃ E, s.e = E := ⟨_, rfl⟩
    rw [hE] at q1 c1
    clear hh hr hA he ho hx hE
    go_enter Try.func39, Try.ntmps39
    go_wp2
    go_ret
    exact ⟨rfl, HH.out, But.refl _ _⟩
  have he0 : s.e = 0 := by simpa using he
  rw [he0] at c1
  have s1 := number_any A n c s.b w hr.1 hn
  have HF : Hid (∀ E : Nat, RfAt S (w.setCell ⟨B, 1, none⟩ (.int .i64 (E : Int))) B ⟨s.b, E⟩) := Lib.hid fun E => RfAt.failed hB hh hr hnc hA hn E
  by_cases hN : errN s.b ≠ 0
  · have hE : itFlag.err s.b = errN s.b := by show errFlag s.b = _; rw [errFlag, if_pos hN]
    have ho : itFlag.out s = false := by rw [It.out, if_neg he, hE, if_pos hN]; rfl
    have hx : itFlag.next s = ⟨s.b, errN s.b⟩ := by rw [It.next, if_neg he, hE, if_pos hN]
    have e1 : rnOf s.b = fnAns 0 0 (errN s.b) := by rw [rnOf, if_pos hN]
    rw [ho, hx]
    rw [e1] at s1
    obtain ⟨E, hE'⟩ : ∃ E, errN s.b = E := ⟨_, rfl⟩
    rw [hE'] at s1 hN ⊢
    have q1 : (((E : Nat) : Int) != 0) = true := by rw [bne_iff_ne]; omega
    have q2 : (((E : Nat) : Int) == 0) = false := by rw [beq_eq_false_iff_ne]; omega
    have S1 := Lib.hid s1
    clear hh hr hA he ho hx hE hE' s1 hN e1 he0
    go_enter Try.func39, Try.ntmps39
    go_wp2_with fail
    refine S1.out.mono ?_
    rintro e w1 ⟨rfl, rfl⟩
    unfold fnAns
    go_wp2
    go_ret
    exact ⟨rfl, HF.out E, But.set (S := fun k => k = B) w (p := ⟨B, 1, none⟩) rfl _⟩
  have hN0 : errN s.b = 0 := by simpa using hN
  have hml := (num_laid hN0).2.2.2
  have e1 : rnOf s.b = fnAns (valN s.b) (1 + manyN s.b) 0 := by rw [rnOf, if_neg hN]
  have hE : itFlag.err s.b = if 1 < valN s.b then 40 else 0 := by show errFlag s.b = _; rw [errFlag, if_neg hN]
  rw [e1] at s1
  by_cases h3 : 1 < valN s.b
  · rw [if_pos h3] at hE
    have ho : itFlag.out s = false := by rw [It.out, if_neg he, hE, if_pos (by omega)]; rfl
    have hx : itFlag.next s = ⟨s.b, 40⟩ := by rw [It.next, if_neg he, hE, if_pos (by omega)]
    rw [ho, hx]
    obtain ⟨V, hV⟩ : ∃ V, valN s.b = V := ⟨_, rfl⟩
    obtain ⟨Z, hZ⟩ : ∃ Z, 1 + manyN s.b = Z := ⟨_, rfl⟩
    rw [hV, hZ] at s1
    rw [hV] at h3
    have q1 : (1 : Int) < (V : Int) := by omega
    have S1 := Lib.hid s1
    clear hh hr hA he ho hx hE s1 hN e1 he0 hN0 hV hZ hml
    go_enter Try.func39, Try.ntmps39
    go_wp2_with fail
    refine S1.out.mono ?_
    rintro e w1 ⟨rfl, rfl⟩
    unfold fnAns
    go_wp2
    go_ret
    exact ⟨rfl, HF.out 40, But.set (S := fun k => k = B) w (p := ⟨B, 1, none⟩) rfl _⟩
  · rw [if_neg h3] at hE
    have ho : itFlag.out s = (valN s.b == 1) := by rw [It.out, if_neg he, hE, if_neg (by simp)]; rfl
    have hx : itFlag.next s = ⟨s.b.drop (1 + manyN s.b), 0⟩ := by rw [It.next, if_neg he, hE, if_neg (by simp)]; rfl
    rw [ho, hx]
    have hpos := errN_pos hN0
    rw [hr.1.1] at hml hpos
    obtain ⟨b, off, rfl, _, _⟩ := hr.1.2 hpos
    have HH : Hid (∀ k, k ≤ n → ∀ A', (A' = if c = k then some ⟨b, off, none⟩ else some ⟨b, off + k, none⟩) → RfAt S (w.setCell ⟨B, 0, none⟩ (.slice A' (n - k) (c - k))) B ⟨s.b.drop k, 0⟩) := Lib.hid fun k hk A' hA' => RfAt.went hB hh hr hnc hn he0 hk A' hA'
    obtain ⟨V, hV⟩ : ∃ V, valN s.b = V := ⟨_, rfl⟩
    obtain ⟨k, hk⟩ : ∃ Z, 1 + manyN s.b = Z := ⟨_, rfl⟩
    rw [hV, hk] at s1
    rw [hV] at h3 ⊢
    rw [hk] at hml ⊢
    have q2 : (k : Int) ≤ (n : Int) := by omega
    have q3 : (k : Int) ≤ (c : Int) := by omega
    have S1 := Lib.hid s1
    have hV01 : V = 0 ∨ V = 1 := by omega
    clear hh hr hA he ho hx hE s1 hN e1 he0 hN0 hV hk HF h3
    rcases hV01 with rfl | rfl
    all_goals
      by_cases hc : c = k
      · subst hc
        go_enter Try.func39, Try.ntmps39
        go_wp2_with fail
        refine S1.out.mono ?_
        rintro e w1 ⟨rfl, rfl⟩
        unfold fnAns
        go_wp2
        go_ret
        have := HH.out c hml (some ⟨b, off, none⟩) (by rw [if_pos rfl])
        rw [Nat.sub_self, show n - c = 0 by omega] at this
        exact ⟨rfl, this, But.set (S := fun k => k = B) w (p := ⟨B, 0, none⟩) rfl _⟩
      · have hc' : ¬ c = k := hc
        go_enter Try.func39, Try.ntmps39
        go_wp2_with fail
        refine S1.out.mono ?_
        rintro e w1 ⟨rfl, rfl⟩
        unfold fnAns
        go_wp2
        go_ret
        exact ⟨rfl, HH.out k hml _ (by rw [if_neg hc]), But.set (S := fun k => k = B) w (p := ⟨B, 0, none⟩) rfl _⟩


set_option maxHeartbeats 2000000 in
theorem fText_any (S : Nat → Prop) (B : Nat) (m : Int) (s : St) (w : World) (h : RfAt S w B s) (hm1 : m ≤ 9223372036854775807) :
    Calls Try.prog 38 #[.pointer (some ⟨B, 0, none⟩), .int .i64 m] w (ReadsF S B w (strV ((itText m.toNat).out s)) ((itText m.toNat).next s)) := by
  obtain ⟨hB, A, n, c, hh, hr, hnc, hA, hn⟩ := h
  obtain ⟨c0, c1, f0, f1⟩ := RfAt.cells hh
  obtain ⟨most, hmo⟩ : ∃ most, m.toNat = most := ⟨_, rfl⟩
  rw [hmo]
  by_cases he : s.e ≠ 0
  · have ho : (itText most).out s = (itText most).none := (itText most).out_err he
    have hx : (itText most).next s = s := (itText most).next_err he
    rw [ho, hx]
    have q1 : (((s.e : Nat) : Int) != 0) = true := by rw [bne_iff_ne]; omega
    have HH : Hid (RfAt S w B s) := Lib.hid ⟨hB, A, n, c, hh, hr, hnc, hA, hn⟩
    obtain ⟨E, hE⟩ : ∃ E, s.e = E := ⟨_, rfl⟩
    rw [hE] at q1 c1
    clear hh hr hA he ho hx hE hmo
    go_enter Try.func38, Try.ntmps38
    go_wp2
    go_ret
    exact ⟨rfl, HH.out, But.refl _ _⟩
  have he0 : s.e = 0 := by simpa using he
  rw [he0] at c1
  have s1 := number_any A n c s.b w hr.1 hn
  have HF : Hid (∀ E : Nat, RfAt S (w.setCell ⟨B, 1, none⟩ (.int .i64 (E : Int))) B ⟨s.b, E⟩) := Lib.hid fun E => RfAt.failed hB hh hr hnc hA hn E
  have hsign : (m < 0 ∧ most = 0) ∨ (∃ k : Nat, m = (k : Int) ∧ most = k ∧ (0 : Int) ≤ (k : Int)) := by
    by_cases h : m < 0
    · exact .inl ⟨h, by omega⟩
    · exact .inr ⟨m.toNat, by omega, by omega, by omega⟩
  clear hmo
  by_cases hN : errN s.b ≠ 0
  · have hE : (itText most).err s.b = errN s.b := by
      have h1 : errNum most s.b = errN s.b := by rw [errNum, if_pos hN]
      show errText most s.b = _
      rw [errText, h1, if_pos hN]
    have ho : (itText most).out s = [] := by rw [It.out, if_neg he, hE, if_pos hN]; rfl
    have hx : (itText most).next s = ⟨s.b, errN s.b⟩ := by rw [It.next, if_neg he, hE, if_pos hN]
    have e1 : rnOf s.b = fnAns 0 0 (errN s.b) := by rw [rnOf, if_pos hN]
    rw [ho, hx]
    rw [e1] at s1
    obtain ⟨E, hE'⟩ : ∃ E, errN s.b = E := ⟨_, rfl⟩
    rw [hE'] at s1 hN ⊢
    have q1 : (((E : Nat) : Int) != 0) = true := by rw [bne_iff_ne]; omega
    have q2 : (((E : Nat) : Int) == 0) = false := by rw [beq_eq_false_iff_ne]; omega
    have S1 := Lib.hid s1
    clear hh hr hA he ho hx hE hE' s1 hN e1 he0
    rcases hsign with ⟨q3, rfl⟩ | ⟨k, rfl, rfl, q3⟩
    all_goals
      go_enter Try.func38, Try.ntmps38
      go_wp2_with fail
      refine S1.out.mono ?_
      rintro e w1 ⟨rfl, rfl⟩
      unfold fnAns
      go_wp2
      go_ret
      exact ⟨rfl, HF.out E, But.set (S := fun k => k = B) w (p := ⟨B, 1, none⟩) rfl _⟩
  have hN0 : errN s.b = 0 := by simpa using hN
  have hml := (num_laid hN0).2.2.2
  have hv64 := (num_laid hN0).2.1
  have e1 : rnOf s.b = fnAns (valN s.b) (1 + manyN s.b) 0 := by rw [rnOf, if_neg hN]
  have hEN : errNum most s.b = if most < valN s.b then 3 else 0 := by rw [errNum, if_neg hN]
  rw [e1] at s1
  have hpos := errN_pos hN0
  by_cases h3 : most < valN s.b
  · rw [if_pos h3] at hEN
    have hE : (itText most).err s.b = 3 := by show errText most s.b = _; rw [errText, hEN, if_pos (by omega)]
    have ho : (itText most).out s = [] := by rw [It.out, if_neg he, hE, if_pos (by omega)]; rfl
    have hx : (itText most).next s = ⟨s.b, 3⟩ := by rw [It.next, if_neg he, hE, if_pos (by omega)]
    rw [ho, hx]
    obtain ⟨V, hV⟩ : ∃ V, valN s.b = V := ⟨_, rfl⟩
    obtain ⟨Z, hZ⟩ : ∃ Z, 1 + manyN s.b = Z := ⟨_, rfl⟩
    rw [hV, hZ] at s1
    rw [hV] at h3 hv64
    have q1 : (most : Int) < (V : Int) := by omega
    have S1 := Lib.hid s1
    clear hh hr hA he ho hx hE s1 hN e1 he0 hN0 hV hZ hml hEN hv64 hpos
    rcases hsign with ⟨q3, rfl⟩ | ⟨k, rfl, rfl, q3⟩
    · have q4 : (0 : Int) < (V : Int) := by omega
      clear q1
      go_enter Try.func38, Try.ntmps38
      go_wp2_with fail
      refine S1.out.mono ?_
      rintro e w1 ⟨rfl, rfl⟩
      unfold fnAns
      go_wp2
      go_ret
      exact ⟨rfl, HF.out 3, But.set (S := fun k => k = B) w (p := ⟨B, 1, none⟩) rfl _⟩
    · skip
      go_enter Try.func38, Try.ntmps38
      go_wp2_with fail
      refine S1.out.mono ?_
      rintro e w1 ⟨rfl, rfl⟩
      unfold fnAns
      go_wp2
      go_ret
      exact ⟨rfl, HF.out 3, But.set (S := fun k => k = B) w (p := ⟨B, 1, none⟩) rfl _⟩
  rw [if_neg h3] at hEN
  have hET : (itText most).err s.b = if s.b.length - (1 + manyN s.b) < valN s.b then 30 else 0 := by show errText most s.b = _; rw [errText, if_neg (by rw [hEN]; simp)]
  have hbt : (itText most).val s.b = (s.b.drop (1 + manyN s.b)).take (valN s.b) ∧ (itText most).size s.b = 1 + manyN s.b + valN s.b := ⟨rfl, rfl⟩
  rw [hr.1.1] at hET
  by_cases h30 : n - (1 + manyN s.b) < valN s.b
  · rw [if_pos h30] at hET
    have ho : (itText most).out s = [] := by rw [It.out, if_neg he, hET, if_pos (by omega)]; rfl
    have hx : (itText most).next s = ⟨s.b, 30⟩ := by rw [It.next, if_neg he, hET, if_pos (by omega)]
    rw [ho, hx]
    rw [hr.1.1] at hml
    obtain ⟨V, hV⟩ : ∃ V, valN s.b = V := ⟨_, rfl⟩
    obtain ⟨Z, hZ⟩ : ∃ Z, 1 + manyN s.b = Z := ⟨_, rfl⟩
    rw [hV, hZ] at s1 h30
    rw [hV] at h3 hv64
    rw [hZ] at hml
    have q1 : ¬ (most : Int) < (V : Int) := by omega
    have q2 : (n : Int) - (Z : Int) < (V : Int) := by omega
    have S1 := Lib.hid s1
    clear hh hr hA he ho hx s1 hN e1 he0 hN0 hV hZ hEN hET hbt hv64 hpos
    rcases hsign with ⟨q3, rfl⟩ | ⟨k, rfl, rfl, q3⟩
    · omega
    · skip
      go_enter Try.func38, Try.ntmps38
      go_wp2_with fail
      refine S1.out.mono ?_
      rintro e w1 ⟨rfl, rfl⟩
      unfold fnAns
      go_wp2
      go_ret
      exact ⟨rfl, HF.out 30, But.set (S := fun k => k = B) w (p := ⟨B, 1, none⟩) rfl _⟩
  · rw [if_neg h30] at hET
    have ho : (itText most).out s = (s.b.drop (1 + manyN s.b)).take (valN s.b) := by rw [It.out, if_neg he, hET, if_neg (by simp)]; exact hbt.1
    have hx : (itText most).next s = ⟨s.b.drop (1 + manyN s.b + valN s.b), 0⟩ := by rw [It.next, if_neg he, hET, if_neg (by simp), hbt.2]
    rw [ho, hx]
    rw [hr.1.1] at hml hpos
    obtain ⟨b, off, rfl, _, _⟩ := hr.1.2 hpos
    have HH : Hid (∀ k, k ≤ n → ∀ A', (A' = if c = k then some ⟨b, off, none⟩ else some ⟨b, off + k, none⟩) → RfAt S (w.setCell ⟨B, 0, none⟩ (.slice A' (n - k) (c - k))) B ⟨s.b.drop k, 0⟩) := Lib.hid fun k hk A' hA' => RfAt.went hB hh hr hnc hn he0 hk A' hA'
    have HR := Lib.hid hr.1
    obtain ⟨V, hV⟩ : ∃ V, valN s.b = V := ⟨_, rfl⟩
    obtain ⟨Z, hZ⟩ : ∃ Z, 1 + manyN s.b = Z := ⟨_, rfl⟩
    rw [hV, hZ] at s1 h30 ⊢
    rw [hV] at h3 hv64
    rw [hZ] at hml
    have q1 : ¬ (most : Int) < (V : Int) := by omega
    have q2 : ¬ (n : Int) - (Z : Int) < (V : Int) := by omega
    have q5 : (V : Int) ≤ 140737488355328 := by omega
    have q6 : (Z : Int) + (V : Int) ≤ (n : Int) := by omega
    have q7 : (Z : Int) + (V : Int) ≤ (c : Int) := by omega
    obtain ⟨T, hT⟩ : ∃ T, (s.b.drop Z).take V = T := ⟨_, rfl⟩
    rw [hT]
    have HT := Lib.hid hT
    obtain ⟨st, hst⟩ : ∃ st : ByteArray, (⟨T.toArray⟩ : ByteArray) = st := ⟨_, rfl⟩
    have S1 := Lib.hid s1
    have HST := Lib.hid hst
    have hzv : Z + V ≤ n := by omega
    clear hh hr hA he ho hx s1 hN e1 he0 hN0 hV hZ hEN hET hbt hv64 hpos hT HF hst
    by_cases hcz : c = Z
    · obtain rfl : V = 0 := by omega
      have k1 := own_conv (RB.zero w (some ⟨b, off, none⟩)) 0
      have HT0 : Hid (strV T = .string ⟨#[]⟩) := Lib.hid (by rw [← HT.out, List.take_zero]; rfl)
      subst hcz
      rcases hsign with ⟨q3, rfl⟩ | ⟨k, rfl, rfl, q3⟩
      · have q4 : ¬ (0 : Int) < (0 : Int) := by omega
        clear q1
        go_enter Try.func38, Try.ntmps38
        go_wp2_with fail
        refine S1.out.mono ?_
        rintro e w1 ⟨rfl, rfl⟩
        unfold fnAns
        go_wp2
        go_ret
        have := HH.out c hzv (some ⟨b, off, none⟩) (by rw [if_pos rfl])
        rw [Nat.sub_self, show n - c = 0 by omega] at this
        exact ⟨by rw [HT0.out]; rfl, this, But.set (S := fun k => k = B) w (p := ⟨B, 0, none⟩) rfl _⟩
      · skip
        go_enter Try.func38, Try.ntmps38
        go_wp2_with fail
        refine S1.out.mono ?_
        rintro e w1 ⟨rfl, rfl⟩
        unfold fnAns
        go_wp2
        go_ret
        have := HH.out c hzv (some ⟨b, off, none⟩) (by rw [if_pos rfl])
        rw [Nat.sub_self, show n - c = 0 by omega] at this
        exact ⟨by rw [HT0.out]; rfl, this, But.set (S := fun k => k = B) w (p := ⟨B, 0, none⟩) rfl _⟩
    · have hTl : RB w (some ⟨b, off + Z, none⟩) V T := by
        rw [← HT.out]
        exact (rb_drop HR.out (m := Z) hml).take (by omega)
      have k1 := own_conv hTl (c - Z)
      have k2 := own_conv hTl V
      rw [HST.out] at k1 k2
      clear hTl
      have HST' : Hid (strV T = .string st) := Lib.hid (by rw [strV, HST.out])
      by_cases hcv : c = Z + V
      · subst hcv
        clear k1
        have hnv : n = Z + V := by omega
        subst hnv
        rcases hsign with ⟨q3, rfl⟩ | ⟨k, rfl, rfl, q3⟩
        · have q4 : ¬ (0 : Int) < (V : Int) := by omega
          omega
        · skip
          go_enter Try.func38, Try.ntmps38
          go_wp2_with fail
          refine S1.out.mono ?_
          rintro e w1 ⟨rfl, rfl⟩
          unfold fnAns
          go_wp2
          go_ret
          have := HH.out (Z + V) hzv (some ⟨b, off, none⟩) (by rw [if_pos rfl])
          rw [Nat.sub_self] at this
          exact ⟨by rw [HST'.out]; rfl, this, But.set (S := fun k => k = B) w (p := ⟨B, 0, none⟩) rfl _⟩
      · rcases hsign with ⟨q3, rfl⟩ | ⟨k, rfl, rfl, q3⟩
        · have q4 : ¬ (0 : Int) < (V : Int) := by omega
          clear q1
          go_enter Try.func38, Try.ntmps38
          go_wp2_with fail
          refine S1.out.mono ?_
          rintro e w1 ⟨rfl, rfl⟩
          unfold fnAns
          go_wp2
          go_ret
          exact ⟨by rw [HST'.out]; rfl, HH.out (Z + V) hzv _ (by rw [if_neg hcv]), But.set (S := fun k => k = B) w (p := ⟨B, 0, none⟩) rfl _⟩
        · skip
          go_enter Try.func38, Try.ntmps38
          go_wp2_with fail
          refine S1.out.mono ?_
          rintro e w1 ⟨rfl, rfl⟩
          unfold fnAns
          go_wp2
          go_ret
          exact ⟨by rw [HST'.out]; rfl, HH.out (Z + V) hzv _ (by rw [if_neg hcv]), But.set (S := fun k => k = B) w (p := ⟨B, 0, none⟩) rfl _⟩
end Go.Proofs.Ytgjgndpeopiifaa
