/-
  Of a list without two of the same source and destination the order does not count: the law IntentOrder, walked (layer 17).
-/
import Derived.Test.YtmegfkclpjddgaaZj44
import Derived.Test.YtmegfkclpjddgaaZj45
import Derived.BigQuiet
namespace Go.Proofs.Ytmegfkclpjddgaa
open Go.RowKit
set_option linter.unusedSimpArgs false
set_option linter.unusedVariables false

theorem back_step {l : List Ir} {i : Nat} (h : i + 1 ≤ l.length) : (l.drop i).reverse = (l.drop (i + 1)).reverse ++ [l[i]] := by
  rw [List.drop_eq_getElem_cons (by omega), List.reverse_cons]
set_option maxHeartbeats 4000000 in
set_option maxRecDepth 100000 in
theorem order_walk (A : Option Addr) (n c : Nat) (l : List Ir) (s d : ByteArray) (b : Bool) (w : World) (hS : SK irC 5 w A n l) (hn : n ≤ maxLen) (hs : s.size ≤ maxLen) (hd : d.size ≤ maxLen) :
    Calls Try.prog 5 #[.slice A n c, .agg #[.string s, .string d], .bool b] w fun e w' => e = .returned (.bool true) ∧ Below w.heap.size w w' := by
  have HUn := Lib.hid (fun (W : World) (hb : Below w.heap.size w W) => unlike_any A n c l W (hS.below hb) hn)
  have HWk := Lib.hid works_any
  have HS := Lib.hid hS
  have HL := Lib.hid hS.1
  have HCh := Lib.hid (fun (A2 : Option Addr) (m c2 : Nat) (l2 : List Ir) (W : World) (h : SK irC 5 W A2 m l2) (hm : m ≤ maxLen) => choose_any A2 m c2 l2 s d b W h hm hs hd)
  have HFo := Lib.hid (fun (W : World) (hb : Below w.heap.size w W) (h8 : n ≤ 1000) => rifor_any A n c l d W (hS.below hb) h8 hd)
  obtain ⟨X, hX⟩ : ∃ X, w.heap.size = X := ⟨_, rfl⟩
  obtain ⟨W1, hW1⟩ : ∃ W1, w.alloc (.cells #[.string s, .string d] 47) = W1 := ⟨_, rfl⟩
  have k0 : W1.heap[X]? = some (.cells #[.string s, .string d] 47 (0, 0)) := by rw [← hW1, ← hX]; exact heap_alloc_new w _
  have HB1 : Hid (Below w.heap.size w W1) := Lib.hid (by rw [← hW1]; exact below1 _ _ _)
  have x0 := cellsN k0 0 _ rfl
  have x1 := cellsN k0 1 _ rfl
  have HW1 := Lib.hid hW1
  have HX := Lib.hid hX
  clear hW1 hX k0
  clear hS hn hs hd
  by_cases hlen : 60 < n
  · have hl2 : (60 : Int) < (n : Int) := by omega
    have hgt : decide ((n : Int) > 60) = true := decide_eq_true (by omega)
    go_enter Try.func5, Try.ntmps5
    go_wp2_with fail
    rw [HW1.out, HX.out]
    go_quiet (fail)
    generalize hW2 : W1.drewN _ = W2
    have HB2 : Hid (Below w.heap.size w W2) := Lib.hid (by rw [← hW2]; exact below_drewN HB1.out _)
    clear hW2 x0 x1
    go_wp2_with fail
    refine (HWk.out W2).mono ?_
    rintro e w9 ⟨rfl, hb9⟩
    have HB9 := Lib.hid (HB2.out.trans (hb9.mono HB2.out.size))
    clear hb9
    go_wp2
    go_ret
    exact ⟨rfl, HB9.out⟩
  · have hl2 : ¬ (60 : Int) < (n : Int) := by omega
    have hgt : decide ((n : Int) > 60) = false := decide_eq_false (by omega)
    go_enter Try.func5, Try.ntmps5
    go_wp2_with fail
    rw [HW1.out, HX.out]
    go_quiet (fail)
    generalize hW2 : W1.drewN _ = W2
    have HB2 : Hid (Below w.heap.size w W2) := Lib.hid (by rw [← hW2]; exact below_drewN HB1.out _)
    clear hW2 x0 x1
    go_wp2_with fail
    refine (HUn.out W2 HB2.out).mono ?_
    rintro e w3 ⟨u, rfl, hu, hb3⟩
    have HB3 := Lib.hid (HB2.out.trans (hb3.mono HB2.out.size))
    have HU := Lib.hid hu
    clear hu hb3 HUn
    cases u with
    | false =>
      go_wp2_with fail
      refine (HWk.out w3).mono ?_
      rintro e w9 ⟨rfl, hb9⟩
      have HB9 := Lib.hid (HB3.out.trans (hb9.mono HB3.out.size))
      clear hb9
      go_wp2
      go_ret
      exact ⟨rfl, HB9.out⟩
    | true =>
      have hun : Unl l := HU.out rfl
      obtain ⟨o, ho⟩ := chosen_ex l s d
      obtain ⟨p, hp⟩ := chosen_ex l.reverse s d
      obtain ⟨q, hq⟩ := chosen_ex (forI l d) s d
      obtain ⟨g1, g2⟩ := order_back (b := b) hun ho hp
      obtain ⟨g3, _, _⟩ := chosen_same (b := b) hun ho hq (fun y h => for_mem y h)
      have HO := Lib.hid ho
      have HP := Lib.hid hp
      have HQ := Lib.hid hq
      obtain ⟨av, hav⟩ : ∃ av, cA l b o = av := ⟨_, rfl⟩
      rw [hav] at g1 g3
      have HA1 := Lib.hid hav
      have HA2 := Lib.hid g1.symm
      have HA3 := Lib.hid g3.symm
      have HG := Lib.hid g2
      obtain ⟨Y, hY⟩ : ∃ Y, w3.heap.size = Y := ⟨_, rfl⟩
      have HY := Lib.hid hY
      have hz0 : w.heap.size ≤ Y := hY ▸ HB3.out.size
      clear hun ho hp hq g1 g2 g3 hav hY HU
      go_wp2
      go_loopw [9, 10] (fun vv iv wr => ∃ i : Nat, i ≤ n ∧ iv = .int .i64 ((i : Int) - 1) ∧ Hid (irRow wr Y vv (l.drop i).reverse) ∧ Hid (Below Y w3 wr)) (fun _ iv _ => (intOf iv + 1).toNat)
      case atStart => exact ⟨n, Nat.le_refl _, by go_num, Lib.hid (by rw [List.drop_of_length_le (by rw [HL.out]; exact Nat.le_refl _)]; exact rowK.nil _ _), Lib.hid (HY.out ▸ Below.refl _ _)⟩
      case round =>
        obtain ⟨i, hi, rfl, hrow, hb⟩ := hrel
        have HBw : Hid (Below w.heap.size w wr) := Lib.hid (HB3.out.trans (hb.out.mono hz0))
        cases i with
        | zero =>
          have hr0 : l.drop 0 = l := rfl
          rw [hr0] at hrow
          obtain ⟨A2, c2, e2, hSb, hle2, hmx2, _⟩ := SK.of_row irC_len hrow.out
          rw [List.length_reverse, HL.out] at e2
          subst e2
          rw [List.length_reverse, HL.out] at hSb
          have HSb := Lib.hid hSb
          have hnm : n ≤ maxLen := by unfold maxLen; omega
          have HC1 := Lib.hid (HCh.out A n c l wr (HS.out.below HBw.out) hnm)
          clear hSb hle2 hmx2 hrow hr0
          obtain ⟨ki, hki⟩ : ∃ k, cK o = k := ⟨_, rfl⟩
          obtain ⟨kj, hkj⟩ : ∃ k, cK p = k := ⟨_, rfl⟩
          have HKi := Lib.hid hki
          have HKj := Lib.hid hkj
          clear hki hkj
          go_wp2_with fail
          refine HC1.out.mono ?_
          rintro e w4 h4
          obtain ⟨he, hb4⟩ := h4.is HO.out
          rw [HA1.out, HKi.out] at he
          subst he
          have HB4 : Hid (Below w.heap.size w w4) := Lib.hid (HBw.out.trans (hb4.mono HBw.out.size))
          have HC2 := Lib.hid (HCh.out A2 n c2 l.reverse w4 (HSb.out.below hb4) hnm)
          clear hb4 h4 HC1
          go_wp2_with fail
          refine HC2.out.mono ?_
          rintro e w5 h5
          obtain ⟨he, hb5⟩ := h5.is HP.out
          rw [HA2.out, HKj.out] at he
          subst he
          have HB5 : Hid (Below w.heap.size w w5) := Lib.hid (HB4.out.trans (hb5.mono HB4.out.size))
          have HF := Lib.hid (HFo.out w5 HB5.out (by omega))
          clear hb5 h5 HC2
          go_wp2_with fail
          refine HF.out.mono ?_
          rintro e w6 ⟨v, rfl, hrow6, hb6⟩
          have HB6 : Hid (Below w.heap.size w w6) := Lib.hid (HB5.out.trans (hb6.mono HB5.out.size))
          obtain ⟨A3, c3, rfl, hS3, hle3, hmx3, _⟩ := SK.of_row irC_len hrow6
          have hl3 : (forI l d).length ≤ n := by have := for_length l d; rw [HL.out] at this; exact this
          have HC3 := Lib.hid (HCh.out A3 _ c3 (forI l d) w6 hS3 (by unfold maxLen; omega))
          clear hb6 hS3 hle3 hmx3 hrow6 HF hl3
          go_wp2_with fail
          refine HC3.out.mono ?_
          rintro e w7 h7
          obtain ⟨he, hb7⟩ := h7.is HQ.out
          rw [HA3.out] at he
          subst he
          have HB7 : Hid (Below w.heap.size w w7) := Lib.hid (HB6.out.trans (hb7.mono HB6.out.size))
          obtain ⟨kq, hkq⟩ : ∃ k, cK q = k := ⟨_, rfl⟩
          rw [hkq]
          clear hb7 h7 HC3 hkq
          have hkk : (ki = -1 ∧ kj = -1) ∨ ∃ i j : Nat, ki = (i : Int) ∧ kj = (j : Int) ∧ i < n ∧ j < n ∧ i = n - 1 - j := by
            rcases HG.out with ⟨h1, h2⟩ | ⟨i, j, h1, h2, h3, h4, h5⟩
            · exact .inl ⟨by rw [← HKi.out, h1]; rfl, by rw [← HKj.out, h2]; rfl⟩
            · rw [HL.out] at h3 h4 h5
              exact .inr ⟨i, j, by rw [← HKi.out, h1]; rfl, by rw [← HKj.out, h2]; rfl, h3, h4, h5⟩
          clear HKi HKj HG
          rcases hkk with ⟨rfl, rfl⟩ | ⟨i, j, rfl, rfl, h3, h4, h5⟩
          · go_wp2_with fail
            refine (HWk.out w7).mono ?_
            rintro e w9 ⟨rfl, hb9⟩
            have HB9 := Lib.hid (HB7.out.trans (hb9.mono HB7.out.size))
            clear hb9
            go_wp2
            go_ret
            exact ⟨rfl, HB9.out⟩
          · have z1 : decide ((i : Int) < 0) = false := decide_eq_false (by omega)
            have z2 : decide ((j : Int) < 0) = false := decide_eq_false (by omega)
            have z3 : ¬ (i : Int) < 0 := by omega
            have z4 : ¬ (j : Int) < 0 := by omega
            have z5 : ((i : Int) == (n : Int) - 1 - (j : Int)) = true := by rw [beq_iff_eq]; omega
            have z6 : (n : Int) - 1 - (j : Int) = (i : Int) := by omega
            clear h5
            go_wp2_with fail
            refine (HWk.out w7).mono ?_
            rintro e w9 ⟨rfl, hb9⟩
            have HB9 := Lib.hid (HB7.out.trans (hb9.mono HB7.out.size))
            clear hb9
            go_wp2
            go_ret
            exact ⟨rfl, HB9.out⟩
        | succ i =>
          have hil : i < l.length := by rw [HL.out]; omega
          have hin : i < n := by omega
          obtain ⟨bb, off, rfl, hbl, hit⟩ := (HS.out.below HBw.out).at_ hin hil
          have hst := back_step (l := l) (i := i) (by omega)
          obtain ⟨x, hx⟩ : ∃ x, l[i] = x := ⟨_, rfl⟩
          rw [hx] at hit hst
          obtain ⟨e0, e1, e2, e3, e4⟩ := ir_cells hit
          have HSt := Lib.hid hst
          have hle : ((l.drop (i + 1)).reverse).length ≤ 1000000 := by
            rw [List.length_reverse, List.length_drop]
            have := HL.out
            omega
          have ei : ((i + 1 : Nat) : Int) - 1 = (i : Int) := by omega
          have hYz : Y ≤ wr.heap.size := by have := hb.out.size; have := HY.out; omega
          rw [ei]
          clear hst hx hit ei
          go_wp2_with (at_builtin; refine wpList_append_ir rfl (.tmp 37) (.tmp 42) rfl Y _ _ rfl ?qa wr.heap.size x rfl ?qb hle ?qc ?_)
          case qa => exact hrow.out.below ((Below.refl _ _).alloc (Nat.le_refl _) _)
          case qb => exact ir_new wr x _
          case qc => simp; omega
          refine Lib.hid ?_
          intro v' w' hown hgr
          have HB' := Lib.hid (irRow.snoc hrow.out hb.out hYz hgr)
          rw [← HSt.out] at hown
          have HRw := Lib.hid hown
          clear hown hgr e0 e1 e2 e3 e4
          go_wp2
          go_roundw
          case rel => exact ⟨i, by omega, by go_num, HRw, HB'⟩
          case measure => simp [intOf]
end Go.Proofs.Ytmegfkclpjddgaa
