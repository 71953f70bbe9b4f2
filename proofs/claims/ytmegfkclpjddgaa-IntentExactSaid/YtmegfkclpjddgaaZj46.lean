/-
  An exact one decides alone: the law IntentExact, walked (layer 17).
-/
import Derived.Test.YtmegfkclpjddgaaZj45
import Derived.BigQuiet
namespace Go.Proofs.Ytmegfkclpjddgaa
open Go.RowKit
set_option linter.unusedSimpArgs false
set_option linter.unusedVariables false

/-- Those that are not of a source and a destination. -/
def notI (l : List Ir) (s d : ByteArray) : List Ir := l.filter fun x => !samI x s d
theorem not_step {l : List Ir} {k : Nat} {s d : ByteArray} (hk : k < l.length) : notI (l.take (k + 1)) s d = notI (l.take k) s d ++ (if samI l[k] s d = true then [] else [l[k]]) := by
  unfold notI
  rw [List.take_succ_eq_append_getElem hk, List.filter_append]
  by_cases h : samI l[k] s d = true
  · rw [if_pos h, List.filter_cons_of_neg (by simpa using h)]; rfl
  · rw [if_neg h, List.filter_cons_of_pos (by simpa using h)]; rfl
theorem not_length (l : List Ir) (s d : ByteArray) : (notI l s d).length ≤ l.length := List.length_filter_le _ _
theorem not_mem {l : List Ir} {s d : ByteArray} : ∀ y ∈ notI l s d, ¬ (y.src = s ∧ y.dst = d) := fun y hy e => by
  unfold notI at hy
  rw [List.mem_filter, sam_iff.2 e] at hy
  simp at hy
set_option maxHeartbeats 4000000 in
set_option maxRecDepth 100000 in
theorem exact_walk (A : Option Addr) (n c : Nat) (l : List Ir) (s d : ByteArray) (b : Bool) (w : World) (hS : SK irC 5 w A n l) (hn : n ≤ maxLen) (hs : s.size ≤ maxLen) (hd : d.size ≤ maxLen) :
    Calls Try.prog 7 #[.slice A n c, .agg #[.string s, .string d], .bool b] w fun e w' => e = .returned (.bool true) ∧ Below w.heap.size w w' := by
  have HRs := Lib.hid (fun (W : World) => rright_any s W hs)
  have HRd := Lib.hid (fun (W : World) => rright_any d W hd)
  have HWk := Lib.hid works_any
  have HS := Lib.hid hS
  have HL := Lib.hid hS.1
  have HCh := Lib.hid (fun (b2 : Bool) (A2 : Option Addr) (m c2 : Nat) (l2 : List Ir) (W : World) (h : SK irC 5 W A2 m l2) (hm : m ≤ maxLen) => choose_any A2 m c2 l2 s d b2 W h hm hs hd)
  obtain ⟨rs, hrs⟩ : ∃ rs, rightB s.data.toList = rs := ⟨_, rfl⟩
  obtain ⟨rd, hrd⟩ : ∃ rd, rightB d.data.toList = rd := ⟨_, rfl⟩
  rw [hrs] at HRs
  rw [hrd] at HRd
  have HP := Lib.hid (And.intro hrs hrd)
  obtain ⟨X, hX⟩ : ∃ X, w.heap.size = X := ⟨_, rfl⟩
  obtain ⟨W1, hW1⟩ : ∃ W1, w.alloc (.cells #[.string s, .string d] 47) = W1 := ⟨_, rfl⟩
  have k0 : W1.heap[X]? = some (.cells #[.string s, .string d] 47 (0, 0)) := by rw [← hW1, ← hX]; exact heap_alloc_new w _
  have HB1 : Hid (Below w.heap.size w W1) := Lib.hid (by rw [← hW1]; exact below1 _ _ _)
  have x0 := cellsN k0 0 _ rfl
  have x1 := cellsN k0 1 _ rfl
  have HW1 := Lib.hid hW1
  have HX := Lib.hid hX
  clear hW1 hX k0
  clear hS hn hs hd hrs hrd
  by_cases hlen : 60 < n
  · have hl2 : (60 : Int) < (n : Int) := by omega
    have hgt : decide ((n : Int) > 60) = true := decide_eq_true (by omega)
    go_enter Try.func7, Try.ntmps7
    go_wp2_with fail
    rw [HW1.out, HX.out]
    go_quiet (fail)
    generalize hW2 : W1.drewN _ = W2
    have HB2 : Hid (Below w.heap.size w W2) := Lib.hid (by rw [← hW2]; exact below_drewN HB1.out _)
    clear hW2 x0 x1
    go_wp2_with fail
    refine (HWk.out W2).mono ?_
    rintro e w9 ⟨rfl, hb9⟩
    have HB9 := Lib.hid (HB2.out.trans (hb9.mono HB2.out.size))
    clear hb9
    go_wp2
    go_ret
    exact ⟨rfl, HB9.out⟩
  · have hl2 : ¬ (60 : Int) < (n : Int) := by omega
    have hgt : decide ((n : Int) > 60) = false := decide_eq_false (by omega)
    go_enter Try.func7, Try.ntmps7
    go_wp2_with fail
    rw [HW1.out, HX.out]
    go_quiet (fail)
    generalize hW2 : W1.drewN _ = W2
    have HB2 : Hid (Below w.heap.size w W2) := Lib.hid (by rw [← hW2]; exact below_drewN HB1.out _)
    clear hW2 x0 x1
    cases rs with
    | false =>
      go_wp2_with fail
      refine (HRs.out W2).mono ?_
      rintro e w3 ⟨rfl, rfl⟩
      go_wp2_with fail
      refine (HWk.out W2).mono ?_
      rintro e w9 ⟨rfl, hb9⟩
      have HB9 := Lib.hid (HB2.out.trans (hb9.mono HB2.out.size))
      clear hb9
      go_wp2
      go_ret
      exact ⟨rfl, HB9.out⟩
    | true =>
      cases rd with
      | false =>
        go_wp2_with fail
        refine (HRs.out W2).mono ?_
        rintro e w3 ⟨rfl, rfl⟩
        go_wp2_with fail
        refine (HRd.out W2).mono ?_
        rintro e w3 ⟨rfl, rfl⟩
        go_wp2_with fail
        refine (HWk.out W2).mono ?_
        rintro e w9 ⟨rfl, hb9⟩
        have HB9 := Lib.hid (HB2.out.trans (hb9.mono HB2.out.size))
        clear hb9
        go_wp2
        go_ret
        exact ⟨rfl, HB9.out⟩
      | true =>
        go_wp2_with fail
        refine (HRs.out W2).mono ?_
        rintro e w3 ⟨rfl, rfl⟩
        go_wp2_with fail
        refine (HRd.out W2).mono ?_
        rintro e w3 ⟨rfl, rfl⟩
        obtain ⟨Y, hY⟩ : ∃ Y, W2.heap.size = Y := ⟨_, rfl⟩
        have HY := Lib.hid hY
        have hz0 : w.heap.size ≤ Y := hY ▸ HB2.out.size
        clear hY HRs HRd
        go_wp2
        go_loopw [9, 10] (fun vv iv wr => ∃ k : Nat, k ≤ n ∧ iv = .int .i64 (k : Int) ∧ Hid (irRow wr Y vv (notI (l.take k) s d)) ∧ Hid (Below Y W2 wr)) (fun _ iv _ => n - (intOf iv).toNat)
        case atStart => exact ⟨0, Nat.zero_le _, rfl, Lib.hid (rowK.nil _ _), Lib.hid (HY.out ▸ Below.refl _ _)⟩
        case round =>
          obtain ⟨k, hk, rfl, hrow, hb⟩ := hrel
          have HBw : Hid (Below w.heap.size w wr) := Lib.hid (HB2.out.trans (hb.out.mono hz0))
          have hYz : Y ≤ wr.heap.size := by have := hb.out.size; have := HY.out; omega
          have hle : (notI (l.take k) s d).length ≤ 1000000 := by
            have := not_length (l.take k) s d
            rw [List.length_take] at this
            omega
          by_cases hlt : k < n
          · have hkl : k < l.length := by rw [HL.out]; exact hlt
            obtain ⟨bb, off, rfl, hbl, hit⟩ := (HS.out.below HBw.out).at_ hlt hkl
            have hst := not_step (s := s) (d := d) hkl
            obtain ⟨x, hx⟩ : ∃ x, l[k] = x := ⟨_, rfl⟩
            rw [hx] at hit hst
            obtain ⟨e0, e1, e2, e3, e4⟩ := ir_cells hit
            have g0 : (0 : Int) ≤ (k : Int) := by omega
            have g1 : (k : Int) < (n : Int) := by omega
            have HSt := Lib.hid hst
            clear hst hx hit
            cases q1 : (x.src.toList == s.toList) with
            | false =>
              have HN : Hid (notI (l.take (k + 1)) s d = notI (l.take k) s d ++ [x]) := Lib.hid (by rw [HSt.out, if_neg (by unfold samI; rw [q1]; simp)])
              go_wp2_with (at_builtin; refine wpList_append_ir rfl (.tmp 53) (.tmp 58) rfl Y _ _ rfl ?qa wr.heap.size x rfl ?qb hle ?qc ?_)
              case qa => exact hrow.out.below ((Below.refl _ _).alloc (Nat.le_refl _) _)
              case qb => exact ir_new wr x _
              case qc => simp; omega
              refine Lib.hid ?_
              intro v' w' hown hgr
              have HB' := Lib.hid (irRow.snoc hrow.out hb.out hYz hgr)
              rw [← HN.out] at hown
              have HRw := Lib.hid hown
              clear hown hgr e0 e1 e2 e3 e4
              go_wp2
              go_roundw
              case rel => exact ⟨k + 1, by omega, by go_num, HRw, HB'⟩
              case measure => simp [intOf]; omega
            | true =>
              cases q2 : (x.dst.toList == d.toList) with
              | false =>
                have HN : Hid (notI (l.take (k + 1)) s d = notI (l.take k) s d ++ [x]) := Lib.hid (by rw [HSt.out, if_neg (by unfold samI; rw [q1, q2]; simp)])
                go_wp2_with (at_builtin; refine wpList_append_ir rfl (.tmp 53) (.tmp 58) rfl Y _ _ rfl ?qa wr.heap.size x rfl ?qb hle ?qc ?_)
                case qa => exact hrow.out.below ((Below.refl _ _).alloc (Nat.le_refl _) _)
                case qb => exact ir_new wr x _
                case qc => simp; omega
                refine Lib.hid ?_
                intro v' w' hown hgr
                have HB' := Lib.hid (irRow.snoc hrow.out hb.out hYz hgr)
                rw [← HN.out] at hown
                have HRw := Lib.hid hown
                clear hown hgr e0 e1 e2 e3 e4
                go_wp2
                go_roundw
                case rel => exact ⟨k + 1, by omega, by go_num, HRw, HB'⟩
                case measure => simp [intOf]; omega
              | true =>
                have HN : Hid (notI (l.take (k + 1)) s d = notI (l.take k) s d) := Lib.hid (by rw [HSt.out, if_pos (by unfold samI; rw [q1, q2]; rfl), List.append_nil])
                rw [← HN.out] at hrow
                go_wp2
                go_roundw
                case rel => exact ⟨k + 1, by omega, by go_num, hrow, hb⟩
                case measure => simp [intOf]; omega
          · have hke : notI (l.take k) s d = notI l s d := by rw [List.take_of_length_le (by rw [HL.out]; omega)]
            rw [hke] at hrow hle
            have hlm : (notI l s d).length ≤ n := by have := not_length l s d; rw [HL.out] at this; exact this
            clear hke
            go_wp2_with (at_builtin; refine wpList_append_ir rfl (.tmp 60) (.tmp 65) rfl Y _ _ rfl ?qa2 wr.heap.size ⟨s, d, b, 0, 0⟩ rfl ?qb2 hle ?qc2 ?_)
            case qa2 => exact hrow.out.below ((Below.refl _ _).alloc (Nat.le_refl _) _)
            case qb2 => exact ir_new wr ⟨s, d, b, 0, 0⟩ _
            case qc2 => simp; omega
            refine Lib.hid ?_
            intro v' w' hown hgr
            have HB' : Hid (Below w.heap.size w w') := Lib.hid (HB2.out.trans ((irRow.snoc hrow.out hb.out hYz hgr).mono hz0))
            obtain ⟨o, ho⟩ := chosen_ex (notI l s d ++ [⟨s, d, b, 0, 0⟩]) s d
            obtain ⟨o1, o2⟩ := exact_last (b0 := !b) HP.out.1 HP.out.2 not_mem ho
            have HO := Lib.hid ho
            have HO1 : Hid (cK o = ((notI l s d).length : Int)) := Lib.hid (by rw [o1]; rfl)
            have HO2 := Lib.hid o2
            obtain ⟨A2, c2, rfl, hS2, hle2, hmx2, _⟩ := SK.of_row irC_len hown
            have hlm2 : (notI l s d ++ [(⟨s, d, b, 0, 0⟩ : Ir)]).length = (notI l s d).length + 1 := by simp
            have HC := Lib.hid (HCh.out (!b) A2 _ c2 _ w' hS2 (by rw [hlm2]; unfold maxLen; omega))
            obtain ⟨N1, hN1⟩ : ∃ N1, (notI l s d).length = N1 := ⟨_, rfl⟩
            rw [hN1] at HO1 hlm2 hlm
            rw [hlm2] at HC ⊢
            clear hS2 hle2 hmx2 hown hgr ho o1 o2 hrow hle hN1
            go_wp2_with fail
            refine HC.out.mono ?_
            rintro e w5 h5
            obtain ⟨he, hb5⟩ := h5.is HO.out
            rw [HO1.out, HO2.out] at he
            subst he
            have HB5 : Hid (Below w.heap.size w w5) := Lib.hid (HB'.out.trans (hb5.mono HB'.out.size))
            have z1 : ((N1 + 1 : Nat) : Int) - 1 = (N1 : Int) := by omega
            have z2 : ((N1 : Int) == ((N1 + 1 : Nat) : Int) - 1) = true := by rw [beq_iff_eq]; omega
            clear hb5 h5 HC
            go_wp2_with fail
            refine (HWk.out w5).mono ?_
            rintro e w9 ⟨rfl, hb9⟩
            have HB9 := Lib.hid (HB5.out.trans (hb9.mono HB5.out.size))
            clear hb9
            go_wp2
            go_ret
            exact ⟨rfl, HB9.out⟩
end Go.Proofs.Ytmegfkclpjddgaa
