/-
  Any entries are loaded as they are, or are refused, just as the document says: May, and the law sodalitylaw16.KvLoads, walked.
-/
import Derived.Test.YtohnkagabpefdaaDoorZj42
import Derived.Test.YtohnkagabpefdaaDoorZj43
namespace Go.Proofs.YtohnkagabpefdaaDoor
open Go.RowKit Go.Rel
set_option linter.unusedSimpArgs false
set_option linter.unusedVariables false

def MayPost (w : World) (M : Nat) (l : List En) (last : Nat) (e : Ending) (w' : World) : Prop := Below w.heap.size w w' ∧ ∃ r, e = .returned (.bool r) ∧ (r = true ↔ LoadOk M l last)
theorem wrong_zero (k v : ByteArray) : wrongN k v = 0 ↔ keyB k.data.toList = true ∧ v.size ≤ 64 := by
  unfold wrongN
  by_cases h1 : keyB k.data.toList = true <;> by_cases h2 : v.size ≤ 64 <;> simp [h1, h2]
set_option maxHeartbeats 8000000 in
set_option maxRecDepth 100000 in
theorem may_any (m : Int) (A : Option Addr) (n c : Nat) (l : List En) (last : Nat) (w : World) (hm : -9223372036854775808 ≤ m ∧ m ≤ 9223372036854775807) (hS : SK enC 6 w A n l) (hn : n ≤ maxLen) (hi : ∀ e ∈ l, InE e) :
    Calls Tryd.prog 6 #[.int .i64 m, .slice A n c, .int .u64 (last : Int)] w (MayPost w (mostT m) l last) := by
  unfold maxLen at hn
  have hn' : (n : Int) ≤ 9223372036854775807 := by omega
  have HNew := Lib.hid (krnew_any m w hm)
  have HMo := Lib.hid (mostT_le m)
  obtain ⟨M, hMM⟩ : ∃ M, mostT m = M := ⟨_, rfl⟩
  rw [hMM] at HNew HMo ⊢
  have HSS := Lib.hid hS
  have HSl := Lib.hid hS.1
  have HIn := Lib.hid hi
  clear hS hn hi hm hMM
  go_enter Tryd.func6, Tryd.ntmps6
  go_wp2_with fail
  refine HNew.out.mono ?_
  rintro e w1 ⟨rfl, ⟨_, A2, c2, hkr⟩, hb1⟩
  have c0 := hkr.c0
  have hl0 := hkr.lt
  simp only at c0
  have HB1 := Lib.hid hb1
  clear hkr hb1 HNew
  by_cases hnM : M < n
  · have q : (M : Int) < (n : Int) := by omega
    have HNo : Hid (¬ LoadOk M l last) := Lib.hid fun z => by have := z.1; rw [HSl.out] at this; omega
    clear hnM
    go_wp2
    refine bodyPost_ret (v := .bool false) (by simp [results, Tryd.results6, go_sem]) rfl ?_
    exact ⟨HB1.out, false, rfl, ⟨(fun z => by cases z), fun z => absurd z HNo.out⟩⟩
  have q : ¬ (M : Int) < (n : Int) := by omega
  go_wp2
  clear c0 hl0
  go_loopw [7] (fun iv wr => ∃ k : Nat, k ≤ n ∧ iv = .int .i64 (k : Int) ∧ Hid (∀ j, ∀ h : j < l.length, j < k → fitE last l[j] ∧ (∀ h1 : 1 ≤ j, ltT (l[j - 1]'(by omega)).key l[j].key = true)) ∧ Hid (Below w.heap.size w wr)) (fun iv _ => n - (intOf iv).toNat)
  case atStart => exact ⟨0, Nat.zero_le _, rfl, Lib.hid (fun j h hj => by omega), HB1⟩
  case round =>
    obtain ⟨k, hk, rfl, hf, hb⟩ := hrel
    by_cases hlt : k < n
    · have hkl : k < l.length := by rw [HSl.out]; exact hlt
      obtain ⟨b, off, rfl, hbl, hit⟩ := (HSS.out.below hb.out).at_ hlt hkl
      have hin := HIn.out l[k] (List.getElem_mem _)
      have hkb : k - 1 < l.length := by omega
      have hfo : LoadOk M l last → fitE last l[k] := fun z => z.2.2 _ (List.getElem_mem _)
      have hro : LoadOk M l last → 1 ≤ k → ltT (l[k - 1]'(by omega)).key l[k].key = true := fun z h => z.2.1 k h hkl
      obtain ⟨y, hy⟩ : ∃ y, l[k] = y := ⟨_, rfl⟩
      have HYy := Lib.hid hy
      rw [hy] at hit hin hfo hro
      have HFitOf := Lib.hid hfo
      obtain ⟨Y, hY⟩ : ∃ Y, wr.heap.size = Y := ⟨_, rfl⟩
      obtain ⟨W3, hW3⟩ : ∃ W3, wr.alloc (.cells #[.string y.key, .string y.val.v, .int .u64 (y.val.ses : Int), .int .u64 (y.val.lck : Int), .int .u64 (y.made : Int), .int .u64 (y.ix : Int)] TEn) = W3 := ⟨_, rfl⟩
      have hb3 : Below wr.heap.size wr W3 := by rw [← hW3]; exact below1 _ _ _
      have ky : W3.heap[Y]? = some (.cells #[.string y.key, .string y.val.v, .int .u64 (y.val.ses : Int), .int .u64 (y.val.lck : Int), .int .u64 (y.made : Int), .int .u64 (y.ix : Int)] TEn (0, 0)) := by rw [← hW3, ← hY]; exact heap_alloc_new wr _
      have HB3 : Hid (Below w.heap.size w W3) := Lib.hid (step_trans hb.out hb3)
      have HWr : Hid (∀ q, Calls Tryd.prog 27 #[.string y.key, .string y.val.v] (W3.drewN q) fun e w' => e = .returned (.int .i64 (wrongN y.key y.val.v : Int)) ∧ w' = W3.drewN q) := Lib.hid (fun q => (rwrong_any y.key y.val.v (W3.drewN q) hin.1 hin.2.1).mono fun _ _ h => ⟨h.1, h.2.symm⟩)
      obtain ⟨wn, hwn⟩ : ∃ wn, wrongN y.key y.val.v = wn := ⟨_, rfl⟩
      rw [hwn] at HWr
      obtain ⟨e0, e1, e2, e3, e4, e5⟩ := Kt.tr_cells hit
      obtain ⟨d0, d1, d2, d3, d4, d5⟩ := Kt.blk ky
      have hyl := block_lt ky
      have HW3 := Lib.hid hW3
      have HY := Lib.hid hY
      have q1 : (k : Int) < (n : Int) := by omega
      have q0 : (0 : Int) ≤ (k : Int) := by omega
      by_cases hw0 : wn = 0
      case neg =>
        have HNo : Hid (¬ LoadOk M l last) := Lib.hid fun z => hw0 (by rw [← hwn]; exact (wrong_zero _ _).2 ⟨(hfo z).1, (hfo z).2.1⟩)
        have wz : ((wn : Int) != 0) = true := by rw [nat_bne0]; simp [hw0]
        clear hit hin hfo hro hy hY hW3 hb3 ky hwn hw0
        go_wp2_with fail
        rw [HW3.out, HY.out]
        go_quiet ((go_at_call 27; with_reducible exact Calls.quiet_of_same (HWr.out _)))
        generalize hWq : W3.drewN _ = wq
        have HBq : Hid (Below w.heap.size w wq) := Lib.hid (by rw [← hWq]; exact below_drewN HB3.out _)
        clear hWq HWr
        go_wp2
        refine bodyPost_ret (v := .bool false) (by simp [results, Tryd.results6, go_sem]) rfl ?_
        exact ⟨HBq.out, false, rfl, ⟨(fun z => by cases z), fun z => absurd z HNo.out⟩⟩
      subst hw0
      have HWok := Lib.hid ((wrong_zero _ _).1 hwn)
      have wz : (((0 : Nat) : Int) != 0) = false := rfl
      by_cases hk0 : k = 0
      · have HRk : Hid (1 ≤ k → ltT (l[k - 1]'hkb).key y.key = true) := Lib.hid fun h1 => by omega
        have qz : ¬ (0 : Int) < (k : Int) := by omega
        have qz' : decide (0 < k) = false := decide_eq_false (by omega)
        clear hit hin hfo hro hy hY hW3 hb3 ky hwn hk0
        by_cases h3 : y.ix < y.made
        · have HNo : Hid (¬ LoadOk M l last) := Lib.hid fun z => by
            have := (HFitOf.out z).2.2.1
            omega
          have t1 : (y.ix : Int) < (y.made : Int) := by omega
          have t1' : decide (y.ix < y.made) = true := decide_eq_true (by omega)
          clear h3
          go_wp2_with fail
          rw [HW3.out, HY.out]
          go_quiet ((go_at_call 27; with_reducible exact Calls.quiet_of_same (HWr.out _)))
          generalize hWq : W3.drewN _ = wq
          have HBq : Hid (Below w.heap.size w wq) := Lib.hid (by rw [← hWq]; exact below_drewN HB3.out _)
          clear hWq HWr
          go_wp2
          refine bodyPost_ret (v := .bool false) (by simp [results, Tryd.results6, go_sem]) rfl ?_
          exact ⟨HBq.out, false, rfl, ⟨(fun z => by cases z), fun z => absurd z HNo.out⟩⟩
        · have t1 : ¬ (y.ix : Int) < (y.made : Int) := by omega
          have t1' : decide (y.ix < y.made) = false := decide_eq_false (by omega)
          by_cases h4 : last < y.ix
          · have HNo : Hid (¬ LoadOk M l last) := Lib.hid fun z => by
              have := (HFitOf.out z).2.2.2
              omega
            have t2 : (last : Int) < (y.ix : Int) := by omega
            have t2' : decide (last < y.ix) = true := decide_eq_true (by omega)
            clear h3 h4
            go_wp2_with fail
            rw [HW3.out, HY.out]
            go_quiet ((go_at_call 27; with_reducible exact Calls.quiet_of_same (HWr.out _)))
            generalize hWq : W3.drewN _ = wq
            have HBq : Hid (Below w.heap.size w wq) := Lib.hid (by rw [← hWq]; exact below_drewN HB3.out _)
            clear hWq HWr
            go_wp2
            refine bodyPost_ret (v := .bool false) (by simp [results, Tryd.results6, go_sem]) rfl ?_
            exact ⟨HBq.out, false, rfl, ⟨(fun z => by cases z), fun z => absurd z HNo.out⟩⟩
          · have t2 : ¬ (last : Int) < (y.ix : Int) := by omega
            have t2' : decide (last < y.ix) = false := decide_eq_false (by omega)
            have HOk1 : Hid (∀ j, ∀ h : j < l.length, j < k + 1 → fitE last l[j] ∧ (∀ h1 : 1 ≤ j, ltT (l[j - 1]'(by omega)).key l[j].key = true)) := Lib.hid fun j h hj => by
              by_cases hjk : j < k
              · exact hf.out j h hjk
              · obtain rfl : j = k := by omega
                have ey := HYy.out
                rw [ey]
                exact ⟨⟨HWok.out.1, HWok.out.2, by omega, by omega⟩, HRk.out⟩
            clear h3 h4
            go_wp2_with fail
            rw [HW3.out, HY.out]
            go_quiet ((go_at_call 27; with_reducible exact Calls.quiet_of_same (HWr.out _)))
            generalize hWq : W3.drewN _ = wq
            have HBq : Hid (Below w.heap.size w wq) := Lib.hid (by rw [← hWq]; exact below_drewN HB3.out _)
            clear hWq HWr
            go_wp2
            go_roundw
            case rel => exact ⟨k + 1, by omega, by go_num, HOk1, HBq⟩
            case measure => simp [intOf]; omega
      · have hk1 : 1 ≤ k := by omega
        have qz : (0 : Int) < (k : Int) := by omega
        have qz' : decide (0 < k) = true := decide_eq_true (by omega)
        obtain ⟨b2, off2, e2', hbl2, hit2⟩ := (HSS.out.below hb.out).at_ (j := k - 1) (by omega) (by omega)
        cases e2'
        obtain ⟨x, hx⟩ : ∃ x, l[k - 1]'(by omega) = x := ⟨_, rfl⟩
        have HXx := Lib.hid hx
        rw [hx] at hit2 hro
        have x0 : W3.cell? ⟨b, off + (k - 1) * 6, none⟩ = some (.string x.key) := (hb3.cell (p := ⟨b, off + (k - 1) * 6, none⟩) hbl).trans (Kt.tr_cells hit2).1
        have q2 : ((k : Int) - 1).toNat = k - 1 := by omega
        have q3 : (0 : Int) ≤ (k : Int) - 1 := by omega
        have q4 : (k : Int) - 1 < (n : Int) := by omega
        have qs : IntKind.i64.wrap ((k : Int) - 1) = (k : Int) - 1 := by simp [IntKind.wrap, IntKind.bits, IntKind.signed]; omega
        cases hlx : ltT x.key y.key with
        | false =>
          have HNo : Hid (¬ LoadOk M l last) := Lib.hid fun z => by have := hro z hk1; rw [hlx] at this; cases this
          have g1 : Op.bytesLess x.key.toList y.key.toList = false := hlx
          clear hit hin hfo hro hy hY hW3 hb3 ky hwn hit2 hx hlx hk0
          go_wp2_with fail
          rw [HW3.out, HY.out]
          go_quiet ((go_at_call 27; with_reducible exact Calls.quiet_of_same (HWr.out _)))
          generalize hWq : W3.drewN _ = wq
          have HBq : Hid (Below w.heap.size w wq) := Lib.hid (by rw [← hWq]; exact below_drewN HB3.out _)
          clear hWq HWr
          go_wp2
          refine bodyPost_ret (v := .bool false) (by simp [results, Tryd.results6, go_sem]) rfl ?_
          exact ⟨HBq.out, false, rfl, ⟨(fun z => by cases z), fun z => absurd z HNo.out⟩⟩
        | true =>
          have HRk : Hid (1 ≤ k → ltT (l[k - 1]'hkb).key y.key = true) := Lib.hid fun h1 => by have := HXx.out; rw [this]; exact hlx
          have g1 : Op.bytesLess x.key.toList y.key.toList = true := hlx
          clear hit hin hfo hro hy hY hW3 hb3 ky hwn hit2 hx hlx hk0
          by_cases h3 : y.ix < y.made
          · have HNo : Hid (¬ LoadOk M l last) := Lib.hid fun z => by
              have := (HFitOf.out z).2.2.1
              omega
            have t1 : (y.ix : Int) < (y.made : Int) := by omega
            have t1' : decide (y.ix < y.made) = true := decide_eq_true (by omega)
            clear h3
            go_wp2_with fail
            rw [HW3.out, HY.out]
            go_quiet ((go_at_call 27; with_reducible exact Calls.quiet_of_same (HWr.out _)))
            generalize hWq : W3.drewN _ = wq
            have HBq : Hid (Below w.heap.size w wq) := Lib.hid (by rw [← hWq]; exact below_drewN HB3.out _)
            clear hWq HWr
            go_wp2
            refine bodyPost_ret (v := .bool false) (by simp [results, Tryd.results6, go_sem]) rfl ?_
            exact ⟨HBq.out, false, rfl, ⟨(fun z => by cases z), fun z => absurd z HNo.out⟩⟩
          · have t1 : ¬ (y.ix : Int) < (y.made : Int) := by omega
            have t1' : decide (y.ix < y.made) = false := decide_eq_false (by omega)
            by_cases h4 : last < y.ix
            · have HNo : Hid (¬ LoadOk M l last) := Lib.hid fun z => by
                have := (HFitOf.out z).2.2.2
                omega
              have t2 : (last : Int) < (y.ix : Int) := by omega
              have t2' : decide (last < y.ix) = true := decide_eq_true (by omega)
              clear h3 h4
              go_wp2_with fail
              rw [HW3.out, HY.out]
              go_quiet ((go_at_call 27; with_reducible exact Calls.quiet_of_same (HWr.out _)))
              generalize hWq : W3.drewN _ = wq
              have HBq : Hid (Below w.heap.size w wq) := Lib.hid (by rw [← hWq]; exact below_drewN HB3.out _)
              clear hWq HWr
              go_wp2
              refine bodyPost_ret (v := .bool false) (by simp [results, Tryd.results6, go_sem]) rfl ?_
              exact ⟨HBq.out, false, rfl, ⟨(fun z => by cases z), fun z => absurd z HNo.out⟩⟩
            · have t2 : ¬ (last : Int) < (y.ix : Int) := by omega
              have t2' : decide (last < y.ix) = false := decide_eq_false (by omega)
              have HOk1 : Hid (∀ j, ∀ h : j < l.length, j < k + 1 → fitE last l[j] ∧ (∀ h1 : 1 ≤ j, ltT (l[j - 1]'(by omega)).key l[j].key = true)) := Lib.hid fun j h hj => by
                by_cases hjk : j < k
                · exact hf.out j h hjk
                · obtain rfl : j = k := by omega
                  have ey := HYy.out
                  rw [ey]
                  exact ⟨⟨HWok.out.1, HWok.out.2, by omega, by omega⟩, HRk.out⟩
              clear h3 h4
              go_wp2_with fail
              rw [HW3.out, HY.out]
              go_quiet ((go_at_call 27; with_reducible exact Calls.quiet_of_same (HWr.out _)))
              generalize hWq : W3.drewN _ = wq
              have HBq : Hid (Below w.heap.size w wq) := Lib.hid (by rw [← hWq]; exact below_drewN HB3.out _)
              clear hWq HWr
              go_wp2
              go_roundw
              case rel => exact ⟨k + 1, by omega, by go_num, HOk1, HBq⟩
              case measure => simp [intOf]; omega
    · have HYes : Hid (LoadOk M l last) := Lib.hid ⟨by rw [HSl.out]; omega, fun j h1 h2 => (hf.out j h2 (by have := HSl.out; omega)).2 h1, fun e he => by
        obtain ⟨j, hj, rfl⟩ := List.getElem_of_mem he
        exact (hf.out j hj (by have := HSl.out; omega)).1⟩
      go_wp2
      refine bodyPost_ret (v := .bool true) (by simp [results, Tryd.results6, go_sem]) rfl ?_
      exact ⟨hb.out, true, rfl, ⟨fun _ => HYes.out, fun _ => rfl⟩⟩
set_option maxHeartbeats 8000000 in
set_option maxRecDepth 100000 in
theorem loads_walk (m : Int) (hm : -9223372036854775808 ≤ m ∧ m ≤ 9223372036854775807) (A : Option Addr) (c : Nat) (l : List En) (last : Nat) (w : World) (hS : SK enC 6 w A l.length l) (hn : l.length ≤ maxLen) (hi : ∀ e ∈ l, InE e) (hlast : last < 18446744073709551616) (hM : MaxIs w) :
    Calls Tryd.prog 3 #[.int .i64 m, .slice A l.length c, .int .u64 (last : Int)] w fun e w' => e = .returned (.bool true) ∧ Below w.heap.size w w' := by
  have HLd := Lib.hid (load_any m A l.length c l last w hm hS hn hi hlast hM)
  have HMy := Lib.hid (fun (W : World) (hw : Below w.heap.size w W) => may_any m A l.length c l last W hm (hS.below hw) hn hi)
  have HWk := Lib.hid (fun (W : World) (hw : Below w.heap.size w W) => works_any W (hM.keep hw))
  have HSm := Lib.hid (fun (A3 : Option Addr) (c3 : Nat) (W : World) (hw : Below w.heap.size w W) (h3 : SK enC 6 W A3 l.length l) => rsame_any A3 l.length c3 l A c W h3 (hS.below hw) hn)
  obtain ⟨L, hL⟩ : ∃ L, l.length = L := ⟨_, rfl⟩
  have HL := Lib.hid hL
  rw [hL] at HLd HMy HSm ⊢
  clear hS hn hi hm hM hlast hL
  go_enter Tryd.func3, Tryd.ntmps3
  go_wp2_with fail
  refine HLd.out.mono ?_
  rintro e w1 ⟨hb1, h1⟩
  have HB1 := Lib.hid hb1
  have H1 := Lib.hid h1
  clear hb1 h1 HLd
  obtain ⟨hok, B, Bt, rfl, hkv⟩ | ⟨hno, rfl⟩ := H1.out
  · have HY := Lib.hid hok
    have HK := Lib.hid hkv
    clear hok hkv H1
    go_wp2_with fail
    refine (HMy.out w1 HB1.out).mono ?_
    rintro e w2 ⟨hb2, r, rfl, hr⟩
    obtain rfl : r = true := hr.2 HY.out
    have HB2 := Lib.hid (step_trans HB1.out hb2)
    have HK2 := Lib.hid (HK.out.below hb2)
    have HCl := Lib.hid (klist_any ⟨#[]⟩ HK2.out (by decide))
    rw [und_all] at HCl
    simp only [HL.out] at HCl
    clear HK hb2 hr HY HMy
    go_wp2_with fail
    refine HCl.out.mono ?_
    rintro e w3 ⟨A3, c3, he, s3, -, -, -, hb3⟩
    simp only [HL.out] at he s3
    subst he
    have HB3 := Lib.hid (step_trans HB2.out hb3)
    have HK3 := Lib.hid (HK2.out.below hb3)
    have HS3 := Lib.hid (HSm.out A3 c3 w3 HB3.out s3)
    clear HCl HK2 hb3 s3
    go_wp2_with fail
    refine HS3.out.mono ?_
    rintro e w4 ⟨rfl, hb4⟩
    have HB4 := Lib.hid (step_trans HB3.out hb4)
    have HLt := Lib.hid (klast_any (HK3.out.below hb4))
    simp only at HLt
    clear HS3 HK3 hb4
    go_wp2_with fail
    refine HLt.out.mono ?_
    rintro e w5 ⟨rfl, rfl⟩
    clear HLt
    go_wp2_with fail
    refine (HWk.out w4 HB4.out).mono ?_
    rintro e w6 ⟨rfl, hb6⟩
    have HB6 := Lib.hid (step_trans HB4.out hb6)
    clear hb6
    go_wp2
    go_ret
    exact ⟨rfl, HB6.out⟩
  · have HY := Lib.hid hno
    clear hno H1
    go_wp2_with fail
    refine (HMy.out w1 HB1.out).mono ?_
    rintro e w2 ⟨hb2, r, rfl, hr⟩
    obtain rfl : r = false := by
      cases r with
      | false => rfl
      | true => exact absurd (hr.1 rfl) HY.out
    have HB2 := Lib.hid (step_trans HB1.out hb2)
    clear hb2 hr HY HMy
    go_wp2_with fail
    refine (HWk.out w2 HB2.out).mono ?_
    rintro e w6 ⟨rfl, hb6⟩
    have HB6 := Lib.hid (step_trans HB2.out hb6)
    clear hb6
    go_wp2
    go_ret
    exact ⟨rfl, HB6.out⟩
end Go.Proofs.YtohnkagabpefdaaDoor
