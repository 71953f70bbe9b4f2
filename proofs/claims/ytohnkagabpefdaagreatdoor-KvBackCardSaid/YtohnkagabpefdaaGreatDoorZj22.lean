/-
  The program's store: the checks' and the turns' functions, and fault, walked (layer 16).
-/
import Derived.Test.YtohnkagabpefdaaGreatDoorZj21
import Derived.Test.YtohnkagabpefdaaGreatDoorZj15
namespace Go.Proofs.YtohnkagabpefdaaGreatDoor
open Go.RowKit
set_option linter.unusedSimpArgs false
set_option linter.unusedVariables false

/-- A function's value by its closure's contract. -/
theorem Does.of {w : World} {g : Nat} {lb : Array Value} {e0 : En} {v : Value} (eg : ∀ args w, (callFunc g args).run Tryz.prog w = .ok (.enter g args) w) (h : ∀ W, Below w.heap.size w W → Calls Tryz.prog g (#[enV e0] ++ lb) W fun e w' => e = .returned v ∧ Below W.heap.size W w') : Does w (.func (.func g) #[] lb) e0 v := ⟨g, lb, rfl, eg, h⟩
theorem fits_any (v : ByteArray) (w : World) (hv : v.size ≤ maxLen) : Calls Tryz.prog 69 #[.string v] w fun e w' => e = .returned (.bool (decide (v.size ≤ 64))) ∧ w = w' := by
  unfold maxLen at hv
  by_cases h : v.size ≤ 64
  · have d : decide ((v.size : Int) ≤ 64) = true := decide_eq_true (by omega)
    have HD := Lib.hid (decide_eq_true h)
    go_enter Tryz.func69, Tryz.ntmps69
    go_wp2
    go_ret
    exact ⟨ret_bool HD.out.symm, rfl⟩
  · have d : decide ((v.size : Int) ≤ 64) = false := decide_eq_false (by omega)
    have HD := Lib.hid (decide_eq_false h)
    go_enter Tryz.func69, Tryz.ntmps69
    go_wp2
    go_ret
    exact ⟨ret_bool HD.out.symm, rfl⟩
theorem named1_any (key : ByteArray) (X : Nat) (e0 : En) (w : World) (k : w.heap[X]? = some (.cells #[.string key] 9 (0, 0))) (hM : MaxIs w) (hs : key.size ≤ maxLen) :
    Calls Tryz.prog 83 #[enV e0, .pointer (some ⟨X, 0, none⟩)] w fun e w' => e = .returned (.bool (keyB key.data.toList)) ∧ Below w.heap.size w w' := by
  obtain ⟨W1, hW1⟩ : ∃ W1, w.alloc (.cells #[.string e0.key, .string e0.val.v, .int .u64 (e0.val.ses : Int), .int .u64 (e0.val.lck : Int), .int .u64 (e0.made : Int), .int .u64 (e0.ix : Int)] TEn) = W1 := ⟨_, rfl⟩
  have hb1 : Below w.heap.size w W1 := by rw [← hW1]; exact below1 _ _ _
  have c0 : w.cell? ⟨X, 0, none⟩ = some (.string key) := cellsN k 0 _ rfl
  have hXl := block_lt k
  have HK := Lib.hid (key_any key W1 hs (hM.keep hb1))
  have HB1 := Lib.hid hb1
  have HW1 := Lib.hid hW1
  unfold enV Kt.trV
  clear k hM hs hW1 hb1
  go_enter Tryz.func83, Tryz.ntmps83
  go_wp2_with fail
  rw [HW1.out]
  refine HK.out.mono ?_
  rintro e w2 ⟨rfl, hb2⟩
  have HB2 := Lib.hid (HB1.out.trans (hb2.mono HB1.out.size))
  clear hb2
  go_wp2
  go_ret
  exact ⟨rfl, HB2.out⟩
theorem short1_any (v : ByteArray) (X : Nat) (e0 : En) (w : World) (k : w.heap[X]? = some (.cells #[.string v] 9 (0, 0))) (hs : v.size ≤ maxLen) :
    Calls Tryz.prog 68 #[enV e0, .pointer (some ⟨X, 0, none⟩)] w fun e w' => e = .returned (.bool (decide (v.size ≤ 64))) ∧ Below w.heap.size w w' := by
  have c0 : w.cell? ⟨X, 0, none⟩ = some (.string v) := cellsN k 0 _ rfl
  have hXl := block_lt k
  have HF := Lib.hid (fun W => fits_any v W hs)
  unfold enV Kt.trV
  clear k hs
  go_enter Tryz.func68, Tryz.ntmps68
  go_wp2_with fail
  refine (HF.out _).mono ?_
  rintro e w' ⟨rfl, rfl⟩
  go_wp2
  go_ret
  exact ⟨rfl, below1 _ _ _⟩
theorem with1_any (v : ByteArray) (X : Nat) (e0 : En) (w : World) (k : w.heap[X]? = some (.cells #[.string v] 9 (0, 0))) :
    Calls Tryz.prog 70 #[enV e0, .pointer (some ⟨X, 0, none⟩)] w fun e w' => e = .returned (enV { e0 with val := { e0.val with v := v } }) ∧ Below w.heap.size w w' := by
  have c0 : w.cell? ⟨X, 0, none⟩ = some (.string v) := cellsN k 0 _ rfl
  have hXl := block_lt k
  unfold enV Kt.trV
  clear k
  go_enter Tryz.func70, Tryz.ntmps70
  go_wp2
  refine bodyPost_ret (v := .agg #[.string e0.key, .string v, .int .u64 (e0.val.ses : Int), .int .u64 (e0.val.lck : Int), .int .u64 (e0.made : Int), .int .u64 (e0.ix : Int)]) (by simp [results, Tryz.results70, go_sem]) rfl ⟨rfl, below2 _ _ _ _ _⟩
theorem gone_any (e0 : En) (w : World) : Calls Tryz.prog 54 #[enV e0] w fun e w' => e = .returned (enV noEn) ∧ Below w.heap.size w w' := by
  unfold enV Kt.trV
  go_enter Tryz.func54, Tryz.ntmps54
  go_wp2
  refine bodyPost_ret (v := .agg #[.string ⟨#[]⟩, .string ⟨#[]⟩, .int .u64 0, .int .u64 0, .int .u64 0, .int .u64 0]) (by simp [results, Tryz.results54, go_sem]) rfl ⟨rfl, below2 _ _ _ _ _⟩
theorem named_any (s : ByteArray) (w : World) (hs : s.size ≤ maxLen) (hM : MaxIs w) :
    Calls Tryz.prog 66 #[.string s] w fun e w' => ∃ fv, e = .returned (.agg #[fv, .int .i64 10]) ∧ fv.oneCell' = true ∧ (∀ e0, Does w' fv e0 (.bool (keyB s.data.toList))) ∧ Below w.heap.size w w' := by
  obtain ⟨W1, hW1⟩ : ∃ W1, (w.alloc (.cells #[.string s] 9)).alloc (.cells #[.func (.func 83) #[] #[.pointer (some ⟨w.heap.size, 0, none⟩)], .int .i64 10] TCk) = W1 := ⟨_, rfl⟩
  have hb1 : Below w.heap.size w W1 := by rw [← hW1]; exact below2 _ _ _ _ _
  have k1 : W1.heap[w.heap.size]? = some (.cells #[.string s] 9 (0, 0)) := by
    rw [← hW1]
    exact ((below1 (w.alloc (.cells #[.string s] 9)) _ _).block w.heap.size (by simp)).trans (heap_alloc_new w _)
  have HD : Hid (∀ e0, Does W1 (.func (.func 83) #[] #[.pointer (some ⟨w.heap.size, 0, none⟩)]) e0 (.bool (keyB s.data.toList))) := Lib.hid fun e0 => Does.of (enters_of Tryz.func83 (by kernel_rfl) rfl) fun W hW => named1_any s w.heap.size e0 W ((hW.block _ (block_lt k1)).trans k1) (hM.keep (hb1.trans (hW.mono hb1.size))) hs
  have HB := Lib.hid hb1
  have HW1 := Lib.hid hW1
  clear hs hb1 k1 hW1 hM
  go_enter Tryz.func66, Tryz.ntmps66
  go_wp2
  rw [HW1.out]
  refine bodyPost_ret (v := .agg #[.func (.func 83) #[] #[.pointer (some ⟨w.heap.size, 0, none⟩)], .int .i64 10]) ?_ rfl ⟨_, rfl, rfl, HD.out, HB.out⟩
  rw [← HW1.out]
  simp [results, Tryz.results66, go_sem]
theorem short_any (s : ByteArray) (w : World) (hs : s.size ≤ maxLen) :
    Calls Tryz.prog 42 #[.string s] w fun e w' => ∃ fv, e = .returned (.agg #[fv, .int .i64 3]) ∧ fv.oneCell' = true ∧ (∀ e0, Does w' fv e0 (.bool (decide (s.size ≤ 64)))) ∧ Below w.heap.size w w' := by
  obtain ⟨W1, hW1⟩ : ∃ W1, (w.alloc (.cells #[.string s] 9)).alloc (.cells #[.func (.func 68) #[] #[.pointer (some ⟨w.heap.size, 0, none⟩)], .int .i64 3] TCk) = W1 := ⟨_, rfl⟩
  have hb1 : Below w.heap.size w W1 := by rw [← hW1]; exact below2 _ _ _ _ _
  have k1 : W1.heap[w.heap.size]? = some (.cells #[.string s] 9 (0, 0)) := by
    rw [← hW1]
    exact ((below1 (w.alloc (.cells #[.string s] 9)) _ _).block w.heap.size (by simp)).trans (heap_alloc_new w _)
  have HD : Hid (∀ e0, Does W1 (.func (.func 68) #[] #[.pointer (some ⟨w.heap.size, 0, none⟩)]) e0 (.bool (decide (s.size ≤ 64)))) := Lib.hid fun e0 => Does.of (enters_of Tryz.func68 (by kernel_rfl) rfl) fun W hW => short1_any s w.heap.size e0 W ((hW.block _ (block_lt k1)).trans k1) hs
  have HB := Lib.hid hb1
  have HW1 := Lib.hid hW1
  clear hs hb1 k1 hW1
  go_enter Tryz.func42, Tryz.ntmps42
  go_wp2
  rw [HW1.out]
  refine bodyPost_ret (v := .agg #[.func (.func 68) #[] #[.pointer (some ⟨w.heap.size, 0, none⟩)], .int .i64 3]) ?_ rfl ⟨_, rfl, rfl, HD.out, HB.out⟩
  rw [← HW1.out]
  simp [results, Tryz.results42, go_sem]
end Go.Proofs.YtohnkagabpefdaaGreatDoor
/-
  The closures of Cas, DelCas, Lock, Unlock, Free, walked (layer 16).
-/
namespace Go.Proofs.YtohnkagabpefdaaGreatDoor
open Go.RowKit Go.Rel
set_option linter.unusedSimpArgs false
set_option linter.unusedVariables false

def casY (X : Nat) (Y : Nat) (old : Nat) (e0 : En) (b : Bool) (c : Bool) (d : Bool) : Nat → Value
  | 0 => .agg #[.string e0.key, .string e0.val.v, .int .u64 (e0.val.ses : Int), .int .u64 (e0.val.lck : Int), .int .u64 (e0.made : Int), .int .u64 (e0.ix : Int)]
  | 1 => .bool b
  | 2 | 8 => .int .u64 (old : Int)
  | 3 => .bool c
  | 4 | 5 => .bool true
  | 6 => .pointer (some ⟨Y, 5, none⟩)
  | 7 => .int .u64 (e0.ix : Int)
  | 9 | 10 | 11 => .bool d
  | _ => undef
def casN (X : Nat) (Y : Nat) (old : Nat) (e0 : En) (b : Bool) (c : Bool) (d : Bool) : Nat → Value
  | 0 => .agg #[.string e0.key, .string e0.val.v, .int .u64 (e0.val.ses : Int), .int .u64 (e0.val.lck : Int), .int .u64 (e0.made : Int), .int .u64 (e0.ix : Int)]
  | 1 => .bool b
  | 2 => .int .u64 (old : Int)
  | 3 => .bool c
  | 4 | 5 | 10 | 11 => .bool false
  | _ => undef
set_option maxHeartbeats 1000000 in
theorem cas1_any (old X : Nat) (e0 : En) (w : World) (k : w.heap[X]? = some (.cells #[.int .u64 (old : Int)] 28 (0, 0))) :
    Calls Tryz.prog 39 #[enV e0, .pointer (some ⟨X, 0, none⟩)] w fun e w' => e = .returned (.bool ((!eqE e0 noEn) == (old != 0) && e0.ix == old)) ∧ Below w.heap.size w w' := by
  obtain ⟨Y, hY⟩ : ∃ Y, w.heap.size = Y := ⟨_, rfl⟩
  obtain ⟨W1, hW1⟩ : ∃ W1, w.alloc (.cells #[.string e0.key, .string e0.val.v, .int .u64 (e0.val.ses : Int), .int .u64 (e0.val.lck : Int), .int .u64 (e0.made : Int), .int .u64 (e0.ix : Int)] TEn) = W1 := ⟨_, rfl⟩
  have hb1 : Below w.heap.size w W1 := by rw [← hW1]; exact below1 _ _ _
  have HKy : Hid (W1.heap[Y]? = some (.cells #[.string e0.key, .string e0.val.v, .int .u64 (e0.val.ses : Int), .int .u64 (e0.val.lck : Int), .int .u64 (e0.made : Int), .int .u64 (e0.ix : Int)] TEn (0, 0))) := Lib.hid (by rw [← hW1, ← hY]; exact heap_alloc_new w _)
  have HKx := Lib.hid ((hb1.block X (block_lt k)).trans k)
  have HT := Lib.hid (fun W => there_any e0 W)
  obtain ⟨b, hb⟩ : ∃ b, (!eqE e0 noEn) = b := ⟨_, rfl⟩
  rw [hb] at HT ⊢
  obtain ⟨c, hc⟩ : ∃ c, (old != 0) = c := ⟨_, rfl⟩
  obtain ⟨d, hd⟩ : ∃ d, (e0.ix == old) = d := ⟨_, rfl⟩
  obtain ⟨rb, hrb⟩ : ∃ rb, ((b == c) && d) = rb := ⟨_, rfl⟩
  rw [hc, hd, hrb]
  have H7 : Hid (((old : Int) != 0) = c) := Lib.hid (by rw [← hc, Bool.eq_iff_iff]; simp)
  have H13 : Hid (((e0.ix : Int) == (old : Int)) = d) := Lib.hid (by rw [← hd, Bool.eq_iff_iff, beq_iff_eq, beq_iff_eq]; exact Int.ofNat_inj)
  have HB1 := Lib.hid hb1
  have HW1 := Lib.hid hW1
  have HY := Lib.hid hY
  unfold enV Kt.trV at HT ⊢
  clear k hb hc hd hW1 hb1 hY
  go_enter Tryz.func39, Tryz.ntmps39
  go_wp2_with fail
  rw [HW1.out, HY.out]
  clear HW1 HY
  cases h8 : (b == c) with
  | true =>
    rw [h8] at hrb
    have HRb : Hid (d = rb) := Lib.hid (by rw [← hrb]; simp)
    have H8 := Lib.hid h8
    clear h8 hrb
    have hre : ∀ w : World, (But (fun _ => False)) w w := (fun w => But.refl _ w)
    have hrd : ∀ (f : Nat → Bool) w i, i ≠ 1 → (fun (_ : Nat → Bool) (w : World) => Below W1.heap.size W1 w) f w → (fun (_ : Nat → Bool) (w : World) => Below W1.heap.size W1 w) (Go.Rel.upd f i) w := (fun _ _ _ _ h => h)
    refine Go.Rel.wp_tab (by kernel_rfl) (by kernel_rfl) (fun (_ : Nat → Bool) (w : World) => Below W1.heap.size W1 w) (But (fun _ => False)) hre ((fun _ _ _ h k => h.trans k)) ((But.refl _ _).drew) ⟨rfl, rfl, rfl, Nat.le_refl _, fun _ _ => rfl⟩ (casY X Y old e0 b c d) (fun _ _ _ => True) (fun i => ([] : List Nat).contains i) (fun i => ([0, 1, 2, 3, 4, 7, 8, 9] : List Nat).contains i) (by kernel_rfl) (fun _ _ _ _ h _ => h) 1 rfl hrd ?_ (Go.Rel.AllOf.get ?_) ?_
    · repeat (refine .cons (by first | exact Go.Rel.pure_sp rfl | exact Go.Rel.pure_yes (by kernel_rfl) (fun _ => by kernel_rfl) | exact Go.Rel.pure_no (by kernel_rfl) rfl) ?_)
      exact .nil
    · refine ⟨?_, ?_, ?_, ?_, ?_, ?_, ?_, ?_, trivial⟩
      · exact SpecOk.ld hrd hre (q := .pointer (some ⟨Y, 0, none⟩)) (h := fun _ w' hI _ _ _ _ => by obtain ⟨y0, y1, y2, y3, y4, y5⟩ := Kt.blk ((hI.block Y (block_lt HKy.out)).trans HKy.out); go_simp; rfl)
      · refine SpecOk.call 40 #[.agg #[.string e0.key, .string e0.val.v, .int .u64 (e0.val.ses : Int), .int .u64 (e0.val.lck : Int), .int .u64 (e0.made : Int), .int .u64 (e0.ix : Int)]] rfl (by kernel_rfl) (fun _ => by kernel_rfl) fun _ w' hI _ _ _ _ => ?_
        refine (HT.out w').mono ?_
        rintro e w2 ⟨rfl, hb2⟩
        exact ⟨_, rfl, (But.of_below hb2), (hI.trans (hb2.mono hI.size)), rfl⟩
      · exact SpecOk.ld hrd hre (q := .pointer (some ⟨X, 0, none⟩)) (h := fun _ w' hI _ _ _ _ => by have cx := cellsN ((hI.block X (block_lt HKx.out)).trans HKx.out) 0 _ rfl; go_simp; rfl)
      · refine SpecOk.gen (fun e => [(6, .int .u64 (old : Int))]) rfl rfl (fun _ => by kernel_rfl) fun f w' e hI hf hdesc hanc hle hX K hK => ?_
        have h7 := H7.out
        go_simp
        exact hK _ _ (hre _) (hrd f w' 3 (by decide) hI) rfl
      · refine SpecOk.gen (fun e => [(5, .bool b), (7, .bool c)]) rfl rfl (fun _ => by kernel_rfl) fun f w' e hI hf hdesc hanc hle hX K hK => ?_
        have h8 := H8.out
        go_simp
        exact hK _ _ (hre _) (hrd f w' 4 (by decide) hI) rfl
      · exact SpecOk.ld hrd hre (q := .pointer (some ⟨Y, 5, none⟩)) (h := fun _ w' hI _ _ _ _ => by obtain ⟨y0, y1, y2, y3, y4, y5⟩ := Kt.blk ((hI.block Y (block_lt HKy.out)).trans HKy.out); go_simp; rfl)
      · exact SpecOk.ld hrd hre (q := .pointer (some ⟨X, 0, none⟩)) (h := fun _ w' hI _ _ _ _ => by have cx := cellsN ((hI.block X (block_lt HKx.out)).trans HKx.out) 0 _ rfl; go_simp; rfl)
      · refine SpecOk.gen (fun e => [(11, .int .u64 (e0.ix : Int)), (12, .int .u64 (old : Int))]) rfl rfl (fun _ => by kernel_rfl) fun f w' e hI hf hdesc hanc hle hX K hK => ?_
        have h13 := H13.out
        go_simp
        exact hK _ _ (hre _) (hrd f w' 9 (by decide) hI) rfl
    · intro f w2 e hall hJ hle hv
      have HJ := Lib.hid hJ
      have v3 := hv 11 rfl
      simp only [Go.Rel.finL, List.setIfInBounds_toArray, List.set_cons_succ, List.set_cons_zero]
      rw [show e 11 = .bool d from v3]
      clear hv hall hle hJ v3
      go_wp2
      go_ret
      exact ⟨ret_bool HRb.out, HB1.out.trans (HJ.out.mono HB1.out.size)⟩
  | false =>
    rw [h8] at hrb
    have HRb : Hid (false = rb) := Lib.hid (by rw [← hrb]; simp)
    have H8 := Lib.hid h8
    clear h8 hrb
    have hre : ∀ w : World, (But (fun _ => False)) w w := (fun w => But.refl _ w)
    have hrd : ∀ (f : Nat → Bool) w i, i ≠ 1 → (fun (_ : Nat → Bool) (w : World) => Below W1.heap.size W1 w) f w → (fun (_ : Nat → Bool) (w : World) => Below W1.heap.size W1 w) (Go.Rel.upd f i) w := (fun _ _ _ _ h => h)
    refine Go.Rel.wp_tab (by kernel_rfl) (by kernel_rfl) (fun (_ : Nat → Bool) (w : World) => Below W1.heap.size W1 w) (But (fun _ => False)) hre ((fun _ _ _ h k => h.trans k)) ((But.refl _ _).drew) ⟨rfl, rfl, rfl, Nat.le_refl _, fun _ _ => rfl⟩ (casN X Y old e0 b c d) (fun _ _ _ => True) (fun i => ([] : List Nat).contains i) (fun i => ([0, 1, 2, 3, 4] : List Nat).contains i) (by kernel_rfl) (fun _ _ _ _ h _ => h) 1 rfl hrd ?_ (Go.Rel.AllOf.get ?_) ?_
    · iterate 5 refine .cons (Go.Rel.pure_sp rfl) ?_
      iterate 1 refine .cons (Go.Rel.pure_yes (by kernel_rfl) (fun _ => by kernel_rfl)) ?_
      iterate 4 refine .cons (Go.Rel.pure_no (by kernel_rfl) rfl) ?_
      iterate 2 refine .cons (Go.Rel.pure_yes (by kernel_rfl) (fun _ => by kernel_rfl)) ?_
      exact .nil
    · refine ⟨?_, ?_, ?_, ?_, ?_, trivial⟩
      · exact SpecOk.ld hrd hre (q := .pointer (some ⟨Y, 0, none⟩)) (h := fun _ w' hI _ _ _ _ => by obtain ⟨y0, y1, y2, y3, y4, y5⟩ := Kt.blk ((hI.block Y (block_lt HKy.out)).trans HKy.out); go_simp; rfl)
      · refine SpecOk.call 40 #[.agg #[.string e0.key, .string e0.val.v, .int .u64 (e0.val.ses : Int), .int .u64 (e0.val.lck : Int), .int .u64 (e0.made : Int), .int .u64 (e0.ix : Int)]] rfl (by kernel_rfl) (fun _ => by kernel_rfl) fun _ w' hI _ _ _ _ => ?_
        refine (HT.out w').mono ?_
        rintro e w2 ⟨rfl, hb2⟩
        exact ⟨_, rfl, (But.of_below hb2), (hI.trans (hb2.mono hI.size)), rfl⟩
      · exact SpecOk.ld hrd hre (q := .pointer (some ⟨X, 0, none⟩)) (h := fun _ w' hI _ _ _ _ => by have cx := cellsN ((hI.block X (block_lt HKx.out)).trans HKx.out) 0 _ rfl; go_simp; rfl)
      · refine SpecOk.gen (fun e => [(6, .int .u64 (old : Int))]) rfl rfl (fun _ => by kernel_rfl) fun f w' e hI hf hdesc hanc hle hX K hK => ?_
        have h7 := H7.out
        go_simp
        exact hK _ _ (hre _) (hrd f w' 3 (by decide) hI) rfl
      · refine SpecOk.gen (fun e => [(5, .bool b), (7, .bool c)]) rfl rfl (fun _ => by kernel_rfl) fun f w' e hI hf hdesc hanc hle hX K hK => ?_
        have h8 := H8.out
        go_simp
        exact hK _ _ (hre _) (hrd f w' 4 (by decide) hI) rfl
    · intro f w2 e hall hJ hle hv
      have HJ := Lib.hid hJ
      have v3 := hv 11 rfl
      simp only [Go.Rel.finL, List.setIfInBounds_toArray, List.set_cons_succ, List.set_cons_zero]
      rw [show e 11 = .bool false from v3]
      clear hv hall hle hJ v3
      go_wp2
      go_ret
      exact ⟨ret_bool HRb.out, HB1.out.trans (HJ.out.mono HB1.out.size)⟩
theorem nat_beq (a b : Nat) : (((a : Int) == (b : Int)) : Bool) = (a == b) := by rw [Bool.eq_iff_iff, beq_iff_eq, beq_iff_eq]; exact Int.ofNat_inj
theorem nat_beq0 (a : Nat) : (((a : Int) == 0) : Bool) = (a == 0) := nat_beq a 0
theorem nat_bne (a b : Nat) : (((a : Int) != (b : Int)) : Bool) = (a != b) := by rw [bne, bne, nat_beq]
theorem nat_bne0 (a : Nat) : (((a : Int) != 0) : Bool) = (a != 0) := nat_bne a 0
theorem dcas1_any (s : Nat) (X : Nat) (e0 : En) (w : World) (kX : w.heap[X]? = some (.cells #[.int .u64 (s : Int)] 28 (0, 0))) :
    Calls Tryz.prog 56 #[enV e0, .pointer (some ⟨X, 0, none⟩)] w fun e w' => e = .returned (.bool (e0.ix == s)) ∧ Below w.heap.size w w' := by
  have cX : w.cell? ⟨X, 0, none⟩ = some (.int .u64 (s : Int)) := cellsN kX 0 _ rfl
  have hlX := block_lt kX
  obtain ⟨d, hd⟩ : ∃ d, (e0.ix == s) = d := ⟨_, rfl⟩
  have rd : ((e0.ix : Int) == (s : Int)) = d := by rw [← hd]; exact nat_beq _ _
  rw [hd]
  unfold enV Kt.trV
  clear kX hd
  go_enter Tryz.func56, Tryz.ntmps56
  go_wp2
  go_ret
  exact ⟨rfl, below1 _ _ _⟩
theorem lock1_any (s : Nat) (X : Nat) (e0 : En) (w : World) (kX : w.heap[X]? = some (.cells #[.int .u64 (s : Int)] 28 (0, 0))) :
    Calls Tryz.prog 44 #[enV e0, .pointer (some ⟨X, 0, none⟩)] w fun e w' => e = .returned (.bool (s != 0)) ∧ Below w.heap.size w w' := by
  have cX : w.cell? ⟨X, 0, none⟩ = some (.int .u64 (s : Int)) := cellsN kX 0 _ rfl
  have hlX := block_lt kX
  obtain ⟨d, hd⟩ : ∃ d, (s != 0) = d := ⟨_, rfl⟩
  have rd : ((s : Int) != 0) = d := by rw [← hd]; exact nat_bne0 _
  rw [hd]
  unfold enV Kt.trV
  clear kX hd
  go_enter Tryz.func44, Tryz.ntmps44
  go_wp2
  go_ret
  exact ⟨rfl, below1 _ _ _⟩
theorem lock2_any (s : Nat) (X : Nat) (e0 : En) (w : World) (kX : w.heap[X]? = some (.cells #[.int .u64 (s : Int)] 28 (0, 0))) :
    Calls Tryz.prog 45 #[enV e0, .pointer (some ⟨X, 0, none⟩)] w fun e w' => e = .returned (.bool (e0.val.ses == 0 || e0.val.ses == s)) ∧ Below w.heap.size w w' := by
  have cX : w.cell? ⟨X, 0, none⟩ = some (.int .u64 (s : Int)) := cellsN kX 0 _ rfl
  have hlX := block_lt kX
  obtain ⟨b, hb⟩ : ∃ b, (e0.val.ses == 0) = b := ⟨_, rfl⟩
  have rb : ((e0.val.ses : Int) == 0) = b := by rw [← hb]; exact nat_beq0 _
  obtain ⟨d, hd⟩ : ∃ d, (e0.val.ses == s) = d := ⟨_, rfl⟩
  have rd : ((e0.val.ses : Int) == (s : Int)) = d := by rw [← hd]; exact nat_beq _ _
  rw [hb, hd]
  unfold enV Kt.trV
  clear kX hb hd
  cases b with
  | true =>
    go_enter Tryz.func45, Tryz.ntmps45
    go_wp2
    go_ret
    exact ⟨ret_bool (by simp), below1 _ _ _⟩
  | false =>
    go_enter Tryz.func45, Tryz.ntmps45
    go_wp2
    go_ret
    exact ⟨ret_bool (by simp), below1 _ _ _⟩
theorem unlock1_any (s : Nat) (X : Nat) (e0 : En) (w : World) (kX : w.heap[X]? = some (.cells #[.int .u64 (s : Int)] 28 (0, 0))) :
    Calls Tryz.prog 57 #[enV e0, .pointer (some ⟨X, 0, none⟩)] w fun e w' => e = .returned (.bool (s != 0 && e0.val.ses == s)) ∧ Below w.heap.size w w' := by
  have cX : w.cell? ⟨X, 0, none⟩ = some (.int .u64 (s : Int)) := cellsN kX 0 _ rfl
  have hlX := block_lt kX
  obtain ⟨b, hb⟩ : ∃ b, (s != 0) = b := ⟨_, rfl⟩
  have rb : ((s : Int) != 0) = b := by rw [← hb]; exact nat_bne0 _
  obtain ⟨d, hd⟩ : ∃ d, (e0.val.ses == s) = d := ⟨_, rfl⟩
  have rd : ((e0.val.ses : Int) == (s : Int)) = d := by rw [← hd]; exact nat_beq _ _
  rw [hb, hd]
  unfold enV Kt.trV
  clear kX hb hd
  cases b with
  | true =>
    go_enter Tryz.func57, Tryz.ntmps57
    go_wp2
    go_ret
    exact ⟨ret_bool (by simp), below1 _ _ _⟩
  | false =>
    go_enter Tryz.func57, Tryz.ntmps57
    go_wp2
    go_ret
    exact ⟨ret_bool (by simp), below1 _ _ _⟩
set_option maxHeartbeats 1000000 in
theorem unlock2_any (s : Nat) (v : ByteArray) (X : Nat) (e0 : En) (w : World) (kX : w.heap[X]? = some (.cells #[.string v] 9 (0, 0))) :
    Calls Tryz.prog 58 #[enV e0, .pointer (some ⟨X, 0, none⟩)] w fun e w' => e = .returned (enV { e0 with val := ⟨v, 0, e0.val.lck⟩ }) ∧ Below w.heap.size w w' := by
  have cX : w.cell? ⟨X, 0, none⟩ = some (.string v) := cellsN kX 0 _ rfl
  have hlX := block_lt kX
  unfold enV Kt.trV
  clear kX
  go_enter Tryz.func58, Tryz.ntmps58
  go_wp2
  exact bodyPost_ret (v := .agg #[.string e0.key, .string v, .int .u64 0, .int .u64 (e0.val.lck : Int), .int .u64 (e0.made : Int), .int .u64 (e0.ix : Int)]) (by simp [results, Tryz.results58, go_sem]) rfl ⟨rfl, below2 _ _ _ _ _⟩
set_option maxHeartbeats 1000000 in
theorem free1_any (s : Nat) (v : ByteArray) (X : Nat) (e0 : En) (w : World) (kX : w.heap[X]? = some (.cells #[.int .u64 (s : Int)] 28 (0, 0))) :
    Calls Tryz.prog 59 #[enV e0, .pointer (some ⟨X, 0, none⟩)] w fun e w' => e = .returned (enV { e0 with val := { e0.val with ses := if e0.val.ses == s then 0 else e0.val.ses } }) ∧ Below w.heap.size w w' := by
  have cX : w.cell? ⟨X, 0, none⟩ = some (.int .u64 (s : Int)) := cellsN kX 0 _ rfl
  have hlX := block_lt kX
  obtain ⟨b, hb⟩ : ∃ b, (e0.val.ses == s) = b := ⟨_, rfl⟩
  have rb : ((e0.val.ses : Int) == (s : Int)) = b := by rw [← hb]; exact nat_beq _ _
  rw [hb]
  clear hb
  unfold enV Kt.trV
  clear kX
  cases b with
  | true =>
    go_enter Tryz.func59, Tryz.ntmps59
    go_wp2
    exact bodyPost_ret (v := .agg #[.string e0.key, .string e0.val.v, .int .u64 0, .int .u64 (e0.val.lck : Int), .int .u64 (e0.made : Int), .int .u64 (e0.ix : Int)]) (by simp [results, Tryz.results59, go_sem]) rfl ⟨rfl, below2 _ _ _ _ _⟩
  | false =>
    go_enter Tryz.func59, Tryz.ntmps59
    go_wp2
    exact bodyPost_ret (v := .agg #[.string e0.key, .string e0.val.v, .int .u64 (e0.val.ses : Int), .int .u64 (e0.val.lck : Int), .int .u64 (e0.made : Int), .int .u64 (e0.ix : Int)]) (by simp [results, Tryz.results59, go_sem]) rfl ⟨rfl, below2 _ _ _ _ _⟩
set_option maxHeartbeats 1000000 in
theorem lock3_any (s : Nat) (v : ByteArray) (X : Nat) (Y : Nat) (e0 : En) (w : World) (kX : w.heap[X]? = some (.cells #[.int .u64 (s : Int)] 28 (0, 0))) (kY : w.heap[Y]? = some (.cells #[.string v] 9 (0, 0))) :
    Calls Tryz.prog 46 #[enV e0, .pointer (some ⟨X, 0, none⟩), .pointer (some ⟨Y, 0, none⟩)] w fun e w' => e = .returned (enV { e0 with val := ⟨v, s, if e0.val.ses == s then e0.val.lck else (e0.val.lck + 1) % 18446744073709551616⟩ }) ∧ Below w.heap.size w w' := by
  have cX : w.cell? ⟨X, 0, none⟩ = some (.int .u64 (s : Int)) := cellsN kX 0 _ rfl
  have hlX := block_lt kX
  have cY : w.cell? ⟨Y, 0, none⟩ = some (.string v) := cellsN kY 0 _ rfl
  have hlY := block_lt kY
  obtain ⟨b, hb⟩ : ∃ b, (e0.val.ses == s) = b := ⟨_, rfl⟩
  have rb : ((e0.val.ses : Int) != (s : Int)) = !b := by rw [← hb, bne, nat_beq]
  obtain ⟨m, hm⟩ : ∃ m, (e0.val.lck + 1) % 18446744073709551616 = m := ⟨_, rfl⟩
  have rw_ : IntKind.u64.wrap ((e0.val.lck : Int) + 1) = (m : Int) := by rw [← hm]; simp [IntKind.wrap, IntKind.bits, IntKind.signed]
  rw [hb, hm]
  clear hb hm
  unfold enV Kt.trV
  clear kX kY
  cases b with
  | true =>
    go_enter Tryz.func46, Tryz.ntmps46
    go_wp2
    go_region
    all_goals (go_wp2; exact bodyPost_ret (v := .agg #[.string e0.key, .string v, .int .u64 (s : Int), .int .u64 (e0.val.lck : Int), .int .u64 (e0.made : Int), .int .u64 (e0.ix : Int)]) (by simp [results, Tryz.results46, go_sem]) rfl ⟨rfl, below_drewN (below2 _ _ _ _ _) 1⟩)
  | false =>
    go_enter Tryz.func46, Tryz.ntmps46
    go_wp2
    go_region
    all_goals (go_wp2; exact bodyPost_ret (v := .agg #[.string e0.key, .string v, .int .u64 (s : Int), .int .u64 (m : Int), .int .u64 (e0.made : Int), .int .u64 (e0.ix : Int)]) (by simp [results, Tryz.results46, go_sem]) rfl ⟨rfl, below_drewN (below2 _ _ _ _ _) 1⟩)
end Go.Proofs.YtohnkagabpefdaaGreatDoor
