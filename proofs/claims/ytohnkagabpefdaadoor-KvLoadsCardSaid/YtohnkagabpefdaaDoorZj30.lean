/-
  The closures of Cas, DelCas, Lock, Unlock, Free, walked (layer 16).
-/
import Derived.Test.YtohnkagabpefdaaDoorZj29
import Derived.Test.YtohnkagabpefdaaDoorZj21
namespace Go.Proofs.YtohnkagabpefdaaDoor
open Go.RowKit Go.Rel
set_option linter.unusedSimpArgs false
set_option linter.unusedVariables false

def casY (X : Nat) (Y : Nat) (old : Nat) (e0 : En) (b : Bool) (c : Bool) (d : Bool) : Nat → Value
  | 0 => .agg #[.string e0.key, .string e0.val.v, .int .u64 (e0.val.ses : Int), .int .u64 (e0.val.lck : Int), .int .u64 (e0.made : Int), .int .u64 (e0.ix : Int)]
  | 1 => .bool b
  | 2 | 8 => .int .u64 (old : Int)
  | 3 => .bool c
  | 4 | 5 => .bool true
  | 6 => .pointer (some ⟨Y, 5, none⟩)
  | 7 => .int .u64 (e0.ix : Int)
  | 9 | 10 | 11 => .bool d
  | _ => undef
def casN (X : Nat) (Y : Nat) (old : Nat) (e0 : En) (b : Bool) (c : Bool) (d : Bool) : Nat → Value
  | 0 => .agg #[.string e0.key, .string e0.val.v, .int .u64 (e0.val.ses : Int), .int .u64 (e0.val.lck : Int), .int .u64 (e0.made : Int), .int .u64 (e0.ix : Int)]
  | 1 => .bool b
  | 2 => .int .u64 (old : Int)
  | 3 => .bool c
  | 4 | 5 | 10 | 11 => .bool false
  | _ => undef
set_option maxHeartbeats 1000000 in
theorem cas1_any (old X : Nat) (e0 : En) (w : World) (k : w.heap[X]? = some (.cells #[.int .u64 (old : Int)] 23 (0, 0))) :
    Calls Tryd.prog 36 #[enV e0, .pointer (some ⟨X, 0, none⟩)] w fun e w' => e = .returned (.bool ((!eqE e0 noEn) == (old != 0) && e0.ix == old)) ∧ Below w.heap.size w w' := by
  obtain ⟨Y, hY⟩ : ∃ Y, w.heap.size = Y := ⟨_, rfl⟩
  obtain ⟨W1, hW1⟩ : ∃ W1, w.alloc (.cells #[.string e0.key, .string e0.val.v, .int .u64 (e0.val.ses : Int), .int .u64 (e0.val.lck : Int), .int .u64 (e0.made : Int), .int .u64 (e0.ix : Int)] TEn) = W1 := ⟨_, rfl⟩
  have hb1 : Below w.heap.size w W1 := by rw [← hW1]; exact below1 _ _ _
  have HKy : Hid (W1.heap[Y]? = some (.cells #[.string e0.key, .string e0.val.v, .int .u64 (e0.val.ses : Int), .int .u64 (e0.val.lck : Int), .int .u64 (e0.made : Int), .int .u64 (e0.ix : Int)] TEn (0, 0))) := Lib.hid (by rw [← hW1, ← hY]; exact heap_alloc_new w _)
  have HKx := Lib.hid ((hb1.block X (block_lt k)).trans k)
  have HT := Lib.hid (fun W => there_any e0 W)
  obtain ⟨b, hb⟩ : ∃ b, (!eqE e0 noEn) = b := ⟨_, rfl⟩
  rw [hb] at HT ⊢
  obtain ⟨c, hc⟩ : ∃ c, (old != 0) = c := ⟨_, rfl⟩
  obtain ⟨d, hd⟩ : ∃ d, (e0.ix == old) = d := ⟨_, rfl⟩
  obtain ⟨rb, hrb⟩ : ∃ rb, ((b == c) && d) = rb := ⟨_, rfl⟩
  rw [hc, hd, hrb]
  have H7 : Hid (((old : Int) != 0) = c) := Lib.hid (by rw [← hc, Bool.eq_iff_iff]; simp)
  have H13 : Hid (((e0.ix : Int) == (old : Int)) = d) := Lib.hid (by rw [← hd, Bool.eq_iff_iff, beq_iff_eq, beq_iff_eq]; exact Int.ofNat_inj)
  have HB1 := Lib.hid hb1
  have HW1 := Lib.hid hW1
  have HY := Lib.hid hY
  unfold enV Kt.trV at HT ⊢
  clear k hb hc hd hW1 hb1 hY
  go_enter Tryd.func36, Tryd.ntmps36
  go_wp2_with fail
  rw [HW1.out, HY.out]
  clear HW1 HY
  cases h8 : (b == c) with
  | true =>
    rw [h8] at hrb
    have HRb : Hid (d = rb) := Lib.hid (by rw [← hrb]; simp)
    have H8 := Lib.hid h8
    clear h8 hrb
    have hre : ∀ w : World, (But (fun _ => False)) w w := (fun w => But.refl _ w)
    have hrd : ∀ (f : Nat → Bool) w i, i ≠ 1 → (fun (_ : Nat → Bool) (w : World) => Below W1.heap.size W1 w) f w → (fun (_ : Nat → Bool) (w : World) => Below W1.heap.size W1 w) (Go.Rel.upd f i) w := (fun _ _ _ _ h => h)
    refine Go.Rel.wp_tab (by kernel_rfl) (by kernel_rfl) (fun (_ : Nat → Bool) (w : World) => Below W1.heap.size W1 w) (But (fun _ => False)) hre ((fun _ _ _ h k => h.trans k)) ((But.refl _ _).drew) ⟨rfl, rfl, rfl, Nat.le_refl _, fun _ _ => rfl⟩ (casY X Y old e0 b c d) (fun _ _ _ => True) (fun i => ([] : List Nat).contains i) (fun i => ([0, 1, 2, 3, 4, 7, 8, 9] : List Nat).contains i) (by kernel_rfl) (fun _ _ _ _ h _ => h) 1 rfl hrd ?_ (Go.Rel.AllOf.get ?_) ?_
    · repeat (refine .cons (by first | exact Go.Rel.pure_sp rfl | exact Go.Rel.pure_yes (by kernel_rfl) (fun _ => by kernel_rfl) | exact Go.Rel.pure_no (by kernel_rfl) rfl) ?_)
      exact .nil
    · refine ⟨?_, ?_, ?_, ?_, ?_, ?_, ?_, ?_, trivial⟩
      · exact SpecOk.ld hrd hre (q := .pointer (some ⟨Y, 0, none⟩)) (h := fun _ w' hI _ _ _ _ => by obtain ⟨y0, y1, y2, y3, y4, y5⟩ := Kt.blk ((hI.block Y (block_lt HKy.out)).trans HKy.out); go_simp; rfl)
      · refine SpecOk.call 37 #[.agg #[.string e0.key, .string e0.val.v, .int .u64 (e0.val.ses : Int), .int .u64 (e0.val.lck : Int), .int .u64 (e0.made : Int), .int .u64 (e0.ix : Int)]] rfl (by kernel_rfl) (fun _ => by kernel_rfl) fun _ w' hI _ _ _ _ => ?_
        refine (HT.out w').mono ?_
        rintro e w2 ⟨rfl, hb2⟩
        exact ⟨_, rfl, (But.of_below hb2), (hI.trans (hb2.mono hI.size)), rfl⟩
      · exact SpecOk.ld hrd hre (q := .pointer (some ⟨X, 0, none⟩)) (h := fun _ w' hI _ _ _ _ => by have cx := cellsN ((hI.block X (block_lt HKx.out)).trans HKx.out) 0 _ rfl; go_simp; rfl)
      · refine SpecOk.gen (fun e => [(6, .int .u64 (old : Int))]) rfl rfl (fun _ => by kernel_rfl) fun f w' e hI hf hdesc hanc hle hX K hK => ?_
        have h7 := H7.out
        go_simp
        exact hK _ _ (hre _) (hrd f w' 3 (by decide) hI) rfl
      · refine SpecOk.gen (fun e => [(5, .bool b), (7, .bool c)]) rfl rfl (fun _ => by kernel_rfl) fun f w' e hI hf hdesc hanc hle hX K hK => ?_
        have h8 := H8.out
        go_simp
        exact hK _ _ (hre _) (hrd f w' 4 (by decide) hI) rfl
      · exact SpecOk.ld hrd hre (q := .pointer (some ⟨Y, 5, none⟩)) (h := fun _ w' hI _ _ _ _ => by obtain ⟨y0, y1, y2, y3, y4, y5⟩ := Kt.blk ((hI.block Y (block_lt HKy.out)).trans HKy.out); go_simp; rfl)
      · exact SpecOk.ld hrd hre (q := .pointer (some ⟨X, 0, none⟩)) (h := fun _ w' hI _ _ _ _ => by have cx := cellsN ((hI.block X (block_lt HKx.out)).trans HKx.out) 0 _ rfl; go_simp; rfl)
      · refine SpecOk.gen (fun e => [(11, .int .u64 (e0.ix : Int)), (12, .int .u64 (old : Int))]) rfl rfl (fun _ => by kernel_rfl) fun f w' e hI hf hdesc hanc hle hX K hK => ?_
        have h13 := H13.out
        go_simp
        exact hK _ _ (hre _) (hrd f w' 9 (by decide) hI) rfl
    · intro f w2 e hall hJ hle hv
      have HJ := Lib.hid hJ
      have v3 := hv 11 rfl
      simp only [Go.Rel.finL, List.setIfInBounds_toArray, List.set_cons_succ, List.set_cons_zero]
      rw [show e 11 = .bool d from v3]
      clear hv hall hle hJ v3
      go_wp2
      go_ret
      exact ⟨ret_bool HRb.out, HB1.out.trans (HJ.out.mono HB1.out.size)⟩
  | false =>
    rw [h8] at hrb
    have HRb : Hid (false = rb) := Lib.hid (by rw [← hrb]; simp)
    have H8 := Lib.hid h8
    clear h8 hrb
    have hre : ∀ w : World, (But (fun _ => False)) w w := (fun w => But.refl _ w)
    have hrd : ∀ (f : Nat → Bool) w i, i ≠ 1 → (fun (_ : Nat → Bool) (w : World) => Below W1.heap.size W1 w) f w → (fun (_ : Nat → Bool) (w : World) => Below W1.heap.size W1 w) (Go.Rel.upd f i) w := (fun _ _ _ _ h => h)
    refine Go.Rel.wp_tab (by kernel_rfl) (by kernel_rfl) (fun (_ : Nat → Bool) (w : World) => Below W1.heap.size W1 w) (But (fun _ => False)) hre ((fun _ _ _ h k => h.trans k)) ((But.refl _ _).drew) ⟨rfl, rfl, rfl, Nat.le_refl _, fun _ _ => rfl⟩ (casN X Y old e0 b c d) (fun _ _ _ => True) (fun i => ([] : List Nat).contains i) (fun i => ([0, 1, 2, 3, 4] : List Nat).contains i) (by kernel_rfl) (fun _ _ _ _ h _ => h) 1 rfl hrd ?_ (Go.Rel.AllOf.get ?_) ?_
    · iterate 5 refine .cons (Go.Rel.pure_sp rfl) ?_
      iterate 1 refine .cons (Go.Rel.pure_yes (by kernel_rfl) (fun _ => by kernel_rfl)) ?_
      iterate 4 refine .cons (Go.Rel.pure_no (by kernel_rfl) rfl) ?_
      iterate 2 refine .cons (Go.Rel.pure_yes (by kernel_rfl) (fun _ => by kernel_rfl)) ?_
      exact .nil
    · refine ⟨?_, ?_, ?_, ?_, ?_, trivial⟩
      · exact SpecOk.ld hrd hre (q := .pointer (some ⟨Y, 0, none⟩)) (h := fun _ w' hI _ _ _ _ => by obtain ⟨y0, y1, y2, y3, y4, y5⟩ := Kt.blk ((hI.block Y (block_lt HKy.out)).trans HKy.out); go_simp; rfl)
      · refine SpecOk.call 37 #[.agg #[.string e0.key, .string e0.val.v, .int .u64 (e0.val.ses : Int), .int .u64 (e0.val.lck : Int), .int .u64 (e0.made : Int), .int .u64 (e0.ix : Int)]] rfl (by kernel_rfl) (fun _ => by kernel_rfl) fun _ w' hI _ _ _ _ => ?_
        refine (HT.out w').mono ?_
        rintro e w2 ⟨rfl, hb2⟩
        exact ⟨_, rfl, (But.of_below hb2), (hI.trans (hb2.mono hI.size)), rfl⟩
      · exact SpecOk.ld hrd hre (q := .pointer (some ⟨X, 0, none⟩)) (h := fun _ w' hI _ _ _ _ => by have cx := cellsN ((hI.block X (block_lt HKx.out)).trans HKx.out) 0 _ rfl; go_simp; rfl)
      · refine SpecOk.gen (fun e => [(6, .int .u64 (old : Int))]) rfl rfl (fun _ => by kernel_rfl) fun f w' e hI hf hdesc hanc hle hX K hK => ?_
        have h7 := H7.out
        go_simp
        exact hK _ _ (hre _) (hrd f w' 3 (by decide) hI) rfl
      · refine SpecOk.gen (fun e => [(5, .bool b), (7, .bool c)]) rfl rfl (fun _ => by kernel_rfl) fun f w' e hI hf hdesc hanc hle hX K hK => ?_
        have h8 := H8.out
        go_simp
        exact hK _ _ (hre _) (hrd f w' 4 (by decide) hI) rfl
    · intro f w2 e hall hJ hle hv
      have HJ := Lib.hid hJ
      have v3 := hv 11 rfl
      simp only [Go.Rel.finL, List.setIfInBounds_toArray, List.set_cons_succ, List.set_cons_zero]
      rw [show e 11 = .bool false from v3]
      clear hv hall hle hJ v3
      go_wp2
      go_ret
      exact ⟨ret_bool HRb.out, HB1.out.trans (HJ.out.mono HB1.out.size)⟩
theorem nat_beq (a b : Nat) : (((a : Int) == (b : Int)) : Bool) = (a == b) := by rw [Bool.eq_iff_iff, beq_iff_eq, beq_iff_eq]; exact Int.ofNat_inj
theorem nat_beq0 (a : Nat) : (((a : Int) == 0) : Bool) = (a == 0) := nat_beq a 0
theorem nat_bne (a b : Nat) : (((a : Int) != (b : Int)) : Bool) = (a != b) := by rw [bne, bne, nat_beq]
theorem nat_bne0 (a : Nat) : (((a : Int) != 0) : Bool) = (a != 0) := nat_bne a 0
theorem dcas1_any (s : Nat) (X : Nat) (e0 : En) (w : World) (kX : w.heap[X]? = some (.cells #[.int .u64 (s : Int)] 23 (0, 0))) :
    Calls Tryd.prog 39 #[enV e0, .pointer (some ⟨X, 0, none⟩)] w fun e w' => e = .returned (.bool (e0.ix == s)) ∧ Below w.heap.size w w' := by
  have cX : w.cell? ⟨X, 0, none⟩ = some (.int .u64 (s : Int)) := cellsN kX 0 _ rfl
  have hlX := block_lt kX
  obtain ⟨d, hd⟩ : ∃ d, (e0.ix == s) = d := ⟨_, rfl⟩
  have rd : ((e0.ix : Int) == (s : Int)) = d := by rw [← hd]; exact nat_beq _ _
  rw [hd]
  unfold enV Kt.trV
  clear kX hd
  go_enter Tryd.func39, Tryd.ntmps39
  go_wp2
  go_ret
  exact ⟨rfl, below1 _ _ _⟩
theorem lock1_any (s : Nat) (X : Nat) (e0 : En) (w : World) (kX : w.heap[X]? = some (.cells #[.int .u64 (s : Int)] 23 (0, 0))) :
    Calls Tryd.prog 40 #[enV e0, .pointer (some ⟨X, 0, none⟩)] w fun e w' => e = .returned (.bool (s != 0)) ∧ Below w.heap.size w w' := by
  have cX : w.cell? ⟨X, 0, none⟩ = some (.int .u64 (s : Int)) := cellsN kX 0 _ rfl
  have hlX := block_lt kX
  obtain ⟨d, hd⟩ : ∃ d, (s != 0) = d := ⟨_, rfl⟩
  have rd : ((s : Int) != 0) = d := by rw [← hd]; exact nat_bne0 _
  rw [hd]
  unfold enV Kt.trV
  clear kX hd
  go_enter Tryd.func40, Tryd.ntmps40
  go_wp2
  go_ret
  exact ⟨rfl, below1 _ _ _⟩
theorem lock2_any (s : Nat) (X : Nat) (e0 : En) (w : World) (kX : w.heap[X]? = some (.cells #[.int .u64 (s : Int)] 23 (0, 0))) :
    Calls Tryd.prog 41 #[enV e0, .pointer (some ⟨X, 0, none⟩)] w fun e w' => e = .returned (.bool (e0.val.ses == 0 || e0.val.ses == s)) ∧ Below w.heap.size w w' := by
  have cX : w.cell? ⟨X, 0, none⟩ = some (.int .u64 (s : Int)) := cellsN kX 0 _ rfl
  have hlX := block_lt kX
  obtain ⟨b, hb⟩ : ∃ b, (e0.val.ses == 0) = b := ⟨_, rfl⟩
  have rb : ((e0.val.ses : Int) == 0) = b := by rw [← hb]; exact nat_beq0 _
  obtain ⟨d, hd⟩ : ∃ d, (e0.val.ses == s) = d := ⟨_, rfl⟩
  have rd : ((e0.val.ses : Int) == (s : Int)) = d := by rw [← hd]; exact nat_beq _ _
  rw [hb, hd]
  unfold enV Kt.trV
  clear kX hb hd
  cases b with
  | true =>
    go_enter Tryd.func41, Tryd.ntmps41
    go_wp2
    go_ret
    exact ⟨ret_bool (by simp), below1 _ _ _⟩
  | false =>
    go_enter Tryd.func41, Tryd.ntmps41
    go_wp2
    go_ret
    exact ⟨ret_bool (by simp), below1 _ _ _⟩
theorem unlock1_any (s : Nat) (X : Nat) (e0 : En) (w : World) (kX : w.heap[X]? = some (.cells #[.int .u64 (s : Int)] 23 (0, 0))) :
    Calls Tryd.prog 43 #[enV e0, .pointer (some ⟨X, 0, none⟩)] w fun e w' => e = .returned (.bool (s != 0 && e0.val.ses == s)) ∧ Below w.heap.size w w' := by
  have cX : w.cell? ⟨X, 0, none⟩ = some (.int .u64 (s : Int)) := cellsN kX 0 _ rfl
  have hlX := block_lt kX
  obtain ⟨b, hb⟩ : ∃ b, (s != 0) = b := ⟨_, rfl⟩
  have rb : ((s : Int) != 0) = b := by rw [← hb]; exact nat_bne0 _
  obtain ⟨d, hd⟩ : ∃ d, (e0.val.ses == s) = d := ⟨_, rfl⟩
  have rd : ((e0.val.ses : Int) == (s : Int)) = d := by rw [← hd]; exact nat_beq _ _
  rw [hb, hd]
  unfold enV Kt.trV
  clear kX hb hd
  cases b with
  | true =>
    go_enter Tryd.func43, Tryd.ntmps43
    go_wp2
    go_ret
    exact ⟨ret_bool (by simp), below1 _ _ _⟩
  | false =>
    go_enter Tryd.func43, Tryd.ntmps43
    go_wp2
    go_ret
    exact ⟨ret_bool (by simp), below1 _ _ _⟩
set_option maxHeartbeats 1000000 in
theorem unlock2_any (s : Nat) (v : ByteArray) (X : Nat) (e0 : En) (w : World) (kX : w.heap[X]? = some (.cells #[.string v] 9 (0, 0))) :
    Calls Tryd.prog 44 #[enV e0, .pointer (some ⟨X, 0, none⟩)] w fun e w' => e = .returned (enV { e0 with val := ⟨v, 0, e0.val.lck⟩ }) ∧ Below w.heap.size w w' := by
  have cX : w.cell? ⟨X, 0, none⟩ = some (.string v) := cellsN kX 0 _ rfl
  have hlX := block_lt kX
  unfold enV Kt.trV
  clear kX
  go_enter Tryd.func44, Tryd.ntmps44
  go_wp2
  exact bodyPost_ret (v := .agg #[.string e0.key, .string v, .int .u64 0, .int .u64 (e0.val.lck : Int), .int .u64 (e0.made : Int), .int .u64 (e0.ix : Int)]) (by simp [results, Tryd.results44, go_sem]) rfl ⟨rfl, below2 _ _ _ _ _⟩
set_option maxHeartbeats 1000000 in
theorem free1_any (s : Nat) (v : ByteArray) (X : Nat) (e0 : En) (w : World) (kX : w.heap[X]? = some (.cells #[.int .u64 (s : Int)] 23 (0, 0))) :
    Calls Tryd.prog 45 #[enV e0, .pointer (some ⟨X, 0, none⟩)] w fun e w' => e = .returned (enV { e0 with val := { e0.val with ses := if e0.val.ses == s then 0 else e0.val.ses } }) ∧ Below w.heap.size w w' := by
  have cX : w.cell? ⟨X, 0, none⟩ = some (.int .u64 (s : Int)) := cellsN kX 0 _ rfl
  have hlX := block_lt kX
  obtain ⟨b, hb⟩ : ∃ b, (e0.val.ses == s) = b := ⟨_, rfl⟩
  have rb : ((e0.val.ses : Int) == (s : Int)) = b := by rw [← hb]; exact nat_beq _ _
  rw [hb]
  clear hb
  unfold enV Kt.trV
  clear kX
  cases b with
  | true =>
    go_enter Tryd.func45, Tryd.ntmps45
    go_wp2
    exact bodyPost_ret (v := .agg #[.string e0.key, .string e0.val.v, .int .u64 0, .int .u64 (e0.val.lck : Int), .int .u64 (e0.made : Int), .int .u64 (e0.ix : Int)]) (by simp [results, Tryd.results45, go_sem]) rfl ⟨rfl, below2 _ _ _ _ _⟩
  | false =>
    go_enter Tryd.func45, Tryd.ntmps45
    go_wp2
    exact bodyPost_ret (v := .agg #[.string e0.key, .string e0.val.v, .int .u64 (e0.val.ses : Int), .int .u64 (e0.val.lck : Int), .int .u64 (e0.made : Int), .int .u64 (e0.ix : Int)]) (by simp [results, Tryd.results45, go_sem]) rfl ⟨rfl, below2 _ _ _ _ _⟩
set_option maxHeartbeats 1000000 in
theorem lock3_any (s : Nat) (v : ByteArray) (X : Nat) (Y : Nat) (e0 : En) (w : World) (kX : w.heap[X]? = some (.cells #[.int .u64 (s : Int)] 23 (0, 0))) (kY : w.heap[Y]? = some (.cells #[.string v] 9 (0, 0))) :
    Calls Tryd.prog 42 #[enV e0, .pointer (some ⟨X, 0, none⟩), .pointer (some ⟨Y, 0, none⟩)] w fun e w' => e = .returned (enV { e0 with val := ⟨v, s, if e0.val.ses == s then e0.val.lck else (e0.val.lck + 1) % 18446744073709551616⟩ }) ∧ Below w.heap.size w w' := by
  have cX : w.cell? ⟨X, 0, none⟩ = some (.int .u64 (s : Int)) := cellsN kX 0 _ rfl
  have hlX := block_lt kX
  have cY : w.cell? ⟨Y, 0, none⟩ = some (.string v) := cellsN kY 0 _ rfl
  have hlY := block_lt kY
  obtain ⟨b, hb⟩ : ∃ b, (e0.val.ses == s) = b := ⟨_, rfl⟩
  have rb : ((e0.val.ses : Int) != (s : Int)) = !b := by rw [← hb, bne, nat_beq]
  obtain ⟨m, hm⟩ : ∃ m, (e0.val.lck + 1) % 18446744073709551616 = m := ⟨_, rfl⟩
  have rw_ : IntKind.u64.wrap ((e0.val.lck : Int) + 1) = (m : Int) := by rw [← hm]; simp [IntKind.wrap, IntKind.bits, IntKind.signed]
  rw [hb, hm]
  clear hb hm
  unfold enV Kt.trV
  clear kX kY
  cases b with
  | true =>
    go_enter Tryd.func42, Tryd.ntmps42
    go_wp2
    go_region
    all_goals (go_wp2; exact bodyPost_ret (v := .agg #[.string e0.key, .string v, .int .u64 (s : Int), .int .u64 (e0.val.lck : Int), .int .u64 (e0.made : Int), .int .u64 (e0.ix : Int)]) (by simp [results, Tryd.results42, go_sem]) rfl ⟨rfl, below_drewN (below2 _ _ _ _ _) 1⟩)
  | false =>
    go_enter Tryd.func42, Tryd.ntmps42
    go_wp2
    go_region
    all_goals (go_wp2; exact bodyPost_ret (v := .agg #[.string e0.key, .string v, .int .u64 (s : Int), .int .u64 (m : Int), .int .u64 (e0.made : Int), .int .u64 (e0.ix : Int)]) (by simp [results, Tryd.results42, go_sem]) rfl ⟨rfl, below_drewN (below2 _ _ _ _ _) 1⟩)
end Go.Proofs.YtohnkagabpefdaaDoor
