/-
  How two intentions are compared by the program's closure, walked (layer 17).
-/
import Derived.Test.YtmegfkclpjddgaaZj32
import Derived.Test.YtmegfkclpjddgaaZj29
import Derived.Test.YtmegfkclpjddgaaZj15
import Derived.Test.YtmegfkclpjddgaaZj33
import Derived.Sort.Grow
import Derived.Sort.Statements
import Derived.Shelf.SlSortCmp.InsertionK
namespace Go.Proofs.Ytmegfkclpjddgaa
open Go.RowKit Go.Rel Go.Sort
set_option linter.unusedSimpArgs false
set_option linter.unusedVariables false

/-- Draws, and blocks behind. -/
def GrN (a b : World) : Prop := ∃ n os, b = grow (a.drewN n) os
theorem GrN.refl (w : World) : GrN w w := ⟨0, #[], by rw [grow_empty]; rfl⟩
theorem GrN.trans (a b c : World) : GrN a b → GrN b c → GrN a c := fun ⟨n, os, h⟩ ⟨m, os', k⟩ => ⟨n + m, os ++ os', by
  subst h; subst k
  show grow (grow ((a.drewN n).drewN m) os) os' = _
  rw [grow_grow, World.drewN_drewN]⟩
theorem GrN.alloc (w : World) (o : Obj) : GrN w (w.alloc o) := ⟨0, #[o], by rw [alloc_eq_grow]; rfl⟩
theorem GrN.drew (w : World) : GrN w { w with drawn := w.drawn + 1 } := ⟨1, #[], by rw [grow_empty]; rfl⟩
theorem GrN.block {a b : World} (h : GrN a b) {k : Nat} {o : Obj} (hk : a.heap[k]? = some o) : b.heap[k]? = some o := by
  obtain ⟨n, os, rfl⟩ := h
  rw [heap_grow_old _ _ (by exact block_lt hk)]
  exact hk
/-! ### cmp -/
/-- Two texts compared. -/
def cmpS (x y : ByteArray) : Int := if ltT x y = true then -1 else if ltT y x = true then 1 else 0
theorem nan_any (x : ByteArray) (w : World) : Calls Try.prog 69 #[.string x] w fun e w' => e = .returned (.bool false) ∧ w = w' := by
  have h : (x.toList == x.toList) = true := by simp
  go_enter Try.func69, Try.ntmps69
  go_wp2
  go_ret
  exact ⟨by simp, rfl⟩
theorem run_gtr (x y : ByteArray) (a b : Bool) (h : Op.bytesLess x.toList y.toList = a) (h2 : (x.toList == y.toList) = b) (w : World) : (binOp .gtr 9 (.string x) (.string y)).run Try.prog w = .ok (.bool !(a || b)) w := by
  simp [binOp, Op.binOp, Try.underlying9, Op.stringOp, h, h2]
theorem compare_any (x y : ByteArray) (w : World) : Calls Try.prog 45 #[.string x, .string y] w fun e w' => e = .returned (.int .i64 (cmpS x y)) ∧ w = w' := by
  have HX := Lib.hid (nan_any x w)
  have HY := Lib.hid (nan_any y w)
  unfold cmpS
  cases h1 : ltT x y with
  | true =>
    have g1 : Op.bytesLess x.toList y.toList = true := h1
    rw [if_pos rfl]
    clear h1
    go_enter Try.func45, Try.ntmps45
    go_wp2_with fail
    refine HX.out.mono ?_
    rintro e w' ⟨rfl, rfl⟩
    go_wp2_with fail
    refine HY.out.mono ?_
    rintro e w' ⟨rfl, rfl⟩
    go_wp2
    go_ret
    exact ⟨rfl, rfl⟩
  | false =>
    have g1 : Op.bytesLess x.toList y.toList = false := h1
    rw [if_neg (by simp)]
    cases h2 : ltT y x with
    | true =>
      have g2 : Op.bytesLess y.toList x.toList = true := h2
      have g3 : (x.toList == y.toList) = false := text_other.2 (fun e => by rw [e, ltT_irr] at h2; cases h2)
      have g4 : (y.toList == x.toList) = false := text_other.2 (fun e => by rw [e, ltT_irr] at h2; cases h2)
      have hg := run_gtr x y false false g1 g3
      simp only [Bool.or_self, Bool.not_false] at hg
      rw [if_pos rfl]
      clear h1 h2
      go_enter Try.func45, Try.ntmps45
      go_wp2_with fail
      refine HX.out.mono ?_
      rintro e w' ⟨rfl, rfl⟩
      go_wp2_with fail
      refine HY.out.mono ?_
      rintro e w' ⟨rfl, rfl⟩
      go_wp2
      go_ret
      exact ⟨rfl, rfl⟩
    | false =>
      obtain rfl : x = y := ltT_tri h1 h2
      have g3 : (x.toList == x.toList) = true := by simp
      have hg := run_gtr x x false true g1 g3
      simp only [Bool.or_true, Bool.not_true] at hg
      rw [if_neg (by simp)]
      clear h1 h2
      go_enter Try.func45, Try.ntmps45
      go_wp2_with fail
      refine HX.out.mono ?_
      rintro e w' ⟨rfl, rfl⟩
      go_wp2_with fail
      refine HY.out.mono ?_
      rintro e w' ⟨rfl, rfl⟩
      go_wp2
      go_ret
      exact ⟨rfl, rfl⟩
/-- cmp.Or of three. -/
def orI3 (x y z : Int) : Int := if x = 0 then (if y = 0 then z else y) else x
set_option maxHeartbeats 4000000 in
theorem or_any (x y z : Int) (X : Nat) (w : World) (h0 : w.cell? ⟨X, 0, none⟩ = some (.int .i64 x)) (h1 : w.cell? ⟨X, 1, none⟩ = some (.int .i64 y)) (h2 : w.cell? ⟨X, 2, none⟩ = some (.int .i64 z)) :
    Calls Try.prog 43 #[.slice (some ⟨X, 0, none⟩) 3 3] w fun e w' => e = .returned (.int .i64 (orI3 x y z)) ∧ w = w' := by
  by_cases hx : x = 0
  · subst hx
    by_cases hy : y = 0
    · subst hy
      have e : orI3 0 0 z = z := by unfold orI3; rw [if_pos rfl, if_pos rfl]
      rw [e]
      clear e
      by_cases hz : z = 0
      · subst hz
        go_enter Try.func43, Try.ntmps43
        go_wp2
        refine wp_loop_rounds 4 ?_
        rw [rounds_succ]
        go_wp2
        rw [rounds_succ]
        go_wp2
        rw [rounds_succ]
        go_wp2
        rw [rounds_succ]
        go_wp2
        go_ret
        exact ⟨rfl, rfl⟩
      · have zz : (z != 0) = true := by simpa using hz
        clear hz
        go_enter Try.func43, Try.ntmps43
        go_wp2
        refine wp_loop_rounds 3 ?_
        rw [rounds_succ]
        go_wp2
        rw [rounds_succ]
        go_wp2
        rw [rounds_succ]
        go_wp2
        go_ret
        exact ⟨rfl, rfl⟩
    · have e : orI3 0 y z = y := by unfold orI3; rw [if_pos rfl, if_neg hy]
      rw [e]
      have zy : (y != 0) = true := by simpa using hy
      clear hy e
      go_enter Try.func43, Try.ntmps43
      go_wp2
      refine wp_loop_rounds 2 ?_
      rw [rounds_succ]
      go_wp2
      rw [rounds_succ]
      go_wp2
      go_ret
      exact ⟨rfl, rfl⟩
  · have e : orI3 x y z = x := by unfold orI3; rw [if_neg hx]
    rw [e]
    have zx : (x != 0) = true := by simpa using hx
    clear hx e
    go_enter Try.func43, Try.ntmps43
    go_wp2
    refine wp_loop_rounds 1 ?_
    rw [rounds_succ]
    go_wp2
    go_ret
    exact ⟨rfl, rfl⟩
/-! ### The order -/
instance : Inhabited Ir := ⟨⟨⟨#[]⟩, ⟨#[]⟩, false, 0, 0⟩⟩
/-- What the closure says of two. -/
def cfI (x y : Ir) : Int := orI3 (Lib.compareInt y.rank x.rank) (cmpS x.dst y.dst) (cmpS x.src y.src)
theorem cmpS_neg (x y : ByteArray) : cmpS x y < 0 ↔ ltT x y = true := by
  unfold cmpS
  cases ltT x y <;> cases ltT y x <;> simp
theorem cmpS_zero (x y : ByteArray) : cmpS x y = 0 ↔ x = y := by
  unfold cmpS
  constructor
  · intro h
    cases h1 : ltT x y with
    | true => rw [h1] at h; simp at h
    | false =>
      cases h2 : ltT y x with
      | true => rw [h1, h2] at h; simp at h
      | false => exact ltT_tri h1 h2
  · rintro rfl
    rw [ltT_irr]
    simp
theorem ltOf_cfI (x y : Ir) : Go.Proofs.ltOf cfI x y = aheadI x y := by
  have hc : Lib.compareInt (y.rank : Int) x.rank = if y.rank < x.rank then -1 else if x.rank < y.rank then 1 else 0 := by
    unfold Lib.compareInt
    simp only [Int.ofNat_lt]
  rw [Bool.eq_iff_iff, ahead_cases]
  unfold Go.Proofs.ltOf cfI orI3
  rw [hc]
  by_cases h1 : y.rank < x.rank
  · simp [h1]
  · by_cases h2 : x.rank < y.rank
    · simp [h1, h2]; omega
    · have e : x.rank = y.rank := by omega
      simp only [h1, h2, if_false, e, false_or, true_and]
      by_cases h3 : cmpS x.dst y.dst = 0
      · have h4 := (cmpS_zero _ _).1 h3
        rw [h4] at h3
        simp [h3, cmpS_neg, h4, ltT_irr]
      · have h4 : ¬ x.dst = y.dst := fun q => h3 ((cmpS_zero _ _).2 q)
        simp [h3, cmpS_neg, h4]
theorem ahead_congr {a b c : Ir} (h1 : a.src = b.src) (h2 : a.dst = b.dst) : aheadI a c = aheadI b c := by
  have e : a.rank = b.rank := by unfold Ir.rank; rw [h1, h2]
  unfold aheadI
  rw [h1, h2, e]
theorem swo_cfI : SWO (Go.Proofs.ltOf cfI) where
  irrefl x := by rw [ltOf_cfI]; exact ahead_irr x
  trans x y z h1 h2 := by
    rw [ltOf_cfI] at *
    exact ahead_trans h1 h2
  ntrans x y z h1 h2 := by
    rw [ltOf_cfI] at *
    rw [Bool.eq_false_iff]
    intro h
    cases h3 : aheadI y x with
    | true =>
      rw [ahead_trans h3 h] at h2; cases h2
    | false =>
      obtain ⟨e1, e2⟩ := ahead_tri h1 h3
      rw [ahead_congr e1 e2, h2] at h
      cases h
def icmE (X : Nat) (x : Ir) (y : Ir) (c1 : Int) (c2 : Int) (c3 : Int) : Nat → Value
  | 0 => .agg #[.string y.src, .string y.dst, .bool y.allow, .int .u64 (y.made : Int), .int .u64 (y.ix : Int)]
  | 1 => .int .i64 (y.rank : Int)
  | 2 => .agg #[.string x.src, .string x.dst, .bool x.allow, .int .u64 (x.made : Int), .int .u64 (x.ix : Int)]
  | 3 => .int .i64 (x.rank : Int)
  | 4 => .int .i64 c1
  | 5 => .pointer (some ⟨X, 1, none⟩)
  | 6 => .string x.dst
  | 7 => .pointer (some ⟨X + 1, 1, none⟩)
  | 8 => .string y.dst
  | 9 => .int .i64 c2
  | 10 => .pointer (some ⟨X, 0, none⟩)
  | 11 => .string x.src
  | 12 => .pointer (some ⟨X + 1, 0, none⟩)
  | 13 => .string y.src
  | 14 => .int .i64 c3
  | 16 | 17 => .int .i64 (orI3 c1 c2 c3)
  | _ => undef
set_option maxHeartbeats 8000000 in
set_option maxRecDepth 100000 in
theorem cmp_any (x y : Ir) (w : World) : Calls Try.prog 42 #[irV x, irV y] w fun e w' => e = .returned (.int .i64 (cfI x y)) ∧ ∃ q os', w' = grow (w.drewN q) os' := by
  unfold irV
  obtain ⟨X, hX⟩ : ∃ X, w.heap.size = X := ⟨_, rfl⟩
  obtain ⟨W, hW⟩ : ∃ W, (w.alloc (.cells #[.string x.src, .string x.dst, .bool x.allow, .int .u64 (x.made : Int), .int .u64 (x.ix : Int)] TIn)).alloc (.cells #[.string y.src, .string y.dst, .bool y.allow, .int .u64 (y.made : Int), .int .u64 (y.ix : Int)] TIn) = W := ⟨_, rfl⟩
  have hG : GrN w W := by rw [← hW]; exact GrN.trans _ _ _ (GrN.alloc _ _) (GrN.alloc _ _)
  have hA : W.heap[X]? = some (.cells #[.string x.src, .string x.dst, .bool x.allow, .int .u64 (x.made : Int), .int .u64 (x.ix : Int)] TIn (0, 0)) := by rw [← hW, ← hX]; exact (Below.heap_alloc _ _ _ (by simp)).trans (heap_alloc_new w _)
  have hB : W.heap[X + 1]? = some (.cells #[.string y.src, .string y.dst, .bool y.allow, .int .u64 (y.made : Int), .int .u64 (y.ix : Int)] TIn (0, 0)) := by
    rw [← hW, ← hX]
    have := heap_alloc_new (w.alloc (.cells #[.string x.src, .string x.dst, .bool x.allow, .int .u64 (x.made : Int), .int .u64 (x.ix : Int)] TIn)) (.cells #[.string y.src, .string y.dst, .bool y.allow, .int .u64 (y.made : Int), .int .u64 (y.ix : Int)] TIn)
    simpa using this
  have HRx := Lib.hid (fun W => rank_any x W)
  have HRy := Lib.hid (fun W => rank_any y W)
  unfold irV at HRx HRy
  unfold cfI
  have HC1 := Lib.hid (fun w1 => Try.cmp_Compare_int (y.rank : Int) (x.rank : Int) w1)
  have HC2 := Lib.hid (fun w1 => compare_any x.dst y.dst w1)
  have HC3 := Lib.hid (fun w1 => compare_any x.src y.src w1)
  obtain ⟨c1, e1⟩ : ∃ c, Lib.compareInt (y.rank : Int) x.rank = c := ⟨_, rfl⟩
  obtain ⟨c2, e2⟩ : ∃ c, cmpS x.dst y.dst = c := ⟨_, rfl⟩
  obtain ⟨c3, e3⟩ : ∃ c, cmpS x.src y.src = c := ⟨_, rfl⟩
  rw [e1] at HC1 ⊢
  rw [e2] at HC2 ⊢
  rw [e3] at HC3 ⊢
  have HA := Lib.hid hA
  have HB := Lib.hid hB
  have HG := Lib.hid hG
  have HX := Lib.hid hX
  have HW := Lib.hid hW
  clear hA hB hG hX hW e1 e2 e3
  go_enter Try.func42, Try.ntmps42
  go_wp2_with fail
  rw [HW.out, HX.out]
  have hre : ∀ w : World, (GrN) w w := GrN.refl
  have hrd : ∀ (f : Nat → Bool) w i, i ≠ 16 → ((fun (_ : Nat → Bool) (_ : World) => True)) f w → ((fun (_ : Nat → Bool) (_ : World) => True)) (Go.Rel.upd f i) w := (fun _ _ _ _ h => h)
  refine Go.Rel.wp_tab (by kernel_rfl) (by kernel_rfl) ((fun (_ : Nat → Bool) (_ : World) => True)) (GrN) hre (GrN.trans) ((GrN.drew _)) trivial (icmE X x y c1 c2 c3) (fun | 15, v, w => ∃ Z, v = .slice (some ⟨Z, 0, none⟩) 3 3 ∧ w.heap[Z]? = some (.cells #[.int .i64 c1, .int .i64 c2, .int .i64 c3] 3 (0, 0)) | _, _, _ => True) (fun i => ([15] : List Nat).contains i) (fun i => ([0, 1, 2, 3, 4, 6, 8, 9, 11, 13, 14, 15, 16] : List Nat).contains i) (by kernel_rfl) (fun i v w w' h g => by revert h; split <;> intro h <;> first | exact h | trivial | (obtain ⟨Z, e, h⟩ := h; exact ⟨Z, e, g.block h⟩)) 16 rfl hrd ?_ (Go.Rel.AllOf.get ?_) ?_
  · repeat (refine .cons (by first | exact Go.Rel.pure_sp rfl | exact Go.Rel.pure_yes (by kernel_rfl) (fun _ => by kernel_rfl) | exact Go.Rel.pure_no (by kernel_rfl) rfl) ?_)
    exact .nil
  · refine ⟨?_, ?_, ?_, ?_, ?_, ?_, ?_, ?_, ?_, ?_, ?_, ?_, ?_, trivial⟩
    · exact SpecOk.ld hrd hre (q := .pointer (some ⟨X + 1, 0, none⟩)) (h := fun _ w' _ _ _ _ hle => by obtain ⟨q0, q1, q2, q3, q4⟩ := ir_blk (hle.block HB.out); go_simp; rfl)
    · refine SpecOk.call 21 #[.agg #[.string y.src, .string y.dst, .bool y.allow, .int .u64 (y.made : Int), .int .u64 (y.ix : Int)]] rfl (by kernel_rfl) (fun _ => by kernel_rfl) fun _ w' _ _ _ _ _ => ?_
      refine (HRy.out w').mono ?_
      rintro e w2 ⟨rfl, rfl⟩
      exact ⟨_, rfl, (GrN.alloc _ _), trivial, rfl⟩
    · exact SpecOk.ld hrd hre (q := .pointer (some ⟨X, 0, none⟩)) (h := fun _ w' _ _ _ _ hle => by obtain ⟨q0, q1, q2, q3, q4⟩ := ir_blk (hle.block HA.out); go_simp; rfl)
    · refine SpecOk.call 21 #[.agg #[.string x.src, .string x.dst, .bool x.allow, .int .u64 (x.made : Int), .int .u64 (x.ix : Int)]] rfl (by kernel_rfl) (fun _ => by kernel_rfl) fun _ w' _ _ _ _ _ => ?_
      refine (HRx.out w').mono ?_
      rintro e w2 ⟨rfl, rfl⟩
      exact ⟨_, rfl, (GrN.alloc _ _), trivial, rfl⟩
    · refine SpecOk.call 44 #[.int .i64 (y.rank : Int), .int .i64 (x.rank : Int)] rfl (by kernel_rfl) (fun _ => by kernel_rfl) fun _ w' _ _ _ _ _ => ?_
      refine (HC1.out w').mono ?_
      rintro e w2 ⟨rfl, rfl⟩
      exact ⟨_, rfl, (GrN.refl _), trivial, rfl⟩
    · exact SpecOk.ld hrd hre (q := .pointer (some ⟨X, 1, none⟩)) (h := fun _ w' _ _ _ _ hle => by obtain ⟨q0, q1, q2, q3, q4⟩ := ir_blk (hle.block HA.out); go_simp; rfl)
    · exact SpecOk.ld hrd hre (q := .pointer (some ⟨X + 1, 1, none⟩)) (h := fun _ w' _ _ _ _ hle => by obtain ⟨q0, q1, q2, q3, q4⟩ := ir_blk (hle.block HB.out); go_simp; rfl)
    · refine SpecOk.call 45 #[.string x.dst, .string y.dst] rfl (by kernel_rfl) (fun _ => by kernel_rfl) fun _ w' _ _ _ _ _ => ?_
      refine (HC2.out w').mono ?_
      rintro e w2 ⟨rfl, rfl⟩
      exact ⟨_, rfl, (GrN.refl _), trivial, rfl⟩
    · exact SpecOk.ld hrd hre (q := .pointer (some ⟨X, 0, none⟩)) (h := fun _ w' _ _ _ _ hle => by obtain ⟨q0, q1, q2, q3, q4⟩ := ir_blk (hle.block HA.out); go_simp; rfl)
    · exact SpecOk.ld hrd hre (q := .pointer (some ⟨X + 1, 0, none⟩)) (h := fun _ w' _ _ _ _ hle => by obtain ⟨q0, q1, q2, q3, q4⟩ := ir_blk (hle.block HB.out); go_simp; rfl)
    · refine SpecOk.call 45 #[.string x.src, .string y.src] rfl (by kernel_rfl) (fun _ => by kernel_rfl) fun _ w' _ _ _ _ _ => ?_
      refine (HC3.out w').mono ?_
      rintro e w2 ⟨rfl, rfl⟩
      exact ⟨_, rfl, (GrN.refl _), trivial, rfl⟩
    · refine SpecOk.gen (fun e => [(9, .int .i64 c1), (14, .int .i64 c2), (19, .int .i64 c3)]) rfl rfl (fun _ => by kernel_rfl) fun f w' e hI hf hdesc hanc hle hX K hK => ?_
      go_simp
      exact hK _ _ (GrN.alloc _ _) trivial ⟨_, rfl, heap_alloc_new _ _⟩
    · refine SpecOk.gen (fun e => [(20, e 15)]) rfl rfl (fun _ => by kernel_rfl) fun f w' e hI hf hdesc hanc hle hX K hK => ?_
      obtain ⟨Z15, e15, h15⟩ := hX 15 rfl rfl
      simp only [e15]
      have z0 := cellsN h15 0 _ rfl
      have z1 := cellsN h15 1 _ rfl
      have z2 := cellsN h15 2 _ rfl
      go_simp
      refine (or_any c1 c2 c3 Z15 w' z0 z1 z2).mono ?_
      rintro e9 w2 ⟨rfl, rfl⟩
      exact hK _ _ (GrN.refl _) trivial rfl
  · intro f w7 e hall hI hle hv
    have v4 := hv 17 rfl
    obtain ⟨n, os, h7⟩ := GrN.trans _ _ _ HG.out hle
    simp only [Go.Rel.finL, List.setIfInBounds_toArray, List.set_cons_succ, List.set_cons_zero]
    rw [show e 17 = .int .i64 (orI3 c1 c2 c3) from v4]
    clear hv hall hle hI v4
    go_wp2
    go_ret
    exact ⟨rfl, n, os, rfl⟩
end Go.Proofs.Ytmegfkclpjddgaa
