/-
  Of any two updates it is told whether one may be, which one is above, and which one counts: the law sodalitylaw08.RankAboves over the contracts (layer 8).
-/
import Derived.Test.YtfkaljegkkdmmaaRefutesLaw8
import Derived.Test.YtfkaljegkkdmmaaRkEq
namespace Go.Proofs.Ytfkaljegkkdmmaa
open Go.RowKit
set_option linter.unusedSimpArgs false
set_option linter.unusedVariables false

def abovesR (X : Nat) (a : Up) (b : Up) (c : Up) (r1 : Bool) (r2 : Bool) : Nat → Value → World → Prop
  | 0, v, _ => v = .agg #[.int .i64 a.node, .int .u32 (a.inc : Int), .int .i64 a.st]
  | 1, v, _ => v = .bool r1
  | 2, v, _ => v = .agg #[.int .i64 a.node, .int .u32 (a.inc : Int), .int .i64 a.st]
  | 3, v, _ => v = .bool r1
  | 4, v, _ => v = .bool true
  | 5, v, _ => v = .bool true
  | 6, v, _ => v = .agg #[.int .i64 a.node, .int .u32 (a.inc : Int), .int .i64 a.st]
  | 7, v, _ => v = .agg #[.int .i64 b.node, .int .u32 (b.inc : Int), .int .i64 b.st]
  | 8, v, _ => v = .bool r2
  | 9, v, _ => v = .agg #[.int .i64 a.node, .int .u32 (a.inc : Int), .int .i64 a.st]
  | 10, v, _ => v = .agg #[.int .i64 b.node, .int .u32 (b.inc : Int), .int .i64 b.st]
  | 11, v, _ => v = .bool r2
  | 12, v, _ => v = .bool true
  | 13, v, _ => v = .bool true
  | 14, v, _ => v = .bool true
  | 15, v, _ => v = .agg #[.int .i64 a.node, .int .u32 (a.inc : Int), .int .i64 a.st]
  | 16, v, _ => v = .agg #[.int .i64 b.node, .int .u32 (b.inc : Int), .int .i64 b.st]
  | 17, v, _ => v = .agg #[.int .i64 c.node, .int .u32 (c.inc : Int), .int .i64 c.st]
  | 18, v, _ => v = .agg #[.int .i64 c.node, .int .u32 (c.inc : Int), .int .i64 c.st]
  | 19, v, _ => v = .bool true
  | 20, v, _ => v = .bool true
  | 21, v, _ => v = .bool true
  | 22, v, _ => v = .bool true
  | 23, v, _ => v = .bool true
  | 24, v, _ => v = .bool true
  | _, _, _ => True
theorem abovesR_stable (X : Nat) (a : Up) (b : Up) (c : Up) (r1 : Bool) (r2 : Bool) : ∀ i v w w', abovesR X a b c r1 r2 i v w → Go.Rel.Grew w w' → abovesR X a b c r1 r2 i v w'
  | 0, _, _, _, h, _ | 1, _, _, _, h, _ | 2, _, _, _, h, _ | 3, _, _, _, h, _ | 4, _, _, _, h, _ | 5, _, _, _, h, _ | 6, _, _, _, h, _ | 7, _, _, _, h, _ | 8, _, _, _, h, _ | 9, _, _, _, h, _ | 10, _, _, _, h, _ | 11, _, _, _, h, _ | 12, _, _, _, h, _ | 13, _, _, _, h, _ | 14, _, _, _, h, _ | 15, _, _, _, h, _ | 16, _, _, _, h, _ | 17, _, _, _, h, _ | 18, _, _, _, h, _ | 19, _, _, _, h, _ | 20, _, _, _, h, _ | 21, _, _, _, h, _ | 22, _, _, _, h, _ | 23, _, _, _, h, _ | 24, _, _, _, h, _ => h
  | _ + 25, _, _, _, h, _ => h

set_option maxRecDepth 100000 in
set_option maxHeartbeats 16000000 in
theorem aboves_walk (a b : Up) (w : World) :
    Calls Try.prog 3 #[.agg #[.int .i64 a.node, .int .u32 (a.inc : Int), .int .i64 a.st], .agg #[.int .i64 b.node, .int .u32 (b.inc : Int), .int .i64 b.st]] w fun e w' => e = .returned (.bool true) ∧ Below w.heap.size w w' := by
  obtain ⟨X, hX⟩ : ∃ X, w.heap.size = X := ⟨_, rfl⟩
  obtain ⟨W, hW⟩ : ∃ W, ((w.alloc (.cells #[.int .i64 a.node, .int .u32 (a.inc : Int), .int .i64 a.st] 24)).alloc (.cells #[.int .i64 b.node, .int .u32 (b.inc : Int), .int .i64 b.st] 24)).alloc (.cells #[.int .i64 a.node, .int .u32 (a.inc : Int), .int .i64 a.st] 24) = W := ⟨_, rfl⟩
  have hb : Below w.heap.size w W := by rw [← hW]; exact (below2 w _ _).alloc (by simp; omega) _
  have k0 : W.heap[X]? = some ((.cells #[.int .i64 a.node, .int .u32 (a.inc : Int), .int .i64 a.st] 24)) := by
    rw [← hW, ← hX, Below.heap_alloc _ _ _ (by simp; omega), Below.heap_alloc _ _ _ (by simp)]
    exact heap_alloc_new w _
  have k1 : W.heap[X + 1]? = some ((.cells #[.int .i64 b.node, .int .u32 (b.inc : Int), .int .i64 b.st] 24)) := by
    rw [← hW, ← hX, Below.heap_alloc _ _ _ (by simp)]
    have := heap_alloc_new (w.alloc (.cells #[.int .i64 a.node, .int .u32 (a.inc : Int), .int .i64 a.st] 24)) (.cells #[.int .i64 b.node, .int .u32 (b.inc : Int), .int .i64 b.st] 24)
    simpa using this
  have k2 : W.heap[X + 1 + 1]? = some ((.cells #[.int .i64 a.node, .int .u32 (a.inc : Int), .int .i64 a.st] 24)) := by
    rw [← hW, ← hX]
    have := heap_alloc_new ((w.alloc (.cells #[.int .i64 a.node, .int .u32 (a.inc : Int), .int .i64 a.st] 24)).alloc (.cells #[.int .i64 b.node, .int .u32 (b.inc : Int), .int .i64 b.st] 24)) (.cells #[.int .i64 a.node, .int .u32 (a.inc : Int), .int .i64 a.st] 24)
    simpa using this
  have HK := Lib.hid (And.intro k0 (And.intro k1 k2))
  have HB := Lib.hid hb
  have HW := Lib.hid hW
  have HX := Lib.hid hX
  obtain ⟨c, hc⟩ : ∃ c, a.best b = c := ⟨_, rfl⟩
  obtain ⟨r1, hr1⟩ : ∃ r, a.right = r := ⟨_, rfl⟩
  obtain ⟨r2, hr2⟩ : ∃ r, a.above b = r := ⟨_, rfl⟩
  obtain ⟨r, hr⟩ : ∃ r, b.above a = r := ⟨_, rfl⟩
  have HPr := Lib.hid (fun w => pright_any a w r1 hr1)
  have HRr := Lib.hid (fun w => rright_any a w r1 hr1)
  have HPa := Lib.hid (fun w => pabove_any a b w r2 hr2)
  have HRa := Lib.hid (fun w => rabove_any a b w r2 hr2)
  have HRb := Lib.hid (fun w => rabove_any b a w r hr)
  have HBe := Lib.hid (fun w => best_any a b w)
  rw [hc] at HBe
  have HWk := Lib.hid (fun w => works_any w)
  have HCc := Lib.hid (show c = if r = true then b else a by rw [← hc, ← hr]; rfl)
  have HEq : Hid (∀ w, (Op.equalIn 10000 24 (.agg #[.int .i64 c.node, .int .u32 (c.inc : Int), .int .i64 c.st]) (.agg #[.int .i64 c.node, .int .u32 (c.inc : Int), .int .i64 c.st])).run Try.prog w = .ok true w) := Lib.hid (fun w => by rw [up_eq, decide_eq_true rfl])
  clear hX hW hb k0 k1 k2 hc hr1 hr2 hr
  go_enter Try.func3, Try.ntmps3
  go_wp2_with fail
  rw [HW.out, HX.out]
  refine (HRb.out _).mono ?_
  clear HRb
  rintro e w1 ⟨rfl, hb1⟩
  have HB1 := Lib.hid (HB.out.trans (hb1.mono HB.out.size))
  have i0 := (hb1.block _ (block_lt HK.out.1)).trans HK.out.1
  have i1 := (hb1.block _ (block_lt HK.out.2.1)).trans HK.out.2.1
  have i2 := (hb1.block _ (block_lt HK.out.2.2)).trans HK.out.2.2
  clear hb1
  cases r with
  | true =>
    obtain rfl : c = b := by rw [HCc.out]; rfl
    obtain ⟨b0, b1, b2⟩ := blk3 i1
    obtain ⟨d0, d1, d2⟩ := blk3 i2
    have g0 := blk_froz i2 0
    have g1 := blk_froz i2 1
    have g2 := blk_froz i2 2
    have q := set3_blk i2 (.int .i64 c.node) (.int .u32 (c.inc : Int)) (.int .i64 c.st)
    have hbt : But (· = X + 1 + 1) w1 (((w1.setCell ⟨X + 1 + 1, 0, none⟩ (.int .i64 c.node)).setCell ⟨X + 1 + 1, 1, none⟩ (.int .u32 (c.inc : Int))).setCell ⟨X + 1 + 1, 2, none⟩ (.int .i64 c.st)) := ((But.set (S := (· = X + 1 + 1)) _ (p := ⟨X + 1 + 1, 0, none⟩) rfl _).trans (But.set (S := (· = X + 1 + 1)) _ (p := ⟨X + 1 + 1, 1, none⟩) rfl _)).trans (But.set (S := (· = X + 1 + 1)) _ (p := ⟨X + 1 + 1, 2, none⟩) rfl _)
    obtain ⟨W2, hW2⟩ : ∃ W2, ((w1.setCell ⟨X + 1 + 1, 0, none⟩ (.int .i64 c.node)).setCell ⟨X + 1 + 1, 1, none⟩ (.int .u32 (c.inc : Int))).setCell ⟨X + 1 + 1, 2, none⟩ (.int .i64 c.st) = W2 := ⟨_, rfl⟩
    rw [hW2] at q hbt
    have HJ := Lib.hid (And.intro ((hbt.block _ (block_lt i0) (by omega)).trans i0) (And.intro ((hbt.block _ (block_lt i1) (by omega)).trans i1) q))
    have HB2 : Hid (Below w.heap.size w W2) := Lib.hid (HB1.out.trans (hbt.below HB1.out.size (fun k hk e => by have := HX.out; omega)))
    have HW2 := Lib.hid hW2
    clear i0 i1 i2 q hbt hW2
    go_wp2
    rw [HW2.out]
    clear b0 b1 b2 d0 d1 d2 g0 g1 g2
    obtain ⟨j0, j1, j2⟩ := HJ.out
    have HC : Hid (∀ w', Go.Rel.Grew W2 w' → w'.cell? ⟨X, 0, none⟩ = some (.int .i64 a.node) ∧ w'.cell? ⟨X, 1, none⟩ = some (.int .u32 (a.inc : Int)) ∧ w'.cell? ⟨X, 2, none⟩ = some (.int .i64 a.st) ∧ w'.cell? ⟨(X + 1), 0, none⟩ = some (.int .i64 c.node) ∧ w'.cell? ⟨(X + 1), 1, none⟩ = some (.int .u32 (c.inc : Int)) ∧ w'.cell? ⟨(X + 1), 2, none⟩ = some (.int .i64 c.st) ∧ w'.cell? ⟨(X + 1 + 1), 0, none⟩ = some (.int .i64 c.node) ∧ w'.cell? ⟨(X + 1 + 1), 1, none⟩ = some (.int .u32 (c.inc : Int)) ∧ w'.cell? ⟨(X + 1 + 1), 2, none⟩ = some (.int .i64 c.st)) := by
      refine Lib.hid (fun w' hle => ?_)
      have i0 := (Below.block hle _ (block_lt j0)).trans j0
      have i1 := (Below.block hle _ (block_lt j1)).trans j1
      have i2 := (Below.block hle _ (block_lt j2)).trans j2
      obtain ⟨x0, x1, x2⟩ := blk3 i0
      obtain ⟨x3, x4, x5⟩ := blk3 i1
      obtain ⟨x6, x7, x8⟩ := blk3 i2
      exact ⟨x0, x1, x2, x3, x4, x5, x6, x7, x8⟩
    clear j0 j1 j2
    refine Go.Rel.wp_region_grew (by kernel_rfl) (by kernel_rfl) (by kernel_rfl) (by kernel_rfl) (abovesR X a c c r1 r2) (abovesR_stable X a c c r1 r2) ?hs1 ?he1
    case hs1 =>
      refine (.cons ?_ (.cons ?_ (.cons ?_ (.cons ?_ (.cons ?_ (.cons ?_ (.cons ?_ (.cons ?_ (.cons ?_ (.cons ?_ (.cons ?_ (.cons ?_ (.cons ?_ (.cons ?_ (.cons ?_ (.cons ?_ (.cons ?_ (.cons ?_ (.cons ?_ (.cons ?_ (.cons ?_ (.cons ?_ (.cons ?_ (.cons ?_ (.cons ?_ .nil)))))))))))))))))))))))))
      · intro a w' hle hs' hd K hK
        have f2 : a.tmps[2]? = some (.pointer (some ⟨X, 0, none⟩)) := hs'.2.2 2 (by kernel_rfl)
        obtain ⟨x0, x1, x2, x3, x4, x5, x6, x7, x8⟩ := HC.out w' hle
        unfold Go.Rel.stepOf
        go_simp
        exact hK _ _ (Go.Rel.Grew.refl _) rfl
      · intro a w' hle hs' hd K hK
        obtain ⟨_, t0, rfl⟩ := hd 0 11 (by kernel_rfl)
        unfold Go.Rel.stepOf
        go_simp
        refine (HPr.out w').mono ?_
        rintro e w5 ⟨rfl, hb5⟩
        exact hK _ _ hb5 rfl
      · intro a w' hle hs' hd K hK
        have f2 : a.tmps[2]? = some (.pointer (some ⟨X, 0, none⟩)) := hs'.2.2 2 (by kernel_rfl)
        obtain ⟨x0, x1, x2, x3, x4, x5, x6, x7, x8⟩ := HC.out w' hle
        unfold Go.Rel.stepOf
        go_simp
        exact hK _ _ (Go.Rel.Grew.refl _) rfl
      · intro a w' hle hs' hd K hK
        obtain ⟨_, t2, rfl⟩ := hd 2 13 (by kernel_rfl)
        unfold Go.Rel.stepOf
        go_simp
        refine (HRr.out w').mono ?_
        rintro e w5 ⟨rfl, hb5⟩
        exact hK _ _ hb5 rfl
      · intro a w' hle hs' hd K hK
        obtain ⟨_, t1, rfl⟩ := hd 1 12 (by kernel_rfl)
        obtain ⟨_, t3, rfl⟩ := hd 3 14 (by kernel_rfl)
        unfold Go.Rel.stepOf
        go_simp
        exact hK _ _ (Go.Rel.Grew.refl _) rfl
      · intro a w' hle hs' hd K hK
        obtain ⟨_, t4, rfl⟩ := hd 4 15 (by kernel_rfl)
        unfold Go.Rel.stepOf
        go_simp
        exact hK _ _ (Go.Rel.Grew.refl _) rfl
      · intro a w' hle hs' hd K hK
        obtain ⟨_, tg, rfl⟩ := hd 5 16 (by kernel_rfl)
        have f2 : a.tmps[2]? = some (.pointer (some ⟨X, 0, none⟩)) := hs'.2.2 2 (by kernel_rfl)
        obtain ⟨x0, x1, x2, x3, x4, x5, x6, x7, x8⟩ := HC.out w' hle
        unfold Go.Rel.stepOf
        go_simp
        exact hK _ _ (Go.Rel.Grew.refl _) rfl
      · intro a w' hle hs' hd K hK
        obtain ⟨_, tg, rfl⟩ := hd 5 16 (by kernel_rfl)
        have f3 : a.tmps[3]? = some (.pointer (some ⟨(X + 1), 0, none⟩)) := hs'.2.2 3 (by kernel_rfl)
        obtain ⟨x0, x1, x2, x3, x4, x5, x6, x7, x8⟩ := HC.out w' hle
        unfold Go.Rel.stepOf
        go_simp
        exact hK _ _ (Go.Rel.Grew.refl _) rfl
      · intro a w' hle hs' hd K hK
        obtain ⟨_, tg, rfl⟩ := hd 5 16 (by kernel_rfl)
        obtain ⟨_, t6, rfl⟩ := hd 6 17 (by kernel_rfl)
        obtain ⟨_, t7, rfl⟩ := hd 7 18 (by kernel_rfl)
        unfold Go.Rel.stepOf
        go_simp
        refine (HPa.out w').mono ?_
        rintro e w5 ⟨rfl, hb5⟩
        exact hK _ _ hb5 rfl
      · intro a w' hle hs' hd K hK
        obtain ⟨_, tg, rfl⟩ := hd 5 16 (by kernel_rfl)
        have f2 : a.tmps[2]? = some (.pointer (some ⟨X, 0, none⟩)) := hs'.2.2 2 (by kernel_rfl)
        obtain ⟨x0, x1, x2, x3, x4, x5, x6, x7, x8⟩ := HC.out w' hle
        unfold Go.Rel.stepOf
        go_simp
        exact hK _ _ (Go.Rel.Grew.refl _) rfl
      · intro a w' hle hs' hd K hK
        obtain ⟨_, tg, rfl⟩ := hd 5 16 (by kernel_rfl)
        have f3 : a.tmps[3]? = some (.pointer (some ⟨(X + 1), 0, none⟩)) := hs'.2.2 3 (by kernel_rfl)
        obtain ⟨x0, x1, x2, x3, x4, x5, x6, x7, x8⟩ := HC.out w' hle
        unfold Go.Rel.stepOf
        go_simp
        exact hK _ _ (Go.Rel.Grew.refl _) rfl
      · intro a w' hle hs' hd K hK
        obtain ⟨_, tg, rfl⟩ := hd 5 16 (by kernel_rfl)
        obtain ⟨_, t9, rfl⟩ := hd 9 20 (by kernel_rfl)
        obtain ⟨_, t10, rfl⟩ := hd 10 21 (by kernel_rfl)
        unfold Go.Rel.stepOf
        go_simp
        refine (HRa.out w').mono ?_
        rintro e w5 ⟨rfl, hb5⟩
        exact hK _ _ hb5 rfl
      · intro a w' hle hs' hd K hK
        obtain ⟨_, tg, rfl⟩ := hd 5 16 (by kernel_rfl)
        obtain ⟨_, t8, rfl⟩ := hd 8 19 (by kernel_rfl)
        obtain ⟨_, t11, rfl⟩ := hd 11 22 (by kernel_rfl)
        unfold Go.Rel.stepOf
        go_simp
        exact hK _ _ (Go.Rel.Grew.refl _) rfl
      · intro a w' hle hs' hd K hK
        obtain ⟨_, t5, rfl⟩ := hd 5 16 (by kernel_rfl)
        obtain ⟨_, t12, rfl⟩ := hd 12 23 (by kernel_rfl)
        unfold Go.Rel.stepOf
        go_simp
        exact hK _ _ (Go.Rel.Grew.refl _) rfl
      · intro a w' hle hs' hd K hK
        obtain ⟨_, t13, rfl⟩ := hd 13 24 (by kernel_rfl)
        unfold Go.Rel.stepOf
        go_simp
        exact hK _ _ (Go.Rel.Grew.refl _) rfl
      · intro a w' hle hs' hd K hK
        obtain ⟨_, tg, rfl⟩ := hd 14 25 (by kernel_rfl)
        have f2 : a.tmps[2]? = some (.pointer (some ⟨X, 0, none⟩)) := hs'.2.2 2 (by kernel_rfl)
        obtain ⟨x0, x1, x2, x3, x4, x5, x6, x7, x8⟩ := HC.out w' hle
        unfold Go.Rel.stepOf
        go_simp
        exact hK _ _ (Go.Rel.Grew.refl _) rfl
      · intro a w' hle hs' hd K hK
        obtain ⟨_, tg, rfl⟩ := hd 14 25 (by kernel_rfl)
        have f3 : a.tmps[3]? = some (.pointer (some ⟨(X + 1), 0, none⟩)) := hs'.2.2 3 (by kernel_rfl)
        obtain ⟨x0, x1, x2, x3, x4, x5, x6, x7, x8⟩ := HC.out w' hle
        unfold Go.Rel.stepOf
        go_simp
        exact hK _ _ (Go.Rel.Grew.refl _) rfl
      · intro a w' hle hs' hd K hK
        obtain ⟨_, tg, rfl⟩ := hd 14 25 (by kernel_rfl)
        obtain ⟨_, t15, rfl⟩ := hd 15 26 (by kernel_rfl)
        obtain ⟨_, t16, rfl⟩ := hd 16 27 (by kernel_rfl)
        unfold Go.Rel.stepOf
        go_simp
        refine (HBe.out w').mono ?_
        rintro e w5 ⟨rfl, hb5⟩
        exact hK _ _ hb5 rfl
      · intro a w' hle hs' hd K hK
        obtain ⟨_, tg, rfl⟩ := hd 14 25 (by kernel_rfl)
        have f5 : a.tmps[5]? = some (.pointer (some ⟨(X + 1 + 1), 0, none⟩)) := hs'.2.2 5 (by kernel_rfl)
        obtain ⟨x0, x1, x2, x3, x4, x5, x6, x7, x8⟩ := HC.out w' hle
        unfold Go.Rel.stepOf
        go_simp
        exact hK _ _ (Go.Rel.Grew.refl _) rfl
      · intro a w' hle hs' hd K hK
        obtain ⟨_, tg, rfl⟩ := hd 14 25 (by kernel_rfl)
        obtain ⟨_, t17, rfl⟩ := hd 17 28 (by kernel_rfl)
        obtain ⟨_, t18, rfl⟩ := hd 18 29 (by kernel_rfl)
        have ug := up_guard
        have ue := HEq.out
        unfold Go.Rel.stepOf
        go_simp
        exact hK _ _ (Go.Rel.Grew.refl _) rfl
      · intro a w' hle hs' hd K hK
        obtain ⟨_, t14, rfl⟩ := hd 14 25 (by kernel_rfl)
        obtain ⟨_, t19, rfl⟩ := hd 19 30 (by kernel_rfl)
        unfold Go.Rel.stepOf
        go_simp
        exact hK _ _ (Go.Rel.Grew.refl _) rfl
      · intro a w' hle hs' hd K hK
        obtain ⟨_, t20, rfl⟩ := hd 20 31 (by kernel_rfl)
        unfold Go.Rel.stepOf
        go_simp
        exact hK _ _ (Go.Rel.Grew.refl _) rfl
      · intro a w' hle hs' hd K hK
        obtain ⟨_, tg, rfl⟩ := hd 21 32 (by kernel_rfl)
        unfold Go.Rel.stepOf
        go_simp
        refine (HWk.out w').mono ?_
        rintro e w5 ⟨rfl, hb5⟩
        exact hK _ _ hb5 rfl
      · intro a w' hle hs' hd K hK
        obtain ⟨_, t21, rfl⟩ := hd 21 32 (by kernel_rfl)
        obtain ⟨_, t22, rfl⟩ := hd 22 33 (by kernel_rfl)
        unfold Go.Rel.stepOf
        go_simp
        exact hK _ _ (Go.Rel.Grew.refl _) rfl
      · intro a w' hle hs' hd K hK
        obtain ⟨_, t23, rfl⟩ := hd 23 34 (by kernel_rfl)
        unfold Go.Rel.stepOf
        go_simp
        exact hK _ _ (Go.Rel.Grew.refl _) rfl
    case he1 =>
      intro a3 w3 hle hs' hR'
      have HB3 := Lib.hid (HB2.out.trans (Below.mono hle HB2.out.size))
      clear hle
      obtain ⟨v11, s11, _⟩ := hR' 0 11 (by kernel_rfl)
      obtain ⟨v12, s12, _⟩ := hR' 1 12 (by kernel_rfl)
      obtain ⟨v13, s13, _⟩ := hR' 2 13 (by kernel_rfl)
      obtain ⟨v14, s14, _⟩ := hR' 3 14 (by kernel_rfl)
      obtain ⟨v15, s15, _⟩ := hR' 4 15 (by kernel_rfl)
      obtain ⟨v16, s16, _⟩ := hR' 5 16 (by kernel_rfl)
      obtain ⟨v17, s17, _⟩ := hR' 6 17 (by kernel_rfl)
      obtain ⟨v18, s18, _⟩ := hR' 7 18 (by kernel_rfl)
      obtain ⟨v19, s19, _⟩ := hR' 8 19 (by kernel_rfl)
      obtain ⟨v20, s20, _⟩ := hR' 9 20 (by kernel_rfl)
      obtain ⟨v21, s21, _⟩ := hR' 10 21 (by kernel_rfl)
      obtain ⟨v22, s22, _⟩ := hR' 11 22 (by kernel_rfl)
      obtain ⟨v23, s23, _⟩ := hR' 12 23 (by kernel_rfl)
      obtain ⟨v24, s24, _⟩ := hR' 13 24 (by kernel_rfl)
      obtain ⟨v25, s25, _⟩ := hR' 14 25 (by kernel_rfl)
      obtain ⟨v26, s26, _⟩ := hR' 15 26 (by kernel_rfl)
      obtain ⟨v27, s27, _⟩ := hR' 16 27 (by kernel_rfl)
      obtain ⟨v28, s28, _⟩ := hR' 17 28 (by kernel_rfl)
      obtain ⟨v29, s29, _⟩ := hR' 18 29 (by kernel_rfl)
      obtain ⟨v30, s30, _⟩ := hR' 19 30 (by kernel_rfl)
      obtain ⟨v31, s31, _⟩ := hR' 20 31 (by kernel_rfl)
      obtain ⟨v32, s32, _⟩ := hR' 21 32 (by kernel_rfl)
      obtain ⟨v33, s33, _⟩ := hR' 22 33 (by kernel_rfl)
      obtain ⟨v34, s34, _⟩ := hR' 23 34 (by kernel_rfl)
      obtain ⟨_, s4, rfl⟩ := hR' 24 4 (by kernel_rfl)
      have e := hs'.shape
      simp only [List.toList_toArray, List.foldl, Go.Rel.reset, Array.getD_eq_getD_getElem?, s11, s12, s13, s14, s15, s16, s17, s18, s19, s20, s21, s22, s23, s24, s25, s26, s27, s28, s29, s30, s31, s32, s33, s34, s4, Option.getD_some] at e
      simp at e
      clear hR' hs' s11 s12 s13 s14 s15 s16 s17 s18 s19 s20 s21 s22 s23 s24 s25 s26 s27 s28 s29 s30 s31 s32 s33 s34 s4
      subst e
      go_wp2
      go_ret
      exact ⟨rfl, HB3.out⟩
  | false =>
    obtain rfl : c = a := by rw [HCc.out]; rfl
    have HJ := Lib.hid (And.intro i0 (And.intro i1 i2))
    have HB2 := Lib.hid HB1.out
    clear i0 i1 i2
    go_wp2
    obtain ⟨W2, rfl⟩ : ∃ W2, W2 = w1 := ⟨_, rfl⟩
    obtain ⟨j0, j1, j2⟩ := HJ.out
    have HC : Hid (∀ w', Go.Rel.Grew W2 w' → w'.cell? ⟨X, 0, none⟩ = some (.int .i64 c.node) ∧ w'.cell? ⟨X, 1, none⟩ = some (.int .u32 (c.inc : Int)) ∧ w'.cell? ⟨X, 2, none⟩ = some (.int .i64 c.st) ∧ w'.cell? ⟨(X + 1), 0, none⟩ = some (.int .i64 b.node) ∧ w'.cell? ⟨(X + 1), 1, none⟩ = some (.int .u32 (b.inc : Int)) ∧ w'.cell? ⟨(X + 1), 2, none⟩ = some (.int .i64 b.st) ∧ w'.cell? ⟨(X + 1 + 1), 0, none⟩ = some (.int .i64 c.node) ∧ w'.cell? ⟨(X + 1 + 1), 1, none⟩ = some (.int .u32 (c.inc : Int)) ∧ w'.cell? ⟨(X + 1 + 1), 2, none⟩ = some (.int .i64 c.st)) := by
      refine Lib.hid (fun w' hle => ?_)
      have i0 := (Below.block hle _ (block_lt j0)).trans j0
      have i1 := (Below.block hle _ (block_lt j1)).trans j1
      have i2 := (Below.block hle _ (block_lt j2)).trans j2
      obtain ⟨x0, x1, x2⟩ := blk3 i0
      obtain ⟨x3, x4, x5⟩ := blk3 i1
      obtain ⟨x6, x7, x8⟩ := blk3 i2
      exact ⟨x0, x1, x2, x3, x4, x5, x6, x7, x8⟩
    clear j0 j1 j2
    refine Go.Rel.wp_region_grew (by kernel_rfl) (by kernel_rfl) (by kernel_rfl) (by kernel_rfl) (abovesR X c b c r1 r2) (abovesR_stable X c b c r1 r2) ?hs2 ?he2
    case hs2 =>
      refine (.cons ?_ (.cons ?_ (.cons ?_ (.cons ?_ (.cons ?_ (.cons ?_ (.cons ?_ (.cons ?_ (.cons ?_ (.cons ?_ (.cons ?_ (.cons ?_ (.cons ?_ (.cons ?_ (.cons ?_ (.cons ?_ (.cons ?_ (.cons ?_ (.cons ?_ (.cons ?_ (.cons ?_ (.cons ?_ (.cons ?_ (.cons ?_ (.cons ?_ .nil)))))))))))))))))))))))))
      · intro a w' hle hs' hd K hK
        have f2 : a.tmps[2]? = some (.pointer (some ⟨X, 0, none⟩)) := hs'.2.2 2 (by kernel_rfl)
        obtain ⟨x0, x1, x2, x3, x4, x5, x6, x7, x8⟩ := HC.out w' hle
        unfold Go.Rel.stepOf
        go_simp
        exact hK _ _ (Go.Rel.Grew.refl _) rfl
      · intro a w' hle hs' hd K hK
        obtain ⟨_, t0, rfl⟩ := hd 0 11 (by kernel_rfl)
        unfold Go.Rel.stepOf
        go_simp
        refine (HPr.out w').mono ?_
        rintro e w5 ⟨rfl, hb5⟩
        exact hK _ _ hb5 rfl
      · intro a w' hle hs' hd K hK
        have f2 : a.tmps[2]? = some (.pointer (some ⟨X, 0, none⟩)) := hs'.2.2 2 (by kernel_rfl)
        obtain ⟨x0, x1, x2, x3, x4, x5, x6, x7, x8⟩ := HC.out w' hle
        unfold Go.Rel.stepOf
        go_simp
        exact hK _ _ (Go.Rel.Grew.refl _) rfl
      · intro a w' hle hs' hd K hK
        obtain ⟨_, t2, rfl⟩ := hd 2 13 (by kernel_rfl)
        unfold Go.Rel.stepOf
        go_simp
        refine (HRr.out w').mono ?_
        rintro e w5 ⟨rfl, hb5⟩
        exact hK _ _ hb5 rfl
      · intro a w' hle hs' hd K hK
        obtain ⟨_, t1, rfl⟩ := hd 1 12 (by kernel_rfl)
        obtain ⟨_, t3, rfl⟩ := hd 3 14 (by kernel_rfl)
        unfold Go.Rel.stepOf
        go_simp
        exact hK _ _ (Go.Rel.Grew.refl _) rfl
      · intro a w' hle hs' hd K hK
        obtain ⟨_, t4, rfl⟩ := hd 4 15 (by kernel_rfl)
        unfold Go.Rel.stepOf
        go_simp
        exact hK _ _ (Go.Rel.Grew.refl _) rfl
      · intro a w' hle hs' hd K hK
        obtain ⟨_, tg, rfl⟩ := hd 5 16 (by kernel_rfl)
        have f2 : a.tmps[2]? = some (.pointer (some ⟨X, 0, none⟩)) := hs'.2.2 2 (by kernel_rfl)
        obtain ⟨x0, x1, x2, x3, x4, x5, x6, x7, x8⟩ := HC.out w' hle
        unfold Go.Rel.stepOf
        go_simp
        exact hK _ _ (Go.Rel.Grew.refl _) rfl
      · intro a w' hle hs' hd K hK
        obtain ⟨_, tg, rfl⟩ := hd 5 16 (by kernel_rfl)
        have f3 : a.tmps[3]? = some (.pointer (some ⟨(X + 1), 0, none⟩)) := hs'.2.2 3 (by kernel_rfl)
        obtain ⟨x0, x1, x2, x3, x4, x5, x6, x7, x8⟩ := HC.out w' hle
        unfold Go.Rel.stepOf
        go_simp
        exact hK _ _ (Go.Rel.Grew.refl _) rfl
      · intro a w' hle hs' hd K hK
        obtain ⟨_, tg, rfl⟩ := hd 5 16 (by kernel_rfl)
        obtain ⟨_, t6, rfl⟩ := hd 6 17 (by kernel_rfl)
        obtain ⟨_, t7, rfl⟩ := hd 7 18 (by kernel_rfl)
        unfold Go.Rel.stepOf
        go_simp
        refine (HPa.out w').mono ?_
        rintro e w5 ⟨rfl, hb5⟩
        exact hK _ _ hb5 rfl
      · intro a w' hle hs' hd K hK
        obtain ⟨_, tg, rfl⟩ := hd 5 16 (by kernel_rfl)
        have f2 : a.tmps[2]? = some (.pointer (some ⟨X, 0, none⟩)) := hs'.2.2 2 (by kernel_rfl)
        obtain ⟨x0, x1, x2, x3, x4, x5, x6, x7, x8⟩ := HC.out w' hle
        unfold Go.Rel.stepOf
        go_simp
        exact hK _ _ (Go.Rel.Grew.refl _) rfl
      · intro a w' hle hs' hd K hK
        obtain ⟨_, tg, rfl⟩ := hd 5 16 (by kernel_rfl)
        have f3 : a.tmps[3]? = some (.pointer (some ⟨(X + 1), 0, none⟩)) := hs'.2.2 3 (by kernel_rfl)
        obtain ⟨x0, x1, x2, x3, x4, x5, x6, x7, x8⟩ := HC.out w' hle
        unfold Go.Rel.stepOf
        go_simp
        exact hK _ _ (Go.Rel.Grew.refl _) rfl
      · intro a w' hle hs' hd K hK
        obtain ⟨_, tg, rfl⟩ := hd 5 16 (by kernel_rfl)
        obtain ⟨_, t9, rfl⟩ := hd 9 20 (by kernel_rfl)
        obtain ⟨_, t10, rfl⟩ := hd 10 21 (by kernel_rfl)
        unfold Go.Rel.stepOf
        go_simp
        refine (HRa.out w').mono ?_
        rintro e w5 ⟨rfl, hb5⟩
        exact hK _ _ hb5 rfl
      · intro a w' hle hs' hd K hK
        obtain ⟨_, tg, rfl⟩ := hd 5 16 (by kernel_rfl)
        obtain ⟨_, t8, rfl⟩ := hd 8 19 (by kernel_rfl)
        obtain ⟨_, t11, rfl⟩ := hd 11 22 (by kernel_rfl)
        unfold Go.Rel.stepOf
        go_simp
        exact hK _ _ (Go.Rel.Grew.refl _) rfl
      · intro a w' hle hs' hd K hK
        obtain ⟨_, t5, rfl⟩ := hd 5 16 (by kernel_rfl)
        obtain ⟨_, t12, rfl⟩ := hd 12 23 (by kernel_rfl)
        unfold Go.Rel.stepOf
        go_simp
        exact hK _ _ (Go.Rel.Grew.refl _) rfl
      · intro a w' hle hs' hd K hK
        obtain ⟨_, t13, rfl⟩ := hd 13 24 (by kernel_rfl)
        unfold Go.Rel.stepOf
        go_simp
        exact hK _ _ (Go.Rel.Grew.refl _) rfl
      · intro a w' hle hs' hd K hK
        obtain ⟨_, tg, rfl⟩ := hd 14 25 (by kernel_rfl)
        have f2 : a.tmps[2]? = some (.pointer (some ⟨X, 0, none⟩)) := hs'.2.2 2 (by kernel_rfl)
        obtain ⟨x0, x1, x2, x3, x4, x5, x6, x7, x8⟩ := HC.out w' hle
        unfold Go.Rel.stepOf
        go_simp
        exact hK _ _ (Go.Rel.Grew.refl _) rfl
      · intro a w' hle hs' hd K hK
        obtain ⟨_, tg, rfl⟩ := hd 14 25 (by kernel_rfl)
        have f3 : a.tmps[3]? = some (.pointer (some ⟨(X + 1), 0, none⟩)) := hs'.2.2 3 (by kernel_rfl)
        obtain ⟨x0, x1, x2, x3, x4, x5, x6, x7, x8⟩ := HC.out w' hle
        unfold Go.Rel.stepOf
        go_simp
        exact hK _ _ (Go.Rel.Grew.refl _) rfl
      · intro a w' hle hs' hd K hK
        obtain ⟨_, tg, rfl⟩ := hd 14 25 (by kernel_rfl)
        obtain ⟨_, t15, rfl⟩ := hd 15 26 (by kernel_rfl)
        obtain ⟨_, t16, rfl⟩ := hd 16 27 (by kernel_rfl)
        unfold Go.Rel.stepOf
        go_simp
        refine (HBe.out w').mono ?_
        rintro e w5 ⟨rfl, hb5⟩
        exact hK _ _ hb5 rfl
      · intro a w' hle hs' hd K hK
        obtain ⟨_, tg, rfl⟩ := hd 14 25 (by kernel_rfl)
        have f5 : a.tmps[5]? = some (.pointer (some ⟨(X + 1 + 1), 0, none⟩)) := hs'.2.2 5 (by kernel_rfl)
        obtain ⟨x0, x1, x2, x3, x4, x5, x6, x7, x8⟩ := HC.out w' hle
        unfold Go.Rel.stepOf
        go_simp
        exact hK _ _ (Go.Rel.Grew.refl _) rfl
      · intro a w' hle hs' hd K hK
        obtain ⟨_, tg, rfl⟩ := hd 14 25 (by kernel_rfl)
        obtain ⟨_, t17, rfl⟩ := hd 17 28 (by kernel_rfl)
        obtain ⟨_, t18, rfl⟩ := hd 18 29 (by kernel_rfl)
        have ug := up_guard
        have ue := HEq.out
        unfold Go.Rel.stepOf
        go_simp
        exact hK _ _ (Go.Rel.Grew.refl _) rfl
      · intro a w' hle hs' hd K hK
        obtain ⟨_, t14, rfl⟩ := hd 14 25 (by kernel_rfl)
        obtain ⟨_, t19, rfl⟩ := hd 19 30 (by kernel_rfl)
        unfold Go.Rel.stepOf
        go_simp
        exact hK _ _ (Go.Rel.Grew.refl _) rfl
      · intro a w' hle hs' hd K hK
        obtain ⟨_, t20, rfl⟩ := hd 20 31 (by kernel_rfl)
        unfold Go.Rel.stepOf
        go_simp
        exact hK _ _ (Go.Rel.Grew.refl _) rfl
      · intro a w' hle hs' hd K hK
        obtain ⟨_, tg, rfl⟩ := hd 21 32 (by kernel_rfl)
        unfold Go.Rel.stepOf
        go_simp
        refine (HWk.out w').mono ?_
        rintro e w5 ⟨rfl, hb5⟩
        exact hK _ _ hb5 rfl
      · intro a w' hle hs' hd K hK
        obtain ⟨_, t21, rfl⟩ := hd 21 32 (by kernel_rfl)
        obtain ⟨_, t22, rfl⟩ := hd 22 33 (by kernel_rfl)
        unfold Go.Rel.stepOf
        go_simp
        exact hK _ _ (Go.Rel.Grew.refl _) rfl
      · intro a w' hle hs' hd K hK
        obtain ⟨_, t23, rfl⟩ := hd 23 34 (by kernel_rfl)
        unfold Go.Rel.stepOf
        go_simp
        exact hK _ _ (Go.Rel.Grew.refl _) rfl
    case he2 =>
      intro a3 w3 hle hs' hR'
      have HB3 := Lib.hid (HB2.out.trans (Below.mono hle HB2.out.size))
      clear hle
      obtain ⟨v11, s11, _⟩ := hR' 0 11 (by kernel_rfl)
      obtain ⟨v12, s12, _⟩ := hR' 1 12 (by kernel_rfl)
      obtain ⟨v13, s13, _⟩ := hR' 2 13 (by kernel_rfl)
      obtain ⟨v14, s14, _⟩ := hR' 3 14 (by kernel_rfl)
      obtain ⟨v15, s15, _⟩ := hR' 4 15 (by kernel_rfl)
      obtain ⟨v16, s16, _⟩ := hR' 5 16 (by kernel_rfl)
      obtain ⟨v17, s17, _⟩ := hR' 6 17 (by kernel_rfl)
      obtain ⟨v18, s18, _⟩ := hR' 7 18 (by kernel_rfl)
      obtain ⟨v19, s19, _⟩ := hR' 8 19 (by kernel_rfl)
      obtain ⟨v20, s20, _⟩ := hR' 9 20 (by kernel_rfl)
      obtain ⟨v21, s21, _⟩ := hR' 10 21 (by kernel_rfl)
      obtain ⟨v22, s22, _⟩ := hR' 11 22 (by kernel_rfl)
      obtain ⟨v23, s23, _⟩ := hR' 12 23 (by kernel_rfl)
      obtain ⟨v24, s24, _⟩ := hR' 13 24 (by kernel_rfl)
      obtain ⟨v25, s25, _⟩ := hR' 14 25 (by kernel_rfl)
      obtain ⟨v26, s26, _⟩ := hR' 15 26 (by kernel_rfl)
      obtain ⟨v27, s27, _⟩ := hR' 16 27 (by kernel_rfl)
      obtain ⟨v28, s28, _⟩ := hR' 17 28 (by kernel_rfl)
      obtain ⟨v29, s29, _⟩ := hR' 18 29 (by kernel_rfl)
      obtain ⟨v30, s30, _⟩ := hR' 19 30 (by kernel_rfl)
      obtain ⟨v31, s31, _⟩ := hR' 20 31 (by kernel_rfl)
      obtain ⟨v32, s32, _⟩ := hR' 21 32 (by kernel_rfl)
      obtain ⟨v33, s33, _⟩ := hR' 22 33 (by kernel_rfl)
      obtain ⟨v34, s34, _⟩ := hR' 23 34 (by kernel_rfl)
      obtain ⟨_, s4, rfl⟩ := hR' 24 4 (by kernel_rfl)
      have e := hs'.shape
      simp only [List.toList_toArray, List.foldl, Go.Rel.reset, Array.getD_eq_getD_getElem?, s11, s12, s13, s14, s15, s16, s17, s18, s19, s20, s21, s22, s23, s24, s25, s26, s27, s28, s29, s30, s31, s32, s33, s34, s4, Option.getD_some] at e
      simp at e
      clear hR' hs' s11 s12 s13 s14 s15 s16 s17 s18 s19 s20 s21 s22 s23 s24 s25 s26 s27 s28 s29 s30 s31 s32 s33 s34 s4
      subst e
      go_wp2
      go_ret
      exact ⟨rfl, HB3.out⟩
end Go.Proofs.Ytfkaljegkkdmmaa
