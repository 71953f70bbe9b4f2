/-
  To be above is an order of what is said of one node: the law sodalitylaw08.RankOrder over the contracts (layer 8).
-/
import Derived.Test.YtfkaljegkkdmmaaRkTwo
namespace Go.Proofs.Ytfkaljegkkdmmaa
open Go.RowKit
set_option linter.unusedSimpArgs false
set_option linter.unusedVariables false

def orderE (X : Nat) (a : Up) (y : Up) (r1 : Bool) (r2 : Bool) : Nat → Value → World → Prop
  | 0, v, _ => v = .agg #[.int .i64 a.node, .int .u32 (a.inc : Int), .int .i64 a.st]
  | 1, v, _ => v = .agg #[.int .i64 y.node, .int .u32 (y.inc : Int), .int .i64 y.st]
  | 2, v, _ => v = .bool false
  | 3, v, _ => v = .bool false
  | 4, v, _ => v = undef
  | 5, v, _ => v = undef
  | 6, v, _ => v = undef
  | 7, v, _ => v = undef
  | 8, v, _ => v = undef
  | 9, v, _ => v = undef
  | 10, v, _ => v = undef
  | 11, v, _ => v = .bool false
  | 12, v, _ => v = .bool false
  | 13, v, _ => v = .agg #[.int .i64 a.node, .int .u32 (a.inc : Int), .int .i64 a.st]
  | 14, v, _ => v = .agg #[.int .i64 a.node, .int .u32 (a.inc : Int), .int .i64 a.st]
  | 15, v, _ => v = .bool false
  | 16, v, _ => v = .bool false
  | _, _, _ => True
theorem orderE_stable (X : Nat) (a : Up) (y : Up) (r1 : Bool) (r2 : Bool) : ∀ i v w w', orderE X a y r1 r2 i v w → Go.Rel.Grew w w' → orderE X a y r1 r2 i v w'
  | 0, _, _, _, h, _ | 1, _, _, _, h, _ | 2, _, _, _, h, _ | 3, _, _, _, h, _ | 4, _, _, _, h, _ | 5, _, _, _, h, _ | 6, _, _, _, h, _ | 7, _, _, _, h, _ | 8, _, _, _, h, _ | 9, _, _, _, h, _ | 10, _, _, _, h, _ | 11, _, _, _, h, _ | 12, _, _, _, h, _ | 13, _, _, _, h, _ | 14, _, _, _, h, _ | 15, _, _, _, h, _ | 16, _, _, _, h, _ => h
  | _ + 17, _, _, _, h, _ => h
def orderN (X : Nat) (a : Up) (y : Up) (r1 : Bool) (r2 : Bool) : Nat → Value → World → Prop
  | 0, v, _ => v = .agg #[.int .i64 a.node, .int .u32 (a.inc : Int), .int .i64 a.st]
  | 1, v, _ => v = .agg #[.int .i64 y.node, .int .u32 (y.inc : Int), .int .i64 y.st]
  | 2, v, _ => v = .bool true
  | 3, v, _ => v = .bool true
  | 4, v, _ => v = .agg #[.int .i64 a.node, .int .u32 (a.inc : Int), .int .i64 a.st]
  | 5, v, _ => v = .agg #[.int .i64 y.node, .int .u32 (y.inc : Int), .int .i64 y.st]
  | 6, v, _ => v = .bool r1
  | 7, v, _ => v = .agg #[.int .i64 y.node, .int .u32 (y.inc : Int), .int .i64 y.st]
  | 8, v, _ => v = .agg #[.int .i64 a.node, .int .u32 (a.inc : Int), .int .i64 a.st]
  | 9, v, _ => v = .bool r2
  | 10, v, _ => v = .bool false
  | 11, v, _ => v = .bool false
  | 12, v, _ => v = .bool false
  | 13, v, _ => v = .agg #[.int .i64 a.node, .int .u32 (a.inc : Int), .int .i64 a.st]
  | 14, v, _ => v = .agg #[.int .i64 a.node, .int .u32 (a.inc : Int), .int .i64 a.st]
  | 15, v, _ => v = .bool false
  | 16, v, _ => v = .bool false
  | _, _, _ => True
theorem orderN_stable (X : Nat) (a : Up) (y : Up) (r1 : Bool) (r2 : Bool) : ∀ i v w w', orderN X a y r1 r2 i v w → Go.Rel.Grew w w' → orderN X a y r1 r2 i v w'
  | 0, _, _, _, h, _ | 1, _, _, _, h, _ | 2, _, _, _, h, _ | 3, _, _, _, h, _ | 4, _, _, _, h, _ | 5, _, _, _, h, _ | 6, _, _, _, h, _ | 7, _, _, _, h, _ | 8, _, _, _, h, _ | 9, _, _, _, h, _ | 10, _, _, _, h, _ | 11, _, _, _, h, _ | 12, _, _, _, h, _ | 13, _, _, _, h, _ | 14, _, _, _, h, _ | 15, _, _, _, h, _ | 16, _, _, _, h, _ => h
  | _ + 17, _, _, _, h, _ => h
/-- What the operations of x, y := Best(a, b), Best(b, a) tell. -/
def twoR (G : Nat) (a y d : Up) : Nat → Value → World → Prop
  | 0, v, _ => v = .agg #[.int .i64 a.node, .int .u32 (a.inc : Int), .int .i64 a.st]
  | 1, v, _ => v = .agg #[.int .i64 y.node, .int .u32 (y.inc : Int), .int .i64 y.st]
  | 2, v, _ => v = .agg #[.int .i64 d.node, .int .u32 (d.inc : Int), .int .i64 d.st]
  | 3, v, _ => v = .agg #[.int .i64 y.node, .int .u32 (y.inc : Int), .int .i64 y.st]
  | 4, v, _ => v = .agg #[.int .i64 a.node, .int .u32 (a.inc : Int), .int .i64 a.st]
  | 5, v, _ => v = .agg #[.int .i64 d.node, .int .u32 (d.inc : Int), .int .i64 d.st]
  | 6, v, w => ∃ B, v = .pointer (some ⟨B, 0, none⟩) ∧ G ≤ B ∧ ∃ u0 u1 u2, w.heap[B]? = some (.cells #[u0, u1, u2] TU (0, 0))
  | 7, v, w => ∃ B, v = .pointer (some ⟨B, 0, none⟩) ∧ G ≤ B ∧ ∃ u0 u1 u2, w.heap[B]? = some (.cells #[u0, u1, u2] TU (0, 0))
  | _, _, _ => True
theorem twoR_stable (G : Nat) (a y d : Up) : ∀ i v w w', twoR G a y d i v w → LeT G w w' → twoR G a y d i v w'
  | 0, _, _, _, h, _ | 1, _, _, _, h, _ | 2, _, _, _, h, _ | 3, _, _, _, h, _ | 4, _, _, _, h, _ | 5, _, _, _, h, _ => h
  | 6, _, _, _, ⟨B, e, hB, u0, u1, u2, h⟩, g => ⟨B, e, hB, g.var B u0 u1 u2 hB h⟩
  | 7, _, _, _, ⟨B, e, hB, u0, u1, u2, h⟩, g => ⟨B, e, hB, g.var B u0 u1 u2 hB h⟩
  | _ + 8, _, _, _, h, _ => h

set_option maxRecDepth 100000 in
set_option maxHeartbeats 32000000 in
theorem order_walk (a b c : Up) (w : World) :
    Calls Try.prog 6 #[.agg #[.int .i64 a.node, .int .u32 (a.inc : Int), .int .i64 a.st], .agg #[.int .i64 b.node, .int .u32 (b.inc : Int), .int .i64 b.st], .agg #[.int .i64 c.node, .int .u32 (c.inc : Int), .int .i64 c.st]] w fun e w' => e = .returned (.bool true) ∧ Below w.heap.size w w' := by
  obtain ⟨X, hX⟩ : ∃ X, w.heap.size = X := ⟨_, rfl⟩
  obtain ⟨W, hW⟩ : ∃ W, ((w.alloc (.cells #[.int .i64 a.node, .int .u32 (a.inc : Int), .int .i64 a.st] 24)).alloc (.cells #[.int .i64 a.node, .int .u32 (b.inc : Int), .int .i64 b.st] 24)).alloc (.cells #[.int .i64 a.node, .int .u32 (c.inc : Int), .int .i64 c.st] 24) = W := ⟨_, rfl⟩
  have hb : Below w.heap.size w W := by rw [← hW]; exact (below2 w _ _).alloc (by simp; omega) _
  obtain ⟨y, hy⟩ : ∃ y : Up, ⟨a.node, b.inc, b.st⟩ = y := ⟨_, rfl⟩
  obtain ⟨z, hz⟩ : ∃ z : Up, ⟨a.node, c.inc, c.st⟩ = z := ⟨_, rfl⟩
  have hyn : a.node = y.node := by rw [← hy]
  have hzn : a.node = z.node := by rw [← hz]
  have k0 : W.heap[X]? = some (.cells #[.int .i64 a.node, .int .u32 (a.inc : Int), .int .i64 a.st] 24) := by
    rw [← hW, ← hX, Below.heap_alloc _ _ _ (by simp; omega), Below.heap_alloc _ _ _ (by simp)]
    exact heap_alloc_new w _
  have k1 : W.heap[X + 1]? = some (.cells #[.int .i64 y.node, .int .u32 (y.inc : Int), .int .i64 y.st] 24) := by
    rw [← hW, ← hX, ← hy, Below.heap_alloc _ _ _ (by simp)]
    have := heap_alloc_new (w.alloc (.cells #[.int .i64 a.node, .int .u32 (a.inc : Int), .int .i64 a.st] 24)) (.cells #[.int .i64 a.node, .int .u32 (b.inc : Int), .int .i64 b.st] 24)
    simpa using this
  have k2 : W.heap[X + 1 + 1]? = some (.cells #[.int .i64 z.node, .int .u32 (z.inc : Int), .int .i64 z.st] 24) := by
    rw [← hW, ← hX, ← hz]
    have := heap_alloc_new ((w.alloc (.cells #[.int .i64 a.node, .int .u32 (a.inc : Int), .int .i64 a.st] 24)).alloc (.cells #[.int .i64 a.node, .int .u32 (b.inc : Int), .int .i64 b.st] 24)) (.cells #[.int .i64 a.node, .int .u32 (c.inc : Int), .int .i64 c.st] 24)
    simpa using this
  have HK := Lib.hid (And.intro k0 (And.intro k1 k2))
  have HB := Lib.hid hb
  have HW := Lib.hid hW
  have HX := Lib.hid hX
  obtain ⟨d, hd⟩ : ∃ d, a.best y = d := ⟨_, rfl⟩
  obtain ⟨r1, hr1⟩ : ∃ r, a.above y = r := ⟨_, rfl⟩
  obtain ⟨r2, hr2⟩ : ∃ r, y.above a = r := ⟨_, rfl⟩
  obtain ⟨r3, hr3⟩ : ∃ r, y.above z = r := ⟨_, rfl⟩
  obtain ⟨r4, hr4⟩ : ∃ r, a.above z = r := ⟨_, rfl⟩
  have HA1 := Lib.hid (fun w => pabove_any a y w r1 hr1)
  have HA2 := Lib.hid (fun w => pabove_any y a w r2 hr2)
  have HA3 := Lib.hid (fun w => pabove_any y z w r3 hr3)
  have HA4 := Lib.hid (fun w => pabove_any a z w r4 hr4)
  have HAa := Lib.hid (fun w => pabove_any a a w false (Up.irrefl a))
  have HBe := Lib.hid (fun w => best_any a y w)
  have HBf := Lib.hid (fun w => best_any y a w)
  rw [hd] at HBe
  rw [← Up.best_comm hyn, hd] at HBf
  have HTr : Hid (r1 = true → r3 = true → r4 = true) := Lib.hid (fun h k => by rw [← hr4]; exact Up.trans (hr1.trans h) (hr3.trans k))
  have HWk := Lib.hid (fun w => works_any w)
  have HEd : Hid (∀ w, (Op.equalIn 10000 24 (.agg #[.int .i64 d.node, .int .u32 (d.inc : Int), .int .i64 d.st]) (.agg #[.int .i64 d.node, .int .u32 (d.inc : Int), .int .i64 d.st])).run Try.prog w = .ok true w) := Lib.hid (fun w => by rw [up_eq, decide_eq_true rfl])
  have HBrr : Hid (a ≠ y → (r1 == r2) = false) := Lib.hid (fun hne => by
    cases h1 : r1 with
    | true =>
      have := Up.asymm (hr1.trans h1)
      rw [hr2] at this
      rw [this]; rfl
    | false =>
      cases h2 : r2 with
      | true => rfl
      | false => exact absurd (Up.total hyn (hr1.trans h1) (hr2.trans h2)) hne)
  have HC : Hid (∀ w', Go.Rel.Grew W w' → w'.cell? ⟨X, 0, none⟩ = some (.int .i64 a.node) ∧ w'.cell? ⟨X, 1, none⟩ = some (.int .u32 (a.inc : Int)) ∧ w'.cell? ⟨X, 2, none⟩ = some (.int .i64 a.st) ∧ w'.cell? ⟨(X + 1), 0, none⟩ = some (.int .i64 y.node) ∧ w'.cell? ⟨(X + 1), 1, none⟩ = some (.int .u32 (y.inc : Int)) ∧ w'.cell? ⟨(X + 1), 2, none⟩ = some (.int .i64 y.st) ∧ w'.cell? ⟨(X + 1 + 1), 0, none⟩ = some (.int .i64 z.node) ∧ w'.cell? ⟨(X + 1 + 1), 1, none⟩ = some (.int .u32 (z.inc : Int)) ∧ w'.cell? ⟨(X + 1 + 1), 2, none⟩ = some (.int .i64 z.st)) := by
    refine Lib.hid (fun w' hle => ?_)
    have i0 := (Below.block hle _ (block_lt k0)).trans k0
    have i1 := (Below.block hle _ (block_lt k1)).trans k1
    have i2 := (Below.block hle _ (block_lt k2)).trans k2
    obtain ⟨x0, x1, x2⟩ := blk3 i0
    obtain ⟨x3, x4, x5⟩ := blk3 i1
    obtain ⟨x6, x7, x8⟩ := blk3 i2
    exact ⟨x0, x1, x2, x3, x4, x5, x6, x7, x8⟩
  clear hX hW hb k0 k1 k2 hd hr1 hr2 hr3 hr4 hy hz hyn hzn
  by_cases hay : a = y
  · have HEq : Hid (∀ w, (Op.equalIn 10000 24 (.agg #[.int .i64 a.node, .int .u32 (a.inc : Int), .int .i64 a.st]) (.agg #[.int .i64 y.node, .int .u32 (y.inc : Int), .int .i64 y.st])).run Try.prog w = .ok true w) := Lib.hid (fun w => by rw [up_eq, decide_eq_true hay])
    clear hay
    go_enter Try.func6, Try.ntmps6
    go_wp2
    rw [HW.out, HX.out]
    refine Go.Rel.wp_region_grew (by kernel_rfl) (by kernel_rfl) (by kernel_rfl) (by kernel_rfl) (orderE X a y r1 r2) (orderE_stable X a y r1 r2) ?hse ?hee
    case hse =>
      refine (.cons ?_ (.cons ?_ (.cons ?_ (.cons ?_ (.cons ?_ (.cons ?_ (.cons ?_ (.cons ?_ (.cons ?_ (.cons ?_ (.cons ?_ (.cons ?_ (.cons ?_ (.cons ?_ (.cons ?_ (.cons ?_ (.cons ?_ .nil)))))))))))))))))
      · intro a w' hle hs' hd K hK
        have f3 : a.tmps[3]? = some (.pointer (some ⟨X, 0, none⟩)) := hs'.2.2 3 (by kernel_rfl)
        obtain ⟨x0, x1, x2, x3, x4, x5, x6, x7, x8⟩ := HC.out w' hle
        unfold Go.Rel.stepOf
        go_simp
        exact hK _ _ (Go.Rel.Grew.refl _) rfl
      · intro a w' hle hs' hd K hK
        have f4 : a.tmps[4]? = some (.pointer (some ⟨(X + 1), 0, none⟩)) := hs'.2.2 4 (by kernel_rfl)
        obtain ⟨x0, x1, x2, x3, x4, x5, x6, x7, x8⟩ := HC.out w' hle
        unfold Go.Rel.stepOf
        go_simp
        exact hK _ _ (Go.Rel.Grew.refl _) rfl
      · intro a w' hle hs' hd K hK
        obtain ⟨_, t0, rfl⟩ := hd 0 15 (by kernel_rfl)
        obtain ⟨_, t1, rfl⟩ := hd 1 16 (by kernel_rfl)
        have ug := up_guard
        have ue := HEq.out
        unfold Go.Rel.stepOf
        go_simp
        exact hK _ _ (Go.Rel.Grew.refl _) rfl
      · intro a w' hle hs' hd K hK
        obtain ⟨_, t2, rfl⟩ := hd 2 17 (by kernel_rfl)
        unfold Go.Rel.stepOf
        go_simp
        exact hK _ _ (Go.Rel.Grew.refl _) rfl
      · intro a w' hle hs' hd K hK
        obtain ⟨_, tg, rfl⟩ := hd 3 18 (by kernel_rfl)
        have f3 : a.tmps[3]? = some (.pointer (some ⟨X, 0, none⟩)) := hs'.2.2 3 (by kernel_rfl)
        unfold Go.Rel.stepOf
        go_simp
        exact hK _ _ (Go.Rel.Grew.refl _) rfl
      · intro a w' hle hs' hd K hK
        obtain ⟨_, tg, rfl⟩ := hd 3 18 (by kernel_rfl)
        have f4 : a.tmps[4]? = some (.pointer (some ⟨(X + 1), 0, none⟩)) := hs'.2.2 4 (by kernel_rfl)
        unfold Go.Rel.stepOf
        go_simp
        exact hK _ _ (Go.Rel.Grew.refl _) rfl
      · intro a w' hle hs' hd K hK
        obtain ⟨_, tg, rfl⟩ := hd 3 18 (by kernel_rfl)
        obtain ⟨_, t4, rfl⟩ := hd 4 19 (by kernel_rfl)
        obtain ⟨_, t5, rfl⟩ := hd 5 20 (by kernel_rfl)
        unfold Go.Rel.stepOf
        go_simp
        exact hK _ _ (Go.Rel.Grew.refl _) rfl
      · intro a w' hle hs' hd K hK
        obtain ⟨_, tg, rfl⟩ := hd 3 18 (by kernel_rfl)
        have f4 : a.tmps[4]? = some (.pointer (some ⟨(X + 1), 0, none⟩)) := hs'.2.2 4 (by kernel_rfl)
        unfold Go.Rel.stepOf
        go_simp
        exact hK _ _ (Go.Rel.Grew.refl _) rfl
      · intro a w' hle hs' hd K hK
        obtain ⟨_, tg, rfl⟩ := hd 3 18 (by kernel_rfl)
        have f3 : a.tmps[3]? = some (.pointer (some ⟨X, 0, none⟩)) := hs'.2.2 3 (by kernel_rfl)
        unfold Go.Rel.stepOf
        go_simp
        exact hK _ _ (Go.Rel.Grew.refl _) rfl
      · intro a w' hle hs' hd K hK
        obtain ⟨_, tg, rfl⟩ := hd 3 18 (by kernel_rfl)
        obtain ⟨_, t7, rfl⟩ := hd 7 22 (by kernel_rfl)
        obtain ⟨_, t8, rfl⟩ := hd 8 23 (by kernel_rfl)
        unfold Go.Rel.stepOf
        go_simp
        exact hK _ _ (Go.Rel.Grew.refl _) rfl
      · intro a w' hle hs' hd K hK
        obtain ⟨_, tg, rfl⟩ := hd 3 18 (by kernel_rfl)
        obtain ⟨_, t6, rfl⟩ := hd 6 21 (by kernel_rfl)
        obtain ⟨_, t9, rfl⟩ := hd 9 24 (by kernel_rfl)
        unfold Go.Rel.stepOf
        go_simp
        exact hK _ _ (Go.Rel.Grew.refl _) rfl
      · intro a w' hle hs' hd K hK
        obtain ⟨_, t3, rfl⟩ := hd 3 18 (by kernel_rfl)
        obtain ⟨_, t10, rfl⟩ := hd 10 25 (by kernel_rfl)
        unfold Go.Rel.stepOf
        go_simp
        exact hK _ _ (Go.Rel.Grew.refl _) rfl
      · intro a w' hle hs' hd K hK
        obtain ⟨_, t11, rfl⟩ := hd 11 26 (by kernel_rfl)
        unfold Go.Rel.stepOf
        go_simp
        exact hK _ _ (Go.Rel.Grew.refl _) rfl
      · intro a w' hle hs' hd K hK
        obtain ⟨_, tg, rfl⟩ := hd 12 27 (by kernel_rfl)
        have f3 : a.tmps[3]? = some (.pointer (some ⟨X, 0, none⟩)) := hs'.2.2 3 (by kernel_rfl)
        obtain ⟨x0, x1, x2, x3, x4, x5, x6, x7, x8⟩ := HC.out w' hle
        unfold Go.Rel.stepOf
        go_simp
        exact hK _ _ (Go.Rel.Grew.refl _) rfl
      · intro a w' hle hs' hd K hK
        obtain ⟨_, tg, rfl⟩ := hd 12 27 (by kernel_rfl)
        have f3 : a.tmps[3]? = some (.pointer (some ⟨X, 0, none⟩)) := hs'.2.2 3 (by kernel_rfl)
        obtain ⟨x0, x1, x2, x3, x4, x5, x6, x7, x8⟩ := HC.out w' hle
        unfold Go.Rel.stepOf
        go_simp
        exact hK _ _ (Go.Rel.Grew.refl _) rfl
      · intro a w' hle hs' hd K hK
        obtain ⟨_, tg, rfl⟩ := hd 12 27 (by kernel_rfl)
        obtain ⟨_, t13, rfl⟩ := hd 13 28 (by kernel_rfl)
        obtain ⟨_, t14, rfl⟩ := hd 14 29 (by kernel_rfl)
        unfold Go.Rel.stepOf
        go_simp
        refine (HAa.out w').mono ?_
        rintro e w5 ⟨rfl, hb5⟩
        exact hK _ _ hb5 rfl
      · intro a w' hle hs' hd K hK
        obtain ⟨_, t12, rfl⟩ := hd 12 27 (by kernel_rfl)
        obtain ⟨_, t15, rfl⟩ := hd 15 30 (by kernel_rfl)
        unfold Go.Rel.stepOf
        go_simp
        exact hK _ _ (Go.Rel.Grew.refl _) rfl
    case hee =>
      intro a3 w3 hle hs' hR'
      have HB3 : Hid (Below W.heap.size W w3) := Lib.hid hle
      clear hle
      obtain ⟨v15, s15, _⟩ := hR' 0 15 (by kernel_rfl)
      obtain ⟨v16, s16, _⟩ := hR' 1 16 (by kernel_rfl)
      obtain ⟨v17, s17, _⟩ := hR' 2 17 (by kernel_rfl)
      obtain ⟨v18, s18, _⟩ := hR' 3 18 (by kernel_rfl)
      obtain ⟨v19, s19, _⟩ := hR' 4 19 (by kernel_rfl)
      obtain ⟨v20, s20, _⟩ := hR' 5 20 (by kernel_rfl)
      obtain ⟨v21, s21, _⟩ := hR' 6 21 (by kernel_rfl)
      obtain ⟨v22, s22, _⟩ := hR' 7 22 (by kernel_rfl)
      obtain ⟨v23, s23, _⟩ := hR' 8 23 (by kernel_rfl)
      obtain ⟨v24, s24, _⟩ := hR' 9 24 (by kernel_rfl)
      obtain ⟨v25, s25, _⟩ := hR' 10 25 (by kernel_rfl)
      obtain ⟨v26, s26, _⟩ := hR' 11 26 (by kernel_rfl)
      obtain ⟨v27, s27, _⟩ := hR' 12 27 (by kernel_rfl)
      obtain ⟨v28, s28, _⟩ := hR' 13 28 (by kernel_rfl)
      obtain ⟨v29, s29, _⟩ := hR' 14 29 (by kernel_rfl)
      obtain ⟨v30, s30, _⟩ := hR' 15 30 (by kernel_rfl)
      obtain ⟨_, s31, rfl⟩ := hR' 16 31 (by kernel_rfl)
      have e := hs'.shape
      simp only [List.toList_toArray, List.foldl, Go.Rel.reset, Array.getD_eq_getD_getElem?, s15, s16, s17, s18, s19, s20, s21, s22, s23, s24, s25, s26, s27, s28, s29, s30, s31, Option.getD_some] at e
      simp at e
      clear hR' hs' s15 s16 s17 s18 s19 s20 s21 s22 s23 s24 s25 s26 s27 s28 s29 s30 s31
      subst e
      obtain ⟨x0, x1, x2, x3, x4, x5, x6, x7, x8⟩ := HC.out w3 HB3.out
      go_wp2_with fail
      refine (HA1.out _).mono ?_
      rintro e w4 ⟨rfl, hb4⟩
      have HB4 : Hid (Below W.heap.size W w4) := Lib.hid (HB3.out.trans (hb4.mono HB3.out.size))
      clear hb4 x0 x1 x2 x3 x4 x5 x6 x7 x8
      cases r1 with
      | false =>
        obtain ⟨w5, rfl⟩ : ∃ w5, w5 = w4 := ⟨_, rfl⟩
        have HB5 : Hid (Below w.heap.size w w5) := Lib.hid (HB.out.trans (HB4.out.mono HB.out.size))
        have HK5 : Hid (w5.heap[X]? = some (.cells #[.int .i64 a.node, .int .u32 (a.inc : Int), .int .i64 a.st] 24) ∧ w5.heap[X + 1]? = some (.cells #[.int .i64 y.node, .int .u32 (y.inc : Int), .int .i64 y.st] 24)) := Lib.hid ⟨(HB4.out.block _ (block_lt HK.out.1)).trans HK.out.1, (HB4.out.block _ (block_lt HK.out.2.1)).trans HK.out.2.1⟩
        go_wp2
        obtain ⟨G, hG⟩ : ∃ G, w5.heap.size = G := ⟨_, rfl⟩
        have HCl : Hid (∀ w', LeT G w5 w' → w'.cell? ⟨X, 0, none⟩ = some (.int .i64 a.node) ∧ w'.cell? ⟨X, 1, none⟩ = some (.int .u32 (a.inc : Int)) ∧ w'.cell? ⟨X, 2, none⟩ = some (.int .i64 a.st) ∧ w'.cell? ⟨(X + 1), 0, none⟩ = some (.int .i64 y.node) ∧ w'.cell? ⟨(X + 1), 1, none⟩ = some (.int .u32 (y.inc : Int)) ∧ w'.cell? ⟨(X + 1), 2, none⟩ = some (.int .i64 y.st)) := by
          refine Lib.hid (fun w' hle => ?_)
          have i0 := (hle.but.block X (block_lt HK5.out.1) (by have := block_lt HK5.out.1; omega)).trans HK5.out.1
          have i1 := (hle.but.block (X + 1) (block_lt HK5.out.2) (by have := block_lt HK5.out.2; omega)).trans HK5.out.2
          obtain ⟨x0, x1, x2⟩ := blk3 i0
          obtain ⟨x3, x4, x5⟩ := blk3 i1
          exact ⟨x0, x1, x2, x3, x4, x5⟩
        have HG := Lib.hid hG
        clear hG
        refine Go.Rel.wp_region_acts (by kernel_rfl) (by kernel_rfl) (by kernel_rfl) (by kernel_rfl) (fun f a' w' => (f 8 = true → Holds G d 7 a' w') ∧ (f 9 = true → Holds G d 8 a' w')) (LeT G) (fun _ _ _ h k => h.trans k) ⟨(But.refl _ _).drew, fun B u0 u1 u2 _ h => ⟨u0, u1, u2, h⟩⟩ ⟨(fun h => by cases h), (fun h => by cases h)⟩ (twoR G a y d) (twoR_stable G a y d) ?hsea ?heea
        case hsea =>
          refine .cons ?_ (.cons ?_ (.cons ?_ (.cons ?_ (.cons ?_ (.cons ?_ (.cons ?_ (.cons ?_ (.cons ?_ (.cons ?_ .nil)))))))))
          · intro f a' w' hI hf hanc hdesc hle hs' hd K hK
            have f3 : a'.tmps[3]? = some (.pointer (some ⟨X, 0, none⟩)) := hs'.2.2 3 (by kernel_rfl)
            obtain ⟨x0, x1, x2, x3, x4, x5⟩ := HCl.out w' hle
            have z8 := hdesc 12 8 (by kernel_rfl)
            have z9 := hdesc 12 9 (by kernel_rfl)
            unfold Go.Rel.stepOf
            go_simp
            exact hK _ _ (LeT.refl _ _) ⟨(fun h => by simp [Go.Rel.upd, z8] at h), (fun h => by simp [Go.Rel.upd, z9] at h)⟩ rfl
          · intro f a' w' hI hf hanc hdesc hle hs' hd K hK
            have f4 : a'.tmps[4]? = some (.pointer (some ⟨(X + 1), 0, none⟩)) := hs'.2.2 4 (by kernel_rfl)
            obtain ⟨x0, x1, x2, x3, x4, x5⟩ := HCl.out w' hle
            have z8 := hdesc 12 8 (by kernel_rfl)
            have z9 := hdesc 12 9 (by kernel_rfl)
            unfold Go.Rel.stepOf
            go_simp
            exact hK _ _ (LeT.refl _ _) ⟨(fun h => by simp [Go.Rel.upd, z8] at h), (fun h => by simp [Go.Rel.upd, z9] at h)⟩ rfl
          · intro f a' w' hI hf hanc hdesc hle hs' hd K hK
            obtain ⟨_, t0, rfl⟩ := hd 0 46 (by kernel_rfl)
            obtain ⟨_, t1, rfl⟩ := hd 1 47 (by kernel_rfl)
            have z8 := hdesc 12 8 (by kernel_rfl)
            have z9 := hdesc 12 9 (by kernel_rfl)
            unfold Go.Rel.stepOf
            go_simp
            refine (HBe.out w').mono ?_
            rintro e w6 ⟨rfl, hb6⟩
            exact hK _ _ (LeT.of_below hb6) ⟨(fun h => by simp [Go.Rel.upd, z8] at h), (fun h => by simp [Go.Rel.upd, z9] at h)⟩ rfl
          · intro f a' w' hI hf hanc hdesc hle hs' hd K hK
            have f4 : a'.tmps[4]? = some (.pointer (some ⟨(X + 1), 0, none⟩)) := hs'.2.2 4 (by kernel_rfl)
            obtain ⟨x0, x1, x2, x3, x4, x5⟩ := HCl.out w' hle
            have z8 := hdesc 12 8 (by kernel_rfl)
            have z9 := hdesc 12 9 (by kernel_rfl)
            unfold Go.Rel.stepOf
            go_simp
            exact hK _ _ (LeT.refl _ _) ⟨(fun h => by simp [Go.Rel.upd, z8] at h), (fun h => by simp [Go.Rel.upd, z9] at h)⟩ rfl
          · intro f a' w' hI hf hanc hdesc hle hs' hd K hK
            have f3 : a'.tmps[3]? = some (.pointer (some ⟨X, 0, none⟩)) := hs'.2.2 3 (by kernel_rfl)
            obtain ⟨x0, x1, x2, x3, x4, x5⟩ := HCl.out w' hle
            have z8 := hdesc 12 8 (by kernel_rfl)
            have z9 := hdesc 12 9 (by kernel_rfl)
            unfold Go.Rel.stepOf
            go_simp
            exact hK _ _ (LeT.refl _ _) ⟨(fun h => by simp [Go.Rel.upd, z8] at h), (fun h => by simp [Go.Rel.upd, z9] at h)⟩ rfl
          · intro f a' w' hI hf hanc hdesc hle hs' hd K hK
            obtain ⟨_, t3, rfl⟩ := hd 3 49 (by kernel_rfl)
            obtain ⟨_, t4, rfl⟩ := hd 4 50 (by kernel_rfl)
            have z8 := hdesc 12 8 (by kernel_rfl)
            have z9 := hdesc 12 9 (by kernel_rfl)
            unfold Go.Rel.stepOf
            go_simp
            refine (HBf.out w').mono ?_
            rintro e w6 ⟨rfl, hb6⟩
            exact hK _ _ (LeT.of_below hb6) ⟨(fun h => by simp [Go.Rel.upd, z8] at h), (fun h => by simp [Go.Rel.upd, z9] at h)⟩ rfl
          · intro f a' w' hI hf hanc hdesc hle hs' hd K hK
            have z8 := hdesc 12 8 (by kernel_rfl)
            have z9 := hdesc 12 9 (by kernel_rfl)
            have hz := hle.but.size
            unfold Go.Rel.stepOf
            go_simp
            exact hK _ _ (LeT.of_below (below1 _ _)) ⟨(fun h => by simp [Go.Rel.upd, z8] at h), (fun h => by simp [Go.Rel.upd, z9] at h)⟩ ⟨_, rfl, by have := HG.out; omega, _, _, _, heap_alloc_new _ _⟩
          · intro f a' w' hI hf hanc hdesc hle hs' hd K hK
            have z9 := hdesc 12 9 (by kernel_rfl)
            have hz := hle.but.size
            unfold Go.Rel.stepOf
            go_simp
            exact hK _ _ (LeT.of_below (below1 _ _)) ⟨(fun h => Holds.keep (hI.1 (by simpa [Go.Rel.upd] using h)) (below1 _ _) (by decide) _), (fun h => by simp [Go.Rel.upd, z9] at h)⟩ ⟨_, rfl, by have := HG.out; omega, _, _, _, heap_alloc_new _ _⟩
          · intro f a' w' hI hf hanc hdesc hle hs' hd K hK
            obtain ⟨_, t6, B, rfl, hB, u0, u1, u2, hh⟩ := hd 6 7 (by kernel_rfl)
            obtain ⟨_, t2, rfl⟩ := hd 2 48 (by kernel_rfl)
            have z9 := hdesc 12 9 (by kernel_rfl)
            obtain ⟨d0, d1, d2⟩ := blk3 hh
            have g0 := blk_froz hh 0
            have g1 := blk_froz hh 1
            have g2 := blk_froz hh 2
            unfold Go.Rel.stepOf
            go_simp
            exact hK undef _ (LeT.set w' hB hh _ _ _) ⟨fun _ => ⟨B, t6, hB, set3_blk hh _ _ _⟩, (fun h => by simp [Go.Rel.upd, z9] at h)⟩ trivial
          · intro f a' w' hI hf hanc hdesc hle hs' hd K hK
            obtain ⟨_, t7, B, rfl, hB, u0, u1, u2, hh⟩ := hd 7 8 (by kernel_rfl)
            obtain ⟨_, t5, rfl⟩ := hd 5 51 (by kernel_rfl)
            obtain ⟨B7, s7, hB7, hh7⟩ := hI.1 (hanc 12 8 (by kernel_rfl))
            obtain ⟨d0, d1, d2⟩ := blk3 hh
            have g0 := blk_froz hh 0
            have g1 := blk_froz hh 1
            have g2 := blk_froz hh 2
            unfold Go.Rel.stepOf
            go_simp
            refine hK undef _ (LeT.set w' hB hh _ _ _) ⟨fun _ => ⟨B7, s7, hB7, ?_⟩, fun _ => ⟨B, t7, hB, set3_blk hh _ _ _⟩⟩ trivial
            by_cases e : B7 = B
            · subst e
              exact set3_blk hh _ _ _
            · exact ((((But.set (S := (· = B)) _ (p := ⟨B, 0, none⟩) rfl _).trans (But.set (S := (· = B)) _ (p := ⟨B, 1, none⟩) rfl _)).trans (But.set (S := (· = B)) _ (p := ⟨B, 2, none⟩) rfl _)).block B7 (block_lt hh7) e).trans hh7
        case heea =>
          intro f a' w7 hall hI hle hs' hR'
          obtain ⟨B7, s7, hB7, hh7⟩ := hI.1 (hall 8 (by decide))
          obtain ⟨B8, s8, hB8, hh8⟩ := hI.2 (hall 9 (by decide))
          have HB7 : Hid (Below w.heap.size w w7) := Lib.hid (HB5.out.trans (hle.but.below (Nat.le_refl _) (fun k hk hG => by have := HG.out; omega) |>.mono HB5.out.size))
          obtain ⟨v46, s46, _⟩ := hR' 0 46 (by kernel_rfl)
          obtain ⟨v47, s47, _⟩ := hR' 1 47 (by kernel_rfl)
          obtain ⟨v48, s48, _⟩ := hR' 2 48 (by kernel_rfl)
          obtain ⟨v49, s49, _⟩ := hR' 3 49 (by kernel_rfl)
          obtain ⟨v50, s50, _⟩ := hR' 4 50 (by kernel_rfl)
          obtain ⟨v51, s51, _⟩ := hR' 5 51 (by kernel_rfl)
          have e := hs'.shape
          simp only [List.toList_toArray, List.foldl, Go.Rel.reset, Array.getD_eq_getD_getElem?, s46, s47, s48, s49, s50, s51, s7, s8, Option.getD_some] at e
          simp at e
          obtain ⟨d0, d1, d2⟩ := blk3 hh7
          obtain ⟨e0, e1, e2⟩ := blk3 hh8
          clear hR' hs' hI hall hle s46 s47 s48 s49 s50 s51 s7 s8 hh7 hh8
          subst e
          have ug := up_guard
          have ue := HEd.out
          go_wp2_with fail
          refine (HWk.out _).mono ?_
          clear ue ug
          rintro e w8 ⟨rfl, hb8⟩
          have HB8 := Lib.hid (HB7.out.trans (hb8.mono HB7.out.size))
          clear hb8 d0 d1 d2 e0 e1 e2
          go_wp2
          go_ret
          exact ⟨by simp, HB8.out⟩
      | true =>
        obtain ⟨x0, x1, x2, x3, x4, x5, x6, x7, x8⟩ := HC.out w4 HB4.out
        go_wp2_with fail
        refine (HA3.out _).mono ?_
        rintro e wb ⟨rfl, hbb⟩
        have HBb : Hid (Below W.heap.size W wb) := Lib.hid (HB4.out.trans (hbb.mono HB4.out.size))
        clear hbb x0 x1 x2 x3 x4 x5 x6 x7 x8
        cases r3 with
        | false =>
          obtain ⟨w5, rfl⟩ : ∃ w5, w5 = wb := ⟨_, rfl⟩
          have HB5 : Hid (Below w.heap.size w w5) := Lib.hid (HB.out.trans (HBb.out.mono HB.out.size))
          have HK5 : Hid (w5.heap[X]? = some (.cells #[.int .i64 a.node, .int .u32 (a.inc : Int), .int .i64 a.st] 24) ∧ w5.heap[X + 1]? = some (.cells #[.int .i64 y.node, .int .u32 (y.inc : Int), .int .i64 y.st] 24)) := Lib.hid ⟨(HBb.out.block _ (block_lt HK.out.1)).trans HK.out.1, (HBb.out.block _ (block_lt HK.out.2.1)).trans HK.out.2.1⟩
          go_wp2
          obtain ⟨G, hG⟩ : ∃ G, w5.heap.size = G := ⟨_, rfl⟩
          have HCl : Hid (∀ w', LeT G w5 w' → w'.cell? ⟨X, 0, none⟩ = some (.int .i64 a.node) ∧ w'.cell? ⟨X, 1, none⟩ = some (.int .u32 (a.inc : Int)) ∧ w'.cell? ⟨X, 2, none⟩ = some (.int .i64 a.st) ∧ w'.cell? ⟨(X + 1), 0, none⟩ = some (.int .i64 y.node) ∧ w'.cell? ⟨(X + 1), 1, none⟩ = some (.int .u32 (y.inc : Int)) ∧ w'.cell? ⟨(X + 1), 2, none⟩ = some (.int .i64 y.st)) := by
            refine Lib.hid (fun w' hle => ?_)
            have i0 := (hle.but.block X (block_lt HK5.out.1) (by have := block_lt HK5.out.1; omega)).trans HK5.out.1
            have i1 := (hle.but.block (X + 1) (block_lt HK5.out.2) (by have := block_lt HK5.out.2; omega)).trans HK5.out.2
            obtain ⟨x0, x1, x2⟩ := blk3 i0
            obtain ⟨x3, x4, x5⟩ := blk3 i1
            exact ⟨x0, x1, x2, x3, x4, x5⟩
          have HG := Lib.hid hG
          clear hG
          refine Go.Rel.wp_region_acts (by kernel_rfl) (by kernel_rfl) (by kernel_rfl) (by kernel_rfl) (fun f a' w' => (f 8 = true → Holds G d 7 a' w') ∧ (f 9 = true → Holds G d 8 a' w')) (LeT G) (fun _ _ _ h k => h.trans k) ⟨(But.refl _ _).drew, fun B u0 u1 u2 _ h => ⟨u0, u1, u2, h⟩⟩ ⟨(fun h => by cases h), (fun h => by cases h)⟩ (twoR G a y d) (twoR_stable G a y d) ?hseb ?heeb
          case hseb =>
            refine .cons ?_ (.cons ?_ (.cons ?_ (.cons ?_ (.cons ?_ (.cons ?_ (.cons ?_ (.cons ?_ (.cons ?_ (.cons ?_ .nil)))))))))
            · intro f a' w' hI hf hanc hdesc hle hs' hd K hK
              have f3 : a'.tmps[3]? = some (.pointer (some ⟨X, 0, none⟩)) := hs'.2.2 3 (by kernel_rfl)
              obtain ⟨x0, x1, x2, x3, x4, x5⟩ := HCl.out w' hle
              have z8 := hdesc 12 8 (by kernel_rfl)
              have z9 := hdesc 12 9 (by kernel_rfl)
              unfold Go.Rel.stepOf
              go_simp
              exact hK _ _ (LeT.refl _ _) ⟨(fun h => by simp [Go.Rel.upd, z8] at h), (fun h => by simp [Go.Rel.upd, z9] at h)⟩ rfl
            · intro f a' w' hI hf hanc hdesc hle hs' hd K hK
              have f4 : a'.tmps[4]? = some (.pointer (some ⟨(X + 1), 0, none⟩)) := hs'.2.2 4 (by kernel_rfl)
              obtain ⟨x0, x1, x2, x3, x4, x5⟩ := HCl.out w' hle
              have z8 := hdesc 12 8 (by kernel_rfl)
              have z9 := hdesc 12 9 (by kernel_rfl)
              unfold Go.Rel.stepOf
              go_simp
              exact hK _ _ (LeT.refl _ _) ⟨(fun h => by simp [Go.Rel.upd, z8] at h), (fun h => by simp [Go.Rel.upd, z9] at h)⟩ rfl
            · intro f a' w' hI hf hanc hdesc hle hs' hd K hK
              obtain ⟨_, t0, rfl⟩ := hd 0 46 (by kernel_rfl)
              obtain ⟨_, t1, rfl⟩ := hd 1 47 (by kernel_rfl)
              have z8 := hdesc 12 8 (by kernel_rfl)
              have z9 := hdesc 12 9 (by kernel_rfl)
              unfold Go.Rel.stepOf
              go_simp
              refine (HBe.out w').mono ?_
              rintro e w6 ⟨rfl, hb6⟩
              exact hK _ _ (LeT.of_below hb6) ⟨(fun h => by simp [Go.Rel.upd, z8] at h), (fun h => by simp [Go.Rel.upd, z9] at h)⟩ rfl
            · intro f a' w' hI hf hanc hdesc hle hs' hd K hK
              have f4 : a'.tmps[4]? = some (.pointer (some ⟨(X + 1), 0, none⟩)) := hs'.2.2 4 (by kernel_rfl)
              obtain ⟨x0, x1, x2, x3, x4, x5⟩ := HCl.out w' hle
              have z8 := hdesc 12 8 (by kernel_rfl)
              have z9 := hdesc 12 9 (by kernel_rfl)
              unfold Go.Rel.stepOf
              go_simp
              exact hK _ _ (LeT.refl _ _) ⟨(fun h => by simp [Go.Rel.upd, z8] at h), (fun h => by simp [Go.Rel.upd, z9] at h)⟩ rfl
            · intro f a' w' hI hf hanc hdesc hle hs' hd K hK
              have f3 : a'.tmps[3]? = some (.pointer (some ⟨X, 0, none⟩)) := hs'.2.2 3 (by kernel_rfl)
              obtain ⟨x0, x1, x2, x3, x4, x5⟩ := HCl.out w' hle
              have z8 := hdesc 12 8 (by kernel_rfl)
              have z9 := hdesc 12 9 (by kernel_rfl)
              unfold Go.Rel.stepOf
              go_simp
              exact hK _ _ (LeT.refl _ _) ⟨(fun h => by simp [Go.Rel.upd, z8] at h), (fun h => by simp [Go.Rel.upd, z9] at h)⟩ rfl
            · intro f a' w' hI hf hanc hdesc hle hs' hd K hK
              obtain ⟨_, t3, rfl⟩ := hd 3 49 (by kernel_rfl)
              obtain ⟨_, t4, rfl⟩ := hd 4 50 (by kernel_rfl)
              have z8 := hdesc 12 8 (by kernel_rfl)
              have z9 := hdesc 12 9 (by kernel_rfl)
              unfold Go.Rel.stepOf
              go_simp
              refine (HBf.out w').mono ?_
              rintro e w6 ⟨rfl, hb6⟩
              exact hK _ _ (LeT.of_below hb6) ⟨(fun h => by simp [Go.Rel.upd, z8] at h), (fun h => by simp [Go.Rel.upd, z9] at h)⟩ rfl
            · intro f a' w' hI hf hanc hdesc hle hs' hd K hK
              have z8 := hdesc 12 8 (by kernel_rfl)
              have z9 := hdesc 12 9 (by kernel_rfl)
              have hz := hle.but.size
              unfold Go.Rel.stepOf
              go_simp
              exact hK _ _ (LeT.of_below (below1 _ _)) ⟨(fun h => by simp [Go.Rel.upd, z8] at h), (fun h => by simp [Go.Rel.upd, z9] at h)⟩ ⟨_, rfl, by have := HG.out; omega, _, _, _, heap_alloc_new _ _⟩
            · intro f a' w' hI hf hanc hdesc hle hs' hd K hK
              have z9 := hdesc 12 9 (by kernel_rfl)
              have hz := hle.but.size
              unfold Go.Rel.stepOf
              go_simp
              exact hK _ _ (LeT.of_below (below1 _ _)) ⟨(fun h => Holds.keep (hI.1 (by simpa [Go.Rel.upd] using h)) (below1 _ _) (by decide) _), (fun h => by simp [Go.Rel.upd, z9] at h)⟩ ⟨_, rfl, by have := HG.out; omega, _, _, _, heap_alloc_new _ _⟩
            · intro f a' w' hI hf hanc hdesc hle hs' hd K hK
              obtain ⟨_, t6, B, rfl, hB, u0, u1, u2, hh⟩ := hd 6 7 (by kernel_rfl)
              obtain ⟨_, t2, rfl⟩ := hd 2 48 (by kernel_rfl)
              have z9 := hdesc 12 9 (by kernel_rfl)
              obtain ⟨d0, d1, d2⟩ := blk3 hh
              have g0 := blk_froz hh 0
              have g1 := blk_froz hh 1
              have g2 := blk_froz hh 2
              unfold Go.Rel.stepOf
              go_simp
              exact hK undef _ (LeT.set w' hB hh _ _ _) ⟨fun _ => ⟨B, t6, hB, set3_blk hh _ _ _⟩, (fun h => by simp [Go.Rel.upd, z9] at h)⟩ trivial
            · intro f a' w' hI hf hanc hdesc hle hs' hd K hK
              obtain ⟨_, t7, B, rfl, hB, u0, u1, u2, hh⟩ := hd 7 8 (by kernel_rfl)
              obtain ⟨_, t5, rfl⟩ := hd 5 51 (by kernel_rfl)
              obtain ⟨B7, s7, hB7, hh7⟩ := hI.1 (hanc 12 8 (by kernel_rfl))
              obtain ⟨d0, d1, d2⟩ := blk3 hh
              have g0 := blk_froz hh 0
              have g1 := blk_froz hh 1
              have g2 := blk_froz hh 2
              unfold Go.Rel.stepOf
              go_simp
              refine hK undef _ (LeT.set w' hB hh _ _ _) ⟨fun _ => ⟨B7, s7, hB7, ?_⟩, fun _ => ⟨B, t7, hB, set3_blk hh _ _ _⟩⟩ trivial
              by_cases e : B7 = B
              · subst e
                exact set3_blk hh _ _ _
              · exact ((((But.set (S := (· = B)) _ (p := ⟨B, 0, none⟩) rfl _).trans (But.set (S := (· = B)) _ (p := ⟨B, 1, none⟩) rfl _)).trans (But.set (S := (· = B)) _ (p := ⟨B, 2, none⟩) rfl _)).block B7 (block_lt hh7) e).trans hh7
          case heeb =>
            intro f a' w7 hall hI hle hs' hR'
            obtain ⟨B7, s7, hB7, hh7⟩ := hI.1 (hall 8 (by decide))
            obtain ⟨B8, s8, hB8, hh8⟩ := hI.2 (hall 9 (by decide))
            have HB7 : Hid (Below w.heap.size w w7) := Lib.hid (HB5.out.trans (hle.but.below (Nat.le_refl _) (fun k hk hG => by have := HG.out; omega) |>.mono HB5.out.size))
            obtain ⟨v46, s46, _⟩ := hR' 0 46 (by kernel_rfl)
            obtain ⟨v47, s47, _⟩ := hR' 1 47 (by kernel_rfl)
            obtain ⟨v48, s48, _⟩ := hR' 2 48 (by kernel_rfl)
            obtain ⟨v49, s49, _⟩ := hR' 3 49 (by kernel_rfl)
            obtain ⟨v50, s50, _⟩ := hR' 4 50 (by kernel_rfl)
            obtain ⟨v51, s51, _⟩ := hR' 5 51 (by kernel_rfl)
            have e := hs'.shape
            simp only [List.toList_toArray, List.foldl, Go.Rel.reset, Array.getD_eq_getD_getElem?, s46, s47, s48, s49, s50, s51, s7, s8, Option.getD_some] at e
            simp at e
            obtain ⟨d0, d1, d2⟩ := blk3 hh7
            obtain ⟨e0, e1, e2⟩ := blk3 hh8
            clear hR' hs' hI hall hle s46 s47 s48 s49 s50 s51 s7 s8 hh7 hh8
            subst e
            have ug := up_guard
            have ue := HEd.out
            go_wp2_with fail
            refine (HWk.out _).mono ?_
            clear ue ug
            rintro e w8 ⟨rfl, hb8⟩
            have HB8 := Lib.hid (HB7.out.trans (hb8.mono HB7.out.size))
            clear hb8 d0 d1 d2 e0 e1 e2
            go_wp2
            go_ret
            exact ⟨by simp, HB8.out⟩
        | true =>
          obtain rfl : true = r4 := (HTr.out (by simp) (by simp)).symm
          obtain ⟨x0, x1, x2, x3, x4, x5, x6, x7, x8⟩ := HC.out wb HBb.out
          go_wp2_with fail
          refine (HA4.out _).mono ?_
          rintro e wc ⟨rfl, hbc⟩
          have HBc : Hid (Below W.heap.size W wc) := Lib.hid (HBb.out.trans (hbc.mono HBb.out.size))
          clear hbc x0 x1 x2 x3 x4 x5 x6 x7 x8
          obtain ⟨w5, rfl⟩ : ∃ w5, w5 = wc := ⟨_, rfl⟩
          have HB5 : Hid (Below w.heap.size w w5) := Lib.hid (HB.out.trans (HBc.out.mono HB.out.size))
          have HK5 : Hid (w5.heap[X]? = some (.cells #[.int .i64 a.node, .int .u32 (a.inc : Int), .int .i64 a.st] 24) ∧ w5.heap[X + 1]? = some (.cells #[.int .i64 y.node, .int .u32 (y.inc : Int), .int .i64 y.st] 24)) := Lib.hid ⟨(HBc.out.block _ (block_lt HK.out.1)).trans HK.out.1, (HBc.out.block _ (block_lt HK.out.2.1)).trans HK.out.2.1⟩
          go_wp2
          obtain ⟨G, hG⟩ : ∃ G, w5.heap.size = G := ⟨_, rfl⟩
          have HCl : Hid (∀ w', LeT G w5 w' → w'.cell? ⟨X, 0, none⟩ = some (.int .i64 a.node) ∧ w'.cell? ⟨X, 1, none⟩ = some (.int .u32 (a.inc : Int)) ∧ w'.cell? ⟨X, 2, none⟩ = some (.int .i64 a.st) ∧ w'.cell? ⟨(X + 1), 0, none⟩ = some (.int .i64 y.node) ∧ w'.cell? ⟨(X + 1), 1, none⟩ = some (.int .u32 (y.inc : Int)) ∧ w'.cell? ⟨(X + 1), 2, none⟩ = some (.int .i64 y.st)) := by
            refine Lib.hid (fun w' hle => ?_)
            have i0 := (hle.but.block X (block_lt HK5.out.1) (by have := block_lt HK5.out.1; omega)).trans HK5.out.1
            have i1 := (hle.but.block (X + 1) (block_lt HK5.out.2) (by have := block_lt HK5.out.2; omega)).trans HK5.out.2
            obtain ⟨x0, x1, x2⟩ := blk3 i0
            obtain ⟨x3, x4, x5⟩ := blk3 i1
            exact ⟨x0, x1, x2, x3, x4, x5⟩
          have HG := Lib.hid hG
          clear hG
          refine Go.Rel.wp_region_acts (by kernel_rfl) (by kernel_rfl) (by kernel_rfl) (by kernel_rfl) (fun f a' w' => (f 8 = true → Holds G d 7 a' w') ∧ (f 9 = true → Holds G d 8 a' w')) (LeT G) (fun _ _ _ h k => h.trans k) ⟨(But.refl _ _).drew, fun B u0 u1 u2 _ h => ⟨u0, u1, u2, h⟩⟩ ⟨(fun h => by cases h), (fun h => by cases h)⟩ (twoR G a y d) (twoR_stable G a y d) ?hsec ?heec
          case hsec =>
            refine .cons ?_ (.cons ?_ (.cons ?_ (.cons ?_ (.cons ?_ (.cons ?_ (.cons ?_ (.cons ?_ (.cons ?_ (.cons ?_ .nil)))))))))
            · intro f a' w' hI hf hanc hdesc hle hs' hd K hK
              have f3 : a'.tmps[3]? = some (.pointer (some ⟨X, 0, none⟩)) := hs'.2.2 3 (by kernel_rfl)
              obtain ⟨x0, x1, x2, x3, x4, x5⟩ := HCl.out w' hle
              have z8 := hdesc 12 8 (by kernel_rfl)
              have z9 := hdesc 12 9 (by kernel_rfl)
              unfold Go.Rel.stepOf
              go_simp
              exact hK _ _ (LeT.refl _ _) ⟨(fun h => by simp [Go.Rel.upd, z8] at h), (fun h => by simp [Go.Rel.upd, z9] at h)⟩ rfl
            · intro f a' w' hI hf hanc hdesc hle hs' hd K hK
              have f4 : a'.tmps[4]? = some (.pointer (some ⟨(X + 1), 0, none⟩)) := hs'.2.2 4 (by kernel_rfl)
              obtain ⟨x0, x1, x2, x3, x4, x5⟩ := HCl.out w' hle
              have z8 := hdesc 12 8 (by kernel_rfl)
              have z9 := hdesc 12 9 (by kernel_rfl)
              unfold Go.Rel.stepOf
              go_simp
              exact hK _ _ (LeT.refl _ _) ⟨(fun h => by simp [Go.Rel.upd, z8] at h), (fun h => by simp [Go.Rel.upd, z9] at h)⟩ rfl
            · intro f a' w' hI hf hanc hdesc hle hs' hd K hK
              obtain ⟨_, t0, rfl⟩ := hd 0 46 (by kernel_rfl)
              obtain ⟨_, t1, rfl⟩ := hd 1 47 (by kernel_rfl)
              have z8 := hdesc 12 8 (by kernel_rfl)
              have z9 := hdesc 12 9 (by kernel_rfl)
              unfold Go.Rel.stepOf
              go_simp
              refine (HBe.out w').mono ?_
              rintro e w6 ⟨rfl, hb6⟩
              exact hK _ _ (LeT.of_below hb6) ⟨(fun h => by simp [Go.Rel.upd, z8] at h), (fun h => by simp [Go.Rel.upd, z9] at h)⟩ rfl
            · intro f a' w' hI hf hanc hdesc hle hs' hd K hK
              have f4 : a'.tmps[4]? = some (.pointer (some ⟨(X + 1), 0, none⟩)) := hs'.2.2 4 (by kernel_rfl)
              obtain ⟨x0, x1, x2, x3, x4, x5⟩ := HCl.out w' hle
              have z8 := hdesc 12 8 (by kernel_rfl)
              have z9 := hdesc 12 9 (by kernel_rfl)
              unfold Go.Rel.stepOf
              go_simp
              exact hK _ _ (LeT.refl _ _) ⟨(fun h => by simp [Go.Rel.upd, z8] at h), (fun h => by simp [Go.Rel.upd, z9] at h)⟩ rfl
            · intro f a' w' hI hf hanc hdesc hle hs' hd K hK
              have f3 : a'.tmps[3]? = some (.pointer (some ⟨X, 0, none⟩)) := hs'.2.2 3 (by kernel_rfl)
              obtain ⟨x0, x1, x2, x3, x4, x5⟩ := HCl.out w' hle
              have z8 := hdesc 12 8 (by kernel_rfl)
              have z9 := hdesc 12 9 (by kernel_rfl)
              unfold Go.Rel.stepOf
              go_simp
              exact hK _ _ (LeT.refl _ _) ⟨(fun h => by simp [Go.Rel.upd, z8] at h), (fun h => by simp [Go.Rel.upd, z9] at h)⟩ rfl
            · intro f a' w' hI hf hanc hdesc hle hs' hd K hK
              obtain ⟨_, t3, rfl⟩ := hd 3 49 (by kernel_rfl)
              obtain ⟨_, t4, rfl⟩ := hd 4 50 (by kernel_rfl)
              have z8 := hdesc 12 8 (by kernel_rfl)
              have z9 := hdesc 12 9 (by kernel_rfl)
              unfold Go.Rel.stepOf
              go_simp
              refine (HBf.out w').mono ?_
              rintro e w6 ⟨rfl, hb6⟩
              exact hK _ _ (LeT.of_below hb6) ⟨(fun h => by simp [Go.Rel.upd, z8] at h), (fun h => by simp [Go.Rel.upd, z9] at h)⟩ rfl
            · intro f a' w' hI hf hanc hdesc hle hs' hd K hK
              have z8 := hdesc 12 8 (by kernel_rfl)
              have z9 := hdesc 12 9 (by kernel_rfl)
              have hz := hle.but.size
              unfold Go.Rel.stepOf
              go_simp
              exact hK _ _ (LeT.of_below (below1 _ _)) ⟨(fun h => by simp [Go.Rel.upd, z8] at h), (fun h => by simp [Go.Rel.upd, z9] at h)⟩ ⟨_, rfl, by have := HG.out; omega, _, _, _, heap_alloc_new _ _⟩
            · intro f a' w' hI hf hanc hdesc hle hs' hd K hK
              have z9 := hdesc 12 9 (by kernel_rfl)
              have hz := hle.but.size
              unfold Go.Rel.stepOf
              go_simp
              exact hK _ _ (LeT.of_below (below1 _ _)) ⟨(fun h => Holds.keep (hI.1 (by simpa [Go.Rel.upd] using h)) (below1 _ _) (by decide) _), (fun h => by simp [Go.Rel.upd, z9] at h)⟩ ⟨_, rfl, by have := HG.out; omega, _, _, _, heap_alloc_new _ _⟩
            · intro f a' w' hI hf hanc hdesc hle hs' hd K hK
              obtain ⟨_, t6, B, rfl, hB, u0, u1, u2, hh⟩ := hd 6 7 (by kernel_rfl)
              obtain ⟨_, t2, rfl⟩ := hd 2 48 (by kernel_rfl)
              have z9 := hdesc 12 9 (by kernel_rfl)
              obtain ⟨d0, d1, d2⟩ := blk3 hh
              have g0 := blk_froz hh 0
              have g1 := blk_froz hh 1
              have g2 := blk_froz hh 2
              unfold Go.Rel.stepOf
              go_simp
              exact hK undef _ (LeT.set w' hB hh _ _ _) ⟨fun _ => ⟨B, t6, hB, set3_blk hh _ _ _⟩, (fun h => by simp [Go.Rel.upd, z9] at h)⟩ trivial
            · intro f a' w' hI hf hanc hdesc hle hs' hd K hK
              obtain ⟨_, t7, B, rfl, hB, u0, u1, u2, hh⟩ := hd 7 8 (by kernel_rfl)
              obtain ⟨_, t5, rfl⟩ := hd 5 51 (by kernel_rfl)
              obtain ⟨B7, s7, hB7, hh7⟩ := hI.1 (hanc 12 8 (by kernel_rfl))
              obtain ⟨d0, d1, d2⟩ := blk3 hh
              have g0 := blk_froz hh 0
              have g1 := blk_froz hh 1
              have g2 := blk_froz hh 2
              unfold Go.Rel.stepOf
              go_simp
              refine hK undef _ (LeT.set w' hB hh _ _ _) ⟨fun _ => ⟨B7, s7, hB7, ?_⟩, fun _ => ⟨B, t7, hB, set3_blk hh _ _ _⟩⟩ trivial
              by_cases e : B7 = B
              · subst e
                exact set3_blk hh _ _ _
              · exact ((((But.set (S := (· = B)) _ (p := ⟨B, 0, none⟩) rfl _).trans (But.set (S := (· = B)) _ (p := ⟨B, 1, none⟩) rfl _)).trans (But.set (S := (· = B)) _ (p := ⟨B, 2, none⟩) rfl _)).block B7 (block_lt hh7) e).trans hh7
          case heec =>
            intro f a' w7 hall hI hle hs' hR'
            obtain ⟨B7, s7, hB7, hh7⟩ := hI.1 (hall 8 (by decide))
            obtain ⟨B8, s8, hB8, hh8⟩ := hI.2 (hall 9 (by decide))
            have HB7 : Hid (Below w.heap.size w w7) := Lib.hid (HB5.out.trans (hle.but.below (Nat.le_refl _) (fun k hk hG => by have := HG.out; omega) |>.mono HB5.out.size))
            obtain ⟨v46, s46, _⟩ := hR' 0 46 (by kernel_rfl)
            obtain ⟨v47, s47, _⟩ := hR' 1 47 (by kernel_rfl)
            obtain ⟨v48, s48, _⟩ := hR' 2 48 (by kernel_rfl)
            obtain ⟨v49, s49, _⟩ := hR' 3 49 (by kernel_rfl)
            obtain ⟨v50, s50, _⟩ := hR' 4 50 (by kernel_rfl)
            obtain ⟨v51, s51, _⟩ := hR' 5 51 (by kernel_rfl)
            have e := hs'.shape
            simp only [List.toList_toArray, List.foldl, Go.Rel.reset, Array.getD_eq_getD_getElem?, s46, s47, s48, s49, s50, s51, s7, s8, Option.getD_some] at e
            simp at e
            obtain ⟨d0, d1, d2⟩ := blk3 hh7
            obtain ⟨e0, e1, e2⟩ := blk3 hh8
            clear hR' hs' hI hall hle s46 s47 s48 s49 s50 s51 s7 s8 hh7 hh8
            subst e
            have ug := up_guard
            have ue := HEd.out
            go_wp2_with fail
            refine (HWk.out _).mono ?_
            clear ue ug
            rintro e w8 ⟨rfl, hb8⟩
            have HB8 := Lib.hid (HB7.out.trans (hb8.mono HB7.out.size))
            clear hb8 d0 d1 d2 e0 e1 e2
            go_wp2
            go_ret
            exact ⟨by simp, HB8.out⟩
  · have HEq : Hid (∀ w, (Op.equalIn 10000 24 (.agg #[.int .i64 a.node, .int .u32 (a.inc : Int), .int .i64 a.st]) (.agg #[.int .i64 y.node, .int .u32 (y.inc : Int), .int .i64 y.st])).run Try.prog w = .ok false w) := Lib.hid (fun w => by rw [up_eq, decide_eq_false hay])
    have HBr := Lib.hid (HBrr.out hay)
    clear hay
    go_enter Try.func6, Try.ntmps6
    go_wp2
    rw [HW.out, HX.out]
    refine Go.Rel.wp_region_grew (by kernel_rfl) (by kernel_rfl) (by kernel_rfl) (by kernel_rfl) (orderN X a y r1 r2) (orderN_stable X a y r1 r2) ?hsn ?hen
    case hsn =>
      refine (.cons ?_ (.cons ?_ (.cons ?_ (.cons ?_ (.cons ?_ (.cons ?_ (.cons ?_ (.cons ?_ (.cons ?_ (.cons ?_ (.cons ?_ (.cons ?_ (.cons ?_ (.cons ?_ (.cons ?_ (.cons ?_ (.cons ?_ .nil)))))))))))))))))
      · intro a w' hle hs' hd K hK
        have f3 : a.tmps[3]? = some (.pointer (some ⟨X, 0, none⟩)) := hs'.2.2 3 (by kernel_rfl)
        obtain ⟨x0, x1, x2, x3, x4, x5, x6, x7, x8⟩ := HC.out w' hle
        unfold Go.Rel.stepOf
        go_simp
        exact hK _ _ (Go.Rel.Grew.refl _) rfl
      · intro a w' hle hs' hd K hK
        have f4 : a.tmps[4]? = some (.pointer (some ⟨(X + 1), 0, none⟩)) := hs'.2.2 4 (by kernel_rfl)
        obtain ⟨x0, x1, x2, x3, x4, x5, x6, x7, x8⟩ := HC.out w' hle
        unfold Go.Rel.stepOf
        go_simp
        exact hK _ _ (Go.Rel.Grew.refl _) rfl
      · intro a w' hle hs' hd K hK
        obtain ⟨_, t0, rfl⟩ := hd 0 15 (by kernel_rfl)
        obtain ⟨_, t1, rfl⟩ := hd 1 16 (by kernel_rfl)
        have ug := up_guard
        have ue := HEq.out
        unfold Go.Rel.stepOf
        go_simp
        exact hK _ _ (Go.Rel.Grew.refl _) rfl
      · intro a w' hle hs' hd K hK
        obtain ⟨_, t2, rfl⟩ := hd 2 17 (by kernel_rfl)
        unfold Go.Rel.stepOf
        go_simp
        exact hK _ _ (Go.Rel.Grew.refl _) rfl
      · intro a w' hle hs' hd K hK
        obtain ⟨_, tg, rfl⟩ := hd 3 18 (by kernel_rfl)
        have f3 : a.tmps[3]? = some (.pointer (some ⟨X, 0, none⟩)) := hs'.2.2 3 (by kernel_rfl)
        obtain ⟨x0, x1, x2, x3, x4, x5, x6, x7, x8⟩ := HC.out w' hle
        unfold Go.Rel.stepOf
        go_simp
        exact hK _ _ (Go.Rel.Grew.refl _) rfl
      · intro a w' hle hs' hd K hK
        obtain ⟨_, tg, rfl⟩ := hd 3 18 (by kernel_rfl)
        have f4 : a.tmps[4]? = some (.pointer (some ⟨(X + 1), 0, none⟩)) := hs'.2.2 4 (by kernel_rfl)
        obtain ⟨x0, x1, x2, x3, x4, x5, x6, x7, x8⟩ := HC.out w' hle
        unfold Go.Rel.stepOf
        go_simp
        exact hK _ _ (Go.Rel.Grew.refl _) rfl
      · intro a w' hle hs' hd K hK
        obtain ⟨_, tg, rfl⟩ := hd 3 18 (by kernel_rfl)
        obtain ⟨_, t4, rfl⟩ := hd 4 19 (by kernel_rfl)
        obtain ⟨_, t5, rfl⟩ := hd 5 20 (by kernel_rfl)
        unfold Go.Rel.stepOf
        go_simp
        refine (HA1.out w').mono ?_
        rintro e w5 ⟨rfl, hb5⟩
        exact hK _ _ hb5 rfl
      · intro a w' hle hs' hd K hK
        obtain ⟨_, tg, rfl⟩ := hd 3 18 (by kernel_rfl)
        have f4 : a.tmps[4]? = some (.pointer (some ⟨(X + 1), 0, none⟩)) := hs'.2.2 4 (by kernel_rfl)
        obtain ⟨x0, x1, x2, x3, x4, x5, x6, x7, x8⟩ := HC.out w' hle
        unfold Go.Rel.stepOf
        go_simp
        exact hK _ _ (Go.Rel.Grew.refl _) rfl
      · intro a w' hle hs' hd K hK
        obtain ⟨_, tg, rfl⟩ := hd 3 18 (by kernel_rfl)
        have f3 : a.tmps[3]? = some (.pointer (some ⟨X, 0, none⟩)) := hs'.2.2 3 (by kernel_rfl)
        obtain ⟨x0, x1, x2, x3, x4, x5, x6, x7, x8⟩ := HC.out w' hle
        unfold Go.Rel.stepOf
        go_simp
        exact hK _ _ (Go.Rel.Grew.refl _) rfl
      · intro a w' hle hs' hd K hK
        obtain ⟨_, tg, rfl⟩ := hd 3 18 (by kernel_rfl)
        obtain ⟨_, t7, rfl⟩ := hd 7 22 (by kernel_rfl)
        obtain ⟨_, t8, rfl⟩ := hd 8 23 (by kernel_rfl)
        unfold Go.Rel.stepOf
        go_simp
        refine (HA2.out w').mono ?_
        rintro e w5 ⟨rfl, hb5⟩
        exact hK _ _ hb5 rfl
      · intro a w' hle hs' hd K hK
        obtain ⟨_, tg, rfl⟩ := hd 3 18 (by kernel_rfl)
        obtain ⟨_, t6, rfl⟩ := hd 6 21 (by kernel_rfl)
        obtain ⟨_, t9, rfl⟩ := hd 9 24 (by kernel_rfl)
        have hbr := HBr.out
        unfold Go.Rel.stepOf
        go_simp
        exact hK _ _ (Go.Rel.Grew.refl _) rfl
      · intro a w' hle hs' hd K hK
        obtain ⟨_, t3, rfl⟩ := hd 3 18 (by kernel_rfl)
        obtain ⟨_, t10, rfl⟩ := hd 10 25 (by kernel_rfl)
        unfold Go.Rel.stepOf
        go_simp
        exact hK _ _ (Go.Rel.Grew.refl _) rfl
      · intro a w' hle hs' hd K hK
        obtain ⟨_, t11, rfl⟩ := hd 11 26 (by kernel_rfl)
        unfold Go.Rel.stepOf
        go_simp
        exact hK _ _ (Go.Rel.Grew.refl _) rfl
      · intro a w' hle hs' hd K hK
        obtain ⟨_, tg, rfl⟩ := hd 12 27 (by kernel_rfl)
        have f3 : a.tmps[3]? = some (.pointer (some ⟨X, 0, none⟩)) := hs'.2.2 3 (by kernel_rfl)
        obtain ⟨x0, x1, x2, x3, x4, x5, x6, x7, x8⟩ := HC.out w' hle
        unfold Go.Rel.stepOf
        go_simp
        exact hK _ _ (Go.Rel.Grew.refl _) rfl
      · intro a w' hle hs' hd K hK
        obtain ⟨_, tg, rfl⟩ := hd 12 27 (by kernel_rfl)
        have f3 : a.tmps[3]? = some (.pointer (some ⟨X, 0, none⟩)) := hs'.2.2 3 (by kernel_rfl)
        obtain ⟨x0, x1, x2, x3, x4, x5, x6, x7, x8⟩ := HC.out w' hle
        unfold Go.Rel.stepOf
        go_simp
        exact hK _ _ (Go.Rel.Grew.refl _) rfl
      · intro a w' hle hs' hd K hK
        obtain ⟨_, tg, rfl⟩ := hd 12 27 (by kernel_rfl)
        obtain ⟨_, t13, rfl⟩ := hd 13 28 (by kernel_rfl)
        obtain ⟨_, t14, rfl⟩ := hd 14 29 (by kernel_rfl)
        unfold Go.Rel.stepOf
        go_simp
        refine (HAa.out w').mono ?_
        rintro e w5 ⟨rfl, hb5⟩
        exact hK _ _ hb5 rfl
      · intro a w' hle hs' hd K hK
        obtain ⟨_, t12, rfl⟩ := hd 12 27 (by kernel_rfl)
        obtain ⟨_, t15, rfl⟩ := hd 15 30 (by kernel_rfl)
        unfold Go.Rel.stepOf
        go_simp
        exact hK _ _ (Go.Rel.Grew.refl _) rfl
    case hen =>
      intro a3 w3 hle hs' hR'
      have HB3 : Hid (Below W.heap.size W w3) := Lib.hid hle
      clear hle
      obtain ⟨v15, s15, _⟩ := hR' 0 15 (by kernel_rfl)
      obtain ⟨v16, s16, _⟩ := hR' 1 16 (by kernel_rfl)
      obtain ⟨v17, s17, _⟩ := hR' 2 17 (by kernel_rfl)
      obtain ⟨v18, s18, _⟩ := hR' 3 18 (by kernel_rfl)
      obtain ⟨v19, s19, _⟩ := hR' 4 19 (by kernel_rfl)
      obtain ⟨v20, s20, _⟩ := hR' 5 20 (by kernel_rfl)
      obtain ⟨v21, s21, _⟩ := hR' 6 21 (by kernel_rfl)
      obtain ⟨v22, s22, _⟩ := hR' 7 22 (by kernel_rfl)
      obtain ⟨v23, s23, _⟩ := hR' 8 23 (by kernel_rfl)
      obtain ⟨v24, s24, _⟩ := hR' 9 24 (by kernel_rfl)
      obtain ⟨v25, s25, _⟩ := hR' 10 25 (by kernel_rfl)
      obtain ⟨v26, s26, _⟩ := hR' 11 26 (by kernel_rfl)
      obtain ⟨v27, s27, _⟩ := hR' 12 27 (by kernel_rfl)
      obtain ⟨v28, s28, _⟩ := hR' 13 28 (by kernel_rfl)
      obtain ⟨v29, s29, _⟩ := hR' 14 29 (by kernel_rfl)
      obtain ⟨v30, s30, _⟩ := hR' 15 30 (by kernel_rfl)
      obtain ⟨_, s31, rfl⟩ := hR' 16 31 (by kernel_rfl)
      have e := hs'.shape
      simp only [List.toList_toArray, List.foldl, Go.Rel.reset, Array.getD_eq_getD_getElem?, s15, s16, s17, s18, s19, s20, s21, s22, s23, s24, s25, s26, s27, s28, s29, s30, s31, Option.getD_some] at e
      simp at e
      clear hR' hs' s15 s16 s17 s18 s19 s20 s21 s22 s23 s24 s25 s26 s27 s28 s29 s30 s31
      subst e
      obtain ⟨x0, x1, x2, x3, x4, x5, x6, x7, x8⟩ := HC.out w3 HB3.out
      go_wp2_with fail
      refine (HA1.out _).mono ?_
      rintro e w4 ⟨rfl, hb4⟩
      have HB4 : Hid (Below W.heap.size W w4) := Lib.hid (HB3.out.trans (hb4.mono HB3.out.size))
      clear hb4 x0 x1 x2 x3 x4 x5 x6 x7 x8
      cases r1 with
      | false =>
        obtain ⟨w5, rfl⟩ : ∃ w5, w5 = w4 := ⟨_, rfl⟩
        have HB5 : Hid (Below w.heap.size w w5) := Lib.hid (HB.out.trans (HB4.out.mono HB.out.size))
        have HK5 : Hid (w5.heap[X]? = some (.cells #[.int .i64 a.node, .int .u32 (a.inc : Int), .int .i64 a.st] 24) ∧ w5.heap[X + 1]? = some (.cells #[.int .i64 y.node, .int .u32 (y.inc : Int), .int .i64 y.st] 24)) := Lib.hid ⟨(HB4.out.block _ (block_lt HK.out.1)).trans HK.out.1, (HB4.out.block _ (block_lt HK.out.2.1)).trans HK.out.2.1⟩
        go_wp2
        obtain ⟨G, hG⟩ : ∃ G, w5.heap.size = G := ⟨_, rfl⟩
        have HCl : Hid (∀ w', LeT G w5 w' → w'.cell? ⟨X, 0, none⟩ = some (.int .i64 a.node) ∧ w'.cell? ⟨X, 1, none⟩ = some (.int .u32 (a.inc : Int)) ∧ w'.cell? ⟨X, 2, none⟩ = some (.int .i64 a.st) ∧ w'.cell? ⟨(X + 1), 0, none⟩ = some (.int .i64 y.node) ∧ w'.cell? ⟨(X + 1), 1, none⟩ = some (.int .u32 (y.inc : Int)) ∧ w'.cell? ⟨(X + 1), 2, none⟩ = some (.int .i64 y.st)) := by
          refine Lib.hid (fun w' hle => ?_)
          have i0 := (hle.but.block X (block_lt HK5.out.1) (by have := block_lt HK5.out.1; omega)).trans HK5.out.1
          have i1 := (hle.but.block (X + 1) (block_lt HK5.out.2) (by have := block_lt HK5.out.2; omega)).trans HK5.out.2
          obtain ⟨x0, x1, x2⟩ := blk3 i0
          obtain ⟨x3, x4, x5⟩ := blk3 i1
          exact ⟨x0, x1, x2, x3, x4, x5⟩
        have HG := Lib.hid hG
        clear hG
        refine Go.Rel.wp_region_acts (by kernel_rfl) (by kernel_rfl) (by kernel_rfl) (by kernel_rfl) (fun f a' w' => (f 8 = true → Holds G d 7 a' w') ∧ (f 9 = true → Holds G d 8 a' w')) (LeT G) (fun _ _ _ h k => h.trans k) ⟨(But.refl _ _).drew, fun B u0 u1 u2 _ h => ⟨u0, u1, u2, h⟩⟩ ⟨(fun h => by cases h), (fun h => by cases h)⟩ (twoR G a y d) (twoR_stable G a y d) ?hsna ?hena
        case hsna =>
          refine .cons ?_ (.cons ?_ (.cons ?_ (.cons ?_ (.cons ?_ (.cons ?_ (.cons ?_ (.cons ?_ (.cons ?_ (.cons ?_ .nil)))))))))
          · intro f a' w' hI hf hanc hdesc hle hs' hd K hK
            have f3 : a'.tmps[3]? = some (.pointer (some ⟨X, 0, none⟩)) := hs'.2.2 3 (by kernel_rfl)
            obtain ⟨x0, x1, x2, x3, x4, x5⟩ := HCl.out w' hle
            have z8 := hdesc 12 8 (by kernel_rfl)
            have z9 := hdesc 12 9 (by kernel_rfl)
            unfold Go.Rel.stepOf
            go_simp
            exact hK _ _ (LeT.refl _ _) ⟨(fun h => by simp [Go.Rel.upd, z8] at h), (fun h => by simp [Go.Rel.upd, z9] at h)⟩ rfl
          · intro f a' w' hI hf hanc hdesc hle hs' hd K hK
            have f4 : a'.tmps[4]? = some (.pointer (some ⟨(X + 1), 0, none⟩)) := hs'.2.2 4 (by kernel_rfl)
            obtain ⟨x0, x1, x2, x3, x4, x5⟩ := HCl.out w' hle
            have z8 := hdesc 12 8 (by kernel_rfl)
            have z9 := hdesc 12 9 (by kernel_rfl)
            unfold Go.Rel.stepOf
            go_simp
            exact hK _ _ (LeT.refl _ _) ⟨(fun h => by simp [Go.Rel.upd, z8] at h), (fun h => by simp [Go.Rel.upd, z9] at h)⟩ rfl
          · intro f a' w' hI hf hanc hdesc hle hs' hd K hK
            obtain ⟨_, t0, rfl⟩ := hd 0 46 (by kernel_rfl)
            obtain ⟨_, t1, rfl⟩ := hd 1 47 (by kernel_rfl)
            have z8 := hdesc 12 8 (by kernel_rfl)
            have z9 := hdesc 12 9 (by kernel_rfl)
            unfold Go.Rel.stepOf
            go_simp
            refine (HBe.out w').mono ?_
            rintro e w6 ⟨rfl, hb6⟩
            exact hK _ _ (LeT.of_below hb6) ⟨(fun h => by simp [Go.Rel.upd, z8] at h), (fun h => by simp [Go.Rel.upd, z9] at h)⟩ rfl
          · intro f a' w' hI hf hanc hdesc hle hs' hd K hK
            have f4 : a'.tmps[4]? = some (.pointer (some ⟨(X + 1), 0, none⟩)) := hs'.2.2 4 (by kernel_rfl)
            obtain ⟨x0, x1, x2, x3, x4, x5⟩ := HCl.out w' hle
            have z8 := hdesc 12 8 (by kernel_rfl)
            have z9 := hdesc 12 9 (by kernel_rfl)
            unfold Go.Rel.stepOf
            go_simp
            exact hK _ _ (LeT.refl _ _) ⟨(fun h => by simp [Go.Rel.upd, z8] at h), (fun h => by simp [Go.Rel.upd, z9] at h)⟩ rfl
          · intro f a' w' hI hf hanc hdesc hle hs' hd K hK
            have f3 : a'.tmps[3]? = some (.pointer (some ⟨X, 0, none⟩)) := hs'.2.2 3 (by kernel_rfl)
            obtain ⟨x0, x1, x2, x3, x4, x5⟩ := HCl.out w' hle
            have z8 := hdesc 12 8 (by kernel_rfl)
            have z9 := hdesc 12 9 (by kernel_rfl)
            unfold Go.Rel.stepOf
            go_simp
            exact hK _ _ (LeT.refl _ _) ⟨(fun h => by simp [Go.Rel.upd, z8] at h), (fun h => by simp [Go.Rel.upd, z9] at h)⟩ rfl
          · intro f a' w' hI hf hanc hdesc hle hs' hd K hK
            obtain ⟨_, t3, rfl⟩ := hd 3 49 (by kernel_rfl)
            obtain ⟨_, t4, rfl⟩ := hd 4 50 (by kernel_rfl)
            have z8 := hdesc 12 8 (by kernel_rfl)
            have z9 := hdesc 12 9 (by kernel_rfl)
            unfold Go.Rel.stepOf
            go_simp
            refine (HBf.out w').mono ?_
            rintro e w6 ⟨rfl, hb6⟩
            exact hK _ _ (LeT.of_below hb6) ⟨(fun h => by simp [Go.Rel.upd, z8] at h), (fun h => by simp [Go.Rel.upd, z9] at h)⟩ rfl
          · intro f a' w' hI hf hanc hdesc hle hs' hd K hK
            have z8 := hdesc 12 8 (by kernel_rfl)
            have z9 := hdesc 12 9 (by kernel_rfl)
            have hz := hle.but.size
            unfold Go.Rel.stepOf
            go_simp
            exact hK _ _ (LeT.of_below (below1 _ _)) ⟨(fun h => by simp [Go.Rel.upd, z8] at h), (fun h => by simp [Go.Rel.upd, z9] at h)⟩ ⟨_, rfl, by have := HG.out; omega, _, _, _, heap_alloc_new _ _⟩
          · intro f a' w' hI hf hanc hdesc hle hs' hd K hK
            have z9 := hdesc 12 9 (by kernel_rfl)
            have hz := hle.but.size
            unfold Go.Rel.stepOf
            go_simp
            exact hK _ _ (LeT.of_below (below1 _ _)) ⟨(fun h => Holds.keep (hI.1 (by simpa [Go.Rel.upd] using h)) (below1 _ _) (by decide) _), (fun h => by simp [Go.Rel.upd, z9] at h)⟩ ⟨_, rfl, by have := HG.out; omega, _, _, _, heap_alloc_new _ _⟩
          · intro f a' w' hI hf hanc hdesc hle hs' hd K hK
            obtain ⟨_, t6, B, rfl, hB, u0, u1, u2, hh⟩ := hd 6 7 (by kernel_rfl)
            obtain ⟨_, t2, rfl⟩ := hd 2 48 (by kernel_rfl)
            have z9 := hdesc 12 9 (by kernel_rfl)
            obtain ⟨d0, d1, d2⟩ := blk3 hh
            have g0 := blk_froz hh 0
            have g1 := blk_froz hh 1
            have g2 := blk_froz hh 2
            unfold Go.Rel.stepOf
            go_simp
            exact hK undef _ (LeT.set w' hB hh _ _ _) ⟨fun _ => ⟨B, t6, hB, set3_blk hh _ _ _⟩, (fun h => by simp [Go.Rel.upd, z9] at h)⟩ trivial
          · intro f a' w' hI hf hanc hdesc hle hs' hd K hK
            obtain ⟨_, t7, B, rfl, hB, u0, u1, u2, hh⟩ := hd 7 8 (by kernel_rfl)
            obtain ⟨_, t5, rfl⟩ := hd 5 51 (by kernel_rfl)
            obtain ⟨B7, s7, hB7, hh7⟩ := hI.1 (hanc 12 8 (by kernel_rfl))
            obtain ⟨d0, d1, d2⟩ := blk3 hh
            have g0 := blk_froz hh 0
            have g1 := blk_froz hh 1
            have g2 := blk_froz hh 2
            unfold Go.Rel.stepOf
            go_simp
            refine hK undef _ (LeT.set w' hB hh _ _ _) ⟨fun _ => ⟨B7, s7, hB7, ?_⟩, fun _ => ⟨B, t7, hB, set3_blk hh _ _ _⟩⟩ trivial
            by_cases e : B7 = B
            · subst e
              exact set3_blk hh _ _ _
            · exact ((((But.set (S := (· = B)) _ (p := ⟨B, 0, none⟩) rfl _).trans (But.set (S := (· = B)) _ (p := ⟨B, 1, none⟩) rfl _)).trans (But.set (S := (· = B)) _ (p := ⟨B, 2, none⟩) rfl _)).block B7 (block_lt hh7) e).trans hh7
        case hena =>
          intro f a' w7 hall hI hle hs' hR'
          obtain ⟨B7, s7, hB7, hh7⟩ := hI.1 (hall 8 (by decide))
          obtain ⟨B8, s8, hB8, hh8⟩ := hI.2 (hall 9 (by decide))
          have HB7 : Hid (Below w.heap.size w w7) := Lib.hid (HB5.out.trans (hle.but.below (Nat.le_refl _) (fun k hk hG => by have := HG.out; omega) |>.mono HB5.out.size))
          obtain ⟨v46, s46, _⟩ := hR' 0 46 (by kernel_rfl)
          obtain ⟨v47, s47, _⟩ := hR' 1 47 (by kernel_rfl)
          obtain ⟨v48, s48, _⟩ := hR' 2 48 (by kernel_rfl)
          obtain ⟨v49, s49, _⟩ := hR' 3 49 (by kernel_rfl)
          obtain ⟨v50, s50, _⟩ := hR' 4 50 (by kernel_rfl)
          obtain ⟨v51, s51, _⟩ := hR' 5 51 (by kernel_rfl)
          have e := hs'.shape
          simp only [List.toList_toArray, List.foldl, Go.Rel.reset, Array.getD_eq_getD_getElem?, s46, s47, s48, s49, s50, s51, s7, s8, Option.getD_some] at e
          simp at e
          obtain ⟨d0, d1, d2⟩ := blk3 hh7
          obtain ⟨e0, e1, e2⟩ := blk3 hh8
          clear hR' hs' hI hall hle s46 s47 s48 s49 s50 s51 s7 s8 hh7 hh8
          subst e
          have ug := up_guard
          have ue := HEd.out
          go_wp2_with fail
          refine (HWk.out _).mono ?_
          clear ue ug
          rintro e w8 ⟨rfl, hb8⟩
          have HB8 := Lib.hid (HB7.out.trans (hb8.mono HB7.out.size))
          clear hb8 d0 d1 d2 e0 e1 e2
          go_wp2
          go_ret
          exact ⟨by simp, HB8.out⟩
      | true =>
        obtain ⟨x0, x1, x2, x3, x4, x5, x6, x7, x8⟩ := HC.out w4 HB4.out
        go_wp2_with fail
        refine (HA3.out _).mono ?_
        rintro e wb ⟨rfl, hbb⟩
        have HBb : Hid (Below W.heap.size W wb) := Lib.hid (HB4.out.trans (hbb.mono HB4.out.size))
        clear hbb x0 x1 x2 x3 x4 x5 x6 x7 x8
        cases r3 with
        | false =>
          obtain ⟨w5, rfl⟩ : ∃ w5, w5 = wb := ⟨_, rfl⟩
          have HB5 : Hid (Below w.heap.size w w5) := Lib.hid (HB.out.trans (HBb.out.mono HB.out.size))
          have HK5 : Hid (w5.heap[X]? = some (.cells #[.int .i64 a.node, .int .u32 (a.inc : Int), .int .i64 a.st] 24) ∧ w5.heap[X + 1]? = some (.cells #[.int .i64 y.node, .int .u32 (y.inc : Int), .int .i64 y.st] 24)) := Lib.hid ⟨(HBb.out.block _ (block_lt HK.out.1)).trans HK.out.1, (HBb.out.block _ (block_lt HK.out.2.1)).trans HK.out.2.1⟩
          go_wp2
          obtain ⟨G, hG⟩ : ∃ G, w5.heap.size = G := ⟨_, rfl⟩
          have HCl : Hid (∀ w', LeT G w5 w' → w'.cell? ⟨X, 0, none⟩ = some (.int .i64 a.node) ∧ w'.cell? ⟨X, 1, none⟩ = some (.int .u32 (a.inc : Int)) ∧ w'.cell? ⟨X, 2, none⟩ = some (.int .i64 a.st) ∧ w'.cell? ⟨(X + 1), 0, none⟩ = some (.int .i64 y.node) ∧ w'.cell? ⟨(X + 1), 1, none⟩ = some (.int .u32 (y.inc : Int)) ∧ w'.cell? ⟨(X + 1), 2, none⟩ = some (.int .i64 y.st)) := by
            refine Lib.hid (fun w' hle => ?_)
            have i0 := (hle.but.block X (block_lt HK5.out.1) (by have := block_lt HK5.out.1; omega)).trans HK5.out.1
            have i1 := (hle.but.block (X + 1) (block_lt HK5.out.2) (by have := block_lt HK5.out.2; omega)).trans HK5.out.2
            obtain ⟨x0, x1, x2⟩ := blk3 i0
            obtain ⟨x3, x4, x5⟩ := blk3 i1
            exact ⟨x0, x1, x2, x3, x4, x5⟩
          have HG := Lib.hid hG
          clear hG
          refine Go.Rel.wp_region_acts (by kernel_rfl) (by kernel_rfl) (by kernel_rfl) (by kernel_rfl) (fun f a' w' => (f 8 = true → Holds G d 7 a' w') ∧ (f 9 = true → Holds G d 8 a' w')) (LeT G) (fun _ _ _ h k => h.trans k) ⟨(But.refl _ _).drew, fun B u0 u1 u2 _ h => ⟨u0, u1, u2, h⟩⟩ ⟨(fun h => by cases h), (fun h => by cases h)⟩ (twoR G a y d) (twoR_stable G a y d) ?hsnb ?henb
          case hsnb =>
            refine .cons ?_ (.cons ?_ (.cons ?_ (.cons ?_ (.cons ?_ (.cons ?_ (.cons ?_ (.cons ?_ (.cons ?_ (.cons ?_ .nil)))))))))
            · intro f a' w' hI hf hanc hdesc hle hs' hd K hK
              have f3 : a'.tmps[3]? = some (.pointer (some ⟨X, 0, none⟩)) := hs'.2.2 3 (by kernel_rfl)
              obtain ⟨x0, x1, x2, x3, x4, x5⟩ := HCl.out w' hle
              have z8 := hdesc 12 8 (by kernel_rfl)
              have z9 := hdesc 12 9 (by kernel_rfl)
              unfold Go.Rel.stepOf
              go_simp
              exact hK _ _ (LeT.refl _ _) ⟨(fun h => by simp [Go.Rel.upd, z8] at h), (fun h => by simp [Go.Rel.upd, z9] at h)⟩ rfl
            · intro f a' w' hI hf hanc hdesc hle hs' hd K hK
              have f4 : a'.tmps[4]? = some (.pointer (some ⟨(X + 1), 0, none⟩)) := hs'.2.2 4 (by kernel_rfl)
              obtain ⟨x0, x1, x2, x3, x4, x5⟩ := HCl.out w' hle
              have z8 := hdesc 12 8 (by kernel_rfl)
              have z9 := hdesc 12 9 (by kernel_rfl)
              unfold Go.Rel.stepOf
              go_simp
              exact hK _ _ (LeT.refl _ _) ⟨(fun h => by simp [Go.Rel.upd, z8] at h), (fun h => by simp [Go.Rel.upd, z9] at h)⟩ rfl
            · intro f a' w' hI hf hanc hdesc hle hs' hd K hK
              obtain ⟨_, t0, rfl⟩ := hd 0 46 (by kernel_rfl)
              obtain ⟨_, t1, rfl⟩ := hd 1 47 (by kernel_rfl)
              have z8 := hdesc 12 8 (by kernel_rfl)
              have z9 := hdesc 12 9 (by kernel_rfl)
              unfold Go.Rel.stepOf
              go_simp
              refine (HBe.out w').mono ?_
              rintro e w6 ⟨rfl, hb6⟩
              exact hK _ _ (LeT.of_below hb6) ⟨(fun h => by simp [Go.Rel.upd, z8] at h), (fun h => by simp [Go.Rel.upd, z9] at h)⟩ rfl
            · intro f a' w' hI hf hanc hdesc hle hs' hd K hK
              have f4 : a'.tmps[4]? = some (.pointer (some ⟨(X + 1), 0, none⟩)) := hs'.2.2 4 (by kernel_rfl)
              obtain ⟨x0, x1, x2, x3, x4, x5⟩ := HCl.out w' hle
              have z8 := hdesc 12 8 (by kernel_rfl)
              have z9 := hdesc 12 9 (by kernel_rfl)
              unfold Go.Rel.stepOf
              go_simp
              exact hK _ _ (LeT.refl _ _) ⟨(fun h => by simp [Go.Rel.upd, z8] at h), (fun h => by simp [Go.Rel.upd, z9] at h)⟩ rfl
            · intro f a' w' hI hf hanc hdesc hle hs' hd K hK
              have f3 : a'.tmps[3]? = some (.pointer (some ⟨X, 0, none⟩)) := hs'.2.2 3 (by kernel_rfl)
              obtain ⟨x0, x1, x2, x3, x4, x5⟩ := HCl.out w' hle
              have z8 := hdesc 12 8 (by kernel_rfl)
              have z9 := hdesc 12 9 (by kernel_rfl)
              unfold Go.Rel.stepOf
              go_simp
              exact hK _ _ (LeT.refl _ _) ⟨(fun h => by simp [Go.Rel.upd, z8] at h), (fun h => by simp [Go.Rel.upd, z9] at h)⟩ rfl
            · intro f a' w' hI hf hanc hdesc hle hs' hd K hK
              obtain ⟨_, t3, rfl⟩ := hd 3 49 (by kernel_rfl)
              obtain ⟨_, t4, rfl⟩ := hd 4 50 (by kernel_rfl)
              have z8 := hdesc 12 8 (by kernel_rfl)
              have z9 := hdesc 12 9 (by kernel_rfl)
              unfold Go.Rel.stepOf
              go_simp
              refine (HBf.out w').mono ?_
              rintro e w6 ⟨rfl, hb6⟩
              exact hK _ _ (LeT.of_below hb6) ⟨(fun h => by simp [Go.Rel.upd, z8] at h), (fun h => by simp [Go.Rel.upd, z9] at h)⟩ rfl
            · intro f a' w' hI hf hanc hdesc hle hs' hd K hK
              have z8 := hdesc 12 8 (by kernel_rfl)
              have z9 := hdesc 12 9 (by kernel_rfl)
              have hz := hle.but.size
              unfold Go.Rel.stepOf
              go_simp
              exact hK _ _ (LeT.of_below (below1 _ _)) ⟨(fun h => by simp [Go.Rel.upd, z8] at h), (fun h => by simp [Go.Rel.upd, z9] at h)⟩ ⟨_, rfl, by have := HG.out; omega, _, _, _, heap_alloc_new _ _⟩
            · intro f a' w' hI hf hanc hdesc hle hs' hd K hK
              have z9 := hdesc 12 9 (by kernel_rfl)
              have hz := hle.but.size
              unfold Go.Rel.stepOf
              go_simp
              exact hK _ _ (LeT.of_below (below1 _ _)) ⟨(fun h => Holds.keep (hI.1 (by simpa [Go.Rel.upd] using h)) (below1 _ _) (by decide) _), (fun h => by simp [Go.Rel.upd, z9] at h)⟩ ⟨_, rfl, by have := HG.out; omega, _, _, _, heap_alloc_new _ _⟩
            · intro f a' w' hI hf hanc hdesc hle hs' hd K hK
              obtain ⟨_, t6, B, rfl, hB, u0, u1, u2, hh⟩ := hd 6 7 (by kernel_rfl)
              obtain ⟨_, t2, rfl⟩ := hd 2 48 (by kernel_rfl)
              have z9 := hdesc 12 9 (by kernel_rfl)
              obtain ⟨d0, d1, d2⟩ := blk3 hh
              have g0 := blk_froz hh 0
              have g1 := blk_froz hh 1
              have g2 := blk_froz hh 2
              unfold Go.Rel.stepOf
              go_simp
              exact hK undef _ (LeT.set w' hB hh _ _ _) ⟨fun _ => ⟨B, t6, hB, set3_blk hh _ _ _⟩, (fun h => by simp [Go.Rel.upd, z9] at h)⟩ trivial
            · intro f a' w' hI hf hanc hdesc hle hs' hd K hK
              obtain ⟨_, t7, B, rfl, hB, u0, u1, u2, hh⟩ := hd 7 8 (by kernel_rfl)
              obtain ⟨_, t5, rfl⟩ := hd 5 51 (by kernel_rfl)
              obtain ⟨B7, s7, hB7, hh7⟩ := hI.1 (hanc 12 8 (by kernel_rfl))
              obtain ⟨d0, d1, d2⟩ := blk3 hh
              have g0 := blk_froz hh 0
              have g1 := blk_froz hh 1
              have g2 := blk_froz hh 2
              unfold Go.Rel.stepOf
              go_simp
              refine hK undef _ (LeT.set w' hB hh _ _ _) ⟨fun _ => ⟨B7, s7, hB7, ?_⟩, fun _ => ⟨B, t7, hB, set3_blk hh _ _ _⟩⟩ trivial
              by_cases e : B7 = B
              · subst e
                exact set3_blk hh _ _ _
              · exact ((((But.set (S := (· = B)) _ (p := ⟨B, 0, none⟩) rfl _).trans (But.set (S := (· = B)) _ (p := ⟨B, 1, none⟩) rfl _)).trans (But.set (S := (· = B)) _ (p := ⟨B, 2, none⟩) rfl _)).block B7 (block_lt hh7) e).trans hh7
          case henb =>
            intro f a' w7 hall hI hle hs' hR'
            obtain ⟨B7, s7, hB7, hh7⟩ := hI.1 (hall 8 (by decide))
            obtain ⟨B8, s8, hB8, hh8⟩ := hI.2 (hall 9 (by decide))
            have HB7 : Hid (Below w.heap.size w w7) := Lib.hid (HB5.out.trans (hle.but.below (Nat.le_refl _) (fun k hk hG => by have := HG.out; omega) |>.mono HB5.out.size))
            obtain ⟨v46, s46, _⟩ := hR' 0 46 (by kernel_rfl)
            obtain ⟨v47, s47, _⟩ := hR' 1 47 (by kernel_rfl)
            obtain ⟨v48, s48, _⟩ := hR' 2 48 (by kernel_rfl)
            obtain ⟨v49, s49, _⟩ := hR' 3 49 (by kernel_rfl)
            obtain ⟨v50, s50, _⟩ := hR' 4 50 (by kernel_rfl)
            obtain ⟨v51, s51, _⟩ := hR' 5 51 (by kernel_rfl)
            have e := hs'.shape
            simp only [List.toList_toArray, List.foldl, Go.Rel.reset, Array.getD_eq_getD_getElem?, s46, s47, s48, s49, s50, s51, s7, s8, Option.getD_some] at e
            simp at e
            obtain ⟨d0, d1, d2⟩ := blk3 hh7
            obtain ⟨e0, e1, e2⟩ := blk3 hh8
            clear hR' hs' hI hall hle s46 s47 s48 s49 s50 s51 s7 s8 hh7 hh8
            subst e
            have ug := up_guard
            have ue := HEd.out
            go_wp2_with fail
            refine (HWk.out _).mono ?_
            clear ue ug
            rintro e w8 ⟨rfl, hb8⟩
            have HB8 := Lib.hid (HB7.out.trans (hb8.mono HB7.out.size))
            clear hb8 d0 d1 d2 e0 e1 e2
            go_wp2
            go_ret
            exact ⟨by simp, HB8.out⟩
        | true =>
          obtain rfl : true = r4 := (HTr.out (by simp) (by simp)).symm
          obtain ⟨x0, x1, x2, x3, x4, x5, x6, x7, x8⟩ := HC.out wb HBb.out
          go_wp2_with fail
          refine (HA4.out _).mono ?_
          rintro e wc ⟨rfl, hbc⟩
          have HBc : Hid (Below W.heap.size W wc) := Lib.hid (HBb.out.trans (hbc.mono HBb.out.size))
          clear hbc x0 x1 x2 x3 x4 x5 x6 x7 x8
          obtain ⟨w5, rfl⟩ : ∃ w5, w5 = wc := ⟨_, rfl⟩
          have HB5 : Hid (Below w.heap.size w w5) := Lib.hid (HB.out.trans (HBc.out.mono HB.out.size))
          have HK5 : Hid (w5.heap[X]? = some (.cells #[.int .i64 a.node, .int .u32 (a.inc : Int), .int .i64 a.st] 24) ∧ w5.heap[X + 1]? = some (.cells #[.int .i64 y.node, .int .u32 (y.inc : Int), .int .i64 y.st] 24)) := Lib.hid ⟨(HBc.out.block _ (block_lt HK.out.1)).trans HK.out.1, (HBc.out.block _ (block_lt HK.out.2.1)).trans HK.out.2.1⟩
          go_wp2
          obtain ⟨G, hG⟩ : ∃ G, w5.heap.size = G := ⟨_, rfl⟩
          have HCl : Hid (∀ w', LeT G w5 w' → w'.cell? ⟨X, 0, none⟩ = some (.int .i64 a.node) ∧ w'.cell? ⟨X, 1, none⟩ = some (.int .u32 (a.inc : Int)) ∧ w'.cell? ⟨X, 2, none⟩ = some (.int .i64 a.st) ∧ w'.cell? ⟨(X + 1), 0, none⟩ = some (.int .i64 y.node) ∧ w'.cell? ⟨(X + 1), 1, none⟩ = some (.int .u32 (y.inc : Int)) ∧ w'.cell? ⟨(X + 1), 2, none⟩ = some (.int .i64 y.st)) := by
            refine Lib.hid (fun w' hle => ?_)
            have i0 := (hle.but.block X (block_lt HK5.out.1) (by have := block_lt HK5.out.1; omega)).trans HK5.out.1
            have i1 := (hle.but.block (X + 1) (block_lt HK5.out.2) (by have := block_lt HK5.out.2; omega)).trans HK5.out.2
            obtain ⟨x0, x1, x2⟩ := blk3 i0
            obtain ⟨x3, x4, x5⟩ := blk3 i1
            exact ⟨x0, x1, x2, x3, x4, x5⟩
          have HG := Lib.hid hG
          clear hG
          refine Go.Rel.wp_region_acts (by kernel_rfl) (by kernel_rfl) (by kernel_rfl) (by kernel_rfl) (fun f a' w' => (f 8 = true → Holds G d 7 a' w') ∧ (f 9 = true → Holds G d 8 a' w')) (LeT G) (fun _ _ _ h k => h.trans k) ⟨(But.refl _ _).drew, fun B u0 u1 u2 _ h => ⟨u0, u1, u2, h⟩⟩ ⟨(fun h => by cases h), (fun h => by cases h)⟩ (twoR G a y d) (twoR_stable G a y d) ?hsnc ?henc
          case hsnc =>
            refine .cons ?_ (.cons ?_ (.cons ?_ (.cons ?_ (.cons ?_ (.cons ?_ (.cons ?_ (.cons ?_ (.cons ?_ (.cons ?_ .nil)))))))))
            · intro f a' w' hI hf hanc hdesc hle hs' hd K hK
              have f3 : a'.tmps[3]? = some (.pointer (some ⟨X, 0, none⟩)) := hs'.2.2 3 (by kernel_rfl)
              obtain ⟨x0, x1, x2, x3, x4, x5⟩ := HCl.out w' hle
              have z8 := hdesc 12 8 (by kernel_rfl)
              have z9 := hdesc 12 9 (by kernel_rfl)
              unfold Go.Rel.stepOf
              go_simp
              exact hK _ _ (LeT.refl _ _) ⟨(fun h => by simp [Go.Rel.upd, z8] at h), (fun h => by simp [Go.Rel.upd, z9] at h)⟩ rfl
            · intro f a' w' hI hf hanc hdesc hle hs' hd K hK
              have f4 : a'.tmps[4]? = some (.pointer (some ⟨(X + 1), 0, none⟩)) := hs'.2.2 4 (by kernel_rfl)
              obtain ⟨x0, x1, x2, x3, x4, x5⟩ := HCl.out w' hle
              have z8 := hdesc 12 8 (by kernel_rfl)
              have z9 := hdesc 12 9 (by kernel_rfl)
              unfold Go.Rel.stepOf
              go_simp
              exact hK _ _ (LeT.refl _ _) ⟨(fun h => by simp [Go.Rel.upd, z8] at h), (fun h => by simp [Go.Rel.upd, z9] at h)⟩ rfl
            · intro f a' w' hI hf hanc hdesc hle hs' hd K hK
              obtain ⟨_, t0, rfl⟩ := hd 0 46 (by kernel_rfl)
              obtain ⟨_, t1, rfl⟩ := hd 1 47 (by kernel_rfl)
              have z8 := hdesc 12 8 (by kernel_rfl)
              have z9 := hdesc 12 9 (by kernel_rfl)
              unfold Go.Rel.stepOf
              go_simp
              refine (HBe.out w').mono ?_
              rintro e w6 ⟨rfl, hb6⟩
              exact hK _ _ (LeT.of_below hb6) ⟨(fun h => by simp [Go.Rel.upd, z8] at h), (fun h => by simp [Go.Rel.upd, z9] at h)⟩ rfl
            · intro f a' w' hI hf hanc hdesc hle hs' hd K hK
              have f4 : a'.tmps[4]? = some (.pointer (some ⟨(X + 1), 0, none⟩)) := hs'.2.2 4 (by kernel_rfl)
              obtain ⟨x0, x1, x2, x3, x4, x5⟩ := HCl.out w' hle
              have z8 := hdesc 12 8 (by kernel_rfl)
              have z9 := hdesc 12 9 (by kernel_rfl)
              unfold Go.Rel.stepOf
              go_simp
              exact hK _ _ (LeT.refl _ _) ⟨(fun h => by simp [Go.Rel.upd, z8] at h), (fun h => by simp [Go.Rel.upd, z9] at h)⟩ rfl
            · intro f a' w' hI hf hanc hdesc hle hs' hd K hK
              have f3 : a'.tmps[3]? = some (.pointer (some ⟨X, 0, none⟩)) := hs'.2.2 3 (by kernel_rfl)
              obtain ⟨x0, x1, x2, x3, x4, x5⟩ := HCl.out w' hle
              have z8 := hdesc 12 8 (by kernel_rfl)
              have z9 := hdesc 12 9 (by kernel_rfl)
              unfold Go.Rel.stepOf
              go_simp
              exact hK _ _ (LeT.refl _ _) ⟨(fun h => by simp [Go.Rel.upd, z8] at h), (fun h => by simp [Go.Rel.upd, z9] at h)⟩ rfl
            · intro f a' w' hI hf hanc hdesc hle hs' hd K hK
              obtain ⟨_, t3, rfl⟩ := hd 3 49 (by kernel_rfl)
              obtain ⟨_, t4, rfl⟩ := hd 4 50 (by kernel_rfl)
              have z8 := hdesc 12 8 (by kernel_rfl)
              have z9 := hdesc 12 9 (by kernel_rfl)
              unfold Go.Rel.stepOf
              go_simp
              refine (HBf.out w').mono ?_
              rintro e w6 ⟨rfl, hb6⟩
              exact hK _ _ (LeT.of_below hb6) ⟨(fun h => by simp [Go.Rel.upd, z8] at h), (fun h => by simp [Go.Rel.upd, z9] at h)⟩ rfl
            · intro f a' w' hI hf hanc hdesc hle hs' hd K hK
              have z8 := hdesc 12 8 (by kernel_rfl)
              have z9 := hdesc 12 9 (by kernel_rfl)
              have hz := hle.but.size
              unfold Go.Rel.stepOf
              go_simp
              exact hK _ _ (LeT.of_below (below1 _ _)) ⟨(fun h => by simp [Go.Rel.upd, z8] at h), (fun h => by simp [Go.Rel.upd, z9] at h)⟩ ⟨_, rfl, by have := HG.out; omega, _, _, _, heap_alloc_new _ _⟩
            · intro f a' w' hI hf hanc hdesc hle hs' hd K hK
              have z9 := hdesc 12 9 (by kernel_rfl)
              have hz := hle.but.size
              unfold Go.Rel.stepOf
              go_simp
              exact hK _ _ (LeT.of_below (below1 _ _)) ⟨(fun h => Holds.keep (hI.1 (by simpa [Go.Rel.upd] using h)) (below1 _ _) (by decide) _), (fun h => by simp [Go.Rel.upd, z9] at h)⟩ ⟨_, rfl, by have := HG.out; omega, _, _, _, heap_alloc_new _ _⟩
            · intro f a' w' hI hf hanc hdesc hle hs' hd K hK
              obtain ⟨_, t6, B, rfl, hB, u0, u1, u2, hh⟩ := hd 6 7 (by kernel_rfl)
              obtain ⟨_, t2, rfl⟩ := hd 2 48 (by kernel_rfl)
              have z9 := hdesc 12 9 (by kernel_rfl)
              obtain ⟨d0, d1, d2⟩ := blk3 hh
              have g0 := blk_froz hh 0
              have g1 := blk_froz hh 1
              have g2 := blk_froz hh 2
              unfold Go.Rel.stepOf
              go_simp
              exact hK undef _ (LeT.set w' hB hh _ _ _) ⟨fun _ => ⟨B, t6, hB, set3_blk hh _ _ _⟩, (fun h => by simp [Go.Rel.upd, z9] at h)⟩ trivial
            · intro f a' w' hI hf hanc hdesc hle hs' hd K hK
              obtain ⟨_, t7, B, rfl, hB, u0, u1, u2, hh⟩ := hd 7 8 (by kernel_rfl)
              obtain ⟨_, t5, rfl⟩ := hd 5 51 (by kernel_rfl)
              obtain ⟨B7, s7, hB7, hh7⟩ := hI.1 (hanc 12 8 (by kernel_rfl))
              obtain ⟨d0, d1, d2⟩ := blk3 hh
              have g0 := blk_froz hh 0
              have g1 := blk_froz hh 1
              have g2 := blk_froz hh 2
              unfold Go.Rel.stepOf
              go_simp
              refine hK undef _ (LeT.set w' hB hh _ _ _) ⟨fun _ => ⟨B7, s7, hB7, ?_⟩, fun _ => ⟨B, t7, hB, set3_blk hh _ _ _⟩⟩ trivial
              by_cases e : B7 = B
              · subst e
                exact set3_blk hh _ _ _
              · exact ((((But.set (S := (· = B)) _ (p := ⟨B, 0, none⟩) rfl _).trans (But.set (S := (· = B)) _ (p := ⟨B, 1, none⟩) rfl _)).trans (But.set (S := (· = B)) _ (p := ⟨B, 2, none⟩) rfl _)).block B7 (block_lt hh7) e).trans hh7
          case henc =>
            intro f a' w7 hall hI hle hs' hR'
            obtain ⟨B7, s7, hB7, hh7⟩ := hI.1 (hall 8 (by decide))
            obtain ⟨B8, s8, hB8, hh8⟩ := hI.2 (hall 9 (by decide))
            have HB7 : Hid (Below w.heap.size w w7) := Lib.hid (HB5.out.trans (hle.but.below (Nat.le_refl _) (fun k hk hG => by have := HG.out; omega) |>.mono HB5.out.size))
            obtain ⟨v46, s46, _⟩ := hR' 0 46 (by kernel_rfl)
            obtain ⟨v47, s47, _⟩ := hR' 1 47 (by kernel_rfl)
            obtain ⟨v48, s48, _⟩ := hR' 2 48 (by kernel_rfl)
            obtain ⟨v49, s49, _⟩ := hR' 3 49 (by kernel_rfl)
            obtain ⟨v50, s50, _⟩ := hR' 4 50 (by kernel_rfl)
            obtain ⟨v51, s51, _⟩ := hR' 5 51 (by kernel_rfl)
            have e := hs'.shape
            simp only [List.toList_toArray, List.foldl, Go.Rel.reset, Array.getD_eq_getD_getElem?, s46, s47, s48, s49, s50, s51, s7, s8, Option.getD_some] at e
            simp at e
            obtain ⟨d0, d1, d2⟩ := blk3 hh7
            obtain ⟨e0, e1, e2⟩ := blk3 hh8
            clear hR' hs' hI hall hle s46 s47 s48 s49 s50 s51 s7 s8 hh7 hh8
            subst e
            have ug := up_guard
            have ue := HEd.out
            go_wp2_with fail
            refine (HWk.out _).mono ?_
            clear ue ug
            rintro e w8 ⟨rfl, hb8⟩
            have HB8 := Lib.hid (HB7.out.trans (hb8.mono HB7.out.size))
            clear hb8 d0 d1 d2 e0 e1 e2
            go_wp2
            go_ret
            exact ⟨by simp, HB8.out⟩
end Go.Proofs.Ytfkaljegkkdmmaa
