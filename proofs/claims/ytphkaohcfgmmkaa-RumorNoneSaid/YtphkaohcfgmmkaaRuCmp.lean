/-
  How two that wait are compared, by the program's closure, walked; Limit (layer 10).
-/
import Derived.Test.YtphkaohcfgmmkaaRuWalkA
import Derived.Test.YtphkaohcfgmmkaaRelI
import Derived.Test.YtphkaohcfgmmkaaRelMore
import Derived.Test.YtphkaohcfgmmkaaShelf
import Derived.Sort.Grow
import Derived.Sort.Statements
import Derived.Shelf.SlSortCmp.InsertionK
namespace Go.Proofs.Ytphkaohcfgmmkaa
open Go.RowKit Go.Maps Go.Sort
set_option linter.unusedSimpArgs false
set_option linter.unusedVariables false

/-- Draws, and blocks behind. -/
def GrN (a b : World) : Prop := ∃ n os, b = grow (a.drewN n) os
theorem GrN.refl (w : World) : GrN w w := ⟨0, #[], by rw [grow_empty]; rfl⟩
theorem GrN.trans (a b c : World) : GrN a b → GrN b c → GrN a c := fun ⟨n, os, h⟩ ⟨m, os', k⟩ => ⟨n + m, os ++ os', by
  subst h; subst k
  show grow (grow ((a.drewN n).drewN m) os) os' = _
  rw [grow_grow, World.drewN_drewN]⟩
theorem GrN.alloc (w : World) (o : Obj) : GrN w (w.alloc o) := ⟨0, #[o], by rw [alloc_eq_grow]; rfl⟩
theorem GrN.drew (w : World) : GrN w { w with drawn := w.drawn + 1 } := ⟨1, #[], by rw [grow_empty]; rfl⟩
theorem GrN.block {a b : World} (h : GrN a b) {k : Nat} {o : Obj} (hk : a.heap[k]? = some o) : b.heap[k]? = some o := by
  obtain ⟨n, os, rfl⟩ := h
  rw [heap_grow_old _ _ (by exact block_lt hk)]
  exact hk
/-- What the closure says of two. -/
def cfR (x y : Ru) : Int := orI (Lib.compareInt x.sent y.sent) (Lib.compareInt y.wh x.wh)
instance : Inhabited Ru := ⟨zR⟩
theorem ltOf_cfR (x y : Ru) : Go.Proofs.ltOf cfR x y = x.ltB y := by
  unfold ltOf cfR orI Lib.compareInt Ru.ltB
  by_cases h1 : (x.sent : Int) < y.sent
  · simp [h1]; omega
  · by_cases h2 : (y.sent : Int) < x.sent
    · simp [h1, h2]; omega
    · have e : x.sent = y.sent := by omega
      by_cases h3 : (y.wh : Int) < x.wh
      · simp [e, h3]; omega
      · by_cases h4 : (x.wh : Int) < y.wh
        · simp [e, h3, h4]; omega
        · simp [e, h3, h4]; omega
theorem swo_cfR : SWO (Go.Proofs.ltOf cfR) where
  irrefl x := by rw [ltOf_cfR, Bool.eq_false_iff]; exact fun h => Ru.lt_irrefl x ((Ru.ltB_iff _ _).1 h)
  trans x y z h1 h2 := by
    rw [ltOf_cfR] at *
    exact (Ru.ltB_iff _ _).2 (Ru.lt_trans ((Ru.ltB_iff _ _).1 h1) ((Ru.ltB_iff _ _).1 h2))
  ntrans x y z h1 h2 := by
    rw [ltOf_cfR] at *
    unfold Ru.ltB at *
    simp only [decide_eq_false_iff_not] at *
    omega
def cmpR (X : Nat) (x y : Ru) (c1 c2 : Int) : Nat → Value → World → Prop
  | 0, v, _ => v = .pointer (some ⟨X, 3, none⟩)
  | 1, v, _ => v = .int .i64 (x.sent : Int)
  | 2, v, _ => v = .pointer (some ⟨X + 1, 3, none⟩)
  | 3, v, _ => v = .int .i64 (y.sent : Int)
  | 4, v, _ => v = .int .i64 c1
  | 5, v, _ => v = .pointer (some ⟨X + 1, 4, none⟩)
  | 6, v, _ => v = .int .i64 (y.wh : Int)
  | 7, v, _ => v = .pointer (some ⟨X, 4, none⟩)
  | 8, v, _ => v = .int .i64 (x.wh : Int)
  | 9, v, _ => v = .int .i64 c2
  | 10, v, w => ∃ Z, v = .slice (some ⟨Z, 0, none⟩) 2 2 ∧ w.heap[Z]? = some (.cells #[.int .i64 c1, .int .i64 c2] 3 (0, 0))
  | 11, v, _ => v = .int .i64 (orI c1 c2)
  | 12, v, _ => v = .int .i64 (orI c1 c2)
  | _, _, _ => True
theorem cmpR_stable (X : Nat) (x y : Ru) (c1 c2 : Int) : ∀ i v w w', cmpR X x y c1 c2 i v w → GrN w w' → cmpR X x y c1 c2 i v w'
  | 0, _, _, _, h, _ | 1, _, _, _, h, _ | 2, _, _, _, h, _ | 3, _, _, _, h, _ | 4, _, _, _, h, _ | 5, _, _, _, h, _ | 6, _, _, _, h, _ | 7, _, _, _, h, _ | 8, _, _, _, h, _ | 9, _, _, _, h, _ | 11, _, _, _, h, _ | 12, _, _, _, h, _ => h
  | 10, _, _, _, ⟨Z, e, h⟩, g => ⟨Z, e, g.block h⟩
  | _ + 13, _, _, _, h, _ => h
set_option maxHeartbeats 8000000 in
theorem cmp_any (x y : Ru) (w : World) : Calls Try.prog 20 #[ruV x, ruV y] w fun e w' => e = .returned (.int .i64 (cfR x y)) ∧ ∃ q os', w' = grow (w.drewN q) os' := by
  unfold ruV
  obtain ⟨X, hX⟩ : ∃ X, w.heap.size = X := ⟨_, rfl⟩
  obtain ⟨W, hW⟩ : ∃ W, (w.alloc (.cells #[.int .i64 x.u.node, .int .u32 (x.u.inc : Int), .int .i64 x.u.st, .int .i64 (x.sent : Int), .int .i64 (x.wh : Int)] 53)).alloc (.cells #[.int .i64 y.u.node, .int .u32 (y.u.inc : Int), .int .i64 y.u.st, .int .i64 (y.sent : Int), .int .i64 (y.wh : Int)] 53) = W := ⟨_, rfl⟩
  have hG : GrN w W := by rw [← hW]; exact GrN.trans _ _ _ (GrN.alloc _ _) (GrN.alloc _ _)
  have hA : W.heap[X]? = some (.cells #[.int .i64 x.u.node, .int .u32 (x.u.inc : Int), .int .i64 x.u.st, .int .i64 (x.sent : Int), .int .i64 (x.wh : Int)] 53 (0, 0)) := by rw [← hW, ← hX]; exact (Below.heap_alloc _ _ _ (by simp)).trans (heap_alloc_new w _)
  have hB : W.heap[X + 1]? = some (.cells #[.int .i64 y.u.node, .int .u32 (y.u.inc : Int), .int .i64 y.u.st, .int .i64 (y.sent : Int), .int .i64 (y.wh : Int)] 53 (0, 0)) := by
    rw [← hW, ← hX]
    have := heap_alloc_new (w.alloc (.cells #[.int .i64 x.u.node, .int .u32 (x.u.inc : Int), .int .i64 x.u.st, .int .i64 (x.sent : Int), .int .i64 (x.wh : Int)] 53)) (.cells #[.int .i64 y.u.node, .int .u32 (y.u.inc : Int), .int .i64 y.u.st, .int .i64 (y.sent : Int), .int .i64 (y.wh : Int)] 53)
    simpa using this
  have hc1 : ∀ w1, Calls Try.prog 22 #[.int .i64 (x.sent : Int), .int .i64 (y.sent : Int)] w1 fun e w' => e = .returned (.int .i64 (Lib.compareInt x.sent y.sent)) ∧ w' = w1 := fun w1 => Try.cmp_Compare_int _ _ w1
  have hc2 : ∀ w1, Calls Try.prog 22 #[.int .i64 (y.wh : Int), .int .i64 (x.wh : Int)] w1 fun e w' => e = .returned (.int .i64 (Lib.compareInt y.wh x.wh)) ∧ w' = w1 := fun w1 => Try.cmp_Compare_int _ _ w1
  unfold cfR
  obtain ⟨c1, e1⟩ : ∃ c, Lib.compareInt x.sent y.sent = c := ⟨_, rfl⟩
  obtain ⟨c2, e2⟩ : ∃ c, Lib.compareInt y.wh x.wh = c := ⟨_, rfl⟩
  rw [e1] at hc1 ⊢
  rw [e2] at hc2 ⊢
  have HC1 := Lib.hid hc1
  have HC2 := Lib.hid hc2
  have HA := Lib.hid (fun w' (h : GrN W w') => blk5 (h.block hA))
  have HB := Lib.hid (fun w' (h : GrN W w') => blk5 (h.block hB))
  have HG := Lib.hid hG
  have HX := Lib.hid hX
  have HW := Lib.hid hW
  clear hc1 hc2 hA hB hG hX hW e1 e2
  go_enter Try.func20, Try.ntmps20
  go_wp2_with fail
  rw [HW.out, HX.out]
  refine Go.Rel.wp_region_states (by kernel_rfl) (by kernel_rfl) (by kernel_rfl) (by kernel_rfl) (fun _ _ => True) GrN GrN.trans (GrN.drew _) trivial (cmpR X x y c1 c2) (cmpR_stable X x y c1 c2) ?hs ?he
  case hs =>
    refine (.cons ?_ (.cons ?_ (.cons ?_ (.cons ?_ (.cons ?_ (.cons ?_ (.cons ?_ (.cons ?_ (.cons ?_ (.cons ?_ (.cons ?_ (.cons ?_ (.cons ?_ .nil)))))))))))))
    · intro f a w' hI hf hanc hdesc hle hs' hd K hK
      have f2 : a.tmps[2]? = some (.pointer (some ⟨X, 0, none⟩)) := hs'.2.2 2 (by kernel_rfl)
      unfold Go.Rel.stepOf
      go_simp
      exact hK _ _ (GrN.refl _) trivial rfl
    · intro f a w' hI hf hanc hdesc hle hs' hd K hK
      obtain ⟨_, t0, rfl⟩ := hd 0 5 (by kernel_rfl)
      obtain ⟨b0, b1, b2, b3, b4⟩ := HA.out w' hle
      unfold Go.Rel.stepOf
      go_simp
      exact hK _ _ (GrN.refl _) trivial rfl
    · intro f a w' hI hf hanc hdesc hle hs' hd K hK
      have f3 : a.tmps[3]? = some (.pointer (some ⟨X + 1, 0, none⟩)) := hs'.2.2 3 (by kernel_rfl)
      unfold Go.Rel.stepOf
      go_simp
      exact hK _ _ (GrN.refl _) trivial rfl
    · intro f a w' hI hf hanc hdesc hle hs' hd K hK
      obtain ⟨_, t2, rfl⟩ := hd 2 7 (by kernel_rfl)
      obtain ⟨b0, b1, b2, b3, b4⟩ := HB.out w' hle
      unfold Go.Rel.stepOf
      go_simp
      exact hK _ _ (GrN.refl _) trivial rfl
    · intro f a w' hI hf hanc hdesc hle hs' hd K hK
      obtain ⟨_, t1, rfl⟩ := hd 1 6 (by kernel_rfl)
      obtain ⟨_, t3, rfl⟩ := hd 3 8 (by kernel_rfl)
      unfold Go.Rel.stepOf
      go_simp
      refine (HC1.out _).mono ?_
      rintro e w6 ⟨rfl, rfl⟩
      exact hK _ _ (GrN.refl _) trivial rfl
    · intro f a w' hI hf hanc hdesc hle hs' hd K hK
      have f3 : a.tmps[3]? = some (.pointer (some ⟨X + 1, 0, none⟩)) := hs'.2.2 3 (by kernel_rfl)
      unfold Go.Rel.stepOf
      go_simp
      exact hK _ _ (GrN.refl _) trivial rfl
    · intro f a w' hI hf hanc hdesc hle hs' hd K hK
      obtain ⟨_, t5, rfl⟩ := hd 5 10 (by kernel_rfl)
      obtain ⟨b0, b1, b2, b3, b4⟩ := HB.out w' hle
      unfold Go.Rel.stepOf
      go_simp
      exact hK _ _ (GrN.refl _) trivial rfl
    · intro f a w' hI hf hanc hdesc hle hs' hd K hK
      have f2 : a.tmps[2]? = some (.pointer (some ⟨X, 0, none⟩)) := hs'.2.2 2 (by kernel_rfl)
      unfold Go.Rel.stepOf
      go_simp
      exact hK _ _ (GrN.refl _) trivial rfl
    · intro f a w' hI hf hanc hdesc hle hs' hd K hK
      obtain ⟨_, t7, rfl⟩ := hd 7 12 (by kernel_rfl)
      obtain ⟨b0, b1, b2, b3, b4⟩ := HA.out w' hle
      unfold Go.Rel.stepOf
      go_simp
      exact hK _ _ (GrN.refl _) trivial rfl
    · intro f a w' hI hf hanc hdesc hle hs' hd K hK
      obtain ⟨_, t6, rfl⟩ := hd 6 11 (by kernel_rfl)
      obtain ⟨_, t8, rfl⟩ := hd 8 13 (by kernel_rfl)
      unfold Go.Rel.stepOf
      go_simp
      refine (HC2.out _).mono ?_
      rintro e w6 ⟨rfl, rfl⟩
      exact hK _ _ (GrN.refl _) trivial rfl
    · intro f a w' hI hf hanc hdesc hle hs' hd K hK
      obtain ⟨_, t4, rfl⟩ := hd 4 9 (by kernel_rfl)
      obtain ⟨_, t9, rfl⟩ := hd 9 14 (by kernel_rfl)
      unfold Go.Rel.stepOf
      go_simp
      exact hK _ _ (GrN.alloc _ _) trivial ⟨_, rfl, heap_alloc_new _ _⟩
    · intro f a w' hI hf hanc hdesc hle hs' hd K hK
      obtain ⟨_, t10, Z, rfl, hZ⟩ := hd 10 15 (by kernel_rfl)
      have z0 : w'.cell? ⟨Z, 0, none⟩ = some (.int .i64 c1) := by rw [cell_of_row _ _ _ _ _ _ hZ]; rfl
      have z1 : w'.cell? ⟨Z, 1, none⟩ = some (.int .i64 c2) := by rw [cell_of_row _ _ _ _ _ _ hZ]; rfl
      have HO := Lib.hid (or_any c1 c2 Z w' z0 z1)
      clear z0 z1 hZ
      unfold Go.Rel.stepOf
      go_simp
      refine HO.out.mono ?_
      rintro e w6 ⟨rfl, rfl⟩
      exact hK _ _ (GrN.refl _) trivial rfl
    · intro f a w' hI hf hanc hdesc hle hs' hd K hK
      obtain ⟨_, t11, rfl⟩ := hd 11 16 (by kernel_rfl)
      unfold Go.Rel.stepOf
      go_simp
      exact hK _ _ (GrN.refl _) trivial rfl
  case he =>
    intro f a w7 hall hI hle hs' hR'
    obtain ⟨_, s4, rfl⟩ := hR' 12 4 (by kernel_rfl)
    have hd : a.defers = [] := hs'.1
    obtain ⟨n, os, h7⟩ := GrN.trans _ _ _ HG.out hle
    clear hs' hR' hall hI
    go_wp2
    exact bodyPost_ret (v := .int .i64 (orI c1 c2)) (by simp [results, Try.results20, go_sem, s4]) hd ⟨rfl, n, os, h7⟩
end Go.Proofs.Ytphkaohcfgmmkaa
