import Derived.Test.YtaicipldjmngaaaGreatDoorZj22
import Derived.Test.YtaicipldjmngaaaGreatDoorZj2
import Derived.Test.YtaicipldjmngaaaGreatDoorZj25
import Derived.Sort.Grow
import Derived.Sort.Statements
import Derived.Shelf.SlSortCmp.InsertionK
import Derived.IntWalk
import Derived.Test.YtaicipldjmngaaaGreatDoorZj24
namespace Go.Proofs.YtaicipldjmngaaaGreatDoor.ru
open Go.RowKit Go.Maps Go.Sort
set_option linter.unusedSimpArgs false
set_option linter.unusedVariables false
def GrN (a b : World) : Prop := ∃ n os, b = grow (a.drewN n) os
theorem GrN.refl (w : World) : GrN w w := ⟨0, #[], by rw [grow_empty]; rfl⟩
theorem GrN.trans (a b c : World) : GrN a b → GrN b c → GrN a c := fun ⟨n, os, h⟩ ⟨m, os', k⟩ => ⟨n + m, os ++ os', by
  subst h; subst k
  show grow (grow ((a.drewN n).drewN m) os) os' = _
  rw [grow_grow, World.drewN_drewN]⟩
theorem GrN.alloc (w : World) (o : Obj) : GrN w (w.alloc o) := ⟨0, #[o], by rw [alloc_eq_grow]; rfl⟩
theorem GrN.drew (w : World) : GrN w { w with drawn := w.drawn + 1 } := ⟨1, #[], by rw [grow_empty]; rfl⟩
theorem GrN.block {a b : World} (h : GrN a b) {k : Nat} {o : Obj} (hk : a.heap[k]? = some o) : b.heap[k]? = some o := by
  obtain ⟨n, os, rfl⟩ := h
  rw [heap_grow_old _ _ (by exact block_lt hk)]
  exact hk
def cfR (x y : Ru) : Int := orI (Lib.compareInt x.sent y.sent) (Lib.compareInt y.wh x.wh)
instance : Inhabited Ru := ⟨zR⟩
theorem ltOf_cfR (x y : Ru) : Go.Proofs.ltOf cfR x y = x.ltB y := by
  unfold ltOf cfR orI Lib.compareInt Ru.ltB
  by_cases h1 : (x.sent : Int) < y.sent
  · simp [h1]; omega
  · by_cases h2 : (y.sent : Int) < x.sent
    · simp [h1, h2]; omega
    · have e : x.sent = y.sent := by omega
      by_cases h3 : (y.wh : Int) < x.wh
      · simp [e, h3]; omega
      · by_cases h4 : (x.wh : Int) < y.wh
        · simp [e, h3, h4]; omega
        · simp [e, h3, h4]; omega
theorem swo_cfR : SWO (Go.Proofs.ltOf cfR) where
  irrefl x := by rw [ltOf_cfR, Bool.eq_false_iff]; exact fun h => Ru.lt_irrefl x ((Ru.ltB_iff _ _).1 h)
  trans x y z h1 h2 := by
    rw [ltOf_cfR] at *
    exact (Ru.ltB_iff _ _).2 (Ru.lt_trans ((Ru.ltB_iff _ _).1 h1) ((Ru.ltB_iff _ _).1 h2))
  ntrans x y z h1 h2 := by
    rw [ltOf_cfR] at *
    unfold Ru.ltB at *
    simp only [decide_eq_false_iff_not] at *
    omega
def cmpR (X : Nat) (x y : Ru) (c1 c2 : Int) : Nat → Value → World → Prop
  | 0, v, _ => v = .pointer (some ⟨X, 3, none⟩)
  | 1, v, _ => v = .int .i64 (x.sent : Int)
  | 2, v, _ => v = .pointer (some ⟨X + 1, 3, none⟩)
  | 3, v, _ => v = .int .i64 (y.sent : Int)
  | 4, v, _ => v = .int .i64 c1
  | 5, v, _ => v = .pointer (some ⟨X + 1, 4, none⟩)
  | 6, v, _ => v = .int .i64 (y.wh : Int)
  | 7, v, _ => v = .pointer (some ⟨X, 4, none⟩)
  | 8, v, _ => v = .int .i64 (x.wh : Int)
  | 9, v, _ => v = .int .i64 c2
  | 10, v, w => ∃ Z, v = .slice (some ⟨Z, 0, none⟩) 2 2 ∧ w.heap[Z]? = some (.cells #[.int .i64 c1, .int .i64 c2] 3 (0, 0))
  | 11, v, _ => v = .int .i64 (orI c1 c2)
  | 12, v, _ => v = .int .i64 (orI c1 c2)
  | _, _, _ => True
theorem cmpR_stable (X : Nat) (x y : Ru) (c1 c2 : Int) : ∀ i v w w', cmpR X x y c1 c2 i v w → GrN w w' → cmpR X x y c1 c2 i v w'
  | 0, _, _, _, h, _ | 1, _, _, _, h, _ | 2, _, _, _, h, _ | 3, _, _, _, h, _ | 4, _, _, _, h, _ | 5, _, _, _, h, _ | 6, _, _, _, h, _ | 7, _, _, _, h, _ | 8, _, _, _, h, _ | 9, _, _, _, h, _ | 11, _, _, _, h, _ | 12, _, _, _, h, _ => h
  | 10, _, _, _, ⟨Z, e, h⟩, g => ⟨Z, e, g.block h⟩
  | _ + 13, _, _, _, h, _ => h
set_option maxRecDepth 100000 in
set_option maxHeartbeats 8000000 in
theorem cmp_any (x y : Ru) (w : World) : Calls Tryz.prog 138 #[ruV x, ruV y] w fun e w' => e = .returned (.int .i64 (cfR x y)) ∧ ∃ q os', w' = grow (w.drewN q) os' := by
  unfold ruV
  obtain ⟨X, hX⟩ : ∃ X, w.heap.size = X := ⟨_, rfl⟩
  obtain ⟨W, hW⟩ : ∃ W, (w.alloc (.cells #[.int .i64 x.u.node, .int .u32 (x.u.inc : Int), .int .i64 x.u.st, .int .i64 (x.sent : Int), .int .i64 (x.wh : Int)] 165)).alloc (.cells #[.int .i64 y.u.node, .int .u32 (y.u.inc : Int), .int .i64 y.u.st, .int .i64 (y.sent : Int), .int .i64 (y.wh : Int)] 165) = W := ⟨_, rfl⟩
  have hG : GrN w W := by rw [← hW]; exact GrN.trans _ _ _ (GrN.alloc _ _) (GrN.alloc _ _)
  have hA : W.heap[X]? = some (.cells #[.int .i64 x.u.node, .int .u32 (x.u.inc : Int), .int .i64 x.u.st, .int .i64 (x.sent : Int), .int .i64 (x.wh : Int)] 165 (0, 0)) := by rw [← hW, ← hX]; exact (Below.heap_alloc _ _ _ (by simp)).trans (heap_alloc_new w _)
  have hB : W.heap[X + 1]? = some (.cells #[.int .i64 y.u.node, .int .u32 (y.u.inc : Int), .int .i64 y.u.st, .int .i64 (y.sent : Int), .int .i64 (y.wh : Int)] 165 (0, 0)) := by
    rw [← hW, ← hX]
    have := heap_alloc_new (w.alloc (.cells #[.int .i64 x.u.node, .int .u32 (x.u.inc : Int), .int .i64 x.u.st, .int .i64 (x.sent : Int), .int .i64 (x.wh : Int)] 165)) (.cells #[.int .i64 y.u.node, .int .u32 (y.u.inc : Int), .int .i64 y.u.st, .int .i64 (y.sent : Int), .int .i64 (y.wh : Int)] 165)
    simpa using this
  have hc1 : ∀ w1, Calls Tryz.prog 140 #[.int .i64 (x.sent : Int), .int .i64 (y.sent : Int)] w1 fun e w' => e = .returned (.int .i64 (Lib.compareInt x.sent y.sent)) ∧ w' = w1 := fun w1 => Tryz.cmp_Compare_int _ _ w1
  have hc2 : ∀ w1, Calls Tryz.prog 140 #[.int .i64 (y.wh : Int), .int .i64 (x.wh : Int)] w1 fun e w' => e = .returned (.int .i64 (Lib.compareInt y.wh x.wh)) ∧ w' = w1 := fun w1 => Tryz.cmp_Compare_int _ _ w1
  unfold cfR
  obtain ⟨c1, e1⟩ : ∃ c, Lib.compareInt x.sent y.sent = c := ⟨_, rfl⟩
  obtain ⟨c2, e2⟩ : ∃ c, Lib.compareInt y.wh x.wh = c := ⟨_, rfl⟩
  rw [e1] at hc1 ⊢
  rw [e2] at hc2 ⊢
  have HC1 := Lib.hid hc1
  have HC2 := Lib.hid hc2
  have HA := Lib.hid (fun w' (h : GrN W w') => blk5 (h.block hA))
  have HB := Lib.hid (fun w' (h : GrN W w') => blk5 (h.block hB))
  have HG := Lib.hid hG
  have HX := Lib.hid hX
  have HW := Lib.hid hW
  clear hc1 hc2 hA hB hG hX hW e1 e2
  go_enter Tryz.func138, Tryz.ntmps138
  go_wp2_with fail
  rw [HW.out, HX.out]
  refine Go.Rel.wp_region_states (by kernel_rfl) (by kernel_rfl) (by kernel_rfl) (by kernel_rfl) (fun _ _ => True) GrN GrN.trans (GrN.drew _) trivial (cmpR X x y c1 c2) (cmpR_stable X x y c1 c2) ?hs ?he
  case hs =>
    refine (.cons ?_ (.cons ?_ (.cons ?_ (.cons ?_ (.cons ?_ (.cons ?_ (.cons ?_ (.cons ?_ (.cons ?_ (.cons ?_ (.cons ?_ (.cons ?_ (.cons ?_ .nil)))))))))))))
    · intro f a w' hI hf hanc hdesc hle hs' hd K hK
      have f2 : a.tmps[2]? = some (.pointer (some ⟨X, 0, none⟩)) := hs'.2.2 2 (by kernel_rfl)
      unfold Go.Rel.stepOf
      go_simp
      exact hK _ _ (GrN.refl _) trivial rfl
    · intro f a w' hI hf hanc hdesc hle hs' hd K hK
      obtain ⟨_, t0, rfl⟩ := hd 0 5 (by kernel_rfl)
      obtain ⟨b0, b1, b2, b3, b4⟩ := HA.out w' hle
      unfold Go.Rel.stepOf
      go_simp
      exact hK _ _ (GrN.refl _) trivial rfl
    · intro f a w' hI hf hanc hdesc hle hs' hd K hK
      have f3 : a.tmps[3]? = some (.pointer (some ⟨X + 1, 0, none⟩)) := hs'.2.2 3 (by kernel_rfl)
      unfold Go.Rel.stepOf
      go_simp
      exact hK _ _ (GrN.refl _) trivial rfl
    · intro f a w' hI hf hanc hdesc hle hs' hd K hK
      obtain ⟨_, t2, rfl⟩ := hd 2 7 (by kernel_rfl)
      obtain ⟨b0, b1, b2, b3, b4⟩ := HB.out w' hle
      unfold Go.Rel.stepOf
      go_simp
      exact hK _ _ (GrN.refl _) trivial rfl
    · intro f a w' hI hf hanc hdesc hle hs' hd K hK
      obtain ⟨_, t1, rfl⟩ := hd 1 6 (by kernel_rfl)
      obtain ⟨_, t3, rfl⟩ := hd 3 8 (by kernel_rfl)
      unfold Go.Rel.stepOf
      go_simp
      refine (HC1.out _).mono ?_
      rintro e w6 ⟨rfl, rfl⟩
      exact hK _ _ (GrN.refl _) trivial rfl
    · intro f a w' hI hf hanc hdesc hle hs' hd K hK
      have f3 : a.tmps[3]? = some (.pointer (some ⟨X + 1, 0, none⟩)) := hs'.2.2 3 (by kernel_rfl)
      unfold Go.Rel.stepOf
      go_simp
      exact hK _ _ (GrN.refl _) trivial rfl
    · intro f a w' hI hf hanc hdesc hle hs' hd K hK
      obtain ⟨_, t5, rfl⟩ := hd 5 10 (by kernel_rfl)
      obtain ⟨b0, b1, b2, b3, b4⟩ := HB.out w' hle
      unfold Go.Rel.stepOf
      go_simp
      exact hK _ _ (GrN.refl _) trivial rfl
    · intro f a w' hI hf hanc hdesc hle hs' hd K hK
      have f2 : a.tmps[2]? = some (.pointer (some ⟨X, 0, none⟩)) := hs'.2.2 2 (by kernel_rfl)
      unfold Go.Rel.stepOf
      go_simp
      exact hK _ _ (GrN.refl _) trivial rfl
    · intro f a w' hI hf hanc hdesc hle hs' hd K hK
      obtain ⟨_, t7, rfl⟩ := hd 7 12 (by kernel_rfl)
      obtain ⟨b0, b1, b2, b3, b4⟩ := HA.out w' hle
      unfold Go.Rel.stepOf
      go_simp
      exact hK _ _ (GrN.refl _) trivial rfl
    · intro f a w' hI hf hanc hdesc hle hs' hd K hK
      obtain ⟨_, t6, rfl⟩ := hd 6 11 (by kernel_rfl)
      obtain ⟨_, t8, rfl⟩ := hd 8 13 (by kernel_rfl)
      unfold Go.Rel.stepOf
      go_simp
      refine (HC2.out _).mono ?_
      rintro e w6 ⟨rfl, rfl⟩
      exact hK _ _ (GrN.refl _) trivial rfl
    · intro f a w' hI hf hanc hdesc hle hs' hd K hK
      obtain ⟨_, t4, rfl⟩ := hd 4 9 (by kernel_rfl)
      obtain ⟨_, t9, rfl⟩ := hd 9 14 (by kernel_rfl)
      unfold Go.Rel.stepOf
      go_simp
      exact hK _ _ (GrN.alloc _ _) trivial ⟨_, rfl, heap_alloc_new _ _⟩
    · intro f a w' hI hf hanc hdesc hle hs' hd K hK
      obtain ⟨_, t10, Z, rfl, hZ⟩ := hd 10 15 (by kernel_rfl)
      have z0 : w'.cell? ⟨Z, 0, none⟩ = some (.int .i64 c1) := by rw [cell_of_row _ _ _ _ _ _ hZ]; rfl
      have z1 : w'.cell? ⟨Z, 1, none⟩ = some (.int .i64 c2) := by rw [cell_of_row _ _ _ _ _ _ hZ]; rfl
      have HO := Lib.hid (or_any c1 c2 Z w' z0 z1)
      clear z0 z1 hZ
      unfold Go.Rel.stepOf
      go_simp
      refine HO.out.mono ?_
      rintro e w6 ⟨rfl, rfl⟩
      exact hK _ _ (GrN.refl _) trivial rfl
    · intro f a w' hI hf hanc hdesc hle hs' hd K hK
      obtain ⟨_, t11, rfl⟩ := hd 11 16 (by kernel_rfl)
      unfold Go.Rel.stepOf
      go_simp
      exact hK _ _ (GrN.refl _) trivial rfl
  case he =>
    intro f a w7 hall hI hle hs' hR'
    obtain ⟨_, s4, rfl⟩ := hR' 12 4 (by kernel_rfl)
    have hd : a.defers = [] := hs'.1
    obtain ⟨n, os, h7⟩ := GrN.trans _ _ _ HG.out hle
    clear hs' hR' hall hI
    go_wp2
    exact bodyPost_ret (v := .int .i64 (orI c1 c2)) (by simp [results, Tryz.results138, go_sem, s4]) hd ⟨rfl, n, os, h7⟩
end Go.Proofs.YtaicipldjmngaaaGreatDoor.ru

namespace Go.Proofs.YtaicipldjmngaaaGreatDoor.ru
open Go.RowKit Go.Maps
set_option linter.unusedSimpArgs false
set_option linter.unusedVariables false
theorem digits_eq : ∀ (f n : Nat), digits f n = Lib.bitLenAux f n
  | 0, _ => rfl
  | f + 1, n => by
    unfold digits Lib.bitLenAux
    rw [digits_eq f (n / 2)]
    split
    · rfl
    · omega
theorem digits_fuel : ∀ (f n : Nat), digits f n ≤ f
  | 0, _ => Nat.le_refl _
  | f + 1, n => by
    unfold digits
    have := digits_fuel f (n / 2)
    split <;> omega
theorem limitQ_eq (mult : Nat) (m : Int) : limitQ mult m = mult * Lib.bitLen (max m 1).toNat := by
  unfold limitQ Lib.bitLen
  rw [digits_eq]
  congr 2
  split
  · have : max m 1 = 1 := by omega
    rw [this]; rfl
  · have : max m 1 = m := by omega
    rw [this]
theorem limitQ_512 {mult : Nat} (h : mult ≤ 8) (m : Int) : limitQ mult m ≤ 512 := by
  unfold limitQ
  have := digits_fuel 64 (if m < 1 then 1 else m.toNat)
  calc _ ≤ 8 * 64 := Nat.mul_le_mul h this
    _ = 512 := rfl
set_option maxHeartbeats 4000000 in
theorem limit_any {B M : Nat} {q : Qu} (m : Int) (hm : wfI m) (w : World) (h : QuAt w B M q) :
    Calls Tryz.prog 228 #[.pointer (some ⟨B, 0, none⟩), .int .i64 m] w fun e w' => e = .returned (.int .i64 (limitQ q.mult m : Int)) ∧ ∃ n, w' = w.drewN n := by
  have HM := Lib.hid (made_yes w h)
  have c0 := h.c0
  have hm8 := h.ok.mult8
  have hl := limitQ_512 hm8 m
  have hle := limitQ_eq q.mult m
  unfold wfI at hm
  obtain ⟨x, hx⟩ : ∃ x, max m 1 = x := ⟨_, rfl⟩
  have hx1 : 1 ≤ x := by omega
  have hx2 : x ≤ 9223372036854775807 := by omega
  have hL : ∀ w, Calls Tryz.prog 122 #[.int .u64 x] w fun e w' => e = .returned (.int .i64 (Lib.bitLen x.toNat)) ∧ w' = w := fun w => Tryz.bits_Len x w (by omega) (by omega)
  rw [hx] at hle
  obtain ⟨k, hk⟩ : ∃ k, Lib.bitLen x.toNat = k := ⟨_, rfl⟩
  rw [hk] at hle hL
  obtain ⟨mu, hmu⟩ : ∃ k, q.mult = k := ⟨_, rfl⟩
  rw [hmu] at hle c0 hl ⊢
  have wx : IntKind.u64.wrap x = x := by
    simp [IntKind.wrap, IntKind.signed, IntKind.bits]
    omega
  have wm : IntKind.i64.wrap ((mu : Int) * (k : Int)) = (limitQ mu m : Int) := by
    rw [hle] at hl ⊢
    have : ((mu * k : Nat) : Int) = (mu : Int) * (k : Int) := by simp
    rw [← this]
    exact IntWalk.i64_in _ (by omega)
  have HL := Lib.hid hL
  have HX : Hid (max m 1 = x) := Lib.hid hx
  clear h hm8 hl hle hx hL hk hmu hm hx1 hx2
  go_enter Tryz.func228, Tryz.ntmps228
  go_wp2_with fail
  refine HM.out.mono ?_
  rintro e w' ⟨rfl, rfl⟩
  have hx := HX.out
  clear HM HX
  go_wp2
  go_quiet ((go_at_call 122; exact Calls.quiet_of_same ((HL.out _).mono (fun _ _ ⟨h1, h2⟩ => ⟨h1, h2⟩))))
  go_wp2
  go_ret
  exact ⟨rfl, nq, rfl⟩
end Go.Proofs.YtaicipldjmngaaaGreatDoor.ru

namespace Go.Proofs.YtaicipldjmngaaaGreatDoor.ru
open Go.RowKit Go.Maps Go.Sort
set_option linter.unusedSimpArgs false
set_option linter.unusedVariables false
abbrev cmpIt : Nat := 138
theorem wh_inj {L : List Ru} (h : (L.map (·.wh)).Nodup) {i j : Nat} (hi : i < L.length) (hj : j < L.length) (e : L[i].wh = L[j].wh) : i = j := by
  have h1 := List.pairwise_iff_getElem.1 h
  rcases Nat.lt_trichotomy i j with k | k | k
  · exact absurd (by rw [List.getElem_map, List.getElem_map]; exact e) (h1 i j (by simpa using hi) (by simpa using hj) k)
  · exact k
  · exact absurd (by rw [List.getElem_map, List.getElem_map]; exact e.symm) (h1 j i (by simpa using hj) (by simpa using hi) k)
theorem sorted_is {L xs : List Ru} (hs : L.Pairwise Ru.lt) (hw : (L.map (·.wh)).Nodup) (hp : xs.Perm L) {d : Array Ru} (h1 : PermIn 0 xs.toArray.size xs.toArray d) (h2 : SortedIn (Go.Proofs.ltOf cfR) 0 xs.toArray.size d) : d = L.toArray := by
  obtain ⟨hsz, _, hpm⟩ := h1
  have e1 : (d.extract 0 xs.toArray.size).toList = d.toList := by rw [← hsz]; simp
  have e2 : (xs.toArray.extract 0 xs.toArray.size).toList = xs := by simp
  rw [e1, e2] at hpm
  have hpL := hpm.trans hp
  have hwd : (d.toList.map (·.wh)).Nodup := ((hpL.map (·.wh)).nodup_iff).2 hw
  have hsd : d.toList.Pairwise Ru.lt := by
    rw [List.pairwise_iff_getElem]
    intro i j hi hj hij
    have hi' : i < d.size := by simpa using hi
    have hj' : j < d.size := by simpa using hj
    have := h2 i j (Nat.zero_le _) hij (by rw [← hsz]; exact hj')
    rw [getElem!_pos d j hj', getElem!_pos d i hi', ltOf_cfR] at this
    have hne : d[i].wh ≠ d[j].wh := fun e => by
      have := wh_inj hwd hi hj (by simpa using e)
      omega
    rcases Ru.lt_total hne with h | h
    · simpa using h
    · rw [(Ru.ltB_iff _ _).2 h] at this
      cases this
  have := sorted_unique hsd hs hpL
  rw [← this]
set_option maxHeartbeats 2000000 in
theorem sort_func_any {base : Nat} (L xs : List Ru) (v : Value) (w : World) (hrow : wtRow w base v xs) (hp : xs.Perm L) (hs : L.Pairwise Ru.lt) (hw : (L.map (·.wh)).Nodup) (h8 : L.length ≤ 1000) :
    Calls Tryz.prog 197 #[v, .func (.func cmpIt) #[] #[]] w fun e w' => e = .returned (.tuple #[]) ∧ wtRow w' base v L ∧ w.grownBy w' v.ownBlock := by
  have hl := hp.length_eq
  by_cases h0 : xs = []
  · subst h0
    have : L = [] := List.eq_nil_of_length_eq_zero (by simpa using hl.symm)
    subst this
    obtain ⟨A, c, rfl, _⟩ := SK.of_row ruC_len hrow
    refine (AnyF.slices_SortFunc_none Tryz.laysSort A c (.func (.func cmpIt) #[] #[]) w).mono ?_
    rintro e w' ⟨rfl, rfl⟩
    exact ⟨rfl, hrow, World.grownBy.but (World.grownBy.refl _ _) _⟩
  · obtain ⟨g, cap, e, hb, hlt⟩ : ∃ g cap, v = .slice (some ⟨g, 0, none⟩) xs.length cap ∧ base ≤ g ∧ g < w.heap.size := own_form hrow (by
      cases xs with
      | nil => exact absurd rfl h0
      | cons a b => simp)
    subst e
    have hH := holdsK_of_row ruC_len hrow
    have eg : ∀ args w, (callFunc cmpIt args).run Tryz.prog w = .ok (.enter cmpIt args) w := enters_of Tryz.func138 (by kernel_rfl) rfl
    have hcmp : CmpLays Tryz.prog cmpIt #[] ruC 5 cfR g 0 xs.toArray.size w := fun _ _ _ _ x y => cmp_any x y _
    have hcon := AnyQ.slices_SortFunc Tryz.laysSort 5 Tryz.isAgg165 Tryz.sizeOf165 ruC ruC_len ruC_one cfR swo_cfR cmpIt #[] g 0 cap xs.toArray w eg hcmp hH hlt (by simp; omega)
    rw [List.size_toArray] at hcon
    refine hcon.mono ?_
    rintro e w' ⟨rfl, d, n, os, h1, h2, rfl⟩
    have e := sorted_is hs hw hp (d := d) (by simpa using h1) (by simpa using h2)
    subst e
    exact ⟨rfl, by
      have := rowK.sorted (m := n) (os := os) ruC_len (l' := L) hl.symm hrow
      exact this, grownBy_sortK _⟩
set_option maxHeartbeats 2000000 in
theorem sorted_func_any (Bm M : Nat) (L : List Ru) (w : World) (hBm : w.heap[Bm]? = some (.cells #[.map (some M)] 190 (0, 0))) (hM : QMap w M (atL L) L.length) (hd : (L.map (·.u.node)).Nodup) (hi : ∀ r ∈ L, wfI r.u.node) (hs : L.Pairwise Ru.lt) (hw : (L.map (·.wh)).Nodup) (h8 : L.length ≤ 1000) :
    Calls Tryz.prog 136 #[.func (.func valIt) #[] #[.pointer (some ⟨Bm, 0, none⟩)], .func (.func cmpIt) #[] #[]] w fun e w' => ∃ v, e = .returned v ∧ wtRow w' w.heap.size v L ∧ Below w.heap.size w w' := by
  have HC := Lib.hid ((callsIn_wide (n := 3)).1 (collect_any 3 (by omega) #[.pointer (some ⟨Bm, 0, none⟩)] (fun xs => xs.Perm L) L.length h8 w (values_tells 1 (by omega) Bm M L w hBm hM hd hi)))
  have HS := Lib.hid hs
  have HW := Lib.hid hw
  have H8 := Lib.hid h8
  clear hBm hM hd hi hs hw h8
  go_enter Tryz.func136, Tryz.ntmps136
  go_wp2_with fail
  refine HC.out.mono ?_
  rintro e w1 ⟨v, xs, rfl, hp, hrow, hb⟩
  have HSt := Lib.hid (sort_func_any L xs v w1 hrow hp HS.out HW.out H8.out)
  have HRow := Lib.hid hrow
  have HB := Lib.hid hb
  clear hp hrow hb HC
  go_wp2_with fail
  refine HSt.out.mono ?_
  rintro e w2 ⟨rfl, hrow2, hg⟩
  have HRow2 := Lib.hid hrow2
  have HB2 : Hid (Below w.heap.size w w2) := Lib.hid (HB.out.grown hg HB.out.size (fun r hr => (rowK.from HRow.out r hr).1))
  clear hrow2 hg HSt
  go_wp2
  go_ret
  exact ⟨v, rfl, HRow2.out, HB2.out⟩
set_option maxHeartbeats 2000000 in
theorem sorted_any {B M : Nat} {q : Qu} (w : World) (h : QuAt w B M q) :
    Calls Tryz.prog 97 #[.pointer (some ⟨B, 0, none⟩)] w fun e w' => ∃ v, e = .returned v ∧ wtRow w' w.heap.size v q.L ∧ Below w.heap.size w w' := by
  have c2 := h.c2
  have HV := Lib.hid (values_any (some M) w)
  obtain ⟨W1, hW1⟩ : ∃ W1, w.alloc (.cells #[.map (some M)] 190) = W1 := ⟨_, rfl⟩
  have hb1 : Below w.heap.size w W1 := by rw [← hW1]; exact below1 _ _
  have hk : W1.heap[w.heap.size]? = some (.cells #[.map (some M)] 190 (0, 0)) := by rw [← hW1]; exact heap_alloc_new _ _
  have HS := Lib.hid (sorted_func_any w.heap.size M q.L W1 hk (h.below hb1).map h.ok.nodes h.ok.wf h.ok.sorted h.ok.whs (by have := h.few; omega))
  have HW1 := Lib.hid hW1
  have HB1 := Lib.hid hb1
  clear h hW1 hb1 hk
  go_enter Tryz.func97, Tryz.ntmps97
  go_wp2_with fail
  refine HV.out.mono ?_
  rintro e w1 ⟨rfl, rfl⟩
  clear HV c2
  rw [HW1.out]
  go_wp2_with fail
  refine HS.out.mono ?_
  rintro e w2 ⟨v, rfl, hrow, hb⟩
  have HR := Lib.hid (And.intro hrow hb)
  clear hrow hb HS
  go_wp2
  go_ret
  exact ⟨v, rfl, rowK.base_le HR.out.1 HB1.out.size, HB1.out.trans (HR.out.2.mono HB1.out.size)⟩
end Go.Proofs.YtaicipldjmngaaaGreatDoor.ru

namespace Go.Proofs.YtaicipldjmngaaaGreatDoor.ru
open Go.RowKit Go.Maps
set_option linter.unusedSimpArgs false
set_option linter.unusedVariables false
end Go.Proofs.YtaicipldjmngaaaGreatDoor.ru
