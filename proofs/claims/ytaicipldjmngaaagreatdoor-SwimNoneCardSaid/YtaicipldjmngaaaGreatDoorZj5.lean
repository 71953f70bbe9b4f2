import Derived.Test.YtaicipldjmngaaaGreatDoorZj3
import Derived.Test.YtaicipldjmngaaaGreatDoorZj4
import Derived.Maps.RangeWalk
import Derived.Maps.OwnSet
import Derived.Maps.AppendAt
import Derived.Lib.OwnBridge
import Derived.WalkSpells
namespace Go.Proofs.YtaicipldjmngaaaGreatDoor.ro
open Go.RowKit Go.Maps
set_option linter.unusedSimpArgs false
def muD (x : Up) : DataW Unit := .agg [.lit (.int .i64 x.node), .lit (.int .u32 (x.inc : Int)), .lit (.int .i64 x.st)]
def muE (v : Value) : Option (DataW Unit × List MemPlace) :=
  match v with
  | .agg cs => match cs.toList with
    | [.int .i64 a, .int .u32 b, .int .i64 c] => if 0 ≤ b then some (.agg [.lit (.int .i64 a), .lit (.int .u32 b), .lit (.int .i64 c)], []) else none
    | _ => none
  | _ => none
theorem muE_mk (x : Up) : muE (upV x) = some (muD x, []) := by
  unfold muE upV muD
  simp
theorem muE_inv {v : Value} {z : DataW Unit × List MemPlace} (h : muE v = some z) : ∃ x, v = upV x ∧ z = (muD x, []) := by
  unfold muE at h
  split at h
  · rename_i cs
    split at h
    · rename_i a b c e
      split at h
      · rename_i hp
        cases h
        refine ⟨⟨a, b.toNat, c⟩, ?_, ?_⟩
        · unfold upV
          have : cs = #[.int .i64 a, .int .u32 b, .int .i64 c] := by rw [← Array.toArray_toList (xs := cs), e]
          rw [this]
          simp only [Int.toNat_of_nonneg hp]
        · unfold muD
          simp only [Int.toNat_of_nonneg hp]
      · cases h
    · cases h
  · cases h
theorem muD_inj {x y : Up} (h : muD x = muD y) : x = y := by
  unfold muD at h
  simp only [DataW.agg.injEq, List.cons.injEq, DataW.lit.injEq, Lit.int.injEq, true_and, and_true] at h
  obtain ⟨a, b, c⟩ := x
  obtain ⟨a', b', c'⟩ := y
  simp only at h
  obtain ⟨h1, h2, h3⟩ := h
  have h2' : b = b' := by omega
  rw [h1, h2', h3]
def wfI (z : Int) : Prop := -9223372036854775808 ≤ z ∧ z ≤ 9223372036854775807
theorem wfI_lit {z : Int} (h : wfI z) : (Lit.int .i64 z).wf = true := WalkArith.wf_i64 (by unfold wfI at h; omega)
theorem key_isLit {z : Int} (h : wfI z) : WideAt.IsKeyLit (.int .i64 z) := (int_keyed Tryz.underlying3).key (keyOf_int_mk Tryz.underlying3 (wfI_lit h))
abbrev law : Keyed Tryz.prog 3 := int_keyed Tryz.underlying3
def MapIs (w : World) (M : Nat) (m : Int → Option Up) (n : Nat) : Prop :=
  ∃ D : DataW Unit, w.ownsMap Tryz.prog 3 muE M n D ∧ ∀ id, wfI id → has D (.int .i64 id) = (m id).isSome ∧ ∀ x, m id = some x → ∀ z, D.atKey (.int .i64 id) z = muD x
theorem MapIs.lt {w : World} {M n : Nat} {m : Int → Option Up} (h : MapIs w M m n) : M < w.heap.size := by
  obtain ⟨D, h, _⟩ := h
  exact h.lt
theorem MapIs.not_cells {w : World} {M n : Nat} {m : Int → Option Up} (h : MapIs w M m n) {cur : Array Value} {t : TypeId} {f : Nat × Nat} : w.heap[M]? ≠ some (.cells cur t f) := by
  obtain ⟨D, ⟨es, clock, hb, _⟩, _⟩ := h
  rw [hb]
  simp
theorem MapIs.made (w : World) : MapIs (w.alloc (.map #[] 0)) w.heap.size (fun _ => none) 0 :=
  ⟨.map [], World.ownsMap_made _ _ _ _, fun _ _ => ⟨rfl, fun _ h => by cases h⟩⟩
theorem MapIs.block {w w' : World} {M n : Nat} {m : Int → Option Up} (h : MapIs w M m n) (hb : w'.heap[M]? = w.heap[M]?) : MapIs w' M m n := by
  obtain ⟨D, ⟨es, clock, hb', r⟩, h2⟩ := h
  exact ⟨D, ⟨es, clock, hb.trans hb', r⟩, h2⟩
theorem MapIs.congr {w : World} {M n : Nat} {m m' : Int → Option Up} (h : MapIs w M m n) (e : ∀ id, wfI id → m id = m' id) : MapIs w M m' n := by
  obtain ⟨D, h1, h2⟩ := h
  exact ⟨D, h1, fun id hw => by rw [← e id hw]; exact h2 id hw⟩
theorem up_zero (w : World) : (zeroValue 63).run Tryz.prog w = .ok (upV zU) w := by kernel_rfl
def atU (m : Int → Option Up) (id : Int) : Up := (m id).getD zU
theorem MapIs.look {w : World} {M n : Nat} {m : Int → Option Up} (h : MapIs w M m n) {id : Int} (hw : wfI id) :
    (Instr.lookup 151 (.map (some M)) (.int .i64 id) true).run Tryz.prog w = .ok (.tuple #[upV (atU m id), .bool (m id).isSome]) w := by
  obtain ⟨D, ho, h2⟩ := h
  obtain ⟨u, ps, hrun, hR⟩ := ho.look_ok law Tryz.underlying151 (up_zero w) (muE_mk zU) (keyOf_int_mk Tryz.underlying3 (wfI_lit hw))
  obtain ⟨h3, h4⟩ := h2 id hw
  rw [hrun, h3]
  obtain ⟨x, rfl, hx⟩ := muE_inv hR
  simp only [Prod.mk.injEq] at hx
  have : x = atU m id := by
    unfold atU
    cases hm : m id with
    | none =>
      rw [hm] at h3
      have := atKey_of_not_has h3 (muD zU)
      rw [this] at hx
      exact (muD_inj hx.1).symm
    | some y =>
      rw [h4 y hm] at hx
      exact (muD_inj hx.1).symm
  rw [this]
theorem MapIs.look1 {w : World} {M n : Nat} {m : Int → Option Up} (h : MapIs w M m n) {id : Int} (hw : wfI id) :
    (Instr.lookup 151 (.map (some M)) (.int .i64 id) false).run Tryz.prog w = .ok (upV (atU m id)) w := by
  obtain ⟨D, ho, h2⟩ := h
  obtain ⟨u, ps, hrun, hR⟩ := ho.lookup law Tryz.underlying151 (up_zero w) (muE_mk zU) (keyOf_int_mk Tryz.underlying3 (wfI_lit hw))
  obtain ⟨h3, h4⟩ := h2 id hw
  rw [hrun]
  obtain ⟨x, rfl, hx⟩ := muE_inv hR
  simp only [Prod.mk.injEq] at hx
  have : x = atU m id := by
    unfold atU
    cases hm : m id with
    | none =>
      rw [hm] at h3
      have := atKey_of_not_has h3 (muD zU)
      rw [this] at hx
      exact (muD_inj hx.1).symm
    | some y =>
      rw [h4 y hm] at hx
      exact (muD_inj hx.1).symm
  rw [this]
theorem lit_ne {a b : Int} (h : a ≠ b) : (Lit.int .i64 a) ≠ (Lit.int .i64 b) := fun e => h (by simpa using e)
theorem MapIs.put {w : World} {M n : Nat} {m : Int → Option Up} (h : MapIs w M m n) (x : Up) (hw : wfI x.node) (hn : n < maxLen) :
    ∃ w', (Instr.mapUpdate 151 (.map (some M)) (.int .i64 x.node) (upV x)).run Tryz.prog w = .ok () w' ∧ MapIs w' M (put m x) (n + 1) ∧ w.grownBy w' (some M) ∧ w'.heap.size = w.heap.size := by
  obtain ⟨D, ho, h2⟩ := h
  obtain ⟨w', hrun, ho', ht⟩ := ho.store law Tryz.underlying151 hn (keyOf_int_mk Tryz.underlying3 (wfI_lit hw)) (muE_mk x)
  refine ⟨w', hrun, ⟨_, ho', fun j hj => ?_⟩, ht.grown, ?_⟩
  · by_cases e : j = x.node
    · subst e
      rw [put_same]
      exact ⟨has_put_same ho.isMap (key_isLit hw) _, fun y hy z => by cases hy; exact atKey_put_same ho.isMap (key_isLit hw) _ z⟩
    · rw [put_other _ _ e, has_put_other (lit_ne e)]
      exact ⟨(h2 j hj).1, fun y hy z => by rw [atKey_put_other (lit_ne e)]; exact (h2 j hj).2 y hy z⟩
  · obtain ⟨_, _, _, _, _, rfl⟩ := ht
    simp [ChangeMaps.setBlock]
structure RlAt (w : World) (B M : Nat) (r : Ro) (n : Nat) : Prop where
  blk : w.heap[B]? = some (.cells #[.int .i64 r.own, .map (some M)] 153 (0, 0))
  map : MapIs w M r.T n
  ok : r.ok
theorem RlAt.ne {w : World} {B M : Nat} {r : Ro} {n : Nat} (h : RlAt w B M r n) : B ≠ M := fun e => h.map.not_cells (e ▸ h.blk)
theorem RlAt.lt {w : World} {B M : Nat} {r : Ro} {n : Nat} (h : RlAt w B M r n) : B < w.heap.size ∧ M < w.heap.size := ⟨block_lt h.blk, h.map.lt⟩
theorem RlAt.keep {w w' : World} {B M : Nat} {r : Ro} {n : Nat} (h : RlAt w B M r n) (h1 : w'.heap[B]? = w.heap[B]?) (h2 : w'.heap[M]? = w.heap[M]?) : RlAt w' B M r n := ⟨h1.trans h.blk, h.map.block h2, h.ok⟩
theorem RlAt.below {w w' : World} {B M : Nat} {r : Ro} {n : Nat} (h : RlAt w B M r n) (hb : Below w.heap.size w w') : RlAt w' B M r n := h.keep (hb.block B h.lt.1) (hb.block M h.lt.2)
theorem RlAt.but {S : Nat → Prop} {w w' : World} {B M : Nat} {r : Ro} {n : Nat} (h : RlAt w B M r n) (hb : But S w w') (hB : ¬ S B) (hM : ¬ S M) : RlAt w' B M r n := h.keep (hb.block B h.lt.1 hB) (hb.block M h.lt.2 hM)
theorem RlAt.c0 {w : World} {B M : Nat} {r : Ro} {n : Nat} (h : RlAt w B M r n) : w.cell? ⟨B, 0, none⟩ = some (.int .i64 r.own) := by rw [cell_of_row _ _ _ _ _ _ h.blk]; rfl
theorem RlAt.c1 {w : World} {B M : Nat} {r : Ro} {n : Nat} (h : RlAt w B M r n) : w.cell? ⟨B, 1, none⟩ = some (.map (some M)) := by rw [cell_of_row _ _ _ _ _ _ h.blk]; rfl
theorem RlAt.ownW {w : World} {B M : Nat} {r : Ro} {n : Nat} (h : RlAt w B M r n) : wfI r.own := by have := h.ok.ownR; unfold wfI; omega
def NoRl (w : World) (v : Value) : Prop := v = .pointer none ∨ ∃ B, v = .pointer (some ⟨B, 0, none⟩) ∧ w.heap[B]? = some (.cells #[.int .i64 0, .map none] 153 (0, 0))
theorem NoRl.below {w w' : World} {v : Value} (h : NoRl w v) (hb : Below w.heap.size w w') : NoRl w' v := by
  rcases h with h | ⟨B, e, h⟩
  · exact .inl h
  · exact .inr ⟨B, e, (hb.block B (block_lt h)).trans h⟩
end Go.Proofs.YtaicipldjmngaaaGreatDoor.ro

namespace Go.Proofs.YtaicipldjmngaaaGreatDoor.ro
open Go.RowKit Go.Maps
set_option linter.unusedSimpArgs false
set_option linter.unusedVariables false
theorem made_no (v : Value) (w : World) (h : NoRl w v) : Calls Tryz.prog 90 #[v] w fun e w' => e = .returned (.bool false) ∧ w = w' := by
  rcases h with rfl | ⟨B, rfl, hh⟩
  · go_enter Tryz.func90, Tryz.ntmps90
    go_wp2
    go_ret
    exact ⟨rfl, rfl⟩
  · have c1 : w.cell? ⟨B, 1, none⟩ = some (.map none) := by rw [cell_of_row _ _ _ _ _ _ hh]; rfl
    have HH := Lib.hid hh
    clear hh
    have qM := fun (w : World) (r : Option Nat) => run_neq_map_nil (P := Tryz.prog) w 151 3 63 r Tryz.underlying151
    go_enter Tryz.func90, Tryz.ntmps90
    go_wp2
    go_ret
    exact ⟨rfl, rfl⟩
theorem made_yes {B M n : Nat} {r : Ro} (w : World) (h : RlAt w B M r n) : Calls Tryz.prog 90 #[.pointer (some ⟨B, 0, none⟩)] w fun e w' => e = .returned (.bool true) ∧ w = w' := by
  have c1 := h.c1
  clear h
  have qM := fun (w : World) (r : Option Nat) => run_neq_map_nil (P := Tryz.prog) w 151 3 63 r Tryz.underlying151
  go_enter Tryz.func90, Tryz.ntmps90
  go_wp2
  go_ret
  exact ⟨rfl, rfl⟩
def _root_.Go.Proofs.YtaicipldjmngaaaGreatDoor.Up.lives (u : Up) : Bool := decide (u.st = 0 ∨ u.st = 1)
set_option maxHeartbeats 2000000 in
theorem lives_any (u : Up) (w : World) (r : Bool) (hr : u.lives = r) :
    Calls Tryz.prog 135 #[.agg #[.int .i64 u.node, .int .u32 (u.inc : Int), .int .i64 u.st]] w fun e w' => e = .returned (.bool r) ∧ Below w.heap.size w w' := by
  have h0 : (u.lives = true) ↔ (u.st = 0 ∨ u.st = 1) := by unfold Up.lives; simp
  rw [hr] at h0
  have HI := Lib.hid h0
  clear h0 hr
  obtain ⟨na, ia, sa⟩ := u
  simp only at HI ⊢
  go_enter Tryz.func135, Tryz.ntmps135
  go_wp2
  all_goals go_ret
  all_goals refine ⟨ret_bool ?_, below1 _ _⟩
  all_goals (first | (rw [Bool.eq_iff_iff, HI.out]; simp_all <;> omega) | skip)
set_option maxHeartbeats 4000000 in
theorem self_any {B M n : Nat} {r : Ro} (w : World) (h : RlAt w B M r n) : Calls Tryz.prog 56 #[.pointer (some ⟨B, 0, none⟩)] w fun e w' => e = .returned (.agg #[.int .i64 r.selfU.node, .int .u32 (r.selfU.inc : Int), .int .i64 r.selfU.st]) ∧ Below w.heap.size w w' := by
  have h1 := h.below (below1 w (.cells #[.int .i64 0, .int .u32 0, .int .i64 0] 63))
  obtain ⟨W, hW⟩ : ∃ W, w.alloc (.cells #[.int .i64 0, .int .u32 0, .int .i64 0] 63) = W := ⟨_, rfl⟩
  have k0 := heap_alloc_new w (.cells #[.int .i64 0, .int .u32 0, .int .i64 0] 63)
  have hb := below1 w (.cells #[.int .i64 0, .int .u32 0, .int .i64 0] 63)
  obtain ⟨X, hX⟩ : ∃ X, w.heap.size = X := ⟨_, rfl⟩
  rw [hW] at h1 k0 hb
  rw [hX] at k0
  have HM := Lib.hid (made_yes W h1)
  have hlk := (show RlAt W.drew B M r n from h1.keep rfl rfl).map.look1 (h1.ownW)
  obtain ⟨u, hu⟩ : ∃ u, atU r.T r.own = u := ⟨_, rfl⟩
  rw [hu] at hlk
  have hu' : r.selfU = u := hu
  rw [hu']
  unfold upV at hlk
  have c0 := h1.c0
  have c1 := h1.c1
  obtain ⟨own, hown⟩ : ∃ o, r.own = o := ⟨_, rfl⟩
  rw [hown] at c0 hlk
  have q := set3_blk (W := W) (X := X) k0 (.int .i64 u.node) (.int .u32 (u.inc : Int)) (.int .i64 u.st)
  obtain ⟨g0, g1, g2⟩ := blk3 (W := World.drew (((W.setCell ⟨X, 0, none⟩ (.int .i64 u.node)).setCell ⟨X, 1, none⟩ (.int .u32 (u.inc : Int))).setCell ⟨X, 2, none⟩ (.int .i64 u.st))) q
  have f0 := blk_froz k0 0
  have HG := Lib.hid (And.intro g0 (And.intro g1 g2))
  have HB := Lib.hid hb
  have HW := Lib.hid hW
  have HX := Lib.hid hX
  have hlt := block_lt k0
  obtain ⟨d0, d1, d2⟩ := blk3 k0
  have f1 := blk_froz k0 1
  have f2 := blk_froz k0 2
  clear h h1 hu hu' hW hX hb k0 q g0 g1 g2 hown
  go_enter Tryz.func56, Tryz.ntmps56
  go_wp2_with fail
  rw [HW.out, HX.out]
  refine HM.out.mono ?_
  rintro e w' ⟨rfl, rfl⟩
  go_wp2
  go_region
  go_wp2
  obtain ⟨e0, e1, e2⟩ := HG.out
  refine bodyPost_ret (v := .agg #[.int .i64 u.node, .int .u32 (u.inc : Int), .int .i64 u.st]) (by simp [results, Tryz.results56, go_sem, e0, e1, e2]) rfl ⟨rfl, ?_⟩
  have hle : w.heap.size ≤ X := Nat.le_of_eq HX.out
  exact (((HB.out.setCell (by exact hle) _).setCell (by exact hle) _).setCell (by exact hle) _).drew
end Go.Proofs.YtaicipldjmngaaaGreatDoor.ro

namespace Go.Proofs.YtaicipldjmngaaaGreatDoor.ro
open Go.RowKit Go.Maps
set_option linter.unusedSimpArgs false
set_option linter.unusedVariables false
def nodeB (z : Int) : Bool := decide (0 ≤ z ∧ z < 8)
theorem right_new (z : Int) (inc : Nat) : (⟨z, inc, 0⟩ : Up).right = nodeB z := by
  unfold Up.right nodeB
  simp
set_option maxHeartbeats 4000000 in
theorem pnew_yes (z : Int) (inc : Nat) (w : World) (hz : nodeB z = true) : Calls Tryz.prog 62 #[.int .i64 z, .int .u32 (inc : Int)] w fun e w' => ∃ B M, e = .returned (.tuple #[.pointer (some ⟨B, 0, none⟩), .int .i64 0]) ∧ RlAt w' B M (Ro.new z inc) 1 ∧ w.heap.size ≤ B ∧ w.heap.size ≤ M ∧ Below w.heap.size w w' := by
  have HR : Hid (∀ w, Calls Tryz.prog 112 #[.agg #[.int .i64 z, .int .u32 (inc : Int), .int .i64 0]] w fun e w' => e = .returned (.bool true) ∧ Below w.heap.size w w') := Lib.hid (fun w => pright_any ⟨z, inc, 0⟩ w true (by rw [right_new, hz]))
  have hz' : 0 ≤ z ∧ z < 8 := by unfold nodeB at hz; simpa using hz
  have HZ := Lib.hid hz'
  have hzw : wfI z := by unfold wfI; omega
  clear hz
  have u0 := up_new w ⟨z, inc, 0⟩ 63
  obtain ⟨X, hX⟩ : ∃ X, w.heap.size = X := ⟨_, rfl⟩
  obtain ⟨W, hW⟩ : ∃ W, w.alloc (.cells #[.int .i64 z, .int .u32 (inc : Int), .int .i64 0] 63) = W := ⟨_, rfl⟩
  have hb0 : Below w.heap.size w W := by rw [← hW]; exact below1 _ _
  simp only at u0
  rw [hX, hW] at u0
  have HU := Lib.hid u0
  have HB0 := Lib.hid hb0
  have HX := Lib.hid hX
  have HW := Lib.hid hW
  obtain ⟨c0, c1, c2⟩ := u0
  simp only [Nat.zero_add] at c1 c2
  have hmm := @run_makeMap Tryz.prog
  have HWF := Lib.hid hzw
  clear hb0 hX hW hz' hzw
  go_enter Tryz.func62, Tryz.ntmps62
  go_wp2_with fail
  rw [HW.out, HX.out]
  refine (HR.out _).mono ?_
  clear HR c0 c1 c2
  rintro e w1 ⟨rfl, hb⟩
  have hu1 := HU.out.below hb
  obtain ⟨c0, c1, c2⟩ := hu1
  simp only [Nat.zero_add] at c1 c2
  have HB1 := Lib.hid (HB0.out.trans (hb.mono HB0.out.size))
  have hm0 := MapIs.made w1
  have hlt := bcell_lt c0
  obtain ⟨w2, hrun, hm2, hg2, hs2⟩ := hm0.put ⟨z, inc, 0⟩ HWF.out (by unfold maxLen; omega)
  unfold upV at hrun
  simp only at hrun
  have HM2 := Lib.hid hm2
  have HG2 := Lib.hid hg2
  have HS2 := Lib.hid hs2
  clear hb hm0 hm2 hg2 hs2
  go_wp2
  go_ret2
  have hs := HS2.out
  have h1 := HB1.out.size
  simp only [World.size_alloc] at hs
  have hM : MapIs w2 w1.heap.size (Ro.new z inc).T 1 := HM2.out
  have hB2 : Below w.heap.size w w2 := (HB1.out.alloc h1 _).grown HG2.out (by simp; omega) (fun k e => by cases e; exact h1)
  refine ⟨_, _, rfl, ⟨heap_alloc_new w2 _, hM.block (heap_alloc_old _ _ hM.lt), Ro.ok.new HZ.out⟩, by omega, h1, hB2.alloc hB2.size _⟩
end Go.Proofs.YtaicipldjmngaaaGreatDoor.ro
