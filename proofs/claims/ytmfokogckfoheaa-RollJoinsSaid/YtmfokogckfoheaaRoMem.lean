/-
  Layer 9's memory: the program's roll behind its pointer (its block, its map), the document's (its block, its row).
-/
import Derived.Test.YtmfokogckfoheaaRkMem
import Derived.Test.YtmfokogckfoheaaRoPlain
import Derived.Test.YtmfokogckfoheaaRkRef
import Derived.Test.YtmfokogckfoheaaRkSupA
import Derived.Maps.RangeWalk
import Derived.Maps.OwnSet
import Derived.Maps.AppendAt
import Derived.Lib.OwnBridge
namespace Go.Proofs.Ytmfokogckfoheaa
open Go.RowKit Go.Maps
set_option linter.unusedSimpArgs false

/-! ### The map -/
def muD (x : Up) : DataW Unit := .agg [.lit (.int .i64 x.node), .lit (.int .u32 (x.inc : Int)), .lit (.int .i64 x.st)]
/-- How an update reads. -/
def muE (v : Value) : Option (DataW Unit × List MemPlace) :=
  match v with
  | .agg cs => match cs.toList with
    | [.int .i64 a, .int .u32 b, .int .i64 c] => if 0 ≤ b then some (.agg [.lit (.int .i64 a), .lit (.int .u32 b), .lit (.int .i64 c)], []) else none
    | _ => none
  | _ => none
theorem muE_mk (x : Up) : muE (upV x) = some (muD x, []) := by
  unfold muE upV muD
  simp
theorem muE_inv {v : Value} {z : DataW Unit × List MemPlace} (h : muE v = some z) : ∃ x, v = upV x ∧ z = (muD x, []) := by
  unfold muE at h
  split at h
  · rename_i cs
    split at h
    · rename_i a b c e
      split at h
      · rename_i hp
        cases h
        refine ⟨⟨a, b.toNat, c⟩, ?_, ?_⟩
        · unfold upV
          have : cs = #[.int .i64 a, .int .u32 b, .int .i64 c] := by rw [← Array.toArray_toList (xs := cs), e]
          rw [this]
          simp only [Int.toNat_of_nonneg hp]
        · unfold muD
          simp only [Int.toNat_of_nonneg hp]
      · cases h
    · cases h
  · cases h
theorem muD_inj {x y : Up} (h : muD x = muD y) : x = y := by
  unfold muD at h
  simp only [DataW.agg.injEq, List.cons.injEq, DataW.lit.injEq, Lit.int.injEq, true_and, and_true] at h
  obtain ⟨a, b, c⟩ := x
  obtain ⟨a', b', c'⟩ := y
  simp only at h
  obtain ⟨h1, h2, h3⟩ := h
  have h2' : b = b' := by omega
  rw [h1, h2', h3]
def wfI (z : Int) : Prop := -9223372036854775808 ≤ z ∧ z ≤ 9223372036854775807
theorem wfI_lit {z : Int} (h : wfI z) : (Lit.int .i64 z).wf = true := WalkArith.wf_i64 (by unfold wfI at h; omega)
theorem key_isLit {z : Int} (h : wfI z) : WideAt.IsKeyLit (.int .i64 z) := (int_keyed Try.underlying3).key (keyOf_int_mk Try.underlying3 (wfI_lit h))
abbrev law : Keyed Try.prog 3 := int_keyed Try.underlying3
/-- Block M is the map m, of at most n entries. -/
def MapIs (w : World) (M : Nat) (m : Int → Option Up) (n : Nat) : Prop :=
  ∃ D : DataW Unit, w.ownsMap Try.prog 3 muE M n D ∧ ∀ id, wfI id → has D (.int .i64 id) = (m id).isSome ∧ ∀ x, m id = some x → ∀ z, D.atKey (.int .i64 id) z = muD x
theorem MapIs.lt {w : World} {M n : Nat} {m : Int → Option Up} (h : MapIs w M m n) : M < w.heap.size := by
  obtain ⟨D, h, _⟩ := h
  exact h.lt
theorem MapIs.not_cells {w : World} {M n : Nat} {m : Int → Option Up} (h : MapIs w M m n) {cur : Array Value} {t : TypeId} {f : Nat × Nat} : w.heap[M]? ≠ some (.cells cur t f) := by
  obtain ⟨D, ⟨es, clock, hb, _⟩, _⟩ := h
  rw [hb]
  simp
theorem MapIs.made (w : World) : MapIs (w.alloc (.map #[] 0)) w.heap.size (fun _ => none) 0 :=
  ⟨.map [], World.ownsMap_made _ _ _ _, fun _ _ => ⟨rfl, fun _ h => by cases h⟩⟩
theorem MapIs.block {w w' : World} {M n : Nat} {m : Int → Option Up} (h : MapIs w M m n) (hb : w'.heap[M]? = w.heap[M]?) : MapIs w' M m n := by
  obtain ⟨D, ⟨es, clock, hb', r⟩, h2⟩ := h
  exact ⟨D, ⟨es, clock, hb.trans hb', r⟩, h2⟩
theorem MapIs.congr {w : World} {M n : Nat} {m m' : Int → Option Up} (h : MapIs w M m n) (e : ∀ id, wfI id → m id = m' id) : MapIs w M m' n := by
  obtain ⟨D, h1, h2⟩ := h
  exact ⟨D, h1, fun id hw => by rw [← e id hw]; exact h2 id hw⟩
theorem up_zero (w : World) : (zeroValue 32).run Try.prog w = .ok (upV zU) w := by kernel_rfl
def atU (m : Int → Option Up) (id : Int) : Up := (m id).getD zU
theorem MapIs.look {w : World} {M n : Nat} {m : Int → Option Up} (h : MapIs w M m n) {id : Int} (hw : wfI id) :
    (Instr.lookup 61 (.map (some M)) (.int .i64 id) true).run Try.prog w = .ok (.tuple #[upV (atU m id), .bool (m id).isSome]) w := by
  obtain ⟨D, ho, h2⟩ := h
  obtain ⟨u, ps, hrun, hR⟩ := ho.look_ok law Try.underlying61 (up_zero w) (muE_mk zU) (keyOf_int_mk Try.underlying3 (wfI_lit hw))
  obtain ⟨h3, h4⟩ := h2 id hw
  rw [hrun, h3]
  obtain ⟨x, rfl, hx⟩ := muE_inv hR
  simp only [Prod.mk.injEq] at hx
  have : x = atU m id := by
    unfold atU
    cases hm : m id with
    | none =>
      rw [hm] at h3
      have := atKey_of_not_has h3 (muD zU)
      rw [this] at hx
      exact (muD_inj hx.1).symm
    | some y =>
      rw [h4 y hm] at hx
      exact (muD_inj hx.1).symm
  rw [this]
theorem MapIs.look1 {w : World} {M n : Nat} {m : Int → Option Up} (h : MapIs w M m n) {id : Int} (hw : wfI id) :
    (Instr.lookup 61 (.map (some M)) (.int .i64 id) false).run Try.prog w = .ok (upV (atU m id)) w := by
  obtain ⟨D, ho, h2⟩ := h
  obtain ⟨u, ps, hrun, hR⟩ := ho.lookup law Try.underlying61 (up_zero w) (muE_mk zU) (keyOf_int_mk Try.underlying3 (wfI_lit hw))
  obtain ⟨h3, h4⟩ := h2 id hw
  rw [hrun]
  obtain ⟨x, rfl, hx⟩ := muE_inv hR
  simp only [Prod.mk.injEq] at hx
  have : x = atU m id := by
    unfold atU
    cases hm : m id with
    | none =>
      rw [hm] at h3
      have := atKey_of_not_has h3 (muD zU)
      rw [this] at hx
      exact (muD_inj hx.1).symm
    | some y =>
      rw [h4 y hm] at hx
      exact (muD_inj hx.1).symm
  rw [this]
theorem lit_ne {a b : Int} (h : a ≠ b) : (Lit.int .i64 a) ≠ (Lit.int .i64 b) := fun e => h (by simpa using e)
/-- m[node] = u: at the update's own node. -/
theorem MapIs.put {w : World} {M n : Nat} {m : Int → Option Up} (h : MapIs w M m n) (x : Up) (hw : wfI x.node) (hn : n < maxLen) :
    ∃ w', (Instr.mapUpdate 61 (.map (some M)) (.int .i64 x.node) (upV x)).run Try.prog w = .ok () w' ∧ MapIs w' M (put m x) (n + 1) ∧ w.grownBy w' (some M) ∧ w'.heap.size = w.heap.size := by
  obtain ⟨D, ho, h2⟩ := h
  obtain ⟨w', hrun, ho', ht⟩ := ho.store law Try.underlying61 hn (keyOf_int_mk Try.underlying3 (wfI_lit hw)) (muE_mk x)
  refine ⟨w', hrun, ⟨_, ho', fun j hj => ?_⟩, ht.grown, ?_⟩
  · by_cases e : j = x.node
    · subst e
      rw [put_same]
      exact ⟨has_put_same ho.isMap (key_isLit hw) _, fun y hy z => by cases hy; exact atKey_put_same ho.isMap (key_isLit hw) _ z⟩
    · rw [put_other _ _ e, has_put_other (lit_ne e)]
      exact ⟨(h2 j hj).1, fun y hy z => by rw [atKey_put_other (lit_ne e)]; exact (h2 j hj).2 y hy z⟩
  · obtain ⟨_, _, _, _, _, rfl⟩ := ht
    simp [ChangeMaps.setBlock]

/-! ### The roll -/
/-- The program's roll, at block B, its map at M, of at most n entries. -/
structure RlAt (w : World) (B M : Nat) (r : Ro) (n : Nat) : Prop where
  blk : w.heap[B]? = some (.cells #[.int .i64 r.own, .map (some M)] 63 (0, 0))
  map : MapIs w M r.T n
  ok : r.ok
theorem RlAt.ne {w : World} {B M : Nat} {r : Ro} {n : Nat} (h : RlAt w B M r n) : B ≠ M := fun e => h.map.not_cells (e ▸ h.blk)
theorem RlAt.lt {w : World} {B M : Nat} {r : Ro} {n : Nat} (h : RlAt w B M r n) : B < w.heap.size ∧ M < w.heap.size := ⟨block_lt h.blk, h.map.lt⟩
theorem RlAt.keep {w w' : World} {B M : Nat} {r : Ro} {n : Nat} (h : RlAt w B M r n) (h1 : w'.heap[B]? = w.heap[B]?) (h2 : w'.heap[M]? = w.heap[M]?) : RlAt w' B M r n := ⟨h1.trans h.blk, h.map.block h2, h.ok⟩
theorem RlAt.below {w w' : World} {B M : Nat} {r : Ro} {n : Nat} (h : RlAt w B M r n) (hb : Below w.heap.size w w') : RlAt w' B M r n := h.keep (hb.block B h.lt.1) (hb.block M h.lt.2)
theorem RlAt.but {S : Nat → Prop} {w w' : World} {B M : Nat} {r : Ro} {n : Nat} (h : RlAt w B M r n) (hb : But S w w') (hB : ¬ S B) (hM : ¬ S M) : RlAt w' B M r n := h.keep (hb.block B h.lt.1 hB) (hb.block M h.lt.2 hM)
theorem RlAt.c0 {w : World} {B M : Nat} {r : Ro} {n : Nat} (h : RlAt w B M r n) : w.cell? ⟨B, 0, none⟩ = some (.int .i64 r.own) := by rw [cell_of_row _ _ _ _ _ _ h.blk]; rfl
theorem RlAt.c1 {w : World} {B M : Nat} {r : Ro} {n : Nat} (h : RlAt w B M r n) : w.cell? ⟨B, 1, none⟩ = some (.map (some M)) := by rw [cell_of_row _ _ _ _ _ _ h.blk]; rfl
theorem RlAt.ownW {w : World} {B M : Nat} {r : Ro} {n : Nat} (h : RlAt w B M r n) : wfI r.own := by have := h.ok.ownR; unfold wfI; omega
/-- A roll that New did not make. -/
def NoRl (w : World) (v : Value) : Prop := v = .pointer none ∨ ∃ B, v = .pointer (some ⟨B, 0, none⟩) ∧ w.heap[B]? = some (.cells #[.int .i64 0, .map none] 63 (0, 0))
theorem NoRl.below {w w' : World} {v : Value} (h : NoRl w v) (hb : Below w.heap.size w w') : NoRl w' v := by
  rcases h with h | ⟨B, e, h⟩
  · exact .inl h
  · exact .inr ⟨B, e, (hb.block B (block_lt h)).trans h⟩

/-! ### The document's -/
/-- The document's roll, at block B: its row v lies at base or behind. -/
structure RrAt (w : World) (base B : Nat) (v : Value) (r : Ro) : Prop where
  blk : w.heap[B]? = some (.cells #[.int .i64 r.own, v] 46 (0, 0))
  row : upRow w base v (listTo r.T 8)
  ok : r.ok
theorem RrAt.lt {w : World} {base B : Nat} {v : Value} {r : Ro} (h : RrAt w base B v r) : B < w.heap.size := block_lt h.blk
theorem RrAt.below {w w' : World} {base B : Nat} {v : Value} {r : Ro} (h : RrAt w base B v r) (hb : Below w.heap.size w w') : RrAt w' base B v r := ⟨(hb.block B h.lt).trans h.blk, h.row.below hb, h.ok⟩
theorem RrAt.c0 {w : World} {base B : Nat} {v : Value} {r : Ro} (h : RrAt w base B v r) : w.cell? ⟨B, 0, none⟩ = some (.int .i64 r.own) := by rw [cell_of_row _ _ _ _ _ _ h.blk]; rfl
theorem RrAt.c1 {w : World} {base B : Nat} {v : Value} {r : Ro} (h : RrAt w base B v r) : w.cell? ⟨B, 1, none⟩ = some v := by rw [cell_of_row _ _ _ _ _ _ h.blk]; rfl
/-- The row is a slice that reads as the table. -/
theorem RrAt.sup {w : World} {base B : Nat} {v : Value} {r : Ro} (h : RrAt w base B v r) : ∃ A c, v = .slice A (listTo r.T 8).length c ∧ SUp w A (listTo r.T 8).length (listTo r.T 8) ∧ (listTo r.T 8).length ≤ c ∧ c ≤ maxLen := SUp.of_row h.row
theorem RrAt.but {S : Nat → Prop} {w w' : World} {base B : Nat} {v : Value} {r : Ro} (h : RrAt w base B v r) (hb : But S w w') (hB : ¬ S B) (hv : ∀ b, v.ownBlock = some b → ¬ S b) : RrAt w' base B v r := ⟨(hb.block B h.lt hB).trans h.blk, own_but h.row hb hv, h.ok⟩
/-- A row lies in cells. -/
theorem row_cells {w : World} {base : Nat} {v : Value} {l : List Up} (h : upRow w base v l) {b : Nat} (hb : v.ownBlock = some b) : ∃ cur, w.heap[b]? = some (.cells cur 32 (0, 0)) := by
  rcases h.2 with ⟨rfl, _⟩ | ⟨g, cap, cur, rfl, _, hh, _⟩
  · cases hb
  · cases hb
    exact ⟨cur, hh⟩
end Go.Proofs.Ytmfokogckfoheaa
