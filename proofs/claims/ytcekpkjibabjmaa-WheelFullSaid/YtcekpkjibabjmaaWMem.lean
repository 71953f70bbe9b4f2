/-
  Layer 6's memory: the wheel behind its pointer: its block, its map, its slots' rows; what a step of each leaves.
-/
import Derived.Test.YtcekpkjibabjmaaKMem
import Derived.Test.YtcekpkjibabjmaaRelMore
import Derived.Test.YtcekpkjibabjmaaRelI
import Derived.Test.YtcekpkjibabjmaaWPlain
import Derived.Maps.RangeWalk
import Derived.Maps.OwnSet
import Derived.Maps.AppendAt
import Derived.Lib.SlKeysI
import Derived.Lib.OwnBridge
namespace Go.Proofs.Ytcekpkjibabjmaa
open Go.RowKit Go.Maps Go.Sort
open Go.WideElems (Fit rd rg pl rd_val elemAt rd_key rg_of)

/-! ### The map -/
def tmV (x : Nat × Nat) : Value := .agg #[.int .i64 (x.1 : Int), .int .i64 (x.2 : Int)]
def tmD (x : Nat × Nat) : DataW Unit := .agg [.lit (.int .i64 (x.1 : Int)), .lit (.int .i64 (x.2 : Int))]
/-- How a timer reads. -/
def tmE (v : Value) : Option (DataW Unit × List MemPlace) :=
  match v with
  | .agg cs => match cs.toList with
    | [.int .i64 d, .int .i64 l] => if 0 ≤ d ∧ 0 ≤ l then some (.agg [.lit (.int .i64 d), .lit (.int .i64 l)], []) else none
    | _ => none
  | _ => none
theorem tmE_mk (x : Nat × Nat) : tmE (tmV x) = some (tmD x, []) := by
  unfold tmE tmV tmD
  simp
theorem tmE_inv {v : Value} {z : DataW Unit × List MemPlace} (h : tmE v = some z) : ∃ x, v = tmV x ∧ z = (tmD x, []) := by
  unfold tmE at h
  split at h
  · rename_i cs
    split at h
    · rename_i d l e
      split at h
      · rename_i hp
        cases h
        refine ⟨(d.toNat, l.toNat), ?_, ?_⟩
        · unfold tmV
          have : cs = #[.int .i64 d, .int .i64 l] := by rw [← Array.toArray_toList (xs := cs), e]
          rw [this, Int.toNat_of_nonneg hp.1, Int.toNat_of_nonneg hp.2]
        · unfold tmD
          rw [Int.toNat_of_nonneg hp.1, Int.toNat_of_nonneg hp.2]
      · cases h
    · cases h
  · cases h
theorem tmD_inj {x y : Nat × Nat} (h : tmD x = tmD y) : x = y := by
  unfold tmD at h
  simp only [DataW.agg.injEq, List.cons.injEq, DataW.lit.injEq, Lit.int.injEq, true_and, and_true] at h
  exact Prod.ext (by omega) (by omega)
def wfI (z : Int) : Prop := -9223372036854775808 ≤ z ∧ z ≤ 9223372036854775807
theorem wfI_lit {z : Int} (h : wfI z) : (Lit.int .i64 z).wf = true := WalkArith.wf_i64 (by unfold wfI at h; omega)
theorem key_isLit {z : Int} (h : wfI z) : WideAt.IsKeyLit (.int .i64 z) := (int_keyed Try.underlying3).key (keyOf_int_mk Try.underlying3 (wfI_lit h))
abbrev law : Keyed Try.prog 3 := int_keyed Try.underlying3
/-- Block M is the map m, of at most n entries. -/
def MapIs (w : World) (M : Nat) (m : Mp) (n : Nat) : Prop :=
  ∃ D : DataW Unit, w.ownsMap Try.prog 3 tmE M n D ∧ ∀ id, wfI id → has D (.int .i64 id) = (m id).isSome ∧ ∀ x, m id = some x → ∀ z, D.atKey (.int .i64 id) z = tmD x
theorem MapIs.lt {w : World} {M n : Nat} {m : Mp} (h : MapIs w M m n) : M < w.heap.size := by
  obtain ⟨D, h, _⟩ := h
  exact h.lt
theorem MapIs.not_cells {w : World} {M n : Nat} {m : Mp} (h : MapIs w M m n) {cur : Array Value} {t : TypeId} {f : Nat × Nat} : w.heap[M]? ≠ some (.cells cur t f) := by
  obtain ⟨D, ⟨es, clock, hb, _⟩, _⟩ := h
  rw [hb]
  simp
theorem MapIs.made (w : World) : MapIs (w.alloc (.map #[] 0)) w.heap.size (fun _ => none) 0 :=
  ⟨.map [], World.ownsMap_made _ _ _ _, fun _ _ => ⟨rfl, fun _ h => by cases h⟩⟩
theorem MapIs.block {w w' : World} {M n : Nat} {m : Mp} (h : MapIs w M m n) (hb : w'.heap[M]? = w.heap[M]?) : MapIs w' M m n := by
  obtain ⟨D, ⟨es, clock, hb', r⟩, h2⟩ := h
  exact ⟨D, ⟨es, clock, hb.trans hb', r⟩, h2⟩
theorem timer_zero (w : World) : (zeroValue 58).run Try.prog w = .ok (tmV (0, 0)) w := by kernel_rfl
theorem MapIs.look {w : World} {M n : Nat} {m : Mp} (h : MapIs w M m n) {id : Int} (hw : wfI id) {v : Nat × Nat} (hv : (m id).getD (0, 0) = v) {is : Bool} (hi : (m id).isSome = is) :
    (Instr.lookup 44 (.map (some M)) (.int .i64 id) true).run Try.prog w = .ok (.tuple #[.agg #[.int .i64 (v.1 : Int), .int .i64 (v.2 : Int)], .bool is]) w := by
  obtain ⟨D, ho, h2⟩ := h
  obtain ⟨u, ps, hrun, hR⟩ := ho.look_ok law Try.underlying44 (timer_zero w) (tmE_mk (0, 0)) (keyOf_int_mk Try.underlying3 (wfI_lit hw))
  obtain ⟨h3, h4⟩ := h2 id hw
  rw [hrun, h3, hi]
  obtain ⟨x, rfl, hx⟩ := tmE_inv hR
  simp only [Prod.mk.injEq] at hx
  have : x = v := by
    subst hv
    cases hm : m id with
    | none =>
      rw [hm] at h3
      have := atKey_of_not_has h3 (tmD (0, 0))
      rw [this] at hx
      exact (tmD_inj hx.1).symm
    | some y =>
      rw [h4 y hm] at hx
      exact (tmD_inj hx.1).symm
  rw [this]
  rfl
theorem MapIs.look1 {w : World} {M n : Nat} {m : Mp} (h : MapIs w M m n) {id : Int} (hw : wfI id) {v : Nat × Nat} (hv : (m id).getD (0, 0) = v) :
    (Instr.lookup 44 (.map (some M)) (.int .i64 id) false).run Try.prog w = .ok (.agg #[.int .i64 (v.1 : Int), .int .i64 (v.2 : Int)]) w := by
  obtain ⟨D, ho, h2⟩ := h
  obtain ⟨u, ps, hrun, hR⟩ := ho.lookup law Try.underlying44 (timer_zero w) (tmE_mk (0, 0)) (keyOf_int_mk Try.underlying3 (wfI_lit hw))
  obtain ⟨h3, h4⟩ := h2 id hw
  rw [hrun]
  obtain ⟨x, rfl, hx⟩ := tmE_inv hR
  simp only [Prod.mk.injEq] at hx
  have : x = v := by
    subst hv
    cases hm : m id with
    | none =>
      rw [hm] at h3
      have := atKey_of_not_has h3 (tmD (0, 0))
      rw [this] at hx
      exact (tmD_inj hx.1).symm
    | some y =>
      rw [h4 y hm] at hx
      exact (tmD_inj hx.1).symm
  rw [this]
  rfl
theorem lit_ne {a b : Int} (h : a ≠ b) : (Lit.int .i64 a) ≠ (Lit.int .i64 b) := fun e => h (by simpa using e)
/-- m[id] = a timer. -/
theorem MapIs.put {w : World} {M n : Nat} {m : Mp} (h : MapIs w M m n) {id : Int} (hw : wfI id) (x : Nat × Nat) (hn : n < maxLen) :
    ∃ w', (Instr.mapUpdate 44 (.map (some M)) (.int .i64 id) (.agg #[.int .i64 (x.1 : Int), .int .i64 (x.2 : Int)])).run Try.prog w = .ok () w' ∧ MapIs w' M (upM m id (some x)) (n + 1) ∧ w.grownBy w' (some M) ∧ w'.heap.size = w.heap.size := by
  obtain ⟨D, ho, h2⟩ := h
  obtain ⟨w', hrun, ho', ht⟩ := ho.store law Try.underlying44 hn (keyOf_int_mk Try.underlying3 (wfI_lit hw)) (tmE_mk x)
  refine ⟨w', hrun, ⟨_, ho', fun j hj => ?_⟩, ht.grown, ?_⟩
  · by_cases e : j = id
    · subst e
      rw [upM_same]
      exact ⟨has_put_same ho.isMap (key_isLit hw) _, fun y hy z => by cases hy; exact atKey_put_same ho.isMap (key_isLit hw) _ z⟩
    · rw [upM_other _ _ e, has_put_other (lit_ne e)]
      exact ⟨(h2 j hj).1, fun y hy z => by rw [atKey_put_other (lit_ne e)]; exact (h2 j hj).2 y hy z⟩
  · obtain ⟨_, _, _, _, _, rfl⟩ := ht
    simp [ChangeMaps.setBlock]
/-- delete. -/
theorem MapIs.drop {w : World} {M n : Nat} {m : Mp} (h : MapIs w M m n) {id : Int} (hw : wfI id) (ty : TypeId) :
    ∃ w', (Builtin.delete_ #[44, 3] ty #[.map (some M), .int .i64 id]).run Try.prog w = .ok (.tuple #[]) w' ∧ MapIs w' M (upM m id none) n ∧ w.grownBy w' (some M) ∧ w'.heap.size = w.heap.size := by
  obtain ⟨D, ho, h2⟩ := h
  obtain ⟨w', hrun, ho', ht⟩ := ho.drop law Try.underlying44 (keyOf_int_mk Try.underlying3 (wfI_lit hw)) ty
  refine ⟨w', hrun, ⟨_, ho', fun j hj => ?_⟩, ht.grown, ?_⟩
  · by_cases e : j = id
    · subst e
      rw [upM_same]
      exact ⟨has_del_same, fun y hy => by cases hy⟩
    · rw [upM_other _ _ e, has_del_other (lit_ne e)]
      exact ⟨(h2 j hj).1, fun y hy z => by rw [atKey_del_other (lit_ne e)]; exact (h2 j hj).2 y hy z⟩
  · obtain ⟨_, _, _, _, _, rfl⟩ := ht
    simp [ChangeMaps.setBlock]
/-- The map's keys are the timers' numbers. -/
theorem MapIs.keys {w : World} {M n : Nat} {m : Mp} {D : DataW Unit} (ho : w.ownsMap Try.prog 3 tmE M n D) (h2 : ∀ id, wfI id → has D (.int .i64 id) = (m id).isSome ∧ ∀ x, m id = some x → ∀ z, D.atKey (.int .i64 id) z = tmD x)
    {L : Tm} (ht : Tie m L) (hR : Rise L) (hi : ∀ x ∈ L, wfI x.1) : (L.map Prod.fst).Perm (intKeys D) := by
  obtain ⟨es, hD, hpw, _⟩ := ho.entries law
  obtain ⟨es', hD', hko⟩ := ho.keysOf
  obtain rfl : es = es' := by rw [hD] at hD'; simpa using hD'
  subst hD
  have hk : ∀ p ∈ es, ∃ x, p.1 = .int .i64 x ∧ wfI x := fun p hp => by
    obtain ⟨v, hv⟩ := hko p hp
    obtain ⟨x, _, hx, hw⟩ := Maps.keyOf_i64 Try.underlying3 hv
    refine ⟨x, hx, ?_⟩
    unfold wfI
    have e1 : IntKind.i64.min = -9223372036854775808 := by decide
    have e2 : IntKind.i64.max = 9223372036854775807 := by decide
    simp [Lit.wf] at hw
    omega
  refine perm_intKeys hpw (fun p hp => (hk p hp).imp fun _ h => h.1) (rise_nodup hR) (fun x => ?_)
  constructor
  · intro hx
    obtain ⟨⟨y, d⟩, hy, rfl⟩ := List.mem_map.1 hx
    rw [(h2 _ (hi _ hy)).1, ht.isSome]
    unfold hasL
    rw [dueOf_of_mem hR hy]
    rfl
  · intro hx
    have hwx : wfI x := by
      rw [has_eq, List.any_eq_true] at hx
      obtain ⟨p, hp, hs⟩ := hx
      obtain ⟨y, e, hw⟩ := hk p hp
      rw [e] at hs
      have : x = y := by simpa [Lit.sameKey, eq_comm] using hs
      rw [this]; exact hw
    rw [(h2 x hwx).1, ht.isSome] at hx
    obtain ⟨d, hd⟩ := Option.isSome_iff_exists.1 hx
    exact List.mem_map.2 ⟨_, dueOf_mem hd, rfl⟩
theorem size_intKeys (D : DataW Unit) : (intKeys D).length = Maps.size D := by
  cases D <;> simp [intKeys, Maps.size]
theorem own_size {w : World} {M n : Nat} {D : DataW Unit} (ho : w.ownsMap Try.prog 3 tmE M n D) : w.ownsMap Try.prog 3 tmE M (Maps.size D) D := by
  obtain ⟨es, clock, hb, F, hs, hD⟩ := ho
  refine ⟨es, clock, hb, F, ?_, hD⟩
  rw [hD]
  simp [Maps.size, length_sorted]
/-- As many entries as timers. -/
theorem MapIs.count {w : World} {M n : Nat} {m : Mp} (h : MapIs w M m n) {L : Tm} (ht : Tie m L) (hR : Rise L) (hi : ∀ x ∈ L, wfI x.1) : MapIs w M m L.length := by
  obtain ⟨D, ho, h2⟩ := h
  have h3 := own_size ho
  have := (MapIs.keys ho h2 ht hR hi).length_eq
  rw [size_intKeys, List.length_map] at this
  rw [← this] at h3
  exact ⟨D, h3, h2⟩
theorem MapIs.len {w : World} {M n : Nat} {m : Mp} (h : MapIs w M m n) {L : Tm} (ht : Tie m L) (hR : Rise L) (hi : ∀ x ∈ L, wfI x.1) (ty : TypeId) :
    (Builtin.len_ #[44] ty #[.map (some M)]).run Try.prog w = .ok (.int .i64 (L.length : Int)) w := by
  obtain ⟨D, ho, h2⟩ := h
  have := (MapIs.keys ho h2 ht hR hi).length_eq
  rw [size_intKeys, List.length_map] at this
  rw [ho.len Try.underlying44 ty, this]

/-! ### The rows -/
def rowOwn (w : World) (v : Value) (l : List Int) : Prop := w.ownsRow 0 3 1 v l.length (l.map encZ)
theorem rowOwn.nil (w : World) : rowOwn w (.slice none 0 0) [] := World.ownsRow_nil _ _ _ _
theorem own_lt {w : World} {v : Value} {l : List Int} (h : rowOwn w v l) {b : Nat} (hb : v.ownBlock = some b) : b < w.heap.size := by
  rcases h.2 with ⟨rfl, _⟩ | ⟨g, cap, cur, rfl, _, hh, _⟩
  · cases hb
  · cases hb
    exact block_lt hh
theorem own_cells {w : World} {v : Value} {l : List Int} (h : rowOwn w v l) {b : Nat} (hb : v.ownBlock = some b) : ∃ cur, w.heap[b]? = some (.cells cur 3 (0, 0)) := by
  rcases h.2 with ⟨rfl, _⟩ | ⟨g, cap, cur, rfl, _, hh, _⟩
  · cases hb
  · cases hb
    exact ⟨cur, hh⟩
structure RowsAt (S : Nat → Prop) (w : World) (g : Nat → Value) (q : Nat → List Int) : Prop where
  own : ∀ k, k < 192 → rowOwn w (g k) (q k)
  inS : ∀ k b, k < 192 → (g k).ownBlock = some b → S b
  apart : ∀ j k b, j < 192 → k < 192 → (g j).ownBlock = some b → (g k).ownBlock = some b → j = k
def upG (g : Nat → Value) (k : Nat) (v : Value) : Nat → Value := fun j => if j = k then v else g j
theorem upG_same (g : Nat → Value) (k : Nat) (v : Value) : upG g k v k = v := if_pos rfl
theorem upG_other (g : Nat → Value) {k j : Nat} (v : Value) (h : j ≠ k) : upG g k v j = g j := if_neg h
theorem RowsAt.change {S T : Nat → Prop} {w w' : World} {g : Nat → Value} {q : Nat → List Int} (h : RowsAt S w g q) {k : Nat} (hk : k < 192) (hb : But T w w') (hT : ∀ b, T b → b < w.heap.size → (g k).ownBlock = some b)
    {v : Value} {l : List Int} (hown : rowOwn w' v l) (hloc : ∀ b, v.ownBlock = some b → (g k).ownBlock = some b ∨ (w.heap.size ≤ b ∧ S b)) : RowsAt S w' (upG g k v) (upQ q k l) := by
  refine ⟨fun j hj => ?_, fun j b hj hjb => ?_, fun j j' b hj hj' h1 h2 => ?_⟩
  · by_cases e : j = k
    · subst e; rw [upG_same, upQ_same]; exact hown
    · rw [upG_other _ _ e, upQ_other _ _ e]
      exact own_but (h.own j hj) hb (fun b hjb ht => e (h.apart j k b hj hk hjb (hT b ht (own_lt (h.own j hj) hjb))))
  · by_cases e : j = k
    · subst e; rw [upG_same] at hjb
      rcases hloc b hjb with h1 | h1
      · exact h.inS j b hj h1
      · exact h1.2
    · rw [upG_other _ _ e] at hjb
      exact h.inS j b hj hjb
  · have key : ∀ j, j < 192 → j ≠ k → (g j).ownBlock = some b → v.ownBlock = some b → False := fun j hj e h1 h2 => by
      rcases hloc b h2 with h3 | h3
      · exact e (h.apart j k b hj hk h1 h3)
      · have := own_lt (h.own j hj) h1; omega
    by_cases e : j = k
    · by_cases e' : j' = k
      · rw [e, e']
      · subst e
        rw [upG_same] at h1
        rw [upG_other _ _ e'] at h2
        exact (key j' hj' e' h2 h1).elim
    · rw [upG_other _ _ e] at h1
      by_cases e' : j' = k
      · subst e'
        rw [upG_same] at h2
        exact (key j hj e h1 h2).elim
      · rw [upG_other _ _ e'] at h2
        exact h.apart j j' b hj hj' h1 h2
theorem RowsAt.but {S T : Nat → Prop} {w w' : World} {g : Nat → Value} {q : Nat → List Int} (h : RowsAt S w g q) (hb : But T w w') (hT : ∀ k b, k < 192 → (g k).ownBlock = some b → ¬ T b) : RowsAt S w' g q :=
  ⟨fun k hk => own_but (h.own k hk) hb (fun b hkb => hT k b hk hkb), h.inS, h.apart⟩
/-- But for blocks of S nothing that was there has changed; and no block of cells that is of another type than the wheel's. -/
def Kept (S : Nat → Prop) (w w' : World) : Prop := But S w w' ∧ ∀ (k : Nat) (cur : Array Value) (t : TypeId) (f : Nat × Nat), w.heap[k]? = some (.cells cur t f) → t ≠ 48 → t ≠ 3 → w'.heap[k]? = some (.cells cur t f)
theorem Kept.refl (S : Nat → Prop) (w : World) : Kept S w w := ⟨But.refl _ _, fun _ _ _ _ h _ _ => h⟩
theorem Kept.trans {S : Nat → Prop} {a b c : World} (h : Kept S a b) (k : Kept S b c) : Kept S a c := ⟨h.1.trans k.1, fun i cur t f e h1 h2 => k.2 i cur t f (h.2 i cur t f e h1 h2) h1 h2⟩
theorem Kept.of_below {S : Nat → Prop} {w w' : World} (h : Below w.heap.size w w') : Kept S w w' := ⟨But.of_below h, fun k _ _ _ e _ _ => (h.block k (block_lt e)).trans e⟩
theorem Kept.mono {S T : Nat → Prop} {w w' : World} (h : Kept S w w') (hs : ∀ k, S k → T k) : Kept T w w' := ⟨h.1.mono hs, h.2⟩
/-- The wheel in memory: its block B, its map's block M, the values in its slots. -/
structure WhIs (S : Nat → Prop) (w : World) (B M : Nat) (g : Nat → Value) (N : Nat) (m : Mp) (n : Nat) (q : Nat → List Int) : Prop where
  sB : S B
  sM : S M
  blk : ∃ cur, w.heap[B]? = some (.cells cur 48 (0, 0)) ∧ cur[0]? = some (.int .i64 (N : Int)) ∧ cur[1]? = some (.map (some M)) ∧ ∀ k, k < 192 → cur[2 + k]? = some (g k)
  map : MapIs w M m n
  rows : RowsAt S w g q
section
variable {S T : Nat → Prop} {w w' : World} {B M N n : Nat} {g : Nat → Value} {m : Mp} {q : Nat → List Int}
theorem WhIs.lt (h : WhIs S w B M g N m n q) : B < w.heap.size := by obtain ⟨cur, hb, _⟩ := h.blk; exact block_lt hb
theorem WhIs.neM (h : WhIs S w B M g N m n q) : M ≠ B := fun e => by obtain ⟨cur, hb, _⟩ := h.blk; exact h.map.not_cells (e ▸ hb)
theorem WhIs.neRow (h : WhIs S w B M g N m n q) {k b : Nat} (hk : k < 192) (hb : (g k).ownBlock = some b) : b ≠ B ∧ b ≠ M := by
  obtain ⟨cur, hc⟩ := own_cells (h.rows.own k hk) hb
  refine ⟨fun e => ?_, fun e => h.map.not_cells (e ▸ hc)⟩
  obtain ⟨cur', hb', _⟩ := h.blk
  rw [e, hb'] at hc
  simp at hc
theorem WhIs.c0 (h : WhIs S w B M g N m n q) : w.cell? ⟨B, 0, none⟩ = some (.int .i64 (N : Int)) := by
  obtain ⟨cur, hb, h0, _⟩ := h.blk
  rw [cell_of_row _ _ _ _ _ _ hb]; exact h0
theorem WhIs.c1 (h : WhIs S w B M g N m n q) : w.cell? ⟨B, 1, none⟩ = some (.map (some M)) := by
  obtain ⟨cur, hb, _, h1, _⟩ := h.blk
  rw [cell_of_row _ _ _ _ _ _ hb]; exact h1
theorem WhIs.c2 (h : WhIs S w B M g N m n q) {k : Nat} (hk : k < 192) : w.cell? ⟨B, 2 + k, none⟩ = some (g k) := by
  obtain ⟨cur, hb, _, _, h2⟩ := h.blk
  rw [cell_of_row _ _ _ _ _ _ hb]; exact h2 k hk
theorem WhIs.fz (h : WhIs S w B M g N m n q) (i : Nat) : w.frozen? ⟨B, i, none⟩ = false := by
  obtain ⟨cur, hb, _⟩ := h.blk
  simp [World.frozen?, hb]
theorem WhIs.mono (h : WhIs S w B M g N m n q) (hs : ∀ k, k < w.heap.size → S k → T k) : WhIs T w B M g N m n q :=
  ⟨hs _ h.lt h.sB, hs _ h.map.lt h.sM, h.blk, h.map, ⟨h.rows.own, fun k b hk hb => hs _ (own_lt (h.rows.own k hk) hb) (h.rows.inS k b hk hb), h.rows.apart⟩⟩
theorem WhIs.but (h : WhIs S w B M g N m n q) (hb : But T w w') (hT : ∀ k, T k → k < w.heap.size → ¬ S k) : WhIs S w' B M g N m n q := by
  have hB : w'.heap[B]? = w.heap[B]? := hb.block B h.lt (fun ht => hT B ht h.lt h.sB)
  have hM : w'.heap[M]? = w.heap[M]? := hb.block M h.map.lt (fun ht => hT M ht h.map.lt h.sM)
  refine ⟨h.sB, h.sM, ?_, h.map.block hM, h.rows.but hb (fun k b hk hkb ht => hT b ht (own_lt (h.rows.own k hk) hkb) (h.rows.inS k b hk hkb))⟩
  rw [hB]
  exact h.blk
theorem WhIs.below (h : WhIs S w B M g N m n q) (hb : Below w.heap.size w w') : WhIs S w' B M g N m n q := h.but (T := fun _ => False) (But.of_below hb) (fun _ h => h.elim)
theorem WhIs.drewN (h : WhIs S w B M g N m n q) (k : Nat) : WhIs S (w.drewN k) B M g N m n q := h.below (below_drewN (Below.refl _ _) k)
theorem WhIs.keptB (h : WhIs S w B M g N m n q) (hb : But (· = B) w w') : Kept S w w' :=
  ⟨hb.mono (fun k e => e ▸ h.sB), fun k cur t f e h1 _ => (hb.block k (block_lt e) (fun e2 => by
    obtain ⟨cur', hb', _⟩ := h.blk
    rw [e2, hb'] at e
    simp only [Option.some.injEq, Obj.cells.injEq] at e
    exact h1 e.2.1.symm)).trans e⟩
/-- The clock is set. -/
theorem WhIs.setNow (h : WhIs S w B M g N m n q) (N' : Nat) : WhIs S (w.setCell ⟨B, 0, none⟩ (.int .i64 (N' : Int))) B M g N' m n q ∧ Kept S w (w.setCell ⟨B, 0, none⟩ (.int .i64 (N' : Int))) := by
  have hbut : But (· = B) w (w.setCell ⟨B, 0, none⟩ (.int .i64 (N' : Int))) := But.set (S := (· = B)) _ (p := ⟨B, 0, none⟩) rfl _
  refine ⟨⟨h.sB, h.sM, ?_, h.map.block (hbut.block M h.map.lt h.neM), h.rows.but hbut (fun k b hk hkb e => (h.neRow hk hkb).1 e)⟩, h.keptB hbut⟩
  obtain ⟨cur, hb, h0, h1, h2⟩ := h.blk
  refine ⟨_, block_set hb 0 _, ?_, ?_, fun k hk => ?_⟩
  · have := (Array.getElem?_eq_some_iff.1 h0).1
    simp [this]
  · simpa using h1
  · rw [Array.getElem?_setIfInBounds_ne (by omega)]
    exact h2 k hk
/-- A slot is set, its row being what it is. -/
theorem WhIs.setSlot (h : WhIs S w B M g N m n q) {k : Nat} (hk : k < 192) {v : Value} {q' : Nat → List Int} (hr : RowsAt S w (upG g k v) q') : WhIs S (w.setCell ⟨B, 2 + k, none⟩ v) B M (upG g k v) N m n q' ∧ Kept S w (w.setCell ⟨B, 2 + k, none⟩ v) := by
  have hbut : But (· = B) w (w.setCell ⟨B, 2 + k, none⟩ v) := But.set (S := (· = B)) _ (p := ⟨B, 2 + k, none⟩) rfl _
  have hne : ∀ j b, j < 192 → (upG g k v j).ownBlock = some b → ¬ b = B := fun j b hj hjb e => by
    obtain ⟨cur, hc⟩ := own_cells (hr.own j hj) hjb
    obtain ⟨cur', hb', _⟩ := h.blk
    rw [e, hb'] at hc
    simp at hc
  refine ⟨⟨h.sB, h.sM, ?_, h.map.block (hbut.block M h.map.lt h.neM), hr.but hbut hne⟩, h.keptB hbut⟩
  obtain ⟨cur, hb, h0, h1, h2⟩ := h.blk
  refine ⟨_, block_set hb _ _, ?_, ?_, fun j hj => ?_⟩
  · rw [Array.getElem?_setIfInBounds_ne (by omega)]; exact h0
  · rw [Array.getElem?_setIfInBounds_ne (by omega)]; exact h1
  · by_cases e : j = k
    · subst e
      have := (Array.getElem?_eq_some_iff.1 (h2 j hj)).1
      rw [upG_same]
      simp [this]
    · rw [Array.getElem?_setIfInBounds_ne (by omega), upG_other _ _ e]
      exact h2 j hj
/-- A row changes (and new blocks may be laid); the slot is not yet set. -/
theorem WhIs.rowTurn (h : WhIs S w B M g N m n q) {k : Nat} (hk : k < 192) (hb : But T w w') (hT : ∀ b, T b → b < w.heap.size → (g k).ownBlock = some b)
    {v : Value} {l : List Int} (hown : rowOwn w' v l) (hloc : ∀ b, v.ownBlock = some b → (g k).ownBlock = some b ∨ (w.heap.size ≤ b ∧ S b)) :
    WhIs S (w'.setCell ⟨B, 2 + k, none⟩ v) B M (upG g k v) N m n (upQ q k l) ∧ But (fun x => x = B ∨ (g k).ownBlock = some x) w (w'.setCell ⟨B, 2 + k, none⟩ v) := by
  have hr := h.rows.change hk hb hT hown hloc
  have nT : ∀ x, x < w.heap.size → (x = B ∨ x = M) → ¬ T x := fun x hx e ht => by
    have := h.neRow hk (hT x ht hx)
    rcases e with e | e
    · exact this.1 e
    · exact this.2 e
  have hB : w'.heap[B]? = w.heap[B]? := hb.block B h.lt (nT B h.lt (.inl rfl))
  have hM : w'.heap[M]? = w.heap[M]? := hb.block M h.map.lt (nT M h.map.lt (.inr rfl))
  have hS : But (fun x => x = B ∨ (g k).ownBlock = some x) w w' := ⟨hb.os, hb.tape, hb.output, hb.size, fun x hx hn => hb.block x hx (fun ht => hn (.inr (hT x ht hx)))⟩
  have hbut : But (· = B) w' (w'.setCell ⟨B, 2 + k, none⟩ v) := But.set (S := (· = B)) _ (p := ⟨B, 2 + k, none⟩) rfl _
  have hbl : ∃ cur, w'.heap[B]? = some (.cells cur 48 (0, 0)) ∧ cur[0]? = some (.int .i64 (N : Int)) ∧ cur[1]? = some (.map (some M)) ∧ ∀ k, k < 192 → cur[2 + k]? = some (g k) := by rw [hB]; exact h.blk
  obtain ⟨cur, hbb, h0, h1, h2⟩ := hbl
  have hne : ∀ j b, j < 192 → (upG g k v j).ownBlock = some b → ¬ b = B := fun j b hj hjb e => by
    obtain ⟨cur', hc⟩ := own_cells (hr.own j hj) hjb
    rw [e, hbb] at hc
    simp at hc
  have hm' : MapIs w' M m n := h.map.block hM
  refine ⟨⟨h.sB, h.sM, ?_, hm'.block (hbut.block M hm'.lt h.neM), hr.but hbut hne⟩, hS.trans (But.set _ (p := ⟨B, 2 + k, none⟩) (.inl rfl) _)⟩
  refine ⟨_, block_set hbb _ _, ?_, ?_, fun j hj => ?_⟩
  · rw [Array.getElem?_setIfInBounds_ne (by omega)]; exact h0
  · rw [Array.getElem?_setIfInBounds_ne (by omega)]; exact h1
  · by_cases e : j = k
    · subst e
      have := (Array.getElem?_eq_some_iff.1 (h2 j hj)).1
      rw [upG_same]
      simp [this]
    · rw [Array.getElem?_setIfInBounds_ne (by omega), upG_other _ _ e]
      exact h2 j hj
/-- The map changes. -/
theorem WhIs.mapTurn (h : WhIs S w B M g N m n q) {m' : Mp} {n' : Nat} (hg : w.grownBy w' (some M)) (hm : MapIs w' M m' n') : WhIs S w' B M g N m' n' q ∧ Kept S w w' := by
  have hb : But (· = M) w w' := But.of_grown hg (fun r e _ => by cases e; rfl)
  have hB : w'.heap[B]? = w.heap[B]? := hb.block B h.lt (fun e => h.neM e.symm)
  refine ⟨⟨h.sB, h.sM, ?_, hm, h.rows.but hb (fun k b hk hkb e => (h.neRow hk hkb).2 e)⟩, hb.mono (fun k e => e ▸ h.sM), fun k cur t f e _ _ => (hb.block k (block_lt e) (fun e2 => h.map.not_cells (e2 ▸ e))).trans e⟩
  rw [hB]
  exact h.blk
end
end Go.Proofs.Ytcekpkjibabjmaa
