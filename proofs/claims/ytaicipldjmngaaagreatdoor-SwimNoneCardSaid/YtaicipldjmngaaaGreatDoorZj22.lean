import Derived.Test.YtaicipldjmngaaaGreatDoorZj14
import Derived.Test.YtaicipldjmngaaaGreatDoorZj4
import Derived.Test.YtaicipldjmngaaaGreatDoorZj21
import Derived.Maps.RangeWalk
import Derived.Maps.OwnSet
import Derived.Maps.AppendAt
import Derived.Lib.SlKeysI
import Derived.Lib.OwnBridge
import Derived.WalkSpells
namespace Go.Proofs.YtaicipldjmngaaaGreatDoor.ru
open Go.RowKit Go.Maps
set_option linter.unusedSimpArgs false
def ruC (x : Ru) : List Value := [.int .i64 x.u.node, .int .u32 (x.u.inc : Int), .int .i64 x.u.st, .int .i64 (x.sent : Int), .int .i64 (x.wh : Int)]
def ruV (x : Ru) : Value := .agg #[.int .i64 x.u.node, .int .u32 (x.u.inc : Int), .int .i64 x.u.st, .int .i64 (x.sent : Int), .int .i64 (x.wh : Int)]
theorem ruC_len (x : Ru) : (ruC x).length = 5 := rfl
theorem ruC_one (x : Ru) : ∀ u ∈ ruC x, u.oneCell' = true := fun u hu => by
  simp only [ruC, List.mem_cons, List.not_mem_nil, or_false] at hu
  rcases hu with rfl | rfl | rfl | rfl | rfl <;> rfl
abbrev wtRow (w : World) (base : Nat) (v : Value) (l : List Ru) : Prop := rowK ruC 165 5 w base v l
theorem wt_info : (Tryz.prog.info? 165).map (fun i => (i.zero, i.size, i.bytes)) = some (some (.agg #[.int .i64 0, .int .u32 0, .int .i64 0, .int .i64 0, .int .i64 0]), 5, 40) := by kernel_rfl
def zR : Ru := ⟨⟨0, 0, 0⟩, 0, 0⟩
theorem wt_zero (w : World) : (zeroValue 165).run Tryz.prog w = .ok (ruV zR) w := by kernel_rfl
theorem blk5 {W : World} {X : Nat} {a b c d e : Value} {t : TypeId} (h : W.heap[X]? = some (.cells #[a, b, c, d, e] t (0, 0))) : W.cell? ⟨X, 0, none⟩ = some a ∧ W.cell? ⟨X, 1, none⟩ = some b ∧ W.cell? ⟨X, 2, none⟩ = some c ∧ W.cell? ⟨X, 3, none⟩ = some d ∧ W.cell? ⟨X, 4, none⟩ = some e := by
  refine ⟨?_, ?_, ?_, ?_, ?_⟩ <;> (rw [cell_of_row _ _ _ _ _ _ h]; rfl)
theorem _root_.Go.Proofs.YtaicipldjmngaaaGreatDoor.ItAt.ru {w : World} {b o : Nat} {x : Ru} (h : ItAt ruC w b o x) : w.cell? ⟨b, o, none⟩ = some (.int .i64 x.u.node) ∧ w.cell? ⟨b, o + 1, none⟩ = some (.int .u32 (x.u.inc : Int)) ∧ w.cell? ⟨b, o + 2, none⟩ = some (.int .i64 x.u.st) ∧ w.cell? ⟨b, o + 3, none⟩ = some (.int .i64 (x.sent : Int)) ∧ w.cell? ⟨b, o + 4, none⟩ = some (.int .i64 (x.wh : Int)) :=
  ⟨h 0 _ rfl, h 1 _ rfl, h 2 _ rfl, h 3 _ rfl, h 4 _ rfl⟩
def ruD (x : Ru) : DataW Unit := .agg [.lit (.int .i64 x.u.node), .lit (.int .u32 (x.u.inc : Int)), .lit (.int .i64 x.u.st), .lit (.int .i64 (x.sent : Int)), .lit (.int .i64 (x.wh : Int))]
def ruE (v : Value) : Option (DataW Unit × List MemPlace) :=
  match v with
  | .agg cs => match cs.toList with
    | [.int .i64 a, .int .u32 b, .int .i64 c, .int .i64 d, .int .i64 e] => if 0 ≤ b ∧ 0 ≤ d ∧ 0 ≤ e then some (.agg [.lit (.int .i64 a), .lit (.int .u32 b), .lit (.int .i64 c), .lit (.int .i64 d), .lit (.int .i64 e)], []) else none
    | _ => none
  | _ => none
theorem ruE_mk (x : Ru) : ruE (ruV x) = some (ruD x, []) := by
  unfold ruE ruV ruD
  simp
theorem ruE_inv {v : Value} {z : DataW Unit × List MemPlace} (h : ruE v = some z) : ∃ x, v = ruV x ∧ z = (ruD x, []) := by
  unfold ruE at h
  split at h
  · rename_i cs
    split at h
    · rename_i a b c d e he
      split at h
      · rename_i hp
        cases h
        refine ⟨⟨⟨a, b.toNat, c⟩, d.toNat, e.toNat⟩, ?_, ?_⟩
        · unfold ruV
          have : cs = #[.int .i64 a, .int .u32 b, .int .i64 c, .int .i64 d, .int .i64 e] := by rw [← Array.toArray_toList (xs := cs), he]
          rw [this]
          simp only [Int.toNat_of_nonneg hp.1, Int.toNat_of_nonneg hp.2.1, Int.toNat_of_nonneg hp.2.2]
        · unfold ruD
          simp only [Int.toNat_of_nonneg hp.1, Int.toNat_of_nonneg hp.2.1, Int.toNat_of_nonneg hp.2.2]
      · cases h
    · cases h
  · cases h
theorem ruD_inj {x y : Ru} (h : ruD x = ruD y) : x = y := by
  unfold ruD at h
  simp only [DataW.agg.injEq, List.cons.injEq, DataW.lit.injEq, Lit.int.injEq, true_and, and_true] at h
  obtain ⟨⟨a, b, c⟩, d, e⟩ := x
  obtain ⟨⟨a', b', c'⟩, d', e'⟩ := y
  simp only at h
  obtain ⟨h1, h2, h3, h4, h5⟩ := h
  have h2' : b = b' := by omega
  have h4' : d = d' := by omega
  have h5' : e = e' := by omega
  rw [h1, h2', h3, h4', h5']
def wfI (z : Int) : Prop := -9223372036854775808 ≤ z ∧ z ≤ 9223372036854775807
theorem wfI_lit {z : Int} (h : wfI z) : (Lit.int .i64 z).wf = true := WalkArith.wf_i64 (by unfold wfI at h; omega)
theorem key_isLit {z : Int} (h : wfI z) : WideAt.IsKeyLit (.int .i64 z) := (int_keyed Tryz.underlying3).key (keyOf_int_mk Tryz.underlying3 (wfI_lit h))
abbrev law : Keyed Tryz.prog 3 := int_keyed Tryz.underlying3
abbrev TM : TypeId := 190
def QMap (w : World) (M : Nat) (m : Int → Option Ru) (n : Nat) : Prop :=
  ∃ D : DataW Unit, w.ownsMap Tryz.prog 3 ruE M n D ∧ ∀ id, wfI id → has D (.int .i64 id) = (m id).isSome ∧ ∀ x, m id = some x → ∀ z, D.atKey (.int .i64 id) z = ruD x
section
variable {w w' : World} {M n : Nat} {m m' : Int → Option Ru}
theorem QMap.lt (h : QMap w M m n) : M < w.heap.size := by
  obtain ⟨D, h, _⟩ := h
  exact h.lt
theorem QMap.not_cells (h : QMap w M m n) {cur : Array Value} {t : TypeId} {f : Nat × Nat} : w.heap[M]? ≠ some (.cells cur t f) := by
  obtain ⟨D, ⟨es, clock, hb, _⟩, _⟩ := h
  rw [hb]
  simp
theorem QMap.made (w : World) : QMap (w.alloc (.map #[] 0)) w.heap.size (fun _ => none) 0 :=
  ⟨.map [], World.ownsMap_made _ _ _ _, fun _ _ => ⟨rfl, fun _ h => by cases h⟩⟩
theorem QMap.block (h : QMap w M m n) (hb : w'.heap[M]? = w.heap[M]?) : QMap w' M m n := by
  obtain ⟨D, ⟨es, clock, hb', r⟩, h2⟩ := h
  exact ⟨D, ⟨es, clock, hb.trans hb', r⟩, h2⟩
theorem QMap.congr (h : QMap w M m n) (e : ∀ id, wfI id → m id = m' id) : QMap w M m' n := by
  obtain ⟨D, h1, h2⟩ := h
  exact ⟨D, h1, fun id hw => by rw [← e id hw]; exact h2 id hw⟩
def atR (m : Int → Option Ru) (id : Int) : Ru := (m id).getD zR
theorem QMap.look (h : QMap w M m n) {id : Int} (hw : wfI id) :
    (Instr.lookup TM (.map (some M)) (.int .i64 id) true).run Tryz.prog w = .ok (.tuple #[ruV (atR m id), .bool (m id).isSome]) w := by
  obtain ⟨D, ho, h2⟩ := h
  obtain ⟨u, ps, hrun, hR⟩ := ho.look_ok law Tryz.underlying190 (wt_zero w) (ruE_mk zR) (keyOf_int_mk Tryz.underlying3 (wfI_lit hw))
  obtain ⟨h3, h4⟩ := h2 id hw
  rw [hrun, h3]
  obtain ⟨x, rfl, hx⟩ := ruE_inv hR
  simp only [Prod.mk.injEq] at hx
  have : x = atR m id := by
    unfold atR
    cases hm : m id with
    | none =>
      rw [hm] at h3
      have := atKey_of_not_has h3 (ruD zR)
      rw [this] at hx
      exact (ruD_inj hx.1).symm
    | some y =>
      rw [h4 y hm] at hx
      exact (ruD_inj hx.1).symm
  rw [this]
theorem lit_ne {a b : Int} (h : a ≠ b) : (Lit.int .i64 a) ≠ (Lit.int .i64 b) := fun e => h (by simpa using e)
def putR (m : Int → Option Ru) (id : Int) (x : Option Ru) : Int → Option Ru := fun j => if j = id then x else m j
theorem putR_same (m : Int → Option Ru) (id : Int) (x : Option Ru) : putR m id x id = x := if_pos rfl
theorem putR_other (m : Int → Option Ru) {id j : Int} (x : Option Ru) (h : j ≠ id) : putR m id x j = m j := if_neg h
theorem QMap.put (h : QMap w M m n) (x : Ru) (hw : wfI x.u.node) (hn : n < maxLen) :
    ∃ w', (Instr.mapUpdate TM (.map (some M)) (.int .i64 x.u.node) (ruV x)).run Tryz.prog w = .ok () w' ∧ QMap w' M (putR m x.u.node (some x)) (n + 1) ∧ w.grownBy w' (some M) ∧ w'.heap.size = w.heap.size := by
  obtain ⟨D, ho, h2⟩ := h
  obtain ⟨w', hrun, ho', ht⟩ := ho.store law Tryz.underlying190 hn (keyOf_int_mk Tryz.underlying3 (wfI_lit hw)) (ruE_mk x)
  refine ⟨w', hrun, ⟨_, ho', fun j hj => ?_⟩, ht.grown, ?_⟩
  · by_cases e : j = x.u.node
    · subst e
      rw [putR_same]
      exact ⟨has_put_same ho.isMap (key_isLit hw) _, fun y hy z => by cases hy; exact atKey_put_same ho.isMap (key_isLit hw) _ z⟩
    · rw [putR_other _ _ e, has_put_other (lit_ne e)]
      exact ⟨(h2 j hj).1, fun y hy z => by rw [atKey_put_other (lit_ne e)]; exact (h2 j hj).2 y hy z⟩
  · obtain ⟨_, _, _, _, _, rfl⟩ := ht
    simp [ChangeMaps.setBlock]
theorem QMap.drop (h : QMap w M m n) {id : Int} (hw : wfI id) (ty : TypeId) :
    ∃ w', (Builtin.delete_ #[TM, 3] ty #[.map (some M), .int .i64 id]).run Tryz.prog w = .ok (.tuple #[]) w' ∧ QMap w' M (putR m id none) n ∧ w.grownBy w' (some M) ∧ w'.heap.size = w.heap.size := by
  obtain ⟨D, ho, h2⟩ := h
  obtain ⟨w', hrun, ho', ht⟩ := ho.drop law Tryz.underlying190 (keyOf_int_mk Tryz.underlying3 (wfI_lit hw)) ty
  refine ⟨w', hrun, ⟨_, ho', fun j hj => ?_⟩, ht.grown, ?_⟩
  · by_cases e : j = id
    · subst e
      rw [putR_same]
      exact ⟨has_del_same, fun y hy => by cases hy⟩
    · rw [putR_other _ _ e, has_del_other (lit_ne e)]
      exact ⟨(h2 j hj).1, fun y hy z => by rw [atKey_del_other (lit_ne e)]; exact (h2 j hj).2 y hy z⟩
  · obtain ⟨_, _, _, _, _, rfl⟩ := ht
    simp [ChangeMaps.setBlock]
end
def atL (L : List Ru) (n : Int) : Option Ru := L.find? fun r => decide (r.u.node = n)
theorem atL_none {L : List Ru} {n : Int} (h : atL L n = none) : ∀ r ∈ L, r.u.node ≠ n := by
  intro r hr; simpa using (List.find?_eq_none.mp h) r hr
theorem atL_mem {L : List Ru} {n : Int} {r : Ru} (h : atL L n = some r) : r ∈ L ∧ r.u.node = n := ⟨List.mem_of_find?_eq_some h, by simpa using List.find?_some h⟩
theorem atL_some {L : List Ru} (h : (L.map (·.u.node)).Nodup) {r : Ru} (hr : r ∈ L) : atL L r.u.node = some r := by
  cases e : atL L r.u.node with
  | none => exact absurd rfl (atL_none e r hr)
  | some s => rw [node_inj h (atL_mem e).1 hr (atL_mem e).2]
theorem atL_iff {L : List Ru} (h : (L.map (·.u.node)).Nodup) {r : Ru} {n : Int} : atL L n = some r ↔ r ∈ L ∧ r.u.node = n := ⟨atL_mem, fun ⟨h1, h2⟩ => h2 ▸ atL_some h h1⟩
theorem atL_perm {L L' : List Ru} (hp : L.Perm L') (h : (L.map (·.u.node)).Nodup) (n : Int) : atL L n = atL L' n := by
  have h' : (L'.map (·.u.node)).Nodup := ((hp.map (·.u.node)).nodup_iff).1 h
  apply Option.ext
  intro r
  rw [atL_iff h, atL_iff h', hp.mem_iff]
theorem atL_isSome {L : List Ru} {n : Int} : (atL L n).isSome = true ↔ n ∈ L.map (·.u.node) := by
  rw [Option.isSome_iff_exists, List.mem_map]
  constructor
  · rintro ⟨r, hr⟩; exact ⟨r, atL_mem hr⟩
  · rintro ⟨r, hr, e⟩
    cases h : atL L n with
    | none => exact absurd e (atL_none h r hr)
    | some s => exact ⟨s, rfl⟩
theorem ruKeys {w : World} {M n : Nat} {L : List Ru} {D : DataW Unit} (ho : w.ownsMap Tryz.prog 3 ruE M n D) (h2 : ∀ id, wfI id → has D (.int .i64 id) = (atL L id).isSome ∧ ∀ x, atL L id = some x → ∀ z, D.atKey (.int .i64 id) z = ruD x)
    (hd : (L.map (·.u.node)).Nodup) (hi : ∀ r ∈ L, wfI r.u.node) : (L.map (·.u.node)).Perm (intKeys D) := by
  obtain ⟨es, hD, hpw, _⟩ := ho.entries law
  obtain ⟨es', hD', hko⟩ := ho.keysOf
  obtain rfl : es = es' := by rw [hD] at hD'; simpa using hD'
  subst hD
  have hk : ∀ p ∈ es, ∃ x, p.1 = .int .i64 x ∧ wfI x := fun p hp => by
    obtain ⟨v, hv⟩ := hko p hp
    obtain ⟨x, _, hx, hw⟩ := Maps.keyOf_i64 Tryz.underlying3 hv
    refine ⟨x, hx, ?_⟩
    unfold wfI
    have e1 : IntKind.i64.min = -9223372036854775808 := by decide
    have e2 : IntKind.i64.max = 9223372036854775807 := by decide
    simp [Lit.wf] at hw
    omega
  refine perm_intKeys hpw (fun p hp => (hk p hp).imp fun _ h => h.1) hd (fun x => ?_)
  rw [← atL_isSome]
  constructor
  · intro hx
    obtain ⟨r, hr, e⟩ := List.mem_map.1 (atL_isSome.1 hx)
    rw [(h2 x (by rw [← e]; exact hi r hr)).1]
    exact hx
  · intro hx
    have hwx : wfI x := by
      rw [has_eq, List.any_eq_true] at hx
      obtain ⟨p, hp, hs⟩ := hx
      obtain ⟨y, e, hw⟩ := hk p hp
      rw [e] at hs
      have : x = y := by simpa [Lit.sameKey, eq_comm] using hs
      rw [this]; exact hw
    rw [(h2 x hwx).1] at hx
    exact hx
theorem size_intKeys (D : DataW Unit) : (intKeys D).length = Maps.size D := by
  cases D <;> simp [intKeys, Maps.size]
theorem own_size {w : World} {M n : Nat} {D : DataW Unit} (ho : w.ownsMap Tryz.prog 3 ruE M n D) : w.ownsMap Tryz.prog 3 ruE M (Maps.size D) D := by
  obtain ⟨es, clock, hb, F, hs, hD⟩ := ho
  refine ⟨es, clock, hb, F, ?_, hD⟩
  rw [hD]
  simp [Maps.size, length_sorted]
theorem QMap.count {w : World} {M n : Nat} {L : List Ru} (h : QMap w M (atL L) n) (hd : (L.map (·.u.node)).Nodup) (hi : ∀ r ∈ L, wfI r.u.node) : QMap w M (atL L) L.length := by
  obtain ⟨D, ho, h2⟩ := h
  have h3 := own_size ho
  have := (ruKeys ho h2 hd hi).length_eq
  rw [size_intKeys, List.length_map] at this
  rw [← this] at h3
  exact ⟨D, h3, h2⟩
theorem right_wf {u : Up} (h : u.right = true) : wfI u.node := by
  have := (Up.right_iff u).1 h
  unfold wfI; omega
theorem Qu.ok.wf {q : Qu} (h : q.ok) : ∀ r ∈ q.L, wfI r.u.node := fun r hr => right_wf (h.right r hr)
structure QuAt (w : World) (B M : Nat) (q : Qu) : Prop where
  blk : w.heap[B]? = some (.cells #[.int .i64 (q.mult : Int), .int .i64 (q.clock : Int), .map (some M)] 192 (0, 0))
  map : QMap w M (atL q.L) q.L.length
  ok : q.ok
section
variable {w w' : World} {B M : Nat} {q : Qu}
theorem QuAt.ne (h : QuAt w B M q) : B ≠ M := fun e => h.map.not_cells (e ▸ h.blk)
theorem QuAt.lt (h : QuAt w B M q) : B < w.heap.size ∧ M < w.heap.size := ⟨block_lt h.blk, h.map.lt⟩
theorem QuAt.keep (h : QuAt w B M q) (h1 : w'.heap[B]? = w.heap[B]?) (h2 : w'.heap[M]? = w.heap[M]?) : QuAt w' B M q := ⟨h1.trans h.blk, h.map.block h2, h.ok⟩
theorem QuAt.below (h : QuAt w B M q) (hb : Below w.heap.size w w') : QuAt w' B M q := h.keep (hb.block B h.lt.1) (hb.block M h.lt.2)
theorem QuAt.but {S : Nat → Prop} (h : QuAt w B M q) (hb : But S w w') (hB : ¬ S B) (hM : ¬ S M) : QuAt w' B M q := h.keep (hb.block B h.lt.1 hB) (hb.block M h.lt.2 hM)
theorem QuAt.c0 (h : QuAt w B M q) : w.cell? ⟨B, 0, none⟩ = some (.int .i64 (q.mult : Int)) := (blk3 h.blk).1
theorem QuAt.c1 (h : QuAt w B M q) : w.cell? ⟨B, 1, none⟩ = some (.int .i64 (q.clock : Int)) := (blk3 h.blk).2.1
theorem QuAt.c2 (h : QuAt w B M q) : w.cell? ⟨B, 2, none⟩ = some (.map (some M)) := (blk3 h.blk).2.2
theorem QuAt.few (h : QuAt w B M q) : q.L.length ≤ 8 := Qu.few h.ok
end
def NoQu (w : World) (v : Value) : Prop := v = .pointer none ∨ ∃ B, v = .pointer (some ⟨B, 0, none⟩) ∧ w.heap[B]? = some (.cells #[.int .i64 0, .int .i64 0, .map none] 192 (0, 0))
theorem NoQu.below {w w' : World} {v : Value} (h : NoQu w v) (hb : Below w.heap.size w w') : NoQu w' v := by
  rcases h with h | ⟨B, e, h⟩
  · exact .inl h
  · exact .inr ⟨B, e, (hb.block B (block_lt h)).trans h⟩
def Qu.small (q : Qu) (N : Nat) : Prop := q.clock ≤ N ∧ ∀ r ∈ q.L, r.sent ≤ N
end Go.Proofs.YtaicipldjmngaaaGreatDoor.ru

namespace Go.Proofs.YtaicipldjmngaaaGreatDoor.ru
open Go.RowKit Go.Maps
set_option linter.unusedSimpArgs false
set_option linter.unusedVariables false
theorem made_no (v : Value) (w : World) (h : NoQu w v) : Calls Tryz.prog 96 #[v] w fun e w' => e = .returned (.bool false) ∧ w = w' := by
  rcases h with rfl | ⟨B, rfl, hh⟩
  · go_enter Tryz.func96, Tryz.ntmps96
    go_wp2
    go_ret
    exact ⟨rfl, rfl⟩
  · have c1 : w.cell? ⟨B, 2, none⟩ = some (.map none) := by rw [cell_of_row _ _ _ _ _ _ hh]; rfl
    have HH := Lib.hid hh
    clear hh
    have qM := fun (w : World) (r : Option Nat) => run_neq_map_nil (P := Tryz.prog) w 190 3 165 r Tryz.underlying190
    go_enter Tryz.func96, Tryz.ntmps96
    go_wp2
    go_ret
    exact ⟨rfl, rfl⟩
theorem made_yes {B M : Nat} {q : Qu} (w : World) (h : QuAt w B M q) : Calls Tryz.prog 96 #[.pointer (some ⟨B, 0, none⟩)] w fun e w' => e = .returned (.bool true) ∧ w = w' := by
  have c1 := h.c2
  clear h
  have qM := fun (w : World) (r : Option Nat) => run_neq_map_nil (P := Tryz.prog) w 190 3 165 r Tryz.underlying190
  go_enter Tryz.func96, Tryz.ntmps96
  go_wp2
  go_ret
  exact ⟨rfl, rfl⟩
theorem clampQ_eq (m : Int) : min (max m 1) 8 = (clampQ m : Int) := by
  unfold clampQ
  split
  · omega
  · split <;> omega
set_option maxHeartbeats 4000000 in
theorem new_any (m : Int) (w : World) : Calls Tryz.prog 63 #[.int .i64 m] w fun e w' => ∃ B M, e = .returned (.pointer (some ⟨B, 0, none⟩)) ∧ QuAt w' B M (Qu.new m) ∧ w.heap.size ≤ B ∧ w.heap.size ≤ M ∧ Below w.heap.size w w' := by
  have hmm := @run_makeMap Tryz.prog
  have hm0 := QMap.made w
  have HM0 := Lib.hid hm0
  have HC := Lib.hid (clampQ_eq m)
  clear hm0
  go_enter Tryz.func63, Tryz.ntmps63
  go_wp2
  go_ret
  have hs : (w.alloc (.map #[] 0)).heap.size = w.heap.size + 1 := by simp
  refine ⟨_, _, rfl, ⟨?_, ?_, Qu.new_ok m⟩, by omega, Nat.le_refl _, ((Below.refl _ w).alloc (Nat.le_refl _) _).alloc (by simp) _⟩
  · have := heap_alloc_new (w.alloc (.map #[] 0)) (.cells #[.int .i64 (clampQ m : Int), .int .i64 0, .map (some w.heap.size)] 192)
    show _ = some (Obj.cells #[.int .i64 ((clampQ m : Nat) : Int), .int .i64 0, .map (some w.heap.size)] 192)
    rw [← HC.out, hs] at this
    rw [← HC.out]
    exact this
  · exact HM0.out.block (heap_alloc_old _ _ HM0.out.lt)
theorem values_any (mb : Option Nat) (w : World) : Calls Tryz.prog 137 #[.map mb] w fun e w' => e = .returned (.func (.func 198) #[] #[.pointer (some ⟨w.heap.size, 0, none⟩)]) ∧ w' = w.alloc (.cells #[.map mb] 190) := by
  go_enter Tryz.func137, Tryz.ntmps137
  go_wp2
  go_ret
  exact ⟨rfl, rfl⟩
def orI (x y : Int) : Int := if x = 0 then y else x
set_option maxHeartbeats 4000000 in
theorem or_any (x y : Int) (X : Nat) (w : World) (h0 : w.cell? ⟨X, 0, none⟩ = some (.int .i64 x)) (h1 : w.cell? ⟨X, 1, none⟩ = some (.int .i64 y)) :
    Calls Tryz.prog 139 #[.slice (some ⟨X, 0, none⟩) 2 2] w fun e w' => e = .returned (.int .i64 (orI x y)) ∧ w = w' := by
  by_cases hx : x = 0
  · have e : orI x y = y := by unfold orI; rw [if_pos hx]
    rw [e]
    subst hx
    clear e
    by_cases hy : y = 0
    · subst hy
      go_enter Tryz.func139, Tryz.ntmps139
      go_wp2
      refine wp_loop_rounds 3 ?_
      rw [rounds_succ]
      go_wp2
      rw [rounds_succ]
      go_wp2
      rw [rounds_succ]
      go_wp2
      go_ret
      exact ⟨rfl, rfl⟩
    · have zy : (y != 0) = true := by simpa using hy
      clear hy
      go_enter Tryz.func139, Tryz.ntmps139
      go_wp2
      refine wp_loop_rounds 2 ?_
      rw [rounds_succ]
      go_wp2
      rw [rounds_succ]
      go_wp2
      go_ret
      exact ⟨rfl, rfl⟩
  · have e : orI x y = x := by unfold orI; rw [if_neg hx]
    rw [e]
    have zx : (x != 0) = true := by simpa using hx
    clear hx e
    go_enter Tryz.func139, Tryz.ntmps139
    go_wp2
    refine wp_loop_rounds 1 ?_
    rw [rounds_succ]
    go_wp2
    go_ret
    exact ⟨rfl, rfl⟩
end Go.Proofs.YtaicipldjmngaaaGreatDoor.ru
