import Derived.Test.YtaicipldjmngaaaGreatDoorZj1
import Derived.Test.YtaicipldjmngaaaGreatDoorZj2
import Derived.Laws.StructEq
namespace Go.Proofs.YtaicipldjmngaaaGreatDoor
open Go.RowKit
def UpAt (w : World) (b o : Nat) (x : Up) : Prop := w.cell? ⟨b, o, none⟩ = some (.int .i64 x.node) ∧ w.cell? ⟨b, o + 1, none⟩ = some (.int .u32 (x.inc : Int)) ∧ w.cell? ⟨b, o + 2, none⟩ = some (.int .i64 x.st)
def SUp (w : World) (A : Option Addr) (n : Nat) (ss : List Up) : Prop :=
  ss.length = n ∧ (0 < n → ∃ b off, A = some ⟨b, off, none⟩ ∧ b < w.heap.size ∧ ∀ j (h : j < ss.length), UpAt w b (off + j * 3) ss[j])
theorem SUp.zero (w : World) (A : Option Addr) : SUp w A 0 [] := ⟨rfl, fun h => absurd h (by omega)⟩
theorem UpAt.of_block {w w' : World} {b o : Nat} {x : Up} (h : UpAt w b o x) (hb : w'.heap[b]? = w.heap[b]?) : UpAt w' b o x := by
  obtain ⟨h0, h1, h2⟩ := h
  exact ⟨(World.cell?_of_block (a := ⟨b, o, none⟩) hb).trans h0, (World.cell?_of_block (a := ⟨b, o + 1, none⟩) hb).trans h1, (World.cell?_of_block (a := ⟨b, o + 2, none⟩) hb).trans h2⟩
def upC (x : Up) : List Value := [.int .i64 x.node, .int .u32 (x.inc : Int), .int .i64 x.st]
def upV (x : Up) : Value := .agg #[.int .i64 x.node, .int .u32 (x.inc : Int), .int .i64 x.st]
def upsC (l : List Up) : List Value := l.flatMap upC
theorem upsC_append (l m : List Up) : upsC (l ++ m) = upsC l ++ upsC m := by simp [upsC]
theorem upsC_one : ∀ (l : List Up), ∀ u ∈ upsC l, u.oneCell' = true := fun l u hu => by
  unfold upsC at hu
  obtain ⟨x, _, hx⟩ := List.mem_flatMap.1 hu
  simp only [upC, List.mem_cons, List.not_mem_nil, or_false] at hx
  rcases hx with rfl | rfl | rfl <;> rfl
theorem upsC_drop : ∀ (l : List Up) (k : Nat), (upsC l).drop (k * 3) = upsC (l.drop k)
  | [], k => by simp [upsC]
  | x :: l, 0 => by simp [upsC]
  | x :: l, k + 1 => by
    have := upsC_drop l k
    unfold upsC at this ⊢
    rw [List.drop_succ_cons, List.flatMap_cons, ← this, show (k + 1) * 3 = (upC x).length + k * 3 by simp [upC]; omega, List.drop_length_add_append]
theorem upsC_at {l : List Up} {k : Nat} (hk : k < l.length) (i : Nat) (hi : i < 3) : (upsC l)[k * 3 + i]? = (upC l[k])[i]? := by
  have h1 := upsC_drop l k
  rw [List.drop_eq_getElem_cons hk] at h1
  have h2 : ((upsC l).drop (k * 3))[i]? = (upsC l)[k * 3 + i]? := by rw [List.getElem?_drop]
  rw [← h2, h1, upsC, List.flatMap_cons, List.getElem?_append_left (by simpa [upC] using hi)]
def upRow (w : World) (base : Nat) (v : Value) (l : List Up) : Prop := w.ownsRow base 63 3 v l.length (upsC l)
theorem upRow.nil (w : World) (base : Nat) : upRow w base (.slice none 0 0) [] := World.ownsRow_nil _ _ _ _
theorem upRow.below {w w' : World} {base : Nat} {v : Value} {l : List Up} (h : upRow w base v l) (hb : Below w.heap.size w w') : upRow w' base v l := bown_keep h hb
theorem up_info : (Tryz.prog.info? 63).map (fun i => (i.zero, i.size, i.bytes)) = some (some (.agg #[.int .i64 0, .int .u32 0, .int .i64 0]), 3, 24) := by kernel_rfl
theorem up_zc : (Value.agg #[.int .i64 0, .int .u32 0, .int .i64 0]).cells.size = 3 := by rfl
theorem SUp.of_block {w w' : World} {A : Option Addr} {n : Nat} {ss : List Up} (h : SUp w A n ss) (hb : Below w.heap.size w w') : SUp w' A n ss :=
  ⟨h.1, fun hn => by
    obtain ⟨b, off, e, hlt, hc⟩ := h.2 hn
    exact ⟨b, off, e, Nat.lt_of_lt_of_le hlt hb.size, fun j hj => (hc j hj).of_block (hb.block b hlt)⟩⟩
theorem SUp.at_ {w : World} {A : Option Addr} {n : Nat} {ss : List Up} (h : SUp w A n ss) {k : Nat} (hk : k < n) (hk' : k < ss.length) : ∃ b off, A = some ⟨b, off, none⟩ ∧ b < w.heap.size ∧ UpAt w b (off + k * 3) ss[k] := by
  obtain ⟨b, off, e, hb, hc⟩ := h.2 (by omega)
  exact ⟨b, off, e, hb, hc k hk'⟩
theorem SUp.take {w : World} {A : Option Addr} {n : Nat} {ss : List Up} (h : SUp w A n ss) {k : Nat} (hk : k ≤ n) : SUp w A k (ss.take k) := by
  have hl := h.1
  refine ⟨by rw [List.length_take]; omega, fun hk0 => ?_⟩
  obtain ⟨b, off, e, hlt, hc⟩ := h.2 (by omega)
  refine ⟨b, off, e, hlt, fun j hj => ?_⟩
  rw [List.length_take] at hj
  rw [List.getElem_take]
  exact hc j (by omega)
theorem SUp.of_row {w : World} {base : Nat} {v : Value} {l : List Up} (h : upRow w base v l) : ∃ A c, v = .slice A l.length c ∧ SUp w A l.length l ∧ l.length ≤ c ∧ c ≤ maxLen := by
  have h0 := h
  rcases h.2 with ⟨rfl, h1⟩ | ⟨g, cap, cur, rfl, hg, hh, hnc, hm, hsz, ht⟩
  · rw [h1]
    exact ⟨none, 0, rfl, ⟨h1, fun h => absurd h (Nat.lt_irrefl _)⟩, Nat.le_refl _, Nat.zero_le _⟩
  · refine ⟨some ⟨g, 0, none⟩, cap, rfl, ⟨rfl, fun _ => ⟨g, 0, rfl, block_lt hh, fun j hj => ?_⟩⟩, hnc, hm⟩
    have hc := World.ownsRow.cells h0 (g := g) rfl
    have key : ∀ i u, i < 3 → (upC l[j])[i]? = some u → w.cell? ⟨g, 0 + j * 3 + i, none⟩ = some u := fun i u hi hu => by
      have := hc (j * 3 + i) u (by rw [upsC_at hj i hi]; exact hu)
      rwa [plain_add, ← Nat.add_assoc] at this
    exact ⟨key 0 _ (by decide) rfl, key 1 _ (by decide) rfl, key 2 _ (by decide) rfl⟩
theorem up_new (w : World) (x : Up) (T : TypeId) : UpAt (w.alloc (.cells #[.int .i64 x.node, .int .u32 (x.inc : Int), .int .i64 x.st] T)) w.heap.size 0 x := by
  have hh := heap_alloc_new w (.cells #[.int .i64 x.node, .int .u32 (x.inc : Int), .int .i64 x.st] T)
  refine ⟨?_, ?_, ?_⟩ <;> (rw [cell_of_row _ _ _ _ _ _ hh]; rfl)
end Go.Proofs.YtaicipldjmngaaaGreatDoor

namespace Go.Proofs.YtaicipldjmngaaaGreatDoor
open Go.RowKit
set_option linter.unusedSimpArgs false
theorem up_fields : Tryz.prog.underlying 63 = some (.struct (Tryz.prog.fieldsOf 63)) := by kernel_rfl
theorem up_stood : Tryz.prog.stoodInHeld 63 = false := by kernel_rfl
theorem up_flds : (Tryz.prog.fieldsOf 63).toList.map (fun f => (f.name, f.type, f.offset)) = [("Node", 3, 0), ("Inc", 39, 1), ("Status", 3, 2)] := by kernel_rfl
theorem up_guard : Tryz.prog.eqGuardType Tryz.prog.depth 63 = false := by kernel_rfl
theorem list3 {α : Type} {l : List α} (h : l.length = 3) : ∃ a b c, l = [a, b, c] := by
  match l, h with
  | [a, b, c], _ => exact ⟨a, b, c, rfl⟩
theorem Up.eq_iff (a b : Up) : a = b ↔ a.node = b.node ∧ a.inc = b.inc ∧ a.st = b.st := by
  obtain ⟨x, y, z⟩ := a
  obtain ⟨x', y', z'⟩ := b
  simp
theorem up_eq_at (d : Nat) (a b : Up) (w : World) : (Op.equalIn (d + 2) 63 (.agg #[.int .i64 a.node, .int .u32 (a.inc : Int), .int .i64 a.st]) (.agg #[.int .i64 b.node, .int .u32 (b.inc : Int), .int .i64 b.st])).run Tryz.prog w = .ok (decide (a = b)) w := by
  rw [run_equalIn_struct w (d + 1) _ _ _ up_fields up_stood]
  have h := up_flds
  generalize (Tryz.prog.fieldsOf 63).toList = fs at h
  have hl := congrArg List.length h
  rw [List.length_map] at hl
  obtain ⟨f0, f1, f2, rfl⟩ := list3 hl
  simp only [List.map_cons, List.map_nil, List.cons.injEq, Prod.mk.injEq, and_true] at h
  obtain ⟨⟨h0, h1, h2⟩, ⟨h3, h4, h5⟩, h6, h7, h8⟩ := h
  simp only [Op.eqFields, h0, h1, h2, h3, h4, h5, h6, h7, h8]
  have e := Up.eq_iff a b
  by_cases k0 : a.node = b.node
  · by_cases k1 : a.inc = b.inc
    · by_cases k2 : a.st = b.st
      · rw [decide_eq_true (e.2 ⟨k0, k1, k2⟩)]
        clear e
        simp [go_sem, k0, k1, k2]
      · rw [decide_eq_false (fun h => k2 (e.1 h).2.2)]
        clear e
        simp [go_sem, k0, k1, k2]
    · rw [decide_eq_false (fun h => k1 (e.1 h).2.1)]
      have k1' : ¬ (a.inc : Int) = (b.inc : Int) := by omega
      clear e
      simp [go_sem, k0, k1']
  · rw [decide_eq_false (fun h => k0 (e.1 h).1)]
    clear e
    simp [go_sem, k0]
theorem up_eq (a b : Up) (w : World) : (Op.equalIn 10000 63 (.agg #[.int .i64 a.node, .int .u32 (a.inc : Int), .int .i64 a.st]) (.agg #[.int .i64 b.node, .int .u32 (b.inc : Int), .int .i64 b.st])).run Tryz.prog w = .ok (decide (a = b)) w := up_eq_at 9998 a b w
end Go.Proofs.YtaicipldjmngaaaGreatDoor

namespace Go.Proofs.YtaicipldjmngaaaGreatDoor.ro
structure Ro where
  own : Int
  T : Int → Option Up
def put (T : Int → Option Up) (u : Up) : Int → Option Up := fun n => if n = u.node then some u else T n
theorem put_same (T : Int → Option Up) (u : Up) : put T u u.node = some u := by unfold put; rw [if_pos rfl]
theorem put_other (T : Int → Option Up) (u : Up) {n : Int} (h : n ≠ u.node) : put T u n = T n := by unfold put; rw [if_neg h]
structure Ro.ok (r : Ro) : Prop where
  at_ : ∀ n u, r.T n = some u → u.right = true ∧ u.node = n
  self : ∃ u, r.T r.own = some u
def Ro.new (self : Int) (inc : Nat) : Ro := ⟨self, fun n => if n = self then some ⟨self, inc, 0⟩ else none⟩
def Ro.selfU (r : Ro) : Up := (r.T r.own).getD ⟨0, 0, 0⟩
def zU : Up := ⟨0, 0, 0⟩
def Ro.apply (r : Ro) (u : Up) : Nat × Up × Up × Ro :=
  if u.right = false then (0, zU, zU, r)
  else if u.node = r.own then
    if r.selfU.st = 3 ∨ u.above r.selfU = false then (0, zU, zU, r)
    else if (refuteN r.selfU.inc u.inc).2 ≠ 0 then (4, r.selfU, r.selfU, r)
    else (3, r.selfU, ⟨r.own, (refuteN r.selfU.inc u.inc).1, 0⟩, ⟨r.own, put r.T ⟨r.own, (refuteN r.selfU.inc u.inc).1, 0⟩⟩)
  else match r.T u.node with
    | none => (1, zU, u, ⟨r.own, put r.T u⟩)
    | some old => if u.above old then (2, old, u, ⟨r.own, put r.T u⟩) else (0, zU, zU, r)
theorem Ro.selfU_eq {r : Ro} {u : Up} (h : r.T r.own = some u) : r.selfU = u := by unfold Ro.selfU; rw [h]; rfl
theorem Ro.ok.selfAt {r : Ro} (h : r.ok) : r.T r.own = some r.selfU ∧ r.selfU.right = true ∧ r.selfU.node = r.own := by
  obtain ⟨u, hu⟩ := h.self
  rw [Ro.selfU_eq hu]
  exact ⟨hu, h.at_ _ _ hu⟩
theorem right_of (node : Int) (inc : Nat) (st : Int) : (⟨node, inc, st⟩ : Up).right = true ↔ (0 ≤ node ∧ node < 8 ∧ (st = 0 ∨ st = 1 ∨ st = 2 ∨ st = 3)) := by unfold Up.right; simp
theorem Ro.ok.ownR {r : Ro} (h : r.ok) : 0 ≤ r.own ∧ r.own < 8 := by
  obtain ⟨_, h2, h3⟩ := h.selfAt
  unfold Up.right at h2
  have := of_decide_eq_true h2
  omega
theorem Ro.ok.new {self : Int} {inc : Nat} (h : 0 ≤ self ∧ self < 8) : (Ro.new self inc).ok := by
  refine ⟨fun n u hu => ?_, ⟨⟨self, inc, 0⟩, by unfold Ro.new; simp⟩⟩
  unfold Ro.new at hu
  simp only at hu
  split at hu
  · rename_i e
    cases hu
    exact ⟨(right_of _ _ _).2 ⟨h.1, h.2, .inl rfl⟩, e.symm⟩
  · cases hu
theorem Ro.ok.put {r : Ro} (h : r.ok) {u : Up} (hu : u.right = true) : (⟨r.own, put r.T u⟩ : Ro).ok := by
  refine ⟨fun n v hv0 => ?_, ?_⟩
  · have hv : Go.Proofs.YtaicipldjmngaaaGreatDoor.ro.put r.T u n = some v := hv0
    by_cases e : n = u.node
    · subst e
      rw [put_same] at hv
      cases hv
      exact ⟨hu, rfl⟩
    · rw [put_other _ _ e] at hv
      exact h.at_ n v hv
  · by_cases e : r.own = u.node
    · exact ⟨u, by show Go.Proofs.YtaicipldjmngaaaGreatDoor.ro.put r.T u r.own = _; rw [e, put_same]⟩
    · obtain ⟨v, hv⟩ := h.self
      exact ⟨v, by show Go.Proofs.YtaicipldjmngaaaGreatDoor.ro.put r.T u r.own = _; rw [put_other _ _ e]; exact hv⟩
theorem Ro.ok.apply {r : Ro} (h : r.ok) (u : Up) : (r.apply u).2.2.2.ok := by
  unfold Ro.apply
  split
  · exact h
  · rename_i hr
    have hr : u.right = true := by simpa using hr
    split
    · split
      · exact h
      · split
        · exact h
        · exact h.put ((right_of _ _ _).2 ⟨h.ownR.1, h.ownR.2, .inl rfl⟩)
    · split
      · exact h.put hr
      · split
        · exact h.put hr
        · exact h
theorem Ro.apply_own (r : Ro) (u : Up) : (r.apply u).2.2.2.own = r.own := by
  unfold Ro.apply
  repeat (first | rfl | split)
def Ro.all (r : Ro) (l : List Up) : Ro := l.foldl (fun r u => (r.apply u).2.2.2) r
def listTo (T : Int → Option Up) (m : Nat) : List Up := (List.range m).filterMap fun k : Nat => T (k : Int)
theorem listTo_succ (T : Int → Option Up) (m : Nat) : listTo T (m + 1) = listTo T m ++ (match T (m : Int) with
    | some u => [u]
    | none => []) := by
  unfold listTo
  rw [List.range_succ, List.filterMap_append]
  congr 1
  simp only [List.filterMap_cons, List.filterMap_nil]
  cases T (m : Int) <;> rfl
theorem listTo_some {T : Int → Option Up} {m : Nat} {x : Up} (h : T (m : Int) = some x) : listTo T (m + 1) = listTo T m ++ [x] := by rw [listTo_succ, h]
theorem listTo_none {T : Int → Option Up} {m : Nat} (h : T (m : Int) = none) : listTo T (m + 1) = listTo T m := by rw [listTo_succ, h, List.append_nil]
theorem listTo_len (T : Int → Option Up) (m : Nat) : (listTo T m).length ≤ m := by
  have := List.length_filterMap_le (fun k : Nat => T (k : Int)) (List.range m)
  simpa [listTo] using this
end Go.Proofs.YtaicipldjmngaaaGreatDoor.ro
