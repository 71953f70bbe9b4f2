import Derived.Test.YtaicipldjmngaaaGreatDoorZj1
import Derived.Maps.RangeWalk
import Derived.Maps.OwnSet
import Derived.Maps.AppendAt
import Derived.Lib.OwnBridge
import Derived.Sort.KeysCollected
namespace Go.Proofs.YtaicipldjmngaaaGreatDoor
open Go.RowKit Go.Maps
set_option linter.unusedSimpArgs false
structure ElemOf (α : Type) where
  enc : α → Value
  dat : α → DataW Unit
  rd : Value → Option (DataW Unit × List MemPlace)
  of : ∀ x, rd (enc x) = some (dat x, [])
  inv : ∀ {v z}, rd v = some z → ∃ x, v = enc x ∧ z = (dat x, [])
  inj : ∀ {x y}, dat x = dat y → x = y
structure KeyOf (P : Program) (K : TypeId) (κ : Type) where
  law : Keyed P K
  enc : κ → Value
  lit : κ → Lit
  wf : κ → Prop
  of : ∀ {k}, wf k → keyOf P K (enc k) = some (lit k)
  inv : ∀ {v l}, keyOf P K v = some l → ∃ k, v = enc k ∧ l = lit k ∧ wf k
  inj : ∀ {a b}, lit a = lit b → a = b
theorem KeyOf.isLit {P : Program} {K : TypeId} {κ : Type} (Y : KeyOf P K κ) {k : κ} (h : Y.wf k) : WideAt.IsKeyLit (Y.lit k) := Y.law.key (Y.of h)
def intKey {P : Program} {K : TypeId} {q : IntKind} (hK : P.underlying K = some (.int q)) : KeyOf P K Int where
  law := int_keyed hK
  enc := .int q
  lit := .int q
  wf z := (Lit.int q z).wf = true
  of h := keyOf_int_mk hK h
  inv h := by
    obtain ⟨x, h1, h2, h3⟩ := Maps.keyOf_int_inv hK h
    exact ⟨x, h1, h2, h3⟩
  inj h := by simpa using h
def unitEl : ElemOf Unit where
  enc _ := .agg #[]
  dat _ := .agg []
  rd := unitElem
  of _ := unitElem_mk
  inv h := ⟨(), (unitElem_inv h).1, (unitElem_inv h).2⟩
  inj _ := rfl
section
variable {P : Program} {K : TypeId} {κ α : Type} (Y : KeyOf P K κ) (E : ElemOf α)
def IsMap (w : World) (M : Nat) (m : κ → Option α) (n : Nat) : Prop :=
  ∃ D : DataW Unit, w.ownsMap P K E.rd M n D ∧ ∀ k, Y.wf k → has D (Y.lit k) = (m k).isSome ∧ ∀ x, m k = some x → ∀ z, D.atKey (Y.lit k) z = E.dat x
variable {Y E} {w w' : World} {M n : Nat} {m m' : κ → Option α}
theorem IsMap.lt (h : IsMap Y E w M m n) : M < w.heap.size := by
  obtain ⟨D, h, _⟩ := h
  exact h.lt
theorem IsMap.not_cells (h : IsMap Y E w M m n) {cur : Array Value} {t : TypeId} {f : Nat × Nat} : w.heap[M]? ≠ some (.cells cur t f) := by
  obtain ⟨D, ⟨es, clock, hb, _⟩, _⟩ := h
  rw [hb]
  simp
theorem IsMap.made (w : World) : IsMap Y E (w.alloc (.map #[] 0)) w.heap.size (fun _ => none) 0 :=
  ⟨.map [], World.ownsMap_made _ _ _ _, fun _ _ => ⟨rfl, fun _ h => by cases h⟩⟩
theorem IsMap.block (h : IsMap Y E w M m n) (hb : w'.heap[M]? = w.heap[M]?) : IsMap Y E w' M m n := by
  obtain ⟨D, ⟨es, clock, hb', r⟩, h2⟩ := h
  exact ⟨D, ⟨es, clock, hb.trans hb', r⟩, h2⟩
theorem IsMap.congr (h : IsMap Y E w M m n) (e : ∀ k, Y.wf k → m k = m' k) : IsMap Y E w M m' n := by
  obtain ⟨D, h1, h2⟩ := h
  exact ⟨D, h1, fun k hw => by rw [← e k hw]; exact h2 k hw⟩
theorem IsMap.look_aux {D : DataW Unit} {k : κ} (h2 : has D (Y.lit k) = (m k).isSome ∧ ∀ x, m k = some x → ∀ z, D.atKey (Y.lit k) z = E.dat x) (z : α) {v : Value} {ps : List MemPlace} (hR : E.rd v = some (D.atKey (Y.lit k) (E.dat z), ps)) : v = E.enc ((m k).getD z) := by
  obtain ⟨h3, h4⟩ := h2
  obtain ⟨x, rfl, hx⟩ := E.inv hR
  simp only [Prod.mk.injEq] at hx
  congr 1
  cases hm : m k with
  | none =>
    rw [hm] at h3
    have := atKey_of_not_has h3 (E.dat z)
    rw [this] at hx
    exact (E.inj hx.1).symm
  | some y =>
    rw [h4 y hm] at hx
    exact (E.inj hx.1).symm
theorem IsMap.look (h : IsMap Y E w M m n) {T T2 : TypeId} (hT : P.underlying T = some (.map K T2)) (z : α) (hz : (zeroValue T2).run P w = .ok (E.enc z) w) {k : κ} (hk : Y.wf k) :
    (Instr.lookup T (.map (some M)) (Y.enc k) true).run P w = .ok (.tuple #[E.enc ((m k).getD z), .bool (m k).isSome]) w := by
  obtain ⟨D, ho, h2⟩ := h
  obtain ⟨u, ps, hrun, hR⟩ := ho.look_ok Y.law hT hz (E.of z) (Y.of hk)
  rw [hrun, (h2 k hk).1, IsMap.look_aux (h2 k hk) z hR]
theorem IsMap.look1 (h : IsMap Y E w M m n) {T T2 : TypeId} (hT : P.underlying T = some (.map K T2)) (z : α) (hz : (zeroValue T2).run P w = .ok (E.enc z) w) {k : κ} (hk : Y.wf k) :
    (Instr.lookup T (.map (some M)) (Y.enc k) false).run P w = .ok (E.enc ((m k).getD z)) w := by
  obtain ⟨D, ho, h2⟩ := h
  obtain ⟨u, ps, hrun, hR⟩ := ho.lookup Y.law hT hz (E.of z) (Y.of hk)
  rw [hrun, IsMap.look_aux (h2 k hk) z hR]
def putM [DecidableEq κ] (m : κ → Option α) (k : κ) (x : Option α) : κ → Option α := fun j => if j = k then x else m j
theorem putM_same [DecidableEq κ] (m : κ → Option α) (k : κ) (x : Option α) : putM m k x k = x := if_pos rfl
theorem putM_other [DecidableEq κ] (m : κ → Option α) {k j : κ} (x : Option α) (h : j ≠ k) : putM m k x j = m j := if_neg h
theorem IsMap.put [DecidableEq κ] (h : IsMap Y E w M m n) {T T2 : TypeId} (hT : P.underlying T = some (.map K T2)) {k : κ} (hk : Y.wf k) (x : α) (hn : n < maxLen) :
    ∃ w', (Instr.mapUpdate T (.map (some M)) (Y.enc k) (E.enc x)).run P w = .ok () w' ∧ IsMap Y E w' M (putM m k (some x)) (n + 1) ∧ w.grownBy w' (some M) ∧ w'.heap.size = w.heap.size := by
  obtain ⟨D, ho, h2⟩ := h
  obtain ⟨w', hrun, ho', ht⟩ := ho.store Y.law hT hn (Y.of hk) (E.of x)
  refine ⟨w', hrun, ⟨_, ho', fun j hj => ?_⟩, ht.grown, ?_⟩
  · by_cases e : j = k
    · subst e
      rw [putM_same]
      exact ⟨has_put_same ho.isMap (Y.isLit hk) _, fun y hy z => by cases hy; exact atKey_put_same ho.isMap (Y.isLit hk) _ z⟩
    · have hl : Y.lit j ≠ Y.lit k := fun h => e (Y.inj h)
      rw [putM_other _ _ e, has_put_other hl]
      exact ⟨(h2 j hj).1, fun y hy z => by rw [atKey_put_other hl]; exact (h2 j hj).2 y hy z⟩
  · obtain ⟨_, _, _, _, _, rfl⟩ := ht
    simp [ChangeMaps.setBlock]
theorem IsMap.drop [DecidableEq κ] (h : IsMap Y E w M m n) {T T2 : TypeId} (hT : P.underlying T = some (.map K T2)) {k : κ} (hk : Y.wf k) (ty : TypeId) :
    ∃ w', (Builtin.delete_ #[T, K] ty #[.map (some M), Y.enc k]).run P w = .ok (.tuple #[]) w' ∧ IsMap Y E w' M (putM m k none) n ∧ w.grownBy w' (some M) ∧ w'.heap.size = w.heap.size := by
  obtain ⟨D, ho, h2⟩ := h
  obtain ⟨w', hrun, ho', ht⟩ := ho.drop Y.law hT (Y.of hk) ty
  refine ⟨w', hrun, ⟨_, ho', fun j hj => ?_⟩, ht.grown, ?_⟩
  · by_cases e : j = k
    · subst e
      rw [putM_same]
      exact ⟨has_del_same, fun y hy => by cases hy⟩
    · have hl : Y.lit j ≠ Y.lit k := fun h => e (Y.inj h)
      rw [putM_other _ _ e, has_del_other hl]
      exact ⟨(h2 j hj).1, fun y hy z => by rw [atKey_del_other hl]; exact (h2 j hj).2 y hy z⟩
  · obtain ⟨_, _, _, _, _, rfl⟩ := ht
    simp [ChangeMaps.setBlock]
structure KeysAre (Y : KeyOf P K κ) (m : κ → Option α) (ks : List κ) : Prop where
  once : ks.Nodup
  wf : ∀ k ∈ ks, Y.wf k
  just : ∀ k, Y.wf k → ((m k).isSome = true ↔ k ∈ ks)
theorem has_key {D : DataW Unit} (ho : w.ownsMap P K E.rd M n D) {k : κ} (hk : Y.wf k) : has D (Y.lit k) = true ↔ ∃ es, D = .map es ∧ Y.lit k ∈ es.map (·.1) := by
  obtain ⟨es, hD, _, hlit⟩ := ho.entries Y.law
  subst hD
  rw [has_eq, List.any_eq_true]
  constructor
  · rintro ⟨p, hp, hs⟩
    refine ⟨es, rfl, ?_⟩
    by_cases e : p.1 = Y.lit k
    · rw [← e]; exact List.mem_map.2 ⟨p, hp, rfl⟩
    · rw [sameKey_ne e] at hs; cases hs
  · rintro ⟨es', e, hm⟩
    cases e
    obtain ⟨p, hp, e⟩ := List.mem_map.1 hm
    exact ⟨p, hp, by rw [e]; exact WideAt.sameKey_self (Y.isLit hk)⟩
theorem IsMap.keys {D : DataW Unit} (ho : w.ownsMap P K E.rd M n D) (h2 : ∀ k, Y.wf k → has D (Y.lit k) = (m k).isSome ∧ ∀ x, m k = some x → ∀ z, D.atKey (Y.lit k) z = E.dat x) {ks : List κ} (hk : KeysAre Y m ks) : Maps.size D = ks.length := by
  obtain ⟨es, hD, hpw, _⟩ := ho.entries Y.law
  obtain ⟨es', hD', hko⟩ := ho.keysOf
  obtain rfl : es = es' := by rw [hD] at hD'; simpa using hD'
  have hp : (ks.map Y.lit).Perm (es.map (·.1)) := by
    refine (List.perm_ext_iff_of_nodup ?_ ?_).2 fun l => ?_
    · exact List.pairwise_map.2 (hk.once.imp (fun hne e => hne (Y.inj e)))
    · exact List.pairwise_map.2 hpw
    · constructor
      · intro hl
        obtain ⟨k, hkm, rfl⟩ := List.mem_map.1 hl
        have h3 := (h2 k (hk.wf k hkm)).1
        rw [(hk.just k (hk.wf k hkm)).2 hkm] at h3
        obtain ⟨es2, e, hm⟩ := (has_key ho (hk.wf k hkm)).1 h3
        rw [hD] at e
        cases e
        exact hm
      · intro hl
        obtain ⟨p, hpm, rfl⟩ := List.mem_map.1 hl
        obtain ⟨v, hv⟩ := hko p hpm
        obtain ⟨k, _, e, hwf⟩ := Y.inv hv
        rw [e]
        refine List.mem_map.2 ⟨k, (hk.just k hwf).1 ?_, rfl⟩
        rw [← (h2 k hwf).1]
        exact (has_key ho hwf).2 ⟨es, hD, by rw [← e]; exact hl⟩
  have := hp.length_eq
  rw [List.length_map, List.length_map] at this
  rw [hD]
  exact this.symm
theorem IsMap.count (h : IsMap Y E w M m n) {ks : List κ} (hk : KeysAre Y m ks) : IsMap Y E w M m ks.length := by
  obtain ⟨D, ho, h2⟩ := h
  have h3 := IsMap.keys ho h2 hk
  refine ⟨D, ?_, h2⟩
  obtain ⟨es, clock, hb, F, hs, hD⟩ := ho
  refine ⟨es, clock, hb, F, ?_, hD⟩
  rw [← h3, hD]
  simp [Maps.size, length_sorted]
theorem IsMap.len (h : IsMap Y E w M m n) {T T2 : TypeId} (hT : P.underlying T = some (.map K T2)) {ks : List κ} (hk : KeysAre Y m ks) (ty : TypeId) :
    (Builtin.len_ #[T] ty #[.map (some M)]).run P w = .ok (.int .i64 (ks.length : Int)) w := by
  obtain ⟨D, ho, h2⟩ := h
  rw [ho.len hT ty, IsMap.keys ho h2 hk]
def CollK (Y : KeyOf P K κ) (D : DataW Unit) (left : Lit → Bool) (ks : List κ) : Prop := ks.Nodup ∧ (∀ k ∈ ks, Y.wf k) ∧ ∀ k, Y.wf k → (k ∈ ks ↔ has D (Y.lit k) = true ∧ left (Y.lit k) = false)
theorem CollK.start (Y : KeyOf P K κ) (D : DataW Unit) : CollK Y D (has D) [] := ⟨List.nodup_nil, by simp, fun k _ => by cases has D (Y.lit k) <;> simp⟩
theorem CollK.step {D : DataW Unit} {left : Lit → Bool} {ks : List κ} (h : CollK Y D left ks) {k : κ} (hk : Y.wf k) {y : DataW Unit} (hlk : left (Y.lit k) = true) (hat : ∀ zd, D.atKey (Y.lit k) zd = y) : CollK Y D (fun z => left z && !z.sameKey (Y.lit k)) (ks ++ [k]) := by
  have hhas : has D (Y.lit k) = true := has_true_of_atKey hat
  have hnew : k ∉ ks := fun hx => by
    have := ((h.2.2 k hk).1 hx).2
    rw [hlk] at this
    cases this
  refine ⟨List.nodup_append.2 ⟨h.1, by simp, fun a ha b hb => by simp at hb; subst hb; exact fun e => hnew (e ▸ ha)⟩, fun j hj => ?_, fun j hj => ?_⟩
  · rcases List.mem_append.1 hj with e | e
    · exact h.2.1 j e
    · rw [List.mem_singleton.1 e]; exact hk
  · by_cases e : j = k
    · subst e
      simp [hhas, WideAt.sameKey_self (Y.isLit hk)]
    · have hl : Y.lit j ≠ Y.lit k := fun h => e (Y.inj h)
      simp [h.2.2 j hj, e, sameKey_ne hl]
theorem CollK.done {D : DataW Unit} {left : Lit → Bool} {ks pre : List κ} (h : CollK Y D left pre) (hl : ∀ l, left l = false) (h2 : ∀ k, Y.wf k → has D (Y.lit k) = (m k).isSome ∧ ∀ x, m k = some x → ∀ z, D.atKey (Y.lit k) z = E.dat x) (hk : KeysAre Y m ks) : pre.Perm ks := by
  refine (List.perm_ext_iff_of_nodup h.1 hk.once).2 fun k => ⟨fun hm => ?_, fun hm => ?_⟩
  · have hw := h.2.1 k hm
    refine (hk.just k hw).1 ?_
    rw [← (h2 k hw).1]
    exact ((h.2.2 k hw).1 hm).1
  · have hw := hk.wf k hm
    refine (h.2.2 k hw).2 ⟨?_, hl _⟩
    rw [(h2 k hw).1]
    exact (hk.just k hw).2 hm
end
end Go.Proofs.YtaicipldjmngaaaGreatDoor
