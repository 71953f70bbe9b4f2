import Derived.Test.YtilkbfmaofmjoaaGreatDoorZj5
import Derived.Test.YtilkbfmaofmjoaaGreatDoorZj6
import Derived.Test.YtilkbfmaofmjoaaGreatDoorZj8
import Derived.Laws.StructEq
namespace Go.Proofs.YtilkbfmaofmjoaaGreatDoor
open Go Go.RowKit
set_option linter.unusedSimpArgs false
set_option linter.unusedVariables false
structure NdA where
  node : Int
  addr : ByteArray
structure SvA where
  node : Int
  id : ByteArray
  name : ByteArray
  tags : List ByteArray
  port : Int
structure CkA where
  node : Int
  id : ByteArray
  svc : ByteArray
  note : ByteArray
  status : Int
def NdA.key (x : NdA) : ByteArray := keyO x.node noT
def SvA.key (x : SvA) : ByteArray := keyO x.node x.id
def CkA.key (x : CkA) : ByteArray := keyO x.node x.id
section
variable {α β : Type}
def rwMap (f : α → β) (r : Rw α) : Rw β := ⟨r.key, f r.val, r.made, r.ix⟩
def Tb.cut (t : Tb α) (p : α → Bool) (i : Nat) : Tb α := if t.l.any (fun r => p r.val) then { t with l := t.l.filter fun r => !p r.val, last := max t.last i } else t
def Tb.drops (t : Tb α) (i : Nat) : List ByteArray → Tb α
  | [] => t
  | k :: q => Tb.drops (t.dropT k i) i q
def Tb.map (f : α → β) (t : Tb α) : Tb β := ⟨t.most, t.l.map (rwMap f), t.last⟩
variable (f : α → β)
theorem getR_map (l : List (Rw α)) (k : ByteArray) : getR (l.map (rwMap f)) k = (getR l k).map (rwMap f) := by
  unfold getR
  rw [List.find?_map]
  rfl
theorem undR_map (l : List (Rw α)) (k : ByteArray) : undR (l.map (rwMap f)) k = (undR l k).map (rwMap f) := by
  unfold undR
  rw [List.filter_map]
  rfl
theorem layR_map (r : Rw α) : ∀ (b : Bool) (l : List (Rw α)), layR (rwMap f r) b (l.map (rwMap f)) = (layR r b l).map (rwMap f)
  | b, [] => by
    cases b <;> rfl
  | b, x :: l => by
    rw [List.map_cons, layR, layR]
    rw [layR_map r true l, layR_map r b l]
    show (if (x.key.toList == r.key.toList) = true then _ else if (!b && ltT r.key x.key) = true then _ else _) = _
    split
    · rfl
    · split <;> rfl
theorem Tb.row_map (t : Tb α) (k : ByteArray) (v : α) (i : Nat) : (t.map f).row k (f v) i = rwMap f (t.row k v i) := by
  unfold Tb.row Tb.map
  simp only
  rw [getR_map]
  cases getR t.l k <;> rfl
theorem Tb.fullB_map (t : Tb α) (k : ByteArray) : (t.map f).fullB k = t.fullB k := by
  unfold Tb.fullB Tb.map
  simp only
  rw [getR_map, List.length_map]
  cases getR t.l k <;> rfl
theorem Tb.put_map (t : Tb α) (k : ByteArray) (v : α) (i : Nat) : (t.map f).put k (f v) i = (t.put k v i).map f := by
  unfold Tb.put
  rw [Tb.row_map]
  unfold Tb.map
  simp only
  rw [layR_map]
theorem Tb.putT_map (t : Tb α) (k : ByteArray) (v : α) (i : Nat) : (t.map f).putT k (f v) i = (t.putT k v i).map f := by
  unfold Tb.putT
  rw [Tb.fullB_map, Tb.put_map]
  split <;> rfl
variable {f}
theorem Tb.Ok.dropT {t : Tb α} (h : t.Ok) (k : ByteArray) {i : Nat} (hi : i < 18446744073709551616) : (t.dropT k i).Ok := by
  unfold Tb.dropT
  split
  · exact h.drop k hi
  · exact h
theorem Tb.Ok.drops {i : Nat} (hi : i < 18446744073709551616) : ∀ (q : List ByteArray) {t : Tb α}, t.Ok → (t.drops i q).Ok
  | [], t, h => h
  | k :: q, t, h => Tb.Ok.drops hi q (h.dropT k hi)
theorem fullB_ok {t : Tb α} {k : ByteArray} (h : t.fullB k = false) : ¬ t.full k := by
  rintro ⟨a, b⟩
  unfold Tb.fullB at h
  rw [a, decide_eq_true b] at h
  cases h
theorem Tb.Ok.putT {t : Tb α} (h : t.Ok) (k : ByteArray) (v : α) {i : Nat} (hi : i < 18446744073709551616) (hk : k.size ≤ maxLen) : (t.putT k v i).Ok := by
  unfold Tb.putT
  split
  · exact h
  · rename_i hf
    exact h.put k v hi hk (fullB_ok (by simpa using hf))
theorem SR.uniq {l : List (Rw α)} (h : SR l) {x y : Rw α} (hx : x ∈ l) (hy : y ∈ l) (e : x.key = y.key) : x = y := by
  obtain ⟨i, hi, rfl⟩ := List.getElem_of_mem hx
  obtain ⟨j, hj, rfl⟩ := List.getElem_of_mem hy
  rcases Nat.lt_trichotomy i j with q | q | q
  · have := h.get hj q
    rw [e, ltT_irr] at this; cases this
  · subst q; rfl
  · have := h.get hi q
    rw [e, ltT_irr] at this; cases this
theorem getR_iff {l : List (Rw α)} {k : ByteArray} : (getR l k).isSome = true ↔ ∃ r ∈ l, r.key = k := by
  unfold getR
  rw [List.find?_isSome]
  constructor
  · rintro ⟨x, hx, h⟩
    exact ⟨x, hx, text_same.1 h⟩
  · rintro ⟨x, hx, h⟩
    exact ⟨x, hx, text_same.2 h⟩
theorem getR_mem {l : List (Rw α)} {k : ByteArray} {r : Rw α} (h : getR l k = some r) : r ∈ l ∧ r.key = k := by
  unfold getR at h
  exact ⟨List.mem_of_find?_eq_some h, text_same.1 (by simpa using List.find?_some h)⟩
def inQ (q : List ByteArray) (k : ByteArray) : Bool := q.any fun k2 => k.toList == k2.toList
theorem inQ_iff {q : List ByteArray} {k : ByteArray} : inQ q k = true ↔ k ∈ q := by
  unfold inQ
  rw [List.any_eq_true]
  constructor
  · rintro ⟨x, hx, h⟩
    exact text_same.1 h ▸ hx
  · exact fun h => ⟨k, h, text_same.2 rfl⟩
theorem inQ_not {q : List ByteArray} {k : ByteArray} : inQ q k = false ↔ ¬ k ∈ q := by
  rw [← inQ_iff, Bool.not_eq_true]
theorem drops_is (i : Nat) : ∀ (q : List ByteArray) (t : Tb α), (∀ k ∈ q, ∃ x ∈ t.l, x.key = k) → q.Nodup → t.drops i q = if q = [] then t else { t with l := t.l.filter fun x => !inQ q x.key, last := max t.last i }
  | [], t, _, _ => rfl
  | k :: q, t, h, hn => by
    rw [if_neg (by simp)]
    rw [List.nodup_cons] at hn
    have hg : (getR t.l k).isSome = true := getR_iff.2 (h k (List.mem_cons_self ..))
    have h1 : t.dropT k i = { t with l := offR t.l k, last := max t.last i } := by
      unfold Tb.dropT Tb.drop
      rw [if_pos hg]
    show (t.dropT k i).drops i q = _
    rw [h1, drops_is i q _ (fun k2 h2 => ?_) hn.2]
    · by_cases hq : q = []
      · subst hq
        rw [if_pos rfl]
        unfold offR
        simp only [Tb.mk.injEq, true_and, and_true]
        apply List.filter_congr
        intro x _
        rw [Bool.eq_iff_iff]
        simp only [Bool.not_eq_true']
        rw [text_other, inQ_not, List.mem_singleton]
      · rw [if_neg hq]
        unfold offR
        simp only [Tb.mk.injEq, true_and]
        refine ⟨?_, by rw [Nat.max_assoc, Nat.max_self]⟩
        rw [List.filter_filter]
        apply List.filter_congr
        intro x _
        rw [Bool.eq_iff_iff]
        simp only [Bool.and_eq_true, Bool.not_eq_true']
        rw [text_other, inQ_not, inQ_not, List.mem_cons, not_or]
        exact And.comm
    · obtain ⟨x, hx, e⟩ := h k2 (List.mem_cons_of_mem _ h2)
      exact ⟨x, mem_off.2 ⟨hx, fun e2 => hn.1 (by rw [← e2, e]; exact h2)⟩, e⟩
theorem SR.keys {l : List (Rw α)} (h : SR l) : (l.map (·.key)).Nodup := by
  unfold List.Nodup SR at *
  rw [List.pairwise_map]
  exact h.imp fun h => ltT_ne h
theorem drops_cut {t : Tb α} (h : SR t.l) (p : α → Bool) (i : Nat) : t.drops i ((t.l.filter fun r => p r.val).map (·.key)) = t.cut p i := by
  have hs : SR (t.l.filter fun r => p r.val) := List.Pairwise.filter _ h
  rw [drops_is i _ t (fun k hk => ?_) hs.keys]
  · unfold Tb.cut
    cases e : t.l.any fun r => p r.val with
    | false =>
      rw [if_pos, if_neg (by simp)]
      rw [List.map_eq_nil_iff, List.filter_eq_nil_iff]
      intro x hx hp
      rw [List.any_eq_false] at e
      exact e x hx hp
    | true =>
      rw [if_neg, if_pos rfl]
      · simp only [Tb.mk.injEq, true_and, and_true]
        apply List.filter_congr
        intro x hx
        rw [Bool.eq_iff_iff]
        simp only [Bool.not_eq_true']
        rw [inQ_not, ← Bool.not_eq_true, List.mem_map]
        refine not_congr ⟨?_, fun hp => ⟨x, List.mem_filter.2 ⟨hx, hp⟩, rfl⟩⟩
        rintro ⟨y, hy, e2⟩
        obtain ⟨hy, hp⟩ := List.mem_filter.1 hy
        exact (h.uniq hy hx e2) ▸ hp
      · rw [List.any_eq_true] at e
        obtain ⟨x, hx, hp⟩ := e
        intro e2
        rw [List.map_eq_nil_iff, List.filter_eq_nil_iff] at e2
        exact e2 x hx hp
  · obtain ⟨x, hx, rfl⟩ := List.mem_map.1 hk
    exact ⟨x, (List.mem_filter.1 hx).1, rfl⟩
theorem cut_mem {t : Tb α} {p : α → Bool} {i : Nat} {r : Rw α} (h : r ∈ (t.cut p i).l) : r ∈ t.l ∧ p r.val = false := by
  unfold Tb.cut at h
  split at h
  · have := List.mem_filter.1 h
    exact ⟨this.1, by simpa using this.2⟩
  · rename_i e
    rw [Bool.not_eq_true, List.any_eq_false] at e
    exact ⟨h, by simpa using e r h⟩
theorem mem_cut {t : Tb α} {p : α → Bool} {i : Nat} {r : Rw α} (h : r ∈ t.l) (hp : p r.val = false) : r ∈ (t.cut p i).l := by
  unfold Tb.cut
  split
  · exact List.mem_filter.2 ⟨h, by simp [hp]⟩
  · exact h
theorem Tb.Ok.cut {t : Tb α} (h : t.Ok) (p : α → Bool) {i : Nat} (hi : i < 18446744073709551616) : (t.cut p i).Ok := by
  rw [← drops_cut h.rise]
  exact Tb.Ok.drops hi _ h
end
structure Ro where
  n : Tb NdA
  s : Tb SvA
  c : Tb CkA
def Ro.new (m : Nat) : Ro := ⟨⟨m, [], 0⟩, ⟨m, [], 0⟩, ⟨m, [], 0⟩⟩
def Ro.there (d : Ro) (node : Int) : Bool := (getR d.n.l (keyO node noT)).isSome
def Ro.has (d : Ro) (node : Int) (id : ByteArray) : Bool := (getR d.s.l (keyO node id)).isSome
def wrongN (x : NdA) : Nat := if nodeB x.node = false then 2 else if 32 < x.addr.size then 3 else 0
def Ro.wrongS (d : Ro) (x : SvA) : Nat := if nodeB x.node = false ∨ x.port < 0 ∨ 65535 < x.port then 2 else if rightB x.id.data.toList = false ∨ rightB x.name.data.toList = false ∨ tagsB x.tags = false then 10 else if d.there x.node = false then 4 else 0
def Ro.wrongC (d : Ro) (x : CkA) : Nat := if nodeB x.node = false ∨ x.status < 0 ∨ 3 < x.status then 2 else if rightB x.id.data.toList = false ∨ (x.svc ≠ noT ∧ rightB x.svc.data.toList = false) then 10 else if 32 < x.note.size then 3 else if d.there x.node = false ∨ (x.svc ≠ noT ∧ d.has x.node x.svc = false) then 4 else 0
def layE {α : Type} (t : Tb α) (k : ByteArray) : Nat := if t.fullB k then 5 else 0
def Ro.node (d : Ro) (x : NdA) (i : Nat) : Nat × Ro := if wrongN x ≠ 0 then (wrongN x, d) else (layE d.n x.key, { d with n := d.n.putT x.key x i })
def Ro.service (d : Ro) (x : SvA) (i : Nat) : Nat × Ro := if d.wrongS x ≠ 0 then (d.wrongS x, d) else (layE d.s x.key, { d with s := d.s.putT x.key x i })
def Ro.check (d : Ro) (x : CkA) (i : Nat) : Nat × Ro := if d.wrongC x ≠ 0 then (d.wrongC x, d) else (layE d.c x.key, { d with c := d.c.putT x.key x i })
def Ro.dropN (d : Ro) (node : Int) (i : Nat) : Nat × Ro := if d.there node = false then (4, d) else (0, ⟨d.n.dropT (keyO node noT) i, d.s.cut (fun v => decide (v.node = node)) i, d.c.cut (fun v => decide (v.node = node)) i⟩)
def ofSvc (node : Int) (id : ByteArray) (v : CkA) : Bool := decide (v.node = node) && (v.svc.toList == id.toList)
def Ro.dropS (d : Ro) (node : Int) (id : ByteArray) (i : Nat) : Nat × Ro := if d.has node id = false then (4, d) else (0, ⟨d.n, d.s.dropT (keyO node id) i, d.c.cut (ofSvc node id) i⟩)
def Ro.dropC (d : Ro) (node : Int) (id : ByteArray) (i : Nat) : Nat × Ro := if (getR d.c.l (keyO node id)).isSome = false then (4, d) else (0, { d with c := d.c.dropT (keyO node id) i })
def forSvc (svc : ByteArray) (v : CkA) : Bool := (v.svc.toList == noT.toList) || (v.svc.toList == svc.toList)
def worst (svc : ByteArray) (m : Int) (l : List (Rw CkA)) : Int := l.foldl (fun m r => if forSvc svc r.val then max m r.val.status else m) m
def Ro.health (d : Ro) (node : Int) (svc : ByteArray) : Int := worst svc 0 (d.c.l.filter fun r => decide (r.val.node = node))
structure NdOk (x : NdA) : Prop where
  node : nodeB x.node = true
  addr : x.addr.size ≤ 32
structure SvOk (x : SvA) : Prop where
  node : nodeB x.node = true
  port : 0 ≤ x.port ∧ x.port ≤ 65535
  id : rightB x.id.data.toList = true
  name : rightB x.name.data.toList = true
  tags : tagsB x.tags = true
structure CkOk (x : CkA) : Prop where
  node : nodeB x.node = true
  status : 0 ≤ x.status ∧ x.status ≤ 3
  id : rightB x.id.data.toList = true
  svc : x.svc = noT ∨ rightB x.svc.data.toList = true
  note : x.note.size ≤ 32
structure RoOk (m : Nat) (d : Ro) : Prop where
  most : 1 ≤ m ∧ m ≤ 64
  nm : d.n.most = m
  sm : d.s.most = m
  cm : d.c.most = m
  nok : d.n.Ok
  sok : d.s.Ok
  cok : d.c.Ok
  nr : ∀ r ∈ d.n.l, r.key = r.val.key ∧ NdOk r.val
  sr : ∀ r ∈ d.s.l, r.key = r.val.key ∧ SvOk r.val ∧ d.there r.val.node = true
  cr : ∀ r ∈ d.c.l, r.key = r.val.key ∧ CkOk r.val ∧ d.there r.val.node = true ∧ (r.val.svc = noT ∨ d.has r.val.node r.val.svc = true)
theorem right_len {l : List UInt8} (h : rightB l = true) : 1 ≤ l.length ∧ l.length ≤ 24 := by
  constructor
  · rcases Nat.lt_or_ge l.length 1 with e | e
    · rw [right_short (.inl e)] at h; cases h
    · exact e
  · rcases Nat.lt_or_ge 24 l.length with e | e
    · rw [right_short (.inr e)] at h; cases h
    · exact e
theorem data_len (x : ByteArray) : x.data.toList.length = x.size := by
  show _ = x.data.size
  simp
theorem NdOk.key {x : NdA} (h : NdOk x) : x.key.size ≤ maxLen := by
  unfold NdA.key
  rw [keyO_size h.node]
  decide
theorem SvOk.key {x : SvA} (h : SvOk x) : x.key.size ≤ maxLen := by
  unfold SvA.key
  rw [keyO_size h.node]
  have := (right_len h.id).2
  rw [data_len] at this
  unfold maxLen
  omega
theorem CkOk.key {x : CkA} (h : CkOk x) : x.key.size ≤ maxLen := by
  unfold CkA.key
  rw [keyO_size h.node]
  have := (right_len h.id).2
  rw [data_len] at this
  unfold maxLen
  omega
theorem RoOk.new (m : Int) : RoOk (mostT m) (Ro.new (mostT m)) :=
  ⟨mostT_le m, rfl, rfl, rfl, Tb.Ok.new m, Tb.Ok.new m, Tb.Ok.new m, by simp [Ro.new], by simp [Ro.new], by simp [Ro.new]⟩
theorem layR_has {α : Type} {l : List (Rw α)} (hs : SR l) (r : Rw α) {k : ByteArray} (h : (getR l k).isSome = true) : (getR (layR r false l) k).isSome = true := by
  obtain ⟨x, hx, rfl⟩ := getR_iff.1 h
  rw [getR_iff]
  by_cases hh : hasR l r.key
  · rw [lay_old r hs hh]
    obtain ⟨i, hi, rfl⟩ := List.getElem_of_mem hx
    by_cases e : plc l r.key = i
    · refine ⟨r, List.mem_iff_getElem.2 ⟨plc l r.key, by rw [List.length_set]; exact hh.1, by simp⟩, ?_⟩
      have := hh.2
      simp only [e] at this
      exact this.symm
    · exact ⟨l[i], List.mem_iff_getElem.2 ⟨i, by rw [List.length_set]; exact hi, by rw [List.getElem_set_ne e]⟩, rfl⟩
  · rw [lay_new r hs hh]
    refine ⟨x, ?_, rfl⟩
    rw [← List.take_append_drop (plc l r.key) l] at hx
    rcases List.mem_append.1 hx with hx | hx
    · exact List.mem_append.2 (.inl hx)
    · exact List.mem_append.2 (.inr (List.mem_cons_of_mem _ hx))
theorem putT_has {α : Type} {t : Tb α} (hs : SR t.l) (k : ByteArray) (v : α) (i : Nat) {k2 : ByteArray} (h : (getR t.l k2).isSome = true) : (getR (t.putT k v i).l k2).isSome = true := by
  unfold Tb.putT
  split
  · exact h
  · exact layR_has hs _ h
theorem putT_mem {α : Type} {t : Tb α} {k : ByteArray} {v : α} {i : Nat} {r : Rw α} (h : r ∈ (t.putT k v i).l) : (r.key = k ∧ r.val = v) ∨ r ∈ t.l := by
  unfold Tb.putT at h
  split at h
  · exact .inr h
  · rcases mem_lay h with rfl | h
    · exact .inl ⟨rfl, rfl⟩
    · exact .inr h
theorem putT_most {α : Type} (t : Tb α) (k : ByteArray) (v : α) (i : Nat) : (t.putT k v i).most = t.most := by
  unfold Tb.putT
  split <;> rfl
theorem dropT_most {α : Type} (t : Tb α) (k : ByteArray) (i : Nat) : (t.dropT k i).most = t.most := by
  unfold Tb.dropT
  split <;> rfl
theorem cut_most {α : Type} (t : Tb α) (p : α → Bool) (i : Nat) : (t.cut p i).most = t.most := by
  unfold Tb.cut
  split <;> rfl
theorem dropT_mem {α : Type} {t : Tb α} {k : ByteArray} {i : Nat} {r : Rw α} (h : r ∈ (t.dropT k i).l) : r ∈ t.l ∧ r.key ≠ k := by
  unfold Tb.dropT at h
  split at h
  · exact mem_off.1 h
  · rename_i e
    refine ⟨h, fun e2 => e (getR_iff.2 ⟨r, h, e2⟩)⟩
theorem mem_dropT {α : Type} {t : Tb α} {k : ByteArray} {i : Nat} {r : Rw α} (h : r ∈ t.l) (hk : r.key ≠ k) : r ∈ (t.dropT k i).l := by
  unfold Tb.dropT
  split
  · exact mem_off.2 ⟨h, hk⟩
  · exact h
theorem wrongN_ok {x : NdA} : wrongN x = 0 ↔ NdOk x := by
  unfold wrongN
  constructor
  · intro h
    split at h
    · cases h
    · split at h
      · cases h
      · rename_i h1 h2
        exact ⟨by simpa using h1, by omega⟩
  · rintro ⟨h1, h2⟩
    rw [if_neg (by rw [h1]; simp), if_neg (by omega)]
theorem wrongS_ok {d : Ro} {x : SvA} : d.wrongS x = 0 ↔ SvOk x ∧ d.there x.node = true := by
  unfold Ro.wrongS
  constructor
  · intro h
    split at h
    · cases h
    · split at h
      · cases h
      · split at h
        · cases h
        · rename_i h1 h2 h3
          simp only [not_or, Bool.not_eq_false, Int.not_lt] at h1 h2 h3
          exact ⟨⟨h1.1, h1.2, h2.1, h2.2.1, h2.2.2⟩, h3⟩
  · rintro ⟨⟨h1, h2, h3, h4, h5⟩, h6⟩
    rw [if_neg (by rw [h1]; simp; omega), if_neg (by rw [h3, h4, h5]; simp), if_neg (by rw [h6]; simp)]
theorem wrongC_ok {d : Ro} {x : CkA} : d.wrongC x = 0 ↔ CkOk x ∧ d.there x.node = true ∧ (x.svc = noT ∨ d.has x.node x.svc = true) := by
  unfold Ro.wrongC
  constructor
  · intro h
    split at h
    · cases h
    · split at h
      · cases h
      · split at h
        · cases h
        · split at h
          · cases h
          · rename_i h1 h2 h3 h4
            simp only [not_or, Bool.not_eq_false, Int.not_lt, not_and, ne_eq] at h1 h2 h3 h4
            exact ⟨⟨h1.1, h1.2, h2.1, by
              by_cases e : x.svc = noT
              · exact .inl e
              · exact .inr (h2.2 e), by omega⟩, h4.1, by
              by_cases e : x.svc = noT
              · exact .inl e
              · exact .inr (h4.2 e)⟩
  · rintro ⟨⟨h1, h2, h3, h4, h5⟩, h6, h7⟩
    rw [if_neg (by rw [h1]; simp; omega), if_neg, if_neg (by omega), if_neg]
    · rw [h6]
      rintro (e | ⟨e1, e2⟩)
      · cases e
      · rcases h7 with h7 | h7
        · exact e1 h7
        · rw [h7] at e2; cases e2
    · rw [h3]
      rintro (e | ⟨e1, e2⟩)
      · cases e
      · rcases h4 with h4 | h4
        · exact e1 h4
        · rw [h4] at e2; cases e2
variable {m : Nat} {d : Ro}
theorem RoOk.node (h : RoOk m d) {x : NdA} {i : Nat} (hi : i < 18446744073709551616) : RoOk m (d.node x i).2 := by
  unfold Ro.node
  split
  · exact h
  · rename_i hw
    have hx := wrongN_ok.1 (Decidable.not_not.1 hw)
    have hth : ∀ n, d.there n = true → Ro.there { d with n := d.n.putT x.key x i } n = true := fun n e => putT_has h.nok.rise _ _ _ e
    refine ⟨h.most, (putT_most ..).trans h.nm, h.sm, h.cm, h.nok.putT _ _ hi hx.key, h.sok, h.cok, fun r hr => ?_, fun r hr => ?_, fun r hr => ?_⟩
    · rcases putT_mem hr with ⟨e1, e2⟩ | hr
      · rw [e1, e2]; exact ⟨rfl, hx⟩
      · exact h.nr r hr
    · obtain ⟨a, b, c⟩ := h.sr r hr
      exact ⟨a, b, hth _ c⟩
    · obtain ⟨a, b, c, e⟩ := h.cr r hr
      exact ⟨a, b, hth _ c, e⟩
theorem RoOk.service (h : RoOk m d) {x : SvA} {i : Nat} (hi : i < 18446744073709551616) : RoOk m (d.service x i).2 := by
  unfold Ro.service
  split
  · exact h
  · rename_i hw
    obtain ⟨hx, ht⟩ := wrongS_ok.1 (Decidable.not_not.1 hw)
    refine ⟨h.most, h.nm, (putT_most ..).trans h.sm, h.cm, h.nok, h.sok.putT _ _ hi hx.key, h.cok, h.nr, fun r hr => ?_, fun r hr => ?_⟩
    · rcases putT_mem hr with ⟨e1, e2⟩ | hr
      · rw [e1, e2]; exact ⟨rfl, hx, ht⟩
      · exact h.sr r hr
    · obtain ⟨a, b, c, e⟩ := h.cr r hr
      exact ⟨a, b, c, e.imp (fun z => z) fun e => putT_has h.sok.rise _ _ _ e⟩
theorem RoOk.check (h : RoOk m d) {x : CkA} {i : Nat} (hi : i < 18446744073709551616) : RoOk m (d.check x i).2 := by
  unfold Ro.check
  split
  · exact h
  · rename_i hw
    obtain ⟨hx, ht⟩ := wrongC_ok.1 (Decidable.not_not.1 hw)
    refine ⟨h.most, h.nm, h.sm, (putT_most ..).trans h.cm, h.nok, h.sok, h.cok.putT _ _ hi hx.key, h.nr, h.sr, fun r hr => ?_⟩
    rcases putT_mem hr with ⟨e1, e2⟩ | hr
    · rw [e1, e2]; exact ⟨rfl, hx, ht⟩
    · exact h.cr r hr
theorem RoOk.dropN (h : RoOk m d) {node : Int} {i : Nat} (hi : i < 18446744073709551616) : RoOk m (d.dropN node i).2 := by
  unfold Ro.dropN
  split
  · exact h
  · have hth : ∀ n, n ≠ node → d.there n = true → (getR (d.n.dropT (keyO node noT) i).l (keyO n noT)).isSome = true := fun n e t => by
      obtain ⟨r, hr, e2⟩ := getR_iff.1 t
      refine getR_iff.2 ⟨r, mem_dropT hr fun e3 => e ?_, e2⟩
      obtain ⟨ek, ho⟩ := h.nr r hr
      unfold NdA.key at ek
      have h1 := keyO_inj ho.node (ek.symm.trans e2)
      have h2 := keyO_inj ho.node (ek.symm.trans e3)
      omega
    refine ⟨h.most, (dropT_most ..).trans h.nm, (cut_most ..).trans h.sm, (cut_most ..).trans h.cm, h.nok.dropT _ hi, h.sok.cut (fun v => decide (v.node = node)) hi, h.cok.cut (fun v => decide (v.node = node)) hi, fun r hr => h.nr r (dropT_mem hr).1, fun r hr => ?_, fun r hr => ?_⟩
    · obtain ⟨hr, e⟩ := cut_mem hr
      obtain ⟨a, b, c⟩ := h.sr r hr
      exact ⟨a, b, hth _ (by simpa using e) c⟩
    · obtain ⟨hr, e⟩ := cut_mem hr
      have e : r.val.node ≠ node := by simpa using e
      obtain ⟨a, b, c, f⟩ := h.cr r hr
      refine ⟨a, b, hth _ e c, f.imp (fun z => z) fun f => ?_⟩
      obtain ⟨r2, hr2, e2⟩ := getR_iff.1 f
      refine getR_iff.2 ⟨r2, mem_cut hr2 (decide_eq_false fun e3 => e ?_), e2⟩
      obtain ⟨ek, ho, _⟩ := h.sr r2 hr2
      unfold SvA.key at ek
      have h1 := keyO_inj ho.node (ek.symm.trans e2)
      omega
theorem RoOk.dropS (h : RoOk m d) {node : Int} {id : ByteArray} {i : Nat} (hi : i < 18446744073709551616) : RoOk m (d.dropS node id i).2 := by
  unfold Ro.dropS
  split
  · exact h
  · refine ⟨h.most, h.nm, (dropT_most ..).trans h.sm, (cut_most ..).trans h.cm, h.nok, h.sok.dropT _ hi, h.cok.cut _ hi, h.nr, fun r hr => h.sr r (dropT_mem hr).1, fun r hr => ?_⟩
    obtain ⟨hr, e⟩ := cut_mem hr
    obtain ⟨a, b, c, f⟩ := h.cr r hr
    refine ⟨a, b, c, f.imp (fun z => z) fun f => ?_⟩
    obtain ⟨r2, hr2, e2⟩ := getR_iff.1 f
    refine getR_iff.2 ⟨r2, mem_dropT hr2 fun e3 => ?_, e2⟩
    obtain ⟨ek, ho, _⟩ := h.sr r2 hr2
    unfold SvA.key at ek
    obtain ⟨h1, h2⟩ := keyO_inj ho.node (ek.symm.trans e2)
    obtain ⟨h3, h4⟩ := keyO_inj ho.node (ek.symm.trans e3)
    unfold ofSvc at e
    rw [Bool.and_eq_false_iff] at e
    rcases e with e | e
    · rw [decide_eq_false_iff_not] at e
      exact e (by omega)
    · exact text_other.1 e (h2.symm.trans h4)
theorem RoOk.dropC (h : RoOk m d) {node : Int} {id : ByteArray} {i : Nat} (hi : i < 18446744073709551616) : RoOk m (d.dropC node id i).2 := by
  unfold Ro.dropC
  split
  · exact h
  · exact ⟨h.most, h.nm, h.sm, (dropT_most ..).trans h.cm, h.nok, h.sok, h.cok.dropT _ hi, h.nr, h.sr, fun r hr => h.cr r (dropT_mem hr).1⟩
end Go.Proofs.YtilkbfmaofmjoaaGreatDoor
namespace Go.Proofs.YtilkbfmaofmjoaaGreatDoor
open Go Go.RowKit
set_option linter.unusedSimpArgs false
set_option linter.unusedVariables false
structure NdW where
  a : NdA
  jm : Nat
  ji : Nat
structure SvW where
  a : SvA
  A : Option Addr
  n : Nat
  c : Nat
  jm : Nat
  ji : Nat
structure CkW where
  a : CkA
  jm : Nat
  ji : Nat
def txC (s : ByteArray) : List Value := [.string s]
theorem txC_len (s : ByteArray) : (txC s).length = 1 := rfl
theorem txC_one (s : ByteArray) : ∀ u ∈ txC s, u.oneCell' = true := fun u hu => by
  rw [List.mem_singleton.1 hu]; rfl
structure Tx (w : World) (A : Option Addr) (n c : Nat) (l : List ByteArray) : Prop where
  row : SK txC 1 w A n l
  le : n ≤ c
  max : c ≤ maxLen
  nil : A = none → c = 0
structure TgAt (S : Nat → Prop) (w : World) (x : SvW) : Prop where
  tx : Tx w x.A x.n x.c x.a.tags
  own : ∀ b off, x.A = some ⟨b, off, none⟩ → 0 < x.n → S b
section
variable {S S' : Nat → Prop} {w w' : World} {x : SvW} {A : Option Addr} {n c : Nat} {l : List ByteArray}
theorem Tx.len (h : Tx w A n c l) : l.length = n := h.row.1
theorem Tx.below (h : Tx w A n c l) (hb : Below w.heap.size w w') : Tx w' A n c l := ⟨h.row.below hb, h.le, h.max, h.nil⟩
theorem Tx.none_ (w : World) : Tx w none 0 0 [] := ⟨SK.zero, Nat.le_refl _, Nat.zero_le _, fun _ => rfl⟩
theorem TgAt.but (h : TgAt S w x) (hb : But S' w w') (hS : ∀ k, S' k → ¬ S k) : TgAt S w' x :=
  ⟨⟨h.tx.row.but hb fun b off e hn q => hS b q (h.own b off e hn), h.tx.le, h.tx.max, h.tx.nil⟩, h.own⟩
theorem TgAt.below (h : TgAt S w x) (hb : Below w.heap.size w w') : TgAt S w' x := ⟨h.tx.below hb, h.own⟩
theorem TgAt.narrow (h : TgAt S w x) (hs : ∀ k, k < w.heap.size → S k → S' k) : TgAt S' w x :=
  ⟨h.tx, fun b off e hn => by
    obtain ⟨b', off', e', hb, _⟩ := h.tx.row.at_ (j := 0) hn (by rw [h.tx.len]; exact hn)
    rw [e] at e'
    cases e'
    exact hs b hb (h.own b off e hn)⟩
end
end Go.Proofs.YtilkbfmaofmjoaaGreatDoor
namespace Go.Proofs.YtilkbfmaofmjoaaGreatDoor
open Go.RowKit
set_option linter.unusedSimpArgs false
set_option linter.unusedVariables false
abbrev TNd : TypeId := 49
def ndC (x : (Rw NdA)) : List Value := [.int .i64 x.val.node, .string x.val.addr, .int .u64 (x.made : Int), .int .u64 (x.ix : Int)]
def ndV (x : (Rw NdA)) : Value := .agg #[.int .i64 x.val.node, .string x.val.addr, .int .u64 (x.made : Int), .int .u64 (x.ix : Int)]
theorem ndC_len (x : (Rw NdA)) : (ndC x).length = 4 := rfl
theorem ndC_one (x : (Rw NdA)) : ∀ u ∈ ndC x, u.oneCell' = true := by
  intro u hu
  simp only [ndC, List.mem_cons, List.not_mem_nil, or_false] at hu
  rcases hu with rfl | rfl | rfl | rfl <;> rfl
theorem nd_cells {w : World} {b o : Nat} {x : (Rw NdA)} (h : ItAt ndC w b o x) : w.cell? ⟨b, o, none⟩ = some (.int .i64 x.val.node) ∧ w.cell? ⟨b, o + 1, none⟩ = some (.string x.val.addr) ∧ w.cell? ⟨b, o + 2, none⟩ = some (.int .u64 (x.made : Int)) ∧ w.cell? ⟨b, o + 3, none⟩ = some (.int .u64 (x.ix : Int)) :=
  ⟨h 0 _ rfl, h 1 _ rfl, h 2 _ rfl, h 3 _ rfl⟩
theorem nd_blk {w : World} {b : Nat} {c0 c1 c2 c3 : Value} {t : TypeId} (h : w.heap[b]? = some (.cells #[c0, c1, c2, c3] t (0, 0))) : w.cell? ⟨b, 0, none⟩ = some c0 ∧ w.cell? ⟨b, 1, none⟩ = some c1 ∧ w.cell? ⟨b, 2, none⟩ = some c2 ∧ w.cell? ⟨b, 3, none⟩ = some c3 :=
  ⟨cellsN h 0 _ rfl, cellsN h 1 _ rfl, cellsN h 2 _ rfl, cellsN h 3 _ rfl⟩
theorem nd_info : (Tryz.prog.info? TNd).map (fun i => (i.zero, i.size, i.bytes)) = some (some (.agg #[.int .i64 0, .string ⟨#[]⟩, .int .u64 0, .int .u64 0]), 4, 40) := by kernel_rfl
abbrev ndRow (w : World) (base : Nat) (v : Value) (l : List (Rw NdA)) : Prop := rowK ndC TNd 4 w base v l
theorem wpList_append_nd {w : World} {ops : Array Oper} {rest : List Oper} {o : Oper} {a : Act} {Q : Exit → Act → World → Prop} (hgd : o.guard = none) (s x : Operand)
    (ho : o.op = .call { callee := .builtin .append, args := #[s, x], argTypes := #[40, 40] })
    (base : Nat) (v : Value) (l : List (Rw NdA)) (hs : a.eval s = v) (hown : ndRow w base v l) (X : Nat) (y : (Rw NdA)) (hx : a.eval x = .slice (some ⟨X, 0, none⟩) 1 1) (hc : ItAt ndC w X 0 y)
    (hl : l.length ≤ 1000000) (hbase : base ≤ w.heap.size)
    (h : Hid (∀ v' w', ndRow w' base v' (l ++ [y]) → w.grownBy w' v.ownBlock → wpList Tryz.prog ops Q rest (a.put o.dst v') w')) : wpList Tryz.prog ops Q (o :: rest) a w := by
  obtain ⟨i0, hi, hz0, hz1, hz2⟩ := info_parts nd_info
  exact wpList_append_k hgd s x _ ho i0 _ 40 Tryz.underlying40 hi hz0 hz1 hz2 rfl (by decide) ndC_len ndC_one base v l hs hown X y hx hc (by unfold maxLen; omega) (by omega) hbase h
theorem nd_new (w : World) (x : (Rw NdA)) (T : TypeId) : ItAt ndC (w.alloc (.cells #[.int .i64 x.val.node, .string x.val.addr, .int .u64 (x.made : Int), .int .u64 (x.ix : Int)] T)) w.heap.size 0 x := ItAt.of_new x _ rfl T
theorem ndRow.snoc {w0 wr w' : World} {base : Nat} {v : Value} {l : List (Rw NdA)} (h : ndRow wr base v l) (hb : Below base w0 wr) (hB : base ≤ wr.heap.size) {o : Obj} (hg : (wr.alloc o).grownBy w' v.ownBlock) : Below base w0 w' :=
  (hb.alloc hB o).grown hg (by simp; omega) fun _ e => (h.from _ e).1
theorem nd_fields : Tryz.prog.underlying TNd = some (.struct (Tryz.prog.fieldsOf TNd)) := by kernel_rfl
theorem nd_stood : Tryz.prog.stoodInHeld TNd = false := by kernel_rfl
theorem nd_flds : (Tryz.prog.fieldsOf TNd).toList.map (fun f => (f.name, f.type, f.offset)) = [("Node", 3, 0), ("Addr", 9, 1), ("Make", 29, 2), ("Index", 29, 3)] := by kernel_rfl
theorem nd_guard : Tryz.prog.eqGuardType Tryz.prog.depth TNd = false := by kernel_rfl
def eqNd (a b : (Rw NdA)) : Bool := a.val.node == b.val.node && (a.val.addr.toList == b.val.addr.toList && (a.made == b.made && (a.ix == b.ix)))
theorem nd_list {α : Type} {l : List α} (h : l.length = 4) : ∃ f0 f1 f2 f3, l = [f0, f1, f2, f3] := by
  match l, h with
  | [f0, f1, f2, f3], _ => exact ⟨f0, f1, f2, f3, rfl⟩
theorem nd_eq (a b : (Rw NdA)) (w : World) : (Op.equalIn 10000 TNd (ndV a) (ndV b)).run Tryz.prog w = .ok (eqNd a b) w := by
  unfold ndV
  rw [run_equalIn_struct w 9999 _ _ _ nd_fields nd_stood]
  have h := nd_flds
  generalize (Tryz.prog.fieldsOf TNd).toList = fs at h
  have hl := congrArg List.length h
  rw [List.length_map] at hl
  obtain ⟨f0, f1, f2, f3, rfl⟩ := nd_list hl
  simp only [List.map_cons, List.map_nil, List.cons.injEq, Prod.mk.injEq, and_true] at h
  obtain ⟨⟨n0, t0, o0⟩, ⟨n1, t1, o1⟩, ⟨n2, t2, o2⟩, ⟨n3, t3, o3⟩⟩ := h
  simp only [Op.eqFields, n0, t0, o0, n1, t1, o1, n2, t2, o2, n3, t3, o3]
  unfold eqNd
  by_cases k0 : a.val.node = b.val.node
  · cases k1 : (a.val.addr.toList == b.val.addr.toList)
    · simp [go_sem, k0, k1]
    · by_cases k2 : a.made = b.made
      · by_cases k3 : a.ix = b.ix
        · simp [go_sem, k0, k1, k2, k3]
        · have g3 : ¬ (a.ix : Int) = (b.ix : Int) := by omega
          simp [go_sem, k0, k1, k2, k3, g3]
      · have g2 : ¬ (a.made : Int) = (b.made : Int) := by omega
        simp [go_sem, k0, k1, k2, g2]
  · have g0 : ¬ (a.val.node : Int) = (b.val.node : Int) := by omega
    simp [go_sem, k0, g0]
theorem eqNd_same (a b : Rw NdA) (h : a.val = b.val ∧ a.made = b.made ∧ a.ix = b.ix) : eqNd a b = true := by
  obtain ⟨h1, h2, h3⟩ := h
  unfold eqNd
  rw [h1, h2, h3]
  simp
abbrev TSv : TypeId := 31
def svC (x : (Rw SvW)) : List Value := [.int .i64 x.val.a.node, .string x.val.a.id, .string x.val.a.name, .slice x.val.A x.val.n x.val.c, .int .i64 x.val.a.port, .int .u64 (x.made : Int), .int .u64 (x.ix : Int)]
def svV (x : (Rw SvW)) : Value := .agg #[.int .i64 x.val.a.node, .string x.val.a.id, .string x.val.a.name, .slice x.val.A x.val.n x.val.c, .int .i64 x.val.a.port, .int .u64 (x.made : Int), .int .u64 (x.ix : Int)]
theorem svC_len (x : (Rw SvW)) : (svC x).length = 7 := rfl
theorem svC_one (x : (Rw SvW)) : ∀ u ∈ svC x, u.oneCell' = true := by
  intro u hu
  simp only [svC, List.mem_cons, List.not_mem_nil, or_false] at hu
  rcases hu with rfl | rfl | rfl | rfl | rfl | rfl | rfl <;> rfl
theorem sv_cells {w : World} {b o : Nat} {x : (Rw SvW)} (h : ItAt svC w b o x) : w.cell? ⟨b, o, none⟩ = some (.int .i64 x.val.a.node) ∧ w.cell? ⟨b, o + 1, none⟩ = some (.string x.val.a.id) ∧ w.cell? ⟨b, o + 2, none⟩ = some (.string x.val.a.name) ∧ w.cell? ⟨b, o + 3, none⟩ = some (.slice x.val.A x.val.n x.val.c) ∧ w.cell? ⟨b, o + 4, none⟩ = some (.int .i64 x.val.a.port) ∧ w.cell? ⟨b, o + 5, none⟩ = some (.int .u64 (x.made : Int)) ∧ w.cell? ⟨b, o + 6, none⟩ = some (.int .u64 (x.ix : Int)) :=
  ⟨h 0 _ rfl, h 1 _ rfl, h 2 _ rfl, h 3 _ rfl, h 4 _ rfl, h 5 _ rfl, h 6 _ rfl⟩
theorem sv_blk {w : World} {b : Nat} {c0 c1 c2 c3 c4 c5 c6 : Value} {t : TypeId} (h : w.heap[b]? = some (.cells #[c0, c1, c2, c3, c4, c5, c6] t (0, 0))) : w.cell? ⟨b, 0, none⟩ = some c0 ∧ w.cell? ⟨b, 1, none⟩ = some c1 ∧ w.cell? ⟨b, 2, none⟩ = some c2 ∧ w.cell? ⟨b, 3, none⟩ = some c3 ∧ w.cell? ⟨b, 4, none⟩ = some c4 ∧ w.cell? ⟨b, 5, none⟩ = some c5 ∧ w.cell? ⟨b, 6, none⟩ = some c6 :=
  ⟨cellsN h 0 _ rfl, cellsN h 1 _ rfl, cellsN h 2 _ rfl, cellsN h 3 _ rfl, cellsN h 4 _ rfl, cellsN h 5 _ rfl, cellsN h 6 _ rfl⟩
theorem sv_info : (Tryz.prog.info? TSv).map (fun i => (i.zero, i.size, i.bytes)) = some (some (.agg #[.int .i64 0, .string ⟨#[]⟩, .string ⟨#[]⟩, .slice none 0 0, .int .i64 0, .int .u64 0, .int .u64 0]), 7, 88) := by kernel_rfl
abbrev svRow (w : World) (base : Nat) (v : Value) (l : List (Rw SvW)) : Prop := rowK svC TSv 7 w base v l
theorem wpList_append_sv {w : World} {ops : Array Oper} {rest : List Oper} {o : Oper} {a : Act} {Q : Exit → Act → World → Prop} (hgd : o.guard = none) (s x : Operand)
    (ho : o.op = .call { callee := .builtin .append, args := #[s, x], argTypes := #[42, 42] })
    (base : Nat) (v : Value) (l : List (Rw SvW)) (hs : a.eval s = v) (hown : svRow w base v l) (X : Nat) (y : (Rw SvW)) (hx : a.eval x = .slice (some ⟨X, 0, none⟩) 1 1) (hc : ItAt svC w X 0 y)
    (hl : l.length ≤ 1000000) (hbase : base ≤ w.heap.size)
    (h : Hid (∀ v' w', svRow w' base v' (l ++ [y]) → w.grownBy w' v.ownBlock → wpList Tryz.prog ops Q rest (a.put o.dst v') w')) : wpList Tryz.prog ops Q (o :: rest) a w := by
  obtain ⟨i0, hi, hz0, hz1, hz2⟩ := info_parts sv_info
  exact wpList_append_k hgd s x _ ho i0 _ 88 Tryz.underlying42 hi hz0 hz1 hz2 rfl (by decide) svC_len svC_one base v l hs hown X y hx hc (by unfold maxLen; omega) (by omega) hbase h
theorem sv_new (w : World) (x : (Rw SvW)) (T : TypeId) : ItAt svC (w.alloc (.cells #[.int .i64 x.val.a.node, .string x.val.a.id, .string x.val.a.name, .slice x.val.A x.val.n x.val.c, .int .i64 x.val.a.port, .int .u64 (x.made : Int), .int .u64 (x.ix : Int)] T)) w.heap.size 0 x := ItAt.of_new x _ rfl T
theorem svRow.snoc {w0 wr w' : World} {base : Nat} {v : Value} {l : List (Rw SvW)} (h : svRow wr base v l) (hb : Below base w0 wr) (hB : base ≤ wr.heap.size) {o : Obj} (hg : (wr.alloc o).grownBy w' v.ownBlock) : Below base w0 w' :=
  (hb.alloc hB o).grown hg (by simp; omega) fun _ e => (h.from _ e).1
abbrev TCk : TypeId := 33
def ckC (x : (Rw CkA)) : List Value := [.int .i64 x.val.node, .string x.val.id, .string x.val.svc, .string x.val.note, .int .i64 x.val.status, .int .u64 (x.made : Int), .int .u64 (x.ix : Int)]
def ckV (x : (Rw CkA)) : Value := .agg #[.int .i64 x.val.node, .string x.val.id, .string x.val.svc, .string x.val.note, .int .i64 x.val.status, .int .u64 (x.made : Int), .int .u64 (x.ix : Int)]
theorem ckC_len (x : (Rw CkA)) : (ckC x).length = 7 := rfl
theorem ckC_one (x : (Rw CkA)) : ∀ u ∈ ckC x, u.oneCell' = true := by
  intro u hu
  simp only [ckC, List.mem_cons, List.not_mem_nil, or_false] at hu
  rcases hu with rfl | rfl | rfl | rfl | rfl | rfl | rfl <;> rfl
theorem ck_cells {w : World} {b o : Nat} {x : (Rw CkA)} (h : ItAt ckC w b o x) : w.cell? ⟨b, o, none⟩ = some (.int .i64 x.val.node) ∧ w.cell? ⟨b, o + 1, none⟩ = some (.string x.val.id) ∧ w.cell? ⟨b, o + 2, none⟩ = some (.string x.val.svc) ∧ w.cell? ⟨b, o + 3, none⟩ = some (.string x.val.note) ∧ w.cell? ⟨b, o + 4, none⟩ = some (.int .i64 x.val.status) ∧ w.cell? ⟨b, o + 5, none⟩ = some (.int .u64 (x.made : Int)) ∧ w.cell? ⟨b, o + 6, none⟩ = some (.int .u64 (x.ix : Int)) :=
  ⟨h 0 _ rfl, h 1 _ rfl, h 2 _ rfl, h 3 _ rfl, h 4 _ rfl, h 5 _ rfl, h 6 _ rfl⟩
theorem ck_blk {w : World} {b : Nat} {c0 c1 c2 c3 c4 c5 c6 : Value} {t : TypeId} (h : w.heap[b]? = some (.cells #[c0, c1, c2, c3, c4, c5, c6] t (0, 0))) : w.cell? ⟨b, 0, none⟩ = some c0 ∧ w.cell? ⟨b, 1, none⟩ = some c1 ∧ w.cell? ⟨b, 2, none⟩ = some c2 ∧ w.cell? ⟨b, 3, none⟩ = some c3 ∧ w.cell? ⟨b, 4, none⟩ = some c4 ∧ w.cell? ⟨b, 5, none⟩ = some c5 ∧ w.cell? ⟨b, 6, none⟩ = some c6 :=
  ⟨cellsN h 0 _ rfl, cellsN h 1 _ rfl, cellsN h 2 _ rfl, cellsN h 3 _ rfl, cellsN h 4 _ rfl, cellsN h 5 _ rfl, cellsN h 6 _ rfl⟩
theorem ck_info : (Tryz.prog.info? TCk).map (fun i => (i.zero, i.size, i.bytes)) = some (some (.agg #[.int .i64 0, .string ⟨#[]⟩, .string ⟨#[]⟩, .string ⟨#[]⟩, .int .i64 0, .int .u64 0, .int .u64 0]), 7, 80) := by kernel_rfl
abbrev ckRow (w : World) (base : Nat) (v : Value) (l : List (Rw CkA)) : Prop := rowK ckC TCk 7 w base v l
theorem wpList_append_ck {w : World} {ops : Array Oper} {rest : List Oper} {o : Oper} {a : Act} {Q : Exit → Act → World → Prop} (hgd : o.guard = none) (s x : Operand)
    (ho : o.op = .call { callee := .builtin .append, args := #[s, x], argTypes := #[44, 44] })
    (base : Nat) (v : Value) (l : List (Rw CkA)) (hs : a.eval s = v) (hown : ckRow w base v l) (X : Nat) (y : (Rw CkA)) (hx : a.eval x = .slice (some ⟨X, 0, none⟩) 1 1) (hc : ItAt ckC w X 0 y)
    (hl : l.length ≤ 1000000) (hbase : base ≤ w.heap.size)
    (h : Hid (∀ v' w', ckRow w' base v' (l ++ [y]) → w.grownBy w' v.ownBlock → wpList Tryz.prog ops Q rest (a.put o.dst v') w')) : wpList Tryz.prog ops Q (o :: rest) a w := by
  obtain ⟨i0, hi, hz0, hz1, hz2⟩ := info_parts ck_info
  exact wpList_append_k hgd s x _ ho i0 _ 80 Tryz.underlying44 hi hz0 hz1 hz2 rfl (by decide) ckC_len ckC_one base v l hs hown X y hx hc (by unfold maxLen; omega) (by omega) hbase h
theorem ck_new (w : World) (x : (Rw CkA)) (T : TypeId) : ItAt ckC (w.alloc (.cells #[.int .i64 x.val.node, .string x.val.id, .string x.val.svc, .string x.val.note, .int .i64 x.val.status, .int .u64 (x.made : Int), .int .u64 (x.ix : Int)] T)) w.heap.size 0 x := ItAt.of_new x _ rfl T
theorem ckRow.snoc {w0 wr w' : World} {base : Nat} {v : Value} {l : List (Rw CkA)} (h : ckRow wr base v l) (hb : Below base w0 wr) (hB : base ≤ wr.heap.size) {o : Obj} (hg : (wr.alloc o).grownBy w' v.ownBlock) : Below base w0 w' :=
  (hb.alloc hB o).grown hg (by simp; omega) fun _ e => (h.from _ e).1
theorem ck_fields : Tryz.prog.underlying TCk = some (.struct (Tryz.prog.fieldsOf TCk)) := by kernel_rfl
theorem ck_stood : Tryz.prog.stoodInHeld TCk = false := by kernel_rfl
theorem ck_flds : (Tryz.prog.fieldsOf TCk).toList.map (fun f => (f.name, f.type, f.offset)) = [("Node", 3, 0), ("Id", 9, 1), ("Service", 9, 2), ("Note", 9, 3), ("Status", 3, 4), ("Make", 29, 5), ("Index", 29, 6)] := by kernel_rfl
theorem ck_guard : Tryz.prog.eqGuardType Tryz.prog.depth TCk = false := by kernel_rfl
def eqCk (a b : (Rw CkA)) : Bool := a.val.node == b.val.node && (a.val.id.toList == b.val.id.toList && (a.val.svc.toList == b.val.svc.toList && (a.val.note.toList == b.val.note.toList && (a.val.status == b.val.status && (a.made == b.made && (a.ix == b.ix))))))
theorem ck_list {α : Type} {l : List α} (h : l.length = 7) : ∃ f0 f1 f2 f3 f4 f5 f6, l = [f0, f1, f2, f3, f4, f5, f6] := by
  match l, h with
  | [f0, f1, f2, f3, f4, f5, f6], _ => exact ⟨f0, f1, f2, f3, f4, f5, f6, rfl⟩
theorem ck_eq (a b : (Rw CkA)) (w : World) : (Op.equalIn 10000 TCk (ckV a) (ckV b)).run Tryz.prog w = .ok (eqCk a b) w := by
  unfold ckV
  rw [run_equalIn_struct w 9999 _ _ _ ck_fields ck_stood]
  have h := ck_flds
  generalize (Tryz.prog.fieldsOf TCk).toList = fs at h
  have hl := congrArg List.length h
  rw [List.length_map] at hl
  obtain ⟨f0, f1, f2, f3, f4, f5, f6, rfl⟩ := ck_list hl
  simp only [List.map_cons, List.map_nil, List.cons.injEq, Prod.mk.injEq, and_true] at h
  obtain ⟨⟨n0, t0, o0⟩, ⟨n1, t1, o1⟩, ⟨n2, t2, o2⟩, ⟨n3, t3, o3⟩, ⟨n4, t4, o4⟩, ⟨n5, t5, o5⟩, ⟨n6, t6, o6⟩⟩ := h
  simp only [Op.eqFields, n0, t0, o0, n1, t1, o1, n2, t2, o2, n3, t3, o3, n4, t4, o4, n5, t5, o5, n6, t6, o6]
  unfold eqCk
  by_cases k0 : a.val.node = b.val.node
  · cases k1 : (a.val.id.toList == b.val.id.toList)
    · simp [go_sem, k0, k1]
    · cases k2 : (a.val.svc.toList == b.val.svc.toList)
      · simp [go_sem, k0, k1, k2]
      · cases k3 : (a.val.note.toList == b.val.note.toList)
        · simp [go_sem, k0, k1, k2, k3]
        · by_cases k4 : a.val.status = b.val.status
          · by_cases k5 : a.made = b.made
            · by_cases k6 : a.ix = b.ix
              · simp [go_sem, k0, k1, k2, k3, k4, k5, k6]
              · have g6 : ¬ (a.ix : Int) = (b.ix : Int) := by omega
                simp [go_sem, k0, k1, k2, k3, k4, k5, k6, g6]
            · have g5 : ¬ (a.made : Int) = (b.made : Int) := by omega
              simp [go_sem, k0, k1, k2, k3, k4, k5, g5]
          · have g4 : ¬ (a.val.status : Int) = (b.val.status : Int) := by omega
            simp [go_sem, k0, k1, k2, k3, k4, g4]
  · have g0 : ¬ (a.val.node : Int) = (b.val.node : Int) := by omega
    simp [go_sem, k0, g0]
theorem eqCk_same (a b : Rw CkA) (h : a.val = b.val ∧ a.made = b.made ∧ a.ix = b.ix) : eqCk a b = true := by
  obtain ⟨h1, h2, h3⟩ := h
  unfold eqCk
  rw [h1, h2, h3]
  simp
theorem tx_info : (Tryz.prog.info? 9).map (fun i => (i.zero, i.size, i.bytes)) = some (some (.string ⟨#[]⟩), 1, 16) := by kernel_rfl
end Go.Proofs.YtilkbfmaofmjoaaGreatDoor
