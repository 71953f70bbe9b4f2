import Derived.Test.YtilkbfmaofmjoaaGreatDoorZj7
import Derived.Test.YtilkbfmaofmjoaaGreatDoorZj4
import Derived.Test.YtilkbfmaofmjoaaGreatDoorZj2
import Derived.Laws.AppendOwnNone
import Derived.RangeFuncNested
import Derived.RangeFuncBound
import Derived.RangeFuncCalls
import Derived.RangeFuncLeaves
namespace Go.Proofs.YtilkbfmaofmjoaaGreatDoor
open Go.RowKit Go.Rel
set_option linter.unusedSimpArgs false
set_option linter.unusedVariables false
theorem blk_froz {W : World} {X : Nat} {cur : Array Value} {t : TypeId} (h : W.heap[X]? = some (.cells cur t (0, 0))) (i : Nat) : W.frozen? ⟨X, i, none⟩ = false := by simp [World.frozen?, h]
theorem below1 (w : World) (cs : Array Value) (T : TypeId) : Below w.heap.size w (w.alloc (.cells cs T)) := (Below.refl _ w).alloc (Nat.le_refl _) _
theorem cellsN {w : World} {B : Nat} {cur : Array Value} {t : TypeId} (h : w.heap[B]? = some (.cells cur t (0, 0))) (i : Nat) (v : Value) (hv : cur[i]? = some v) : w.cell? ⟨B, i, none⟩ = some v := by rw [cell_of_row _ _ _ _ _ _ h]; exact hv
theorem raise_max {α : Type} {t : Tb α} {i : Nat} (h : t.last < i) : t.raise i = { t with last := i } := by
  unfold Tb.raise
  rw [Nat.max_eq_right (Nat.le_of_lt h)]
theorem raise_same {α : Type} {t : Tb α} {i : Nat} (h : ¬ t.last < i) : t.raise i = t := by
  unfold Tb.raise
  rw [Nat.max_eq_left (by omega)]
def Tb.dropT {α : Type} (t : Tb α) (k : ByteArray) (i : Nat) : Tb α := if (getR t.l k).isSome then t.drop k i else t
def Tb.fullB {α : Type} (t : Tb α) (k : ByteArray) : Bool := (getR t.l k).isNone && decide (t.most ≤ t.l.length)
def Tb.putT {α : Type} (t : Tb α) (k : ByteArray) (v : α) (i : Nat) : Tb α := if t.fullB k then t else t.put k v i
def setL (X : Nat) : Nat → List Value → World → World
  | _, [], w => w
  | i, v :: l, w => setL X (i + 1) l (w.setCell ⟨X, i, none⟩ v)
theorem setL_blk {X : Nat} {t : TypeId} : ∀ {l : List Value} {i : Nat} {w : World} {cur : Array Value}, w.heap[X]? = some (.cells cur t (0, 0)) → cur.size = i + l.length → (setL X i l w).heap[X]? = some (.cells (cur.extract 0 i ++ l.toArray) t (0, 0))
  | [], i, w, cur, h, hs => by
    have e : i = cur.size := by simpa using hs.symm
    rw [setL, h, e]
    simp
  | v :: l, i, w, cur, h, hs => by
    have hi : i < cur.toList.length := by simp only [List.length_cons] at hs; simp; omega
    rw [setL, setL_blk (block_set h i v) (by simp only [Array.size_setIfInBounds, List.length_cons] at hs ⊢; omega)]
    have e : (cur.toList.set i v).take (i + 1) = cur.toList.take i ++ [v] := by
      rw [List.take_succ_eq_append_getElem (by rw [List.length_set]; exact hi), List.take_set_of_le (Nat.le_refl _), List.getElem_set_self]
    have e2 : (cur.setIfInBounds i v).extract 0 (i + 1) ++ l.toArray = cur.extract 0 i ++ (v :: l).toArray := by
      apply Array.ext'
      simp only [Array.toList_append, Array.toList_extract, Array.toList_setIfInBounds, List.extract_eq_take_drop, List.drop_zero, Nat.sub_zero]
      rw [e]
      simp
    rw [e2]
theorem setL_all {X : Nat} {t : TypeId} {w : World} {cur : Array Value} (h : w.heap[X]? = some (.cells cur t (0, 0))) (l : List Value) (hs : cur.size = l.length) : (setL X 0 l w).heap[X]? = some (.cells l.toArray t (0, 0)) := by
  have := setL_blk (l := l) (i := 0) h (by omega)
  simpa using this
theorem but_setL (X : Nat) : ∀ (l : List Value) (i : Nat) (w : World), But (· = X) w (setL X i l w)
  | [], _, _ => But.refl _ _
  | v :: l, i, w => (But.set (S := (· = X)) w (p := ⟨X, i, none⟩) rfl v).trans (but_setL X l (i + 1) _)
theorem below_setL {X : Nat} {w0 w : World} (h : Below X w0 w) (hX : X ≤ w0.heap.size) (l : List Value) (i : Nat) : Below X w0 (setL X i l w) := h.trans ((but_setL X l i w).below (Nat.le_trans hX h.size) (fun k hk e => by have : k = X := e; omega))
section
variable {α : Type} (enc : Rw α → List Value) (k : Nat) (T : TypeId)
structure PtIs (S : Nat → Prop) (w : World) (B : Nat) (A : Option Addr) (c : Nat) (t : Tb α) : Prop where
  mine : S B
  blk : w.heap[B]? = some (.cells #[.int .i64 (t.most : Int), .int .u64 (t.last : Int), .slice A t.l.length c] T (0, 0))
  row : SK enc k w A t.l.length t.l
  own : ∀ b off, A = some ⟨b, off, none⟩ → 0 < t.l.length → S b ∧ b ≠ B
  le : t.l.length ≤ c
  max : c ≤ maxLen
  at0 : (A = none ∧ c = 0) ∨ ∃ g, A = some ⟨g, 0, none⟩
def PtAt (S : Nat → Prop) (w : World) (B : Nat) (t : Tb α) : Prop := t.Ok ∧ ∃ A c, PtIs enc k T S w B A c t
def NewRows (w : World) (l : List (Rw α)) (e : Ending) (w' : World) : Prop :=
  ∃ A c, e = .returned (.slice A l.length c) ∧ SK enc k w' A l.length l ∧ l.length ≤ c ∧ c ≤ maxLen ∧ (∀ b off, A = some ⟨b, off, none⟩ → w.heap.size ≤ b) ∧ Below w.heap.size w w'
structure NoTp (w : World) (p : Option Addr) : Prop where
  or : p = none ∨ ∃ B, p = some ⟨B, 0, none⟩ ∧ w.heap[B]? = some (.cells #[.int .i64 0, .int .u64 0, .slice none 0 0] T (0, 0))
structure NowIs (f : Nat) (w w' : World) (v : Value) (l : List (Rw α)) (Bx : Nat) (A : Option Addr) (c : Nat) : Prop where
  val : v = .func (.func f) #[] #[.pointer (some ⟨Bx, 0, none⟩)]
  box : w'.heap[Bx]? = some (.cells #[.slice A l.length c] T (0, 0))
  row : SK enc k w' A l.length l
  new : w.heap.size ≤ Bx
  old : ∀ b off, A = some ⟨b, off, none⟩ → 0 < l.length → b < w.heap.size
  below : Below w.heap.size w w'
end
section
variable {α : Type} {enc : Rw α → List Value} {k : Nat} {T : TypeId} {S S' : Nat → Prop} {w w' : World} {B : Nat} {A : Option Addr} {c : Nat} {t : Tb α}
theorem PtIs.lt (h : PtIs enc k T S w B A c t) : B < w.heap.size := block_lt h.blk
theorem PtIs.but (h : PtIs enc k T S w B A c t) (hb : But S' w w') (hS : ∀ k, S' k → ¬ S k) : PtIs enc k T S w' B A c t :=
  ⟨h.mine, (hb.block B h.lt fun e => hS B e h.mine).trans h.blk, h.row.but hb fun b off e hn z => hS b z (h.own b off e hn).1, h.own, h.le, h.max, h.at0⟩
theorem PtIs.below (h : PtIs enc k T S w B A c t) (hb : Below w.heap.size w w') : PtIs enc k T S w' B A c t := h.but (S' := fun _ => False) (But.of_below hb) (fun _ h => h.elim)
theorem PtIs.narrow (h : PtIs enc k T S w B A c t) (hs : ∀ k, k < w.heap.size → S k → S' k) : PtIs enc k T S' w B A c t :=
  ⟨hs _ h.lt h.mine, h.blk, h.row, fun b off e hn => by
    obtain ⟨b', off', e', hb, _⟩ := h.row.at_ (j := 0) hn hn
    rw [e] at e'
    cases e'
    exact ⟨hs b hb (h.own b off e hn).1, (h.own b off e hn).2⟩, h.le, h.max, h.at0⟩
theorem PtIs.c0 (h : PtIs enc k T S w B A c t) : w.cell? ⟨B, 0, none⟩ = some (.int .i64 (t.most : Int)) := cellsN h.blk 0 _ rfl
theorem PtIs.c1 (h : PtIs enc k T S w B A c t) : w.cell? ⟨B, 1, none⟩ = some (.int .u64 (t.last : Int)) := cellsN h.blk 1 _ rfl
theorem PtIs.c2 (h : PtIs enc k T S w B A c t) : w.cell? ⟨B, 2, none⟩ = some (.slice A t.l.length c) := cellsN h.blk 2 _ rfl
theorem PtIs.froz (h : PtIs enc k T S w B A c t) (i : Nat) : w.frozen? ⟨B, i, none⟩ = false := blk_froz h.blk i
theorem PtIs.or (h : PtIs enc k T S w B A c t) : A = none ∨ ∃ g, A = some ⟨g, 0, none⟩ := h.at0.imp (·.1) id
theorem PtIs.setLast (h : PtIs enc k T S w B A c t) (n : Nat) : PtIs enc k T S (w.setCell ⟨B, 1, none⟩ (.int .u64 (n : Int))) B A c { t with last := n } :=
  ⟨h.mine, block_set (cur := #[.int .i64 (t.most : Int), .int .u64 (t.last : Int), .slice A t.l.length c]) h.blk 1 _, h.row.but (S := (· = B)) (But.set (S := (· = B)) w (p := ⟨B, 1, none⟩) rfl _) (fun b off e hn => (h.own b off e hn).2), h.own, h.le, h.max, h.at0⟩
theorem PtIs.setRows (h : PtIs enc k T S w B A c t) {l : List (Rw α)} {A' : Option Addr} {c' : Nat} (hr : SK enc k w A' l.length l) (ho : ∀ b off, A' = some ⟨b, off, none⟩ → 0 < l.length → S b ∧ b ≠ B) (h1 : l.length ≤ c') (h2 : c' ≤ maxLen) (h3 : (A' = none ∧ c' = 0) ∨ ∃ g, A' = some ⟨g, 0, none⟩) : PtIs enc k T S (w.setCell ⟨B, 2, none⟩ (.slice A' l.length c')) B A' c' { t with l := l } :=
  ⟨h.mine, block_set (cur := #[.int .i64 (t.most : Int), .int .u64 (t.last : Int), .slice A t.l.length c]) h.blk 2 _, hr.but (S := (· = B)) (But.set (S := (· = B)) w (p := ⟨B, 2, none⟩) rfl _) (fun b off e hn => (ho b off e hn).2), ho, h1, h2, h3⟩
theorem PtIs.fresh {g0 : Nat} (h : PtIs enc k T S w B A c t) {l : List (Rw α)} {A' : Option Addr} {c' : Nat} (ho : ∀ b off, A' = some ⟨b, off, none⟩ → 0 < l.length → g0 ≤ b) (hr : SK enc k w A' l.length l) (h1 : l.length ≤ c') (h2 : c' ≤ maxLen) (h3 : (A' = none ∧ c' = 0) ∨ ∃ g, A' = some ⟨g, 0, none⟩) (hB : ∀ b off, A' = some ⟨b, off, none⟩ → 0 < l.length → b ≠ B) :
    PtIs enc k T (fun k => S k ∨ g0 ≤ k) (w.setCell ⟨B, 2, none⟩ (.slice A' l.length c')) B A' c' { t with l := l } :=
  (h.narrow fun _ _ z => .inl z).setRows hr (fun b off e hn => ⟨.inr (ho b off e hn), hB b off e hn⟩) h1 h2 h3
theorem PtAt.but (h : PtAt enc k T S w B t) (hb : But S' w w') (hS : ∀ k, S' k → ¬ S k) : PtAt enc k T S w' B t := by
  obtain ⟨h0, A, c, h1⟩ := h
  exact ⟨h0, A, c, h1.but hb hS⟩
theorem PtAt.below (h : PtAt enc k T S w B t) (hb : Below w.heap.size w w') : PtAt enc k T S w' B t := h.but (S' := fun _ => False) (But.of_below hb) (fun _ h => h.elim)
theorem PtAt.narrow (h : PtAt enc k T S w B t) (hs : ∀ k, k < w.heap.size → S k → S' k) : PtAt enc k T S' w B t := by
  obtain ⟨h0, A, c, h1⟩ := h
  exact ⟨h0, A, c, h1.narrow hs⟩
theorem PtAt.lt (h : PtAt enc k T S w B t) : B < w.heap.size := by
  obtain ⟨_, A, c, h1⟩ := h
  exact h1.lt
theorem PtAt.mine (h : PtAt enc k T S w B t) : S B := by
  obtain ⟨_, A, c, h1⟩ := h
  exact h1.mine
theorem PtAt.new (m : Int) (w : World) : PtAt enc k T (fun k => w.heap.size ≤ k) (w.alloc (.cells #[.int .i64 (mostT m : Int), .int .u64 0, .slice none 0 0] T)) w.heap.size ⟨mostT m, [], 0⟩ :=
  ⟨Tb.Ok.new m, none, 0, Nat.le_refl _, heap_alloc_new w _, SK.zero, (fun _ _ e => by cases e), Nat.le_refl _, Nat.zero_le _, .inl ⟨rfl, rfl⟩⟩
theorem NoTp.below {p : Option Addr} (h : NoTp T w p) (hb : Below w.heap.size w w') : NoTp T w' p :=
  ⟨h.or.imp id fun ⟨B, e, k⟩ => ⟨B, e, (hb.block B (block_lt k)).trans k⟩⟩
theorem SK.row0 {E : TypeId} {base n : Nat} {l : List α} {enc : α → List Value} (h : rowK enc E k w base (.slice A n c) l) : (A = none ∧ c = 0) ∨ ∃ g, A = some ⟨g, 0, none⟩ := by
  rcases h.2 with ⟨e, _⟩ | ⟨g, _, _, e, _⟩
  · simp only [Value.slice.injEq] at e
    exact .inl ⟨e.1, e.2.2⟩
  · simp only [Value.slice.injEq] at e
    exact .inr ⟨g, e.1⟩
def geK (l : List (Rw α)) (key : ByteArray) (i : Nat) : Bool := match l[i]? with | some r => !ltT r.key key | none => true
theorem geK_at {l : List (Rw α)} {key : ByteArray} {i : Nat} (h : i < l.length) : geK l key i = !ltT l[i].key key := by
  unfold geK
  rw [List.getElem?_eq_getElem h]
theorem geK_plc {l : List (Rw α)} (hs : SR l) {key : ByteArray} {m : Nat} (hm : m ≤ l.length) (h1 : ∀ i, i < m → geK l key i = false) (h2 : ∀ i, m ≤ i → i < l.length → geK l key i = true) : plc l key = m :=
  plc_of hs hm (fun j hj hjm => by have := h1 j hjm; rw [geK_at hj] at this; simpa using this) (fun j hj hjm => by have := h2 j hjm hj; rw [geK_at hj] at this; simpa using this)
theorem geK_mono {l : List (Rw α)} (hs : SR l) (key : ByteArray) (a b : Nat) (hab : a ≤ b) (hb : b < l.length) (h : geK l key a = true) : geK l key b = true := by
  rw [geK_at (by omega)] at h
  rw [geK_at hb]
  have ha : ¬ a < plc l key := fun e => by rw [(plc_lt hs a (by omega)).1 e] at h; cases h
  cases e : ltT l[b].key key
  · rfl
  · exact absurd ((plc_lt hs b hb).2 e) (by omega)
def hasB (l : List (Rw α)) (k : ByteArray) : Bool := (getR l k).isSome
theorem hasB_at {l : List (Rw α)} (hs : SR l) {k : ByteArray} (h : plc l k < l.length) : hasB l k = (l[plc l k].key.toList == k.toList) := by
  unfold hasB
  rw [get_plc hs, dif_pos h]
  by_cases e : l[plc l k].key = k
  · rw [if_pos e, text_same.2 e]; rfl
  · rw [if_neg e, text_other.2 e]; rfl
theorem hasB_end {l : List (Rw α)} (hs : SR l) {k : ByteArray} (h : ¬ plc l k < l.length) : hasB l k = false := by
  unfold hasB
  rw [get_plc hs, dif_neg h]; rfl
theorem hasB_lt {l : List (Rw α)} (hs : SR l) {k : ByteArray} (h : hasB l k = true) : ∃ h : plc l k < l.length, l[plc l k].key = k ∧ getR l k = some l[plc l k] := by
  have hp : plc l k < l.length := by
    rcases Nat.lt_or_ge (plc l k) l.length with e | e
    · exact e
    · rw [hasB_end hs (by omega)] at h; cases h
  have hk := h
  rw [hasB_at hs hp] at hk
  exact ⟨hp, text_same.1 hk, get_some hs ⟨hp, text_same.1 hk⟩⟩
theorem hasB_none {l : List (Rw α)} {k : ByteArray} (h : hasB l k = false) : getR l k = none := by
  unfold hasB at h
  cases e : getR l k
  · rfl
  · rw [e] at h; cases h
def undR (l : List (Rw α)) (p : ByteArray) : List (Rw α) := l.filter fun x => underB x.key.data.toList p.data.toList
theorem und_snoc (l : List (Rw α)) (x : Rw α) (p : ByteArray) : undR (l ++ [x]) p = undR l p ++ (if underB x.key.data.toList p.data.toList = true then [x] else []) := by
  unfold undR
  rw [List.filter_append]
  by_cases h : underB x.key.data.toList p.data.toList = true
  · rw [if_pos h, List.filter_cons_of_pos (by simpa using h)]; rfl
  · rw [if_neg h, List.filter_cons_of_neg (by simpa using h)]; rfl
theorem und_length (l : List (Rw α)) (p : ByteArray) : (undR l p).length ≤ l.length := List.length_filter_le _ _
theorem wpList_append_sk {α : Type} {enc : α → List Value} {k : Nat} {E : TypeId} {w : World} {P : Program} {ops : Array Oper} {rest : List Oper} {o : Oper} {a : Act} {Q : Exit → Act → World → Prop} (hgd : o.guard = none) (s x : Operand) (t : TypeId)
    (ho : o.op = .call { callee := .builtin .append, args := #[s, x], argTypes := #[t, t] })
    (i : TypeInfo) (z : Value) (bytes : Nat) (ht : P.underlying t = some (.slice E)) (hi : P.info? E = some i) (hz : i.zero = some z) (hsize : i.size = k) (hby : i.bytes = bytes) (hzs : z.cells.size = k) (hk0 : 0 < k)
    (hk : ∀ x, (enc x).length = k) (h1 : ∀ x, ∀ u ∈ enc x, u.oneCell' = true)
    (base : Nat) (v : Value) (l : List α) (hs : a.eval s = v) (hown : rowK enc E k w base v l) (A : Option Addr) (c : Nat) (ys : List α) (hx : a.eval x = .slice A ys.length c) (hc : SK enc k w A ys.length ys) (hA : A = none → c = 0)
    (hl : l.length + ys.length ≤ maxLen) (hlb : (l.length + ys.length) * bytes ≤ 140737488355328) (hbase : base ≤ w.heap.size)
    (h : Hid (∀ v' w', rowK enc E k w' base v' (l ++ ys) → w.grownBy w' v.ownBlock → wpList P ops Q rest (a.put o.dst v') w')) : wpList P ops Q (o :: rest) a w := by
  cases A with
  | none =>
    have hn : ys = [] := by
      rcases Nat.eq_zero_or_pos ys.length with e | e
      · exact List.eq_nil_of_length_eq_zero e
      · obtain ⟨b, off, e2, _⟩ := hc.2 e
        cases e2
    subst hn
    rw [hA rfl] at hx
    refine wpList_append_own_none hgd s x _ ho base E i k ht hi v l.length (l.flatMap enc) hs hown hx (h.out v w (by rw [List.append_nil]; exact hown) ⟨rfl, rfl, rfl, Nat.le_refl _, fun _ _ _ => rfl⟩)
  | some ad =>
    refine wpList_append_own w hgd s x _ ho base E i z k bytes ht hi hz hsize hby hzs hk0 v l.length (l.flatMap enc) hs hown ad ys.length c (ys.flatMap enc) hx (flat_length hk ys) (fun j u hu => ?_) (flat_one h1 ys) hl hlb hbase (fun v' w' h2 h3 _ => h.out v' w' ?_ h3)
    · have hj : j < ys.length * k := by rw [← flat_length hk]; exact (List.getElem?_eq_some_iff.1 hu).1
      have hd : j / k < ys.length := (Nat.div_lt_iff_lt_mul hk0).2 hj
      have hm : j % k < k := Nat.mod_lt _ hk0
      have e := flat_at hk hd (j % k) hm
      have ej : j / k * k + j % k = j := by rw [Nat.mul_comm]; exact Nat.div_add_mod j k
      rw [ej, hu] at e
      obtain ⟨b, off, e2, _, hit⟩ := hc.2 (Nat.lt_of_le_of_lt (Nat.zero_le _) hd)
      cases e2
      have := hit (j / k) hd (j % k) u e.symm
      rw [plain_add, ← ej, ← Nat.add_assoc]
      exact this
    · unfold rowK
      rw [List.flatMap_append, List.length_append]
      exact h2
structure Pc (α : Type) where
  A : Option Addr
  c : Nat
  l : List (Rw α)
structure Pc.Ok (enc : Rw α → List Value) (k : Nat) (w : World) (p : Pc α) : Prop where
  row : SK enc k w p.A p.l.length p.l
  nil : p.A = none → p.c = 0
structure Pcs (enc : Rw α → List Value) (k : Nat) (w : World) (Z : Nat) (ps : List (Pc α)) : Prop where
  cell : ∀ j (h : j < ps.length), w.cell? ⟨Z, j, none⟩ = some (.slice ps[j].A ps[j].l.length ps[j].c)
  ok : ∀ p ∈ ps, p.Ok enc k w
  lt : Z < w.heap.size
theorem Pcs.below {Z : Nat} {ps : List (Pc α)} (h : Pcs enc k w Z ps) (hb : Below w.heap.size w w') : Pcs enc k w' Z ps :=
  ⟨fun j hj => (World.cell?_of_block (a := ⟨Z, j, none⟩) (hb.block Z h.lt)).trans (h.cell j hj), fun p hp => ⟨(h.ok p hp).row.below hb, (h.ok p hp).nil⟩, Nat.lt_of_lt_of_le h.lt hb.size⟩
def joinP (ps : List (Pc α)) : List (Rw α) := ps.flatMap (·.l)
theorem joinP_step {ps : List (Pc α)} {k : Nat} (h : k < ps.length) : joinP (ps.take (k + 1)) = joinP (ps.take k) ++ ps[k].l := by
  unfold joinP
  rw [List.take_succ_eq_append_getElem h, List.flatMap_append]
  simp
theorem joinP_take (ps : List (Pc α)) (k : Nat) : (joinP (ps.take k)).length ≤ (joinP ps).length := by
  unfold joinP
  have : ps.flatMap (·.l) = (ps.take k).flatMap (·.l) ++ (ps.drop k).flatMap (·.l) := by rw [← List.flatMap_append, List.take_append_drop]
  rw [this, List.length_append]
  omega
def tailA (k : Nat) (A : Option Addr) (lo c : Nat) : Option Addr := if c = lo then A else A.map (·.add (lo * k))
theorem PtIs.head (h : PtIs enc k T S w B A c t) {i : Nat} (hi : i ≤ t.l.length) : (⟨A, c, t.l.take i⟩ : Pc α).Ok enc k w := by
  have e : (t.l.take i).length = i := by rw [List.length_take]; omega
  refine ⟨?_, fun e2 => ?_⟩
  · have := h.row.take hi
    show SK enc k w A (t.l.take i).length (t.l.take i)
    rw [e]; exact this
  · rcases h.at0 with ⟨_, e3⟩ | ⟨g, e3⟩
    · exact e3
    · have e2' : A = none := e2
      rw [e2'] at e3; cases e3
theorem PtIs.tail (h : PtIs enc k T S w B A c t) {i : Nat} (hi : i ≤ t.l.length) : (⟨tailA k A i c, c - i, t.l.drop i⟩ : Pc α).Ok enc k w := by
  have hle := h.le
  refine ⟨⟨rfl, fun hn => ?_⟩, fun e2 => ?_⟩
  · have hn' : i < t.l.length := by have : 0 < (t.l.drop i).length := hn; rw [List.length_drop] at this; omega
    obtain ⟨b, off, e, hb, hit⟩ := h.row.2 (by omega)
    rcases h.at0 with ⟨e3, _⟩ | ⟨g, e3⟩
    · rw [e] at e3; cases e3
    · rw [e3] at e
      cases e
      refine ⟨b, i * k, ?_, hb, fun j hj => ?_⟩
      · show tailA k A i c = _
        unfold tailA
        rw [if_neg (by omega), e3]
        simp [plain_add]
      · have hj' : i + j < t.l.length := by have : j < (t.l.drop i).length := hj; rw [List.length_drop] at this; omega
        have := hit (i + j) hj'
        rw [List.getElem_drop]
        rw [Nat.zero_add, Nat.add_mul] at this
        exact this
  · have e2' : tailA k A i c = none := e2
    unfold tailA at e2'
    rcases h.at0 with ⟨_, e3⟩ | ⟨g, e3⟩
    · show c - i = 0
      omega
    · rw [e3] at e2'
      split at e2'
      · cases e2'
      · cases e2'
theorem Pc.one {Y : Nat} {r : Rw α} {cur : Array Value} {E : TypeId} (hc : cur.toList = enc r) (ky : w.heap[Y]? = some (.cells cur E (0, 0))) : (⟨some ⟨Y, 0, none⟩, 1, [r]⟩ : Pc α).Ok enc k w :=
  ⟨⟨rfl, fun _ => ⟨Y, 0, rfl, block_lt ky, fun j hj i u hu => by
    obtain rfl : j = 0 := by have : j < 1 := hj; omega
    rw [cell_of_row _ _ _ _ _ _ ky, ← Array.getElem?_toList, Nat.zero_mul, Nat.zero_add, hc]
    exact hu⟩⟩, (fun e => by cases e)⟩
theorem PtIs.three (h : PtIs enc k T S w B A c t) {a b Y Z : Nat} (ha : a ≤ t.l.length) (hb : b ≤ t.l.length) {r : Rw α} {cur : Array Value} {E E2 : TypeId} (hc : cur.toList = enc r) (ky : w.heap[Y]? = some (.cells cur E (0, 0)))
    (kz : w.heap[Z]? = some (.cells #[.slice A a c, .slice (some ⟨Y, 0, none⟩) 1 1, .slice (tailA k A b c) (t.l.length - b) (c - b)] E2 (0, 0))) : Pcs enc k w Z [⟨A, c, t.l.take a⟩, ⟨some ⟨Y, 0, none⟩, 1, [r]⟩, ⟨tailA k A b c, c - b, t.l.drop b⟩] := by
  refine ⟨fun j hj => ?_, fun p hp => ?_, block_lt kz⟩
  · have hl1 : (t.l.take a).length = a := by rw [List.length_take]; omega
    have hl3 : (t.l.drop b).length = t.l.length - b := List.length_drop
    rw [cell_of_row _ _ _ _ _ _ kz]
    match j, hj with
    | 0, _ => simp [hl1]
    | 1, _ => simp
    | 2, _ => simp
    | n + 3, hj => exact absurd hj (by simp)
  · simp only [List.mem_cons, List.not_mem_nil, or_false] at hp
    rcases hp with rfl | rfl | rfl
    · exact h.head ha
    · exact Pc.one hc ky
    · exact h.tail hb
def nextIs (l pre : List (Rw α)) (x : Rw α) (_ : World) : Prop := ∃ j, ∃ h : j < l.length, pre = l.take j ∧ l[j] = x
theorem nextIs.mem {l pre : List (Rw α)} {x : Rw α} {w : World} (h : nextIs l pre x w) : x ∈ l := by
  obtain ⟨j, hj, _, rfl⟩ := h
  exact List.getElem_mem hj
def KpD (D : Nat → Prop) (W W' : World) : Prop := W.heap.size ≤ W'.heap.size ∧ ∀ k o, ¬ D k → W.heap[k]? = some o → o.isCells = true → W'.heap[k]? = some o
theorem kpD_t {D : Nat → Prop} {A B C : World} (h : KpD D A B) (k : KpD D B C) : KpD D A C := ⟨Nat.le_trans h.1 k.1, fun q o hq ho hc => k.2 q o hq (h.2 q o hq ho hc) hc⟩
theorem kpD_b {D : Nat → Prop} {i : Nat} (W : World) (o' : Obj) (o : Loop) (hl : W.heap[i]? = some (.loop o)) : KpD D W (W.putObj i o') :=
  ⟨(grownBy_putObj' W i o').size, fun k u _ hk hc => by
    by_cases e : k = i
    · subst e
      rw [hl] at hk
      cases hk
      cases hc
    · exact (World.putObj_heap_other e).trans hk⟩
theorem kpD_of {D : Nat → Prop} {W W' : World} (h : Below W.heap.size W W') : KpD D W W' := ⟨h.size, fun k o _ hk _ => (h.block k (block_lt hk)).trans hk⟩
theorem kpD_above {W W' : World} {B : Nat} (h : Below B W W') : KpD (fun k => B ≤ k) W W' := ⟨h.size, fun k o hn hk _ => (h.block k (by omega)).trans hk⟩
def RowsB (A : Option Addr) (n : Nat) : Nat → Prop := fun k => ∃ off, A = some ⟨k, off, none⟩ ∧ 0 < n
theorem SK.kpD {D : Nat → Prop} {W W' : World} {l : List (Rw α)} (h0 : ∀ r, 0 < (enc r).length) (h : SK enc k W A l.length l) (hD : ∀ k, RowsB A l.length k → ¬ D k) (hk : KpD D W W') : SK enc k W' A l.length l :=
  ⟨h.1, fun hn => by
    obtain ⟨b, off, e, hlt, hc⟩ := h.2 hn
    have hq := h0 l[0]
    obtain ⟨o, ho, hoc⟩ := cells_of_cell (hc 0 hn 0 _ (List.getElem?_eq_getElem hq))
    have h1 := hk.2 b o (hD b ⟨off, e, hn⟩) ho hoc
    exact ⟨b, off, e, Nat.lt_of_lt_of_le hlt hk.1, fun j hj => (hc j hj).of_block (h1.trans ho.symm)⟩⟩
theorem SK.rowsB {W : World} {n : Nat} {l : List (Rw α)} (h : SK enc k W A n l) : ∀ k, RowsB A n k → k < W.heap.size := fun k ⟨off, e, hn⟩ => by
  obtain ⟨b, off', e', hb, _⟩ := h.2 hn
  rw [e] at e'
  cases e'
  exact hb
theorem cellN_new (w : World) (cur : Array Value) (t : TypeId) (j : Nat) (q : Value) (h : cur[j]? = some q) : (w.alloc (.cells cur t)).cell? ((⟨w.heap.size, 0, none⟩ : Addr).add j) = some q := by
  rw [plain_add, Nat.zero_add, cell_of_row _ w.heap.size j _ _ (0, 0) (heap_alloc_new w _)]
  exact h
theorem keepsFrom_below {B : Nat} {W W' : World} (h : Below W.heap.size W W') : KeepsFrom B W W' := ⟨h.size, fun k o _ hk _ => (h.block k (block_lt hk)).trans hk⟩
def rwAx (cur : Rw α → Array Value) (E : TypeId) (l : List (Rw α)) (mk : Rw α → Nat → Act) (pre : List (Rw α)) (x : Rw α) (a : Act) (W : World) : Prop := nextIs l pre x W ∧ ∃ Bx, W.heap[Bx]? = some (.cells (cur x) E (0, 0)) ∧ a = mk x Bx
theorem rwAx_own (cur : Rw α → Array Value) (E : TypeId) (l : List (Rw α)) (B : Nat) (mk : Rw α → Nat → Act) (pre : List (Rw α)) (x : Rw α) (a : Act) : OwnFrom B (fun (_ : Unit) W => rwAx cur E l mk pre x a W) := fun _ _ _ _ ⟨hx, Bx, h, e⟩ hg hr =>
  ⟨hx, Bx, (grownBy_keeps_cells hg (fun r e => (hr r e).2) h rfl).trans h, e⟩
end
end Go.Proofs.YtilkbfmaofmjoaaGreatDoor
