/-
  Slices and rows of structs of k cells each (enc says an element's cells), of whatever program: reading, keeping, appending.
-/
import Derived.Test.YtbhhalkpghcflaaZj4
namespace Go.Proofs.Ytbhhalkpghcflaa
open Go.RowKit
set_option linter.unusedSimpArgs false

section
variable {α : Type} (enc : α → List Value)
/-- x lies at ⟨b, o⟩. -/
def ItAt (w : World) (b o : Nat) (x : α) : Prop := ∀ i u, (enc x)[i]? = some u → w.cell? ⟨b, o + i, none⟩ = some u
/-- The slice value '.slice A n c' reads as ss. -/
def SK (k : Nat) (w : World) (A : Option Addr) (n : Nat) (ss : List α) : Prop :=
  ss.length = n ∧ (0 < n → ∃ b off, A = some ⟨b, off, none⟩ ∧ b < w.heap.size ∧ ∀ j (h : j < ss.length), ItAt enc w b (off + j * k) ss[j])
/-- A row of the call's own. -/
def rowK (E : TypeId) (k : Nat) (w : World) (base : Nat) (v : Value) (l : List α) : Prop := w.ownsRow base E k v l.length (l.flatMap enc)
end
section
variable {α : Type} {enc : α → List Value} {k : Nat} {E : TypeId} {w w' : World} {A : Option Addr} {n base : Nat} {ss l : List α} {v : Value}
theorem ItAt.of_block {b o : Nat} {x : α} (h : ItAt enc w b o x) (hb : w'.heap[b]? = w.heap[b]?) : ItAt enc w' b o x := fun i u hu => (World.cell?_of_block (a := ⟨b, o + i, none⟩) hb).trans (h i u hu)
theorem ItAt.of_new (x : α) (cs : Array Value) (hcs : cs.toList = enc x) (T : TypeId) : ItAt enc (w.alloc (.cells cs T)) w.heap.size 0 x := by
  intro i u hu
  rw [cell_of_row _ _ _ _ _ _ (heap_alloc_new w _), Nat.zero_add, ← Array.getElem?_toList, hcs]
  exact hu
theorem SK.zero : SK enc k w A 0 [] := ⟨rfl, fun h => absurd h (by omega)⟩
theorem SK.keep (h : SK enc k w A n ss) (hb : ∀ b off, A = some ⟨b, off, none⟩ → w'.heap[b]? = w.heap[b]?) : SK enc k w' A n ss :=
  ⟨h.1, fun hn => by
    obtain ⟨b, off, e, hlt, hc⟩ := h.2 hn
    refine ⟨b, off, e, ?_, fun j hj => (hc j hj).of_block (hb b off e)⟩
    have := hb b off e
    rw [Array.getElem?_eq_getElem hlt] at this
    exact (Array.getElem?_eq_some_iff.1 this).1⟩
theorem SK.below (h : SK enc k w A n ss) (hb : Below w.heap.size w w') : SK enc k w' A n ss :=
  ⟨h.1, fun hn => by
    obtain ⟨b, off, e, hlt, hc⟩ := h.2 hn
    exact ⟨b, off, e, Nat.lt_of_lt_of_le hlt hb.size, fun j hj => (hc j hj).of_block (hb.block b hlt)⟩⟩
theorem SK.but {S : Nat → Prop} (h : SK enc k w A n ss) (hb : But S w w') (hs : ∀ b off, A = some ⟨b, off, none⟩ → 0 < n → ¬ S b) : SK enc k w' A n ss :=
  ⟨h.1, fun hn => by
    obtain ⟨b, off, e, hlt, hc⟩ := h.2 hn
    exact ⟨b, off, e, Nat.lt_of_lt_of_le hlt hb.size, fun j hj => (hc j hj).of_block (hb.block b hlt (hs b off e hn))⟩⟩
theorem SK.at_ (h : SK enc k w A n ss) {j : Nat} (hj : j < n) (hj' : j < ss.length) : ∃ b off, A = some ⟨b, off, none⟩ ∧ b < w.heap.size ∧ ItAt enc w b (off + j * k) ss[j] := by
  obtain ⟨b, off, e, hb, hc⟩ := h.2 (by omega)
  exact ⟨b, off, e, hb, hc j hj'⟩
theorem SK.take (h : SK enc k w A n ss) {m : Nat} (hm : m ≤ n) : SK enc k w A m (ss.take m) := by
  have hl := h.1
  refine ⟨by rw [List.length_take]; omega, fun hk0 => ?_⟩
  obtain ⟨b, off, e, hlt, hc⟩ := h.2 (by omega)
  refine ⟨b, off, e, hlt, fun j hj => ?_⟩
  rw [List.length_take] at hj
  rw [List.getElem_take]
  exact hc j (by omega)

theorem flat_length (hk : ∀ x, (enc x).length = k) : ∀ l : List α, (l.flatMap enc).length = l.length * k
  | [] => by simp
  | x :: l => by rw [List.flatMap_cons, List.length_append, hk, flat_length hk l, List.length_cons, Nat.add_mul]; omega
theorem flat_one (h1 : ∀ x, ∀ u ∈ enc x, u.oneCell' = true) (l : List α) : ∀ u ∈ l.flatMap enc, u.oneCell' = true := fun u hu => by
  obtain ⟨x, _, hx⟩ := List.mem_flatMap.1 hu
  exact h1 x u hx
theorem flat_drop (hk : ∀ x, (enc x).length = k) : ∀ (l : List α) (j : Nat), (l.flatMap enc).drop (j * k) = (l.drop j).flatMap enc
  | [], j => by simp
  | x :: l, 0 => by simp
  | x :: l, j + 1 => by
    rw [List.drop_succ_cons, List.flatMap_cons, ← flat_drop hk l j, show (j + 1) * k = (enc x).length + j * k by rw [hk, Nat.add_mul]; omega, List.drop_length_add_append]
theorem flat_at (hk : ∀ x, (enc x).length = k) {l : List α} {j : Nat} (hj : j < l.length) (i : Nat) (hi : i < k) : (l.flatMap enc)[j * k + i]? = (enc l[j])[i]? := by
  have h1 := flat_drop hk l j
  rw [List.drop_eq_getElem_cons hj] at h1
  have h2 : ((l.flatMap enc).drop (j * k))[i]? = (l.flatMap enc)[j * k + i]? := by rw [List.getElem?_drop]
  rw [← h2, h1, List.flatMap_cons, List.getElem?_append_left (by rw [hk]; exact hi)]
theorem rowK.nil (w : World) (base : Nat) : rowK enc E k w base (.slice none 0 0) [] := ⟨by simp, .inl ⟨rfl, rfl⟩⟩
theorem rowK.but {S : Nat → Prop} (h : rowK enc E k w base v l) (hb : But S w w') (hs : ∀ j, v.ownBlock = some j → ¬ S j) : rowK enc E k w' base v l := own_but h hb hs
theorem rowK.below (h : rowK enc E k w base v l) (hb : Below w.heap.size w w') : rowK enc E k w' base v l := bown_keep h hb
theorem rowK.base_le (h : rowK enc E k w base v l) {base' : Nat} (hb : base' ≤ base) : rowK enc E k w base' v l := bown_base h hb
theorem rowK.from (h : rowK enc E k w base v l) : ∀ r, v.ownBlock = some r → base ≤ r ∧ r < w.heap.size := fun r hr => by
  rcases h.2 with ⟨rfl, _⟩ | ⟨g, _, _, rfl, hg, hh, _⟩
  · cases hr
  · cases hr
    exact ⟨hg, block_lt hh⟩
theorem rowK.cells_ (h : rowK enc E k w base v l) {b : Nat} (hb : v.ownBlock = some b) : ∃ cur, w.heap[b]? = some (.cells cur E (0, 0)) := by
  rcases h.2 with ⟨rfl, _⟩ | ⟨g, _, cur, rfl, _, hh, _⟩
  · cases hb
  · cases hb
    exact ⟨cur, hh⟩
/-- A row of the call's own reads as a slice. -/
theorem SK.of_row (hk : ∀ x, (enc x).length = k) (h : rowK enc E k w base v l) : ∃ A c, v = .slice A l.length c ∧ SK enc k w A l.length l ∧ l.length ≤ c ∧ c ≤ maxLen ∧ (∀ b off, A = some ⟨b, off, none⟩ → base ≤ b) := by
  have h0 := h
  rcases h.2 with ⟨rfl, h1⟩ | ⟨g, cap, cur, rfl, hg, hh, hnc, hm, hsz, ht⟩
  · rw [h1]
    exact ⟨none, 0, rfl, ⟨h1, fun h => absurd h (Nat.lt_irrefl _)⟩, Nat.le_refl _, Nat.zero_le _, (fun _ _ e => by cases e)⟩
  · refine ⟨some ⟨g, 0, none⟩, cap, rfl, ⟨rfl, fun _ => ⟨g, 0, rfl, block_lt hh, fun j hj i u hu => ?_⟩⟩, hnc, hm, fun b off e => ?_⟩
    · have hi : i < k := by rw [← hk l[j]]; exact (List.getElem?_eq_some_iff.1 hu).1
      have := World.ownsRow.cells h0 (g := g) rfl (j * k + i) u (by rw [flat_at hk hj i hi]; exact hu)
      rwa [plain_add, ← Nat.add_assoc] at this
    · simp only [Option.some.injEq, Addr.mk.injEq] at e
      omega
/-- append of one struct, from a block that was just laid. -/
theorem wpList_append_k {P : Program} {ops : Array Oper} {rest : List Oper} {o : Oper} {a : Act} {Q : Exit → Act → World → Prop} (hgd : o.guard = none) (s x : Operand) (t : TypeId)
    (ho : o.op = .call { callee := .builtin .append, args := #[s, x], argTypes := #[t, t] })
    (i : TypeInfo) (z : Value) (bytes : Nat) (ht : P.underlying t = some (.slice E)) (hi : P.info? E = some i) (hz : i.zero = some z) (hsize : i.size = k) (hby : i.bytes = bytes) (hzs : z.cells.size = k) (hk0 : 0 < k)
    (hk : ∀ x, (enc x).length = k) (h1 : ∀ x, ∀ u ∈ enc x, u.oneCell' = true)
    (base : Nat) (v : Value) (l : List α) (hs : a.eval s = v) (hown : rowK enc E k w base v l) (X : Nat) (y : α) (hx : a.eval x = .slice (some ⟨X, 0, none⟩) 1 1) (hc : ItAt enc w X 0 y)
    (hl : l.length + 1 ≤ maxLen) (hlb : (l.length + 1) * bytes ≤ 140737488355328) (hbase : base ≤ w.heap.size)
    (h : Hid (∀ v' w', rowK enc E k w' base v' (l ++ [y]) → w.grownBy w' v.ownBlock → wpList P ops Q rest (a.put o.dst v') w')) : wpList P ops Q (o :: rest) a w := by
  refine wpList_append_own w hgd s x _ ho base E i z k bytes ht hi hz hsize hby hzs hk0 v l.length (l.flatMap enc) hs hown ⟨X, 0, none⟩ 1 1 (enc y) hx (by rw [hk]; omega) (fun j u hu => ?_) (h1 y) hl hlb hbase (fun v' w' h2 h3 _ => h.out v' w' ?_ h3)
  · rw [plain_add]
    exact hc j u hu
  · unfold rowK
    rw [List.flatMap_append, List.length_append, List.flatMap_cons, List.flatMap_nil, List.append_nil]
    exact h2
end
end Go.Proofs.Ytbhhalkpghcflaa
