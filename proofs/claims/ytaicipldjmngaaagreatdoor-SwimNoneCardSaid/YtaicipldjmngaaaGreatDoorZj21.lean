import Derived.Test.YtaicipldjmngaaaGreatDoorZj1
import Derived.Shelf.GgSortFunc.RowK
import Derived.Shelf.SlSortCmp.InsertionK
namespace Go.Proofs.YtaicipldjmngaaaGreatDoor
open Go.RowKit Go.Sort
set_option linter.unusedSimpArgs false
section
variable {α : Type} (enc : α → List Value)
def ItAt (w : World) (b o : Nat) (x : α) : Prop := ∀ i u, (enc x)[i]? = some u → w.cell? ⟨b, o + i, none⟩ = some u
def SK (k : Nat) (w : World) (A : Option Addr) (n : Nat) (ss : List α) : Prop :=
  ss.length = n ∧ (0 < n → ∃ b off, A = some ⟨b, off, none⟩ ∧ b < w.heap.size ∧ ∀ j (h : j < ss.length), ItAt enc w b (off + j * k) ss[j])
def rowK (E : TypeId) (k : Nat) (w : World) (base : Nat) (v : Value) (l : List α) : Prop := w.ownsRow base E k v l.length (l.flatMap enc)
end
section
variable {α : Type} {enc : α → List Value} {k : Nat} {E : TypeId} {w w' : World} {A : Option Addr} {n base : Nat} {ss l : List α} {v : Value}
theorem ItAt.of_block {b o : Nat} {x : α} (h : ItAt enc w b o x) (hb : w'.heap[b]? = w.heap[b]?) : ItAt enc w' b o x := fun i u hu => (World.cell?_of_block (a := ⟨b, o + i, none⟩) hb).trans (h i u hu)
theorem ItAt.of_new (x : α) (cs : Array Value) (hcs : cs.toList = enc x) (T : TypeId) : ItAt enc (w.alloc (.cells cs T)) w.heap.size 0 x := by
  intro i u hu
  rw [cell_of_row _ _ _ _ _ _ (heap_alloc_new w _), Nat.zero_add, ← Array.getElem?_toList, hcs]
  exact hu
theorem SK.zero : SK enc k w A 0 [] := ⟨rfl, fun h => absurd h (by omega)⟩
theorem SK.keep (h : SK enc k w A n ss) (hb : ∀ b off, A = some ⟨b, off, none⟩ → w'.heap[b]? = w.heap[b]?) : SK enc k w' A n ss :=
  ⟨h.1, fun hn => by
    obtain ⟨b, off, e, hlt, hc⟩ := h.2 hn
    refine ⟨b, off, e, ?_, fun j hj => (hc j hj).of_block (hb b off e)⟩
    have := hb b off e
    rw [Array.getElem?_eq_getElem hlt] at this
    exact (Array.getElem?_eq_some_iff.1 this).1⟩
theorem SK.below (h : SK enc k w A n ss) (hb : Below w.heap.size w w') : SK enc k w' A n ss :=
  ⟨h.1, fun hn => by
    obtain ⟨b, off, e, hlt, hc⟩ := h.2 hn
    exact ⟨b, off, e, Nat.lt_of_lt_of_le hlt hb.size, fun j hj => (hc j hj).of_block (hb.block b hlt)⟩⟩
theorem SK.but {S : Nat → Prop} (h : SK enc k w A n ss) (hb : But S w w') (hs : ∀ b off, A = some ⟨b, off, none⟩ → 0 < n → ¬ S b) : SK enc k w' A n ss :=
  ⟨h.1, fun hn => by
    obtain ⟨b, off, e, hlt, hc⟩ := h.2 hn
    exact ⟨b, off, e, Nat.lt_of_lt_of_le hlt hb.size, fun j hj => (hc j hj).of_block (hb.block b hlt (hs b off e hn))⟩⟩
theorem SK.at_ (h : SK enc k w A n ss) {j : Nat} (hj : j < n) (hj' : j < ss.length) : ∃ b off, A = some ⟨b, off, none⟩ ∧ b < w.heap.size ∧ ItAt enc w b (off + j * k) ss[j] := by
  obtain ⟨b, off, e, hb, hc⟩ := h.2 (by omega)
  exact ⟨b, off, e, hb, hc j hj'⟩
theorem SK.take (h : SK enc k w A n ss) {m : Nat} (hm : m ≤ n) : SK enc k w A m (ss.take m) := by
  have hl := h.1
  refine ⟨by rw [List.length_take]; omega, fun hk0 => ?_⟩
  obtain ⟨b, off, e, hlt, hc⟩ := h.2 (by omega)
  refine ⟨b, off, e, hlt, fun j hj => ?_⟩
  rw [List.length_take] at hj
  rw [List.getElem_take]
  exact hc j (by omega)
theorem flat_length (hk : ∀ x, (enc x).length = k) : ∀ l : List α, (l.flatMap enc).length = l.length * k
  | [] => by simp
  | x :: l => by rw [List.flatMap_cons, List.length_append, hk, flat_length hk l, List.length_cons, Nat.add_mul]; omega
theorem flat_drop (hk : ∀ x, (enc x).length = k) : ∀ (l : List α) (j : Nat), (l.flatMap enc).drop (j * k) = (l.drop j).flatMap enc
  | [], j => by simp
  | x :: l, 0 => by simp
  | x :: l, j + 1 => by
    rw [List.drop_succ_cons, List.flatMap_cons, ← flat_drop hk l j, show (j + 1) * k = (enc x).length + j * k by rw [hk, Nat.add_mul]; omega, List.drop_length_add_append]
theorem flat_at (hk : ∀ x, (enc x).length = k) {l : List α} {j : Nat} (hj : j < l.length) (i : Nat) (hi : i < k) : (l.flatMap enc)[j * k + i]? = (enc l[j])[i]? := by
  have h1 := flat_drop hk l j
  rw [List.drop_eq_getElem_cons hj] at h1
  have h2 : ((l.flatMap enc).drop (j * k))[i]? = (l.flatMap enc)[j * k + i]? := by rw [List.getElem?_drop]
  rw [← h2, h1, List.flatMap_cons, List.getElem?_append_left (by rw [hk]; exact hi)]
theorem rowK.nil (w : World) (base : Nat) : rowK enc E k w base (.slice none 0 0) [] := ⟨by simp, .inl ⟨rfl, rfl⟩⟩
theorem rowK.but {S : Nat → Prop} (h : rowK enc E k w base v l) (hb : But S w w') (hs : ∀ j, v.ownBlock = some j → ¬ S j) : rowK enc E k w' base v l := own_but h hb hs
theorem rowK.below (h : rowK enc E k w base v l) (hb : Below w.heap.size w w') : rowK enc E k w' base v l := bown_keep h hb
theorem rowK.base_le (h : rowK enc E k w base v l) {base' : Nat} (hb : base' ≤ base) : rowK enc E k w base' v l := bown_base h hb
theorem rowK.from (h : rowK enc E k w base v l) : ∀ r, v.ownBlock = some r → base ≤ r ∧ r < w.heap.size := fun r hr => by
  rcases h.2 with ⟨rfl, _⟩ | ⟨g, _, _, rfl, hg, hh, _⟩
  · cases hr
  · cases hr
    exact ⟨hg, block_lt hh⟩
theorem SK.of_row (hk : ∀ x, (enc x).length = k) (h : rowK enc E k w base v l) : ∃ A c, v = .slice A l.length c ∧ SK enc k w A l.length l ∧ l.length ≤ c ∧ c ≤ maxLen ∧ (∀ b off, A = some ⟨b, off, none⟩ → base ≤ b) := by
  have h0 := h
  rcases h.2 with ⟨rfl, h1⟩ | ⟨g, cap, cur, rfl, hg, hh, hnc, hm, hsz, ht⟩
  · rw [h1]
    exact ⟨none, 0, rfl, ⟨h1, fun h => absurd h (Nat.lt_irrefl _)⟩, Nat.le_refl _, Nat.zero_le _, (fun _ _ e => by cases e)⟩
  · refine ⟨some ⟨g, 0, none⟩, cap, rfl, ⟨rfl, fun _ => ⟨g, 0, rfl, block_lt hh, fun j hj i u hu => ?_⟩⟩, hnc, hm, fun b off e => ?_⟩
    · have hi : i < k := by rw [← hk l[j]]; exact (List.getElem?_eq_some_iff.1 hu).1
      have := World.ownsRow.cells h0 (g := g) rfl (j * k + i) u (by rw [flat_at hk hj i hi]; exact hu)
      rwa [plain_add, ← Nat.add_assoc] at this
    · simp only [Option.some.injEq, Addr.mk.injEq] at e
      omega
variable [Inhabited α]
theorem flatK_at (hk : ∀ x, (enc x).length = k) (l : List α) (t : Nat) (ht : t < l.length * k) : (l.flatMap enc)[t]? = some (flatK enc k l.toArray)[t]! := by
  have hk0 : 0 < k := by
    rcases Nat.eq_zero_or_pos k with e | e
    · rw [e] at ht; omega
    · exact e
  have hd : t / k < l.length := (Nat.div_lt_iff_lt_mul hk0).2 ht
  have hm : t % k < k := Nat.mod_lt _ hk0
  have e := flat_at hk hd (t % k) hm
  have ht2 : t / k * k + t % k = t := by rw [Nat.mul_comm]; exact Nat.div_add_mod t k
  rw [ht2] at e
  rw [e, get_flatK _ _ _ _ (by simpa using ht)]
  have hx : (l.toArray)[t / k]! = l[t / k] := by simp [hd]
  rw [hx, List.getElem!_eq_getElem?_getD, List.getElem?_eq_getElem (by rw [hk]; exact hm)]
  rfl
theorem holdsK_of_row (hk : ∀ x, (enc x).length = k) {g c : Nat} (h : rowK enc E k w base (.slice (some ⟨g, 0, none⟩) l.length c) l) : HoldsK enc k w g 0 l.toArray := by
  have h0 := h
  rcases h.2 with ⟨e, _⟩ | ⟨g', cap, cur, e, hg, hh, hnc, hm, hsz, ht⟩
  · cases e
  · simp only [Value.slice.injEq, Option.some.injEq, Addr.mk.injEq, true_and, and_true] at e
    obtain ⟨rfl, rfl⟩ := e
    intro j hj
    have hj' : j < l.length * k := by simpa using hj
    refine ⟨?_, by simp [World.frozen?, hh]⟩
    have := World.ownsRow.cells h0 (g := g) rfl j _ (flatK_at hk l j hj')
    rwa [plain_add] at this
theorem heap_sortK {g m : Nat} {os : Array Obj} {cur : Array Value} {e : TypeId} {fr : Nat × Nat} (d : Array α) (hb : w.heap[g]? = some (.cells cur e fr)) :
    (sortWorldK enc k w g 0 m d os).heap[g]? = some (.cells (putCells id 0 (flatK enc k d) cur) e fr) := by
  have hg : g < w.heap.size := (Array.getElem?_eq_some_iff.1 hb).1
  unfold sortWorldK putRowK
  rw [heap_grow_old _ _ (by simpa using hg)]
  simp [putRow, mapBlock, Sort.ahead, Array.getElem?_modify, hb, onCells]
theorem grownBy_sortK {g m : Nat} {os : Array Obj} (d : Array α) : w.grownBy (sortWorldK enc k w g 0 m d os) (some g) := by
  unfold sortWorldK putRowK
  refine ⟨rfl, rfl, rfl, by simp, fun k hk hne => ?_⟩
  rw [heap_grow_old _ _ (by simpa using hk)]
  have : g ≠ k := fun e => hne (by rw [e])
  simp [putRow, mapBlock, Sort.ahead, Array.getElem?_modify, this]
theorem rowK.sorted (hk : ∀ x, (enc x).length = k) {g c m : Nat} {os : Array Obj} {l' : List α} (hl : l'.length = l.length) (h : rowK enc E k w base (.slice (some ⟨g, 0, none⟩) l.length c) l) : rowK enc E k (sortWorldK enc k w g 0 m l'.toArray os) base (.slice (some ⟨g, 0, none⟩) l.length c) l' := by
  rcases h.2 with ⟨e, _⟩ | ⟨g', cap, cur, e, hg, hh, hnc, hm, hsz, ht⟩
  · cases e
  · simp only [Value.slice.injEq, Option.some.injEq, Addr.mk.injEq, true_and, and_true] at e
    obtain ⟨rfl, rfl⟩ := e
    refine ⟨flat_length hk l', .inr ⟨g, c, _, by rw [hl], hg, heap_sortK _ hh, by omega, hm, by simp [putCells, hsz], ?_⟩⟩
    apply List.ext_getElem?
    intro j
    by_cases hj : j < l'.length * k
    · rw [List.getElem?_take_of_lt hj, Array.getElem?_toList, flatK_at hk l' j hj]
      have hjc : j < cur.size := by
        have := Nat.mul_le_mul_right k hnc
        rw [hsz]
        rw [hl] at hj
        omega
      simp only [putCells, Array.getElem?_mapIdx, Array.getElem?_eq_getElem hjc, Option.map_some]
      rw [if_pos ⟨Nat.zero_le _, by simpa using hj⟩]
      rfl
    · rw [List.getElem?_take_eq_none (by omega), List.getElem?_eq_none (by rw [flat_length hk]; omega)]
end
end Go.Proofs.YtaicipldjmngaaaGreatDoor
