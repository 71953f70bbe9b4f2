/-
  The walks of name.Has and name.Sorted (layer 1): the library's search, clone and sort by their contracts; the loop that keeps what is fresh.
-/
import Derived.Test.YtcnfjimncifbgaaDoorWalkJ
import Derived.Sort.OwnSorted
import Derived.Lib.OwnBridge
namespace Go.Proofs.YtcnfjimncifbgaaDoor
open Go.RowKit Go.ChangeShapes Go.WideShapes Go.ChangeAt Go.Sort
set_option linter.unusedSimpArgs false

/-! ### Has -/
theorem search_any (A : Option Addr) (n c : Nat) (xs : List ByteArray) (s : ByteArray) (w : World) (h : RS w A n xs) (hn : n ≤ 1000) (hS : SS xs) :
    Calls Tryd.prog 42 #[.slice A n c, .string s] w fun e w' => ∃ I : Int, e = .returned (.tuple #[.int .i64 I, .bool (hasB xs s)]) ∧ Below w.heap.size w w' := by
  have hl := h.1
  by_cases h0 : n = 0
  · subst h0
    obtain rfl : xs = [] := List.eq_nil_of_length_eq_zero hl
    exact (Tryd.slices_BinarySearch_string_empty A c s w).mono (by rintro e w' ⟨rfl, rfl⟩; exact ⟨0, rfl, Below.refl _ _⟩)
  · obtain ⟨b, off, rfl, hb, hc⟩ := h.2 (by omega)
    subst hl
    refine (Tryd.slices_BinarySearch_string b off xs.length c (getS xs s) s w (by omega) (fun j hj => ?_)).mono ?_
    · rw [getS, dif_pos hj]
      exact hc j hj
    · rintro e w' ⟨rfl, q, rfl⟩
      rw [search_eq hS s]
      exact ⟨_, rfl, below_draws (Below.refl _ _) q⟩

theorem has_any_ (A : Option Addr) (n c : Nat) (xs : List ByteArray) (s : ByteArray) (w : World) (h : RS w A n xs) (hn : n ≤ 1000) (hS : SS xs) :
    Calls Tryd.prog 23 #[.slice A n c, .string s] w fun e w' => e = .returned (.bool (hasB xs s)) ∧ Below w.heap.size w w' := by
  have c1 := search_any A n c xs s w h hn hS
  clear h hS
  go_enter Tryd.func23, Tryd.ntmps23
  go_wp2_with (go_at_call 42; refine c1.mono ?_; rintro e w1 ⟨I, rfl, hb⟩)
  go_ret
  exact ⟨rfl, hb⟩

/-! ### Clone, Sort -/
theorem clone_any (A : Option Addr) (n c : Nat) (xs : List ByteArray) (w : World) (h : RS w A n xs) (hn : n ≤ 1000) :
    Calls Tryd.prog 38 #[.slice A n c] w fun e w' => ∃ A' c', e = .returned (.slice A' n c') ∧ Below w.heap.size w w' ∧
      (0 < n → ∃ g, A' = some ⟨g, 0, none⟩ ∧ w'.ownsRow w.heap.size 9 1 (.slice A' n c') n (xs.map Value.string)) := by
  have hl := h.1
  by_cases h0 : n = 0
  · subst h0
    cases A with
    | none => exact (Tryd.slices_Clone_string_nil 0 c w).mono (by rintro e w' ⟨rfl, rfl⟩; exact ⟨none, 0, rfl, Below.refl _ _, fun h => absurd h (by omega)⟩)
    | some a =>
      refine (Tryd.slices_Clone_string_zero a c w).mono ?_
      rintro e w' ⟨v', rfl, hown, hne, hb⟩
      rcases hown.2 with ⟨hv, _⟩ | ⟨g, cap, cur, rfl, _⟩
      · exact absurd hv hne
      · exact ⟨_, cap, rfl, hb, fun h => absurd h (by omega)⟩
  · obtain ⟨b, off, rfl, hb, hc⟩ := h.2 (by omega)
    refine (Tryd.slices_Clone_string b off n c xs w (by omega) (by omega) (fun j hj => ?_)).mono ?_
    · rw [hc j hj]
      simp [List.getD, List.getElem?_eq_getElem hj]
    · rintro e w' ⟨v', rfl, hown, hne, hb⟩
      rw [List.take_of_length_le (by omega)] at hown
      rcases hown.2 with ⟨hv, _⟩ | ⟨g, cap, cur, rfl, _⟩
      · exact absurd hv hne
      · exact ⟨_, cap, rfl, hb, fun _ => ⟨g, rfl, hown⟩⟩

theorem sort_any (A : Option Addr) (n c base : Nat) (xs : List ByteArray) (w : World) (hl : xs.length = n) (hn : n ≤ 1000) (hbase : base ≤ w.heap.size)
    (h : 0 < n → ∃ g, A = some ⟨g, 0, none⟩ ∧ w.ownsRow base 9 1 (.slice A n c) n (xs.map Value.string)) :
    Calls Tryd.prog 39 #[.slice A n c] w fun e w' => e = .returned (.tuple #[]) ∧ RS w' A n (sortedB xs) ∧ Below base w w' := by
  by_cases h0 : n = 0
  · subst h0
    obtain rfl : xs = [] := List.eq_nil_of_length_eq_zero hl
    refine (Tryd.slices_Sort_string_none A c w).mono ?_
    rintro e w' ⟨rfl, rfl⟩
    have e0 : sortedB [] = [] := by simp [sortedB]
    rw [e0]
    exact ⟨rfl, RS.zero _ _, Below.refl _ _⟩
  · obtain ⟨g, rfl, hown⟩ := h (by omega)
    have hown' : w.ownsRow base 9 1 (.slice (some ⟨g, 0, none⟩) n c) n ((xs.map (·.data.toList)).map encStr) := by rw [Lib.map_encStr]; exact hown
    obtain ⟨g', cap', e0, hbg, hgl, hnc, hcm, hlen, hH⟩ := Lib.holds_of_ownsRow hown' (by intro e; cases e)
    simp only [Value.slice.injEq, Option.some.injEq, Addr.mk.injEq, and_true, true_and] at e0
    obtain ⟨rfl, rfl⟩ := e0
    have hll : (xs.map (·.data.toList)).length = n := by simpa using hl
    have hs := Tryd.slices_Sort_string g 0 c (xs.map (·.data.toList)) w hH hgl (by omega)
    rw [hll] at hs
    refine hs.mono ?_
    rintro e w' ⟨rfl, q, os, rfl⟩
    rcases hown'.2 with ⟨hv, _⟩ | ⟨g2, cap2, cur, hv, hb2, hh, h1, h2, h3, _⟩
    · cases hv
    · cases hv
      have hso := ownsRow_sorted (n := q) (os := os) (ss := xs.map (·.data.toList)) (ts := (xs.map (·.data.toList)).mergeSort fun x y => decide (x ≤ y)) (List.length_mergeSort _) hb2 hh (by omega) h2 h3
      have hts : ((xs.map (·.data.toList)).mergeSort fun x y => decide (x ≤ y)).map encStr = (sortedB xs).map Value.string := by
        unfold sortedB
        rw [List.map_map]
        rfl
      rw [hts, hll] at hso
      obtain ⟨A', c', hv', hR⟩ := RS.own hso
      cases hv'
      exact ⟨rfl, hR, (Below.refl _ _).grown (grownBy_sorted _) hbase (fun j hj => by cases hj; exact hb2)⟩

/-! ### What is fresh -/
/-- The last text of the first k. -/
def lastAt (l : List ByteArray) : Nat → ByteArray
  | 0 => ByteArray.empty
  | k + 1 => if h : k < l.length then l[k] else ByteArray.empty
/-- What is kept of the first k. -/
def Fr (l : List ByteArray) (k : Nat) : List ByteArray := freshB false ByteArray.empty (l.take k)
theorem fresh_snoc (x : ByteArray) : ∀ (l : List ByteArray) (b : Bool) (e : ByteArray), freshB b e (l ++ [x]) = freshB b e l ++ (if (b || !l.isEmpty) = true ∧ x = (e :: l).getLast (by simp) then [] else [x])
  | [], b, e => by
    simp only [List.nil_append, freshB, List.isEmpty_nil, Bool.not_true, Bool.or_false, List.getLast_singleton]
  | y :: l, b, e => by
    rw [List.cons_append, freshB, freshB, fresh_snoc x l true y]
    simp only [Bool.true_or, List.isEmpty_cons, Bool.not_false, Bool.or_true, true_and, List.getLast_cons_cons]
    split <;> simp
theorem last_take {l : List ByteArray} {k : Nat} (hk : k ≤ l.length) : (ByteArray.empty :: l.take k).getLast (by simp) = lastAt l k := by
  cases k with
  | zero => simp [lastAt]
  | succ k =>
    have hlt : k < l.length := by omega
    rw [lastAt, dif_pos hlt, List.getLast_eq_getElem]
    simp only [List.length_cons, List.length_take]
    rw [List.getElem_cons]
    rw [dif_neg (by omega)]
    rw [List.getElem_take]
    congr 1
    omega
theorem Fr.old {l : List ByteArray} {k : Nat} (hk : k < l.length) (h0 : 0 < k) (he : l[k] = lastAt l k) : Fr l (k + 1) = Fr l k := by
  rw [Fr, List.take_succ_eq_append_getElem hk, fresh_snoc, if_pos, List.append_nil, Fr]
  refine ⟨?_, by rw [last_take (by omega)]; exact he⟩
  rw [Bool.false_or, Bool.not_eq_true', List.isEmpty_eq_false_iff]
  intro e
  have h1 := congrArg List.length e
  rw [List.length_take, List.length_nil] at h1
  omega
theorem Fr.new {l : List ByteArray} {k : Nat} (hk : k < l.length) (he : k = 0 ∨ l[k] ≠ lastAt l k) : Fr l (k + 1) = Fr l k ++ [l[k]] := by
  rw [Fr, List.take_succ_eq_append_getElem hk, fresh_snoc, if_neg, Fr]
  rintro ⟨h1, h2⟩
  rw [last_take (by omega)] at h2
  rcases he with rfl | he
  · simp at h1
  · exact he h2
theorem Fr.zero (l : List ByteArray) : Fr l 0 = [] := by simp [Fr, freshB]
theorem Fr.le (l : List ByteArray) (k : Nat) : (Fr l k).length ≤ k := Nat.le_trans (fresh_length _ _ _) (List.length_take_le _ _)
theorem Fr.all {l : List ByteArray} {k : Nat} (hk : l.length ≤ k) : Fr l k = freshB false ByteArray.empty l := by rw [Fr, List.take_of_length_le hk]
theorem lastAt_succ {l : List ByteArray} {k : Nat} (hk : k < l.length) : lastAt l (k + 1) = l[k] := by rw [lastAt, dif_pos hk]

/-! ### The closure of name.Sorted -/
theorem fresh_first (x l : ByteArray) (gb gl : Nat) (w : World) (hb : w.cell? ⟨gb, 0, none⟩ = some (.bool false)) (hl : w.cell? ⟨gl, 0, none⟩ = some (.string l)) (fb : w.frozen? ⟨gb, 0, none⟩ = false) (fl : w.frozen? ⟨gl, 0, none⟩ = false) (hne : gl ≠ gb) :
    Calls Tryd.prog 41 #[.string x, .pointer (some ⟨gb, 0, none⟩), .pointer (some ⟨gl, 0, none⟩)] w fun e w' => e = .returned (.bool true) ∧ w' = (w.setCell ⟨gl, 0, none⟩ (.string x)).setCell ⟨gb, 0, none⟩ (.bool true) := by
  have hb2 : (w.setCell ⟨gl, 0, none⟩ (.string x)).cell? ⟨gb, 0, none⟩ = some (.bool false) := (World.cell?_setCell_other _ _ _ _ (by simp [hne])).trans hb
  have fb2 : (w.setCell ⟨gl, 0, none⟩ (.string x)).frozen? ⟨gb, 0, none⟩ = false := (World.frozen?_setCell _ _ _ _).trans fb
  go_enter Tryd.func41, Tryd.ntmps41
  go_wp2
  go_ret
  exact ⟨rfl, rfl⟩
theorem fresh_next (x l : ByteArray) (gb gl : Nat) (w : World) (hb : w.cell? ⟨gb, 0, none⟩ = some (.bool true)) (hl : w.cell? ⟨gl, 0, none⟩ = some (.string l)) (fb : w.frozen? ⟨gb, 0, none⟩ = false) (fl : w.frozen? ⟨gl, 0, none⟩ = false) (hne : gl ≠ gb) :
    Calls Tryd.prog 41 #[.string x, .pointer (some ⟨gb, 0, none⟩), .pointer (some ⟨gl, 0, none⟩)] w fun e w' => e = .returned (.bool (x.toList != l.toList)) ∧ w' = (w.setCell ⟨gl, 0, none⟩ (.string x)).setCell ⟨gb, 0, none⟩ (.bool true) := by
  have hb2 : (w.setCell ⟨gl, 0, none⟩ (.string x)).cell? ⟨gb, 0, none⟩ = some (.bool true) := (World.cell?_setCell_other _ _ _ _ (by simp [hne])).trans hb
  have fb2 : (w.setCell ⟨gl, 0, none⟩ (.string x)).frozen? ⟨gb, 0, none⟩ = false := (World.frozen?_setCell _ _ _ _).trans fb
  go_enter Tryd.func41, Tryd.ntmps41
  go_wp2
  go_ret
  exact ⟨rfl, rfl⟩

/-! ### The loop of name.Sorted -/
/-- The world in which the loop begins: the last text, and whether one has come. -/
def begunWorld (w : World) : World := (w.alloc (.cells #[.string ⟨#[]⟩] 9)).alloc (.cells #[.bool false] 4)
/-- What the loop has behind k texts; b, l: what the two captured cells hold. -/
def FR (w : World) (xs : List ByteArray) (k : Nat) (b : Bool) (l : ByteArray) (v : Value) (wr : World) : Prop :=
  wr.ownsRow (w.heap.size + 2) 9 1 v (Fr xs k).length ((Fr xs k).map Value.string) ∧ wr.cell? ⟨w.heap.size + 1, 0, none⟩ = some (.bool b) ∧ wr.cell? ⟨w.heap.size, 0, none⟩ = some (.string l) ∧
  wr.frozen? ⟨w.heap.size + 1, 0, none⟩ = false ∧ wr.frozen? ⟨w.heap.size, 0, none⟩ = false ∧ Below w.heap.size w wr ∧ w.heap.size + 2 ≤ wr.heap.size
theorem FR.start (w : World) (xs : List ByteArray) : FR w xs 0 (decide (0 < 0)) (lastAt xs 0) (.slice none 0 0) (begunWorld w) := by
  refine ⟨by rw [Fr.zero]; exact World.ownsRow_nil _ _ _ _, ?_, ?_, ?_, ?_, ((Below.refl _ _).alloc (Nat.le_refl _) _).alloc (by simp) _, by simp [begunWorld]⟩
  · unfold begunWorld
    rw [World.cell?_alloc_at _ _ _ _ (by simp)]; rfl
  · unfold begunWorld
    rw [World.cell?_alloc_past _ _ _ (by simp), World.cell?_alloc_at _ _ _ _ rfl]; rfl
  · exact World.frozen?_alloc_at _ _ _ _ (by simp)
  · unfold begunWorld
    rw [World.frozen?_alloc_past _ _ _ (by simp)]
    exact World.frozen?_alloc_at _ _ _ _ rfl
theorem FR.closed {w wr : World} {xs : List ByteArray} {k : Nat} {b : Bool} {l x : ByteArray} {v : Value} (h : FR w xs k b l v wr) :
    FR w xs k true x v ((wr.setCell ⟨w.heap.size, 0, none⟩ (.string x)).setCell ⟨w.heap.size + 1, 0, none⟩ (.bool true)) := by
  obtain ⟨h1, h2, h3, h4, h5, h6, h7⟩ := h
  have e1 : (wr.setCell ⟨w.heap.size, 0, none⟩ (.string x)).cell? ⟨w.heap.size + 1, 0, none⟩ = some (.bool b) := (World.cell?_setCell_other _ _ _ _ (by simp)).trans h2
  refine ⟨ownsRow_setCell_below (ownsRow_setCell_below h1 (by show w.heap.size < w.heap.size + 2; omega) _) (by show w.heap.size + 1 < w.heap.size + 2; omega) _, World.cell?_setCell_same _ _ _ e1, ?_, ?_, ?_, ?_, ?_⟩
  · exact (World.cell?_setCell_other _ _ _ _ (by simp)).trans (World.cell?_setCell_same _ _ _ h3)
  · exact (World.frozen?_setCell _ _ _ _).trans ((World.frozen?_setCell _ _ _ _).trans h4)
  · exact (World.frozen?_setCell _ _ _ _).trans ((World.frozen?_setCell _ _ _ _).trans h5)
  · exact (h6.setCell (Nat.le_refl _) _).setCell (by show w.heap.size ≤ w.heap.size + 1; omega) _
  · simpa using h7
theorem FR.old {w wr : World} {xs : List ByteArray} {k : Nat} {x : ByteArray} {v : Value} (h : FR w xs k true x v wr) (hk : k < xs.length) (h0 : 0 < k) (he : xs[k] = lastAt xs k) (hx : x = xs[k]) : FR w xs (k + 1) (decide (0 < k + 1)) (lastAt xs (k + 1)) v wr := by
  rw [decide_eq_true (by omega), lastAt_succ hk, ← hx]
  unfold FR at *
  rw [Fr.old hk h0 he]
  exact h
theorem FR.new {w wr w1 : World} {xs : List ByteArray} {k : Nat} {x : ByteArray} {v v' : Value} {o : Obj} (h : FR w xs k true x v wr) (hk : k < xs.length) (he : k = 0 ∨ xs[k] ≠ lastAt xs k) (hx : x = xs[k])
    (hown : w1.ownsRow (w.heap.size + 2) 9 1 v' ((Fr xs k).length + 1) ((Fr xs k).map Value.string ++ [.string xs[k]])) (hg : (wr.alloc o).grownBy w1 v.ownBlock) : FR w xs (k + 1) (decide (0 < k + 1)) (lastAt xs (k + 1)) v' w1 := by
  rw [decide_eq_true (by omega), lastAt_succ hk, ← hx]
  obtain ⟨h1, h2, h3, h4, h5, h6, h7⟩ := h
  have hne : ∀ j, j < w.heap.size + 2 → some j ≠ v.ownBlock := fun j hj e => by have := (h1.lt j e.symm).1; omega
  have hsz := hg.size
  simp only [World.size_alloc] at hsz
  refine ⟨by rw [Fr.new hk he]; simpa using hown, hg.cell ((World.cell?_alloc_past _ _ _ (by show w.heap.size + 1 < wr.heap.size; omega)).trans h2) (hne (w.heap.size + 1) (by omega)), hg.cell ((World.cell?_alloc_past _ _ _ (by show w.heap.size < wr.heap.size; omega)).trans h3) (hne w.heap.size (by omega)), ?_, ?_, (h6.alloc (by omega) o).grown hg (by simp; omega) (fun j hj => by have := (h1.lt j hj).1; omega), by omega⟩
  · rw [World.frozen?_of_block (w := wr.alloc o) (hg.block (w.heap.size + 1) (by simp; omega) (hne _ (by omega)))]
    exact (World.frozen?_alloc_past _ _ _ (by omega)).trans h4
  · rw [World.frozen?_of_block (w := wr.alloc o) (hg.block w.heap.size (by simp; omega) (hne _ (by omega)))]
    exact (World.frozen?_alloc_past _ _ _ (by omega)).trans h5

set_option maxHeartbeats 1000000 in
theorem keep_fresh (A : Option Addr) (n c : Nat) (xs : List ByteArray) (w : World) (h : RS w A n xs) (hn : n ≤ 1000) :
    Calls Tryd.prog 40 #[.slice A n c, .func (.func 41) #[] #[.pointer (some ⟨w.heap.size + 1, 0, none⟩), .pointer (some ⟨w.heap.size, 0, none⟩)]] (begunWorld w) fun e w' =>
      ∃ v, e = .returned v ∧ w'.ownsRow (w.heap.size + 2) 9 1 v (freshB false ByteArray.empty xs).length ((freshB false ByteArray.empty xs).map Value.string) ∧ Below w.heap.size w w' := by
  obtain ⟨i0, hi, hz0, hz1, hz2⟩ := info_parts str_info
  have hl := h.1
  have hst := FR.start w xs
  generalize begunWorld w = w0 at hst
  go_enter Tryd.func40, Tryd.ntmps40
  go_wp2
  go_loopw [5, 10] (fun v i wr => ∃ k : Nat, k ≤ n ∧ i = .int .i64 k ∧ FR w xs k (decide (0 < k)) (lastAt xs k) v wr) (fun _ i _ => n - (intOf i).toNat)
  case atStart => exact ⟨0, Nat.zero_le _, rfl, hst⟩
  case round =>
    clear hst
    obtain ⟨k, hk, rfl, hh⟩ := hrel
    have hbel := hh.2.2.2.2.2.1
    by_cases hlt : k < n
    · have q : k < xs.length := by omega
      obtain ⟨b, off, rfl, hb1, hc⟩ := (h.below hbel).2 (by omega)
      have hcell := hc k q
      obtain ⟨wc, hwc⟩ : ∃ wc, wc = (wr.setCell ⟨w.heap.size, 0, none⟩ (.string xs[k])).setCell ⟨w.heap.size + 1, 0, none⟩ (.bool true) := ⟨_, rfl⟩
      have hm := hh.closed (x := xs[k])
      rw [← hwc] at hm
      have HK := Fr.le xs k
      by_cases hnew : k = 0 ∨ xs[k] ≠ lastAt xs k
      · have cc : Calls Tryd.prog 41 #[.string xs[k], .pointer (some ⟨w.heap.size + 1, 0, none⟩), .pointer (some ⟨w.heap.size, 0, none⟩)] wr fun e w' => e = .returned (.bool true) ∧ w' = wc := by
          rw [hwc]
          by_cases h0 : k = 0
          · have hb := hh.2.1
            rw [decide_eq_false (by omega)] at hb
            exact fresh_first _ _ _ _ _ hb hh.2.2.1 hh.2.2.2.1 hh.2.2.2.2.1 (by omega)
          · have hb := hh.2.1
            rw [decide_eq_true (by omega)] at hb
            have hne : (xs[k].toList != (lastAt xs k).toList) = true := by rw [bne, other_list.2 (hnew.resolve_left h0)]; rfl
            have := fresh_next xs[k] _ _ _ _ hb hh.2.2.1 hh.2.2.2.1 hh.2.2.2.2.1 (by omega)
            rwa [hne] at this
        have hown := hm.1
        have HM := Lib.hid hm
        have HN := Lib.hid hnew
        have hsz := hm.2.2.2.2.2.2
        clear hwc hh hbel hc hm hnew h
        go_wp2_with (first
          | (go_at_call 41; refine cc.mono ?_; rintro e w' ⟨rfl, rfl⟩)
          | (at_builtin; refine wpList_append_own _ rfl _ _ 25 rfl (w.heap.size + 2) 9 i0 (.string ⟨#[]⟩) 1 16 Tryd.underlying25 hi hz0 hz1 hz2 rfl (by decide) _ _ _ rfl (hown.alloc _) ⟨_, 0, none⟩ 1 1 [.string xs[k]] rfl rfl ?c1 ?c2 ?c3 ?c4 ?c5 ?_))
        case c1 =>
          intro j u hj
          match j, hj with
          | 0, hj => simp at hj; subst hj; simp [Addr.add]
        case c2 => intro u hu; simp at hu; subst hu; rfl
        case c3 => unfold maxLen; omega
        case c4 => omega
        case c5 => simp; omega
        · intro v' w1 hown' hgrow _
          have R := Lib.hid (HM.out.new q HN.out rfl hown' hgrow)
          clear hown' hgrow hown
          go_wp2
          go_roundw
          case rel => exact ⟨k + 1, by omega, by go_num, R.out⟩
          case measure => simp [intOf]; omega
      · have h0 : 0 < k := by
          rcases Nat.eq_zero_or_pos k with e | e
          · exact absurd (Or.inl e) hnew
          · exact e
        have he : xs[k] = lastAt xs k := by
          by_cases e : xs[k] = lastAt xs k
          · exact e
          · exact absurd (Or.inr e) hnew
        have cc : Calls Tryd.prog 41 #[.string xs[k], .pointer (some ⟨w.heap.size + 1, 0, none⟩), .pointer (some ⟨w.heap.size, 0, none⟩)] wr fun e w' => e = .returned (.bool false) ∧ w' = wc := by
          rw [hwc]
          have hb := hh.2.1
          rw [decide_eq_true (by omega)] at hb
          have hne : (xs[k].toList != (lastAt xs k).toList) = false := by rw [bne, same_list.2 he]; rfl
          have := fresh_next xs[k] _ _ _ _ hb hh.2.2.1 hh.2.2.2.1 hh.2.2.2.2.1 (by omega)
          rwa [hne] at this
        have R := Lib.hid (hm.old q h0 he rfl)
        clear hwc hh hbel hc hm hnew h he
        go_wp2_with (go_at_call 41; refine cc.mono ?_; rintro e w' ⟨rfl, rfl⟩)
        go_roundw
        case rel => exact ⟨k + 1, by omega, by go_num, R.out⟩
        case measure => simp [intOf]; omega
    · obtain rfl : k = n := by omega
      have h1 := hh.1
      rw [Fr.all (by omega)] at h1
      have HS := Lib.hid h1
      have HB := Lib.hid hbel
      clear hh h h1 hbel
      go_wp2
      go_ret
      exact ⟨_, rfl, HS.out, HB.out⟩

set_option maxHeartbeats 1000000 in
theorem nsorted_any (A : Option Addr) (n c : Nat) (xs : List ByteArray) (w : World) (h : RS w A n xs) (hn : n ≤ 1000) :
    Calls Tryd.prog 20 #[.slice A n c] w fun e w' => Gives w (nSorted xs) e w' := by
  have hl := h.1
  have c1 := clone_any A n c xs w h hn
  have c2 : Hid (∀ A' c' W, Below w.heap.size w W → (0 < n → ∃ g, A' = some ⟨g, 0, none⟩ ∧ W.ownsRow w.heap.size 9 1 (.slice A' n c') n (xs.map Value.string)) →
      Calls Tryd.prog 39 #[.slice A' n c'] W fun e w' => e = .returned (.tuple #[]) ∧ RS w' A' n (sortedB xs) ∧ Below w.heap.size w w') := Lib.hid (fun A' c' W hb hg =>
    (sort_any A' n c' w.heap.size xs W hl hn hb.size hg).mono (by rintro e w' ⟨rfl, hR, hb2⟩; exact ⟨rfl, hR, hb.trans hb2⟩))
  have c3 : Hid (∀ A' c' W, Below w.heap.size w W → RS W A' n (sortedB xs) →
      Calls Tryd.prog 40 #[.slice A' n c', .func (.func 41) #[] #[.pointer (some ⟨W.heap.size + 1, 0, none⟩), .pointer (some ⟨W.heap.size, 0, none⟩)]] (begunWorld W) fun e w' => Gives w (nSorted xs) e w') := Lib.hid (fun A' c' W hb hR =>
    (keep_fresh A' n c' (sortedB xs) W hR hn).mono (by
      rintro e w' ⟨v, rfl, hown, hb2⟩
      have hs := hb.size
      exact Own.gives (B := w.heap.size) ⟨own_base hown (by omega), hb.trans (hb2.mono hs), Nat.le_refl _⟩))
  clear h
  unfold begunWorld at c3
  go_enter Tryd.func20, Tryd.ntmps20
  go_wp2_with (first
    | (go_at_call 38; refine c1.mono ?_; rintro e w1 ⟨A1, d1, rfl, hb1, hg1⟩; have HG := Lib.hid hg1; clear hg1 c1)
    | (go_at_call 39; refine (c2.out A1 d1 w1 hb1 HG.out).mono ?_; rintro e w2 ⟨rfl, hR2, hb2⟩; have HR := Lib.hid hR2; clear hR2)
    | (go_at_call 40; refine (c3.out A1 d1 w2 hb2 HR.out).mono ?_; rintro e w3 ⟨A3, d3, rfl, hR3⟩))
  go_ret
  exact ⟨A3, d3, rfl, hR3⟩
end Go.Proofs.YtcnfjimncifbgaaDoor
