/-
  The library's functions at this dump, in the words of rows that are owned: slices.DeleteFunc with Stop's closure, slices.Sort, and slices.Sorted of maps.Keys (layer 6).
-/
import Derived.Test.YtcekpkjibabjmaaWRow
import Derived.Test.YtcekpkjibabjmaaShelf
import Derived.OwnWalkIn
import Derived.TacticsInMore
namespace Go.Proofs.Ytcekpkjibabjmaa
open Go.RowKit Go.Maps Go.Sort Go.Lib Go.Shelf
set_option linter.unusedSimpArgs false

/-- Stop's closure: the number that is stopped. -/
theorem stop_gives (id x : Int) (X : Nat) (W : World) (hc : W.cell? ⟨X, 0, none⟩ = some (.int .i64 id)) : FnGives Try.prog 27 #[.pointer (some ⟨X, 0, none⟩)] #[encZ x] (.bool (x == id)) W := by
  show Calls Try.prog 27 #[.int .i64 x, .pointer (some ⟨X, 0, none⟩)] W _
  go_enter Try.func27, Try.ntmps27
  go_wp2
  go_ret
  exact ⟨rfl, 0, rfl⟩
theorem int_zero (w : World) : (zeroValue 3).run Try.prog w = .ok (encZ 0) w := by kernel_rfl
def keepL (id : Int) (l : List Int) : List Int := l.filter fun x => !(x == id)
theorem keepL_le (id : Int) (l : List Int) : (keepL id l).length ≤ l.length := List.length_filter_le _ _
theorem grownBy_put {w : World} {b k : Nat} (d : Array Int) : w.grownBy (putRow encZ (Sort.ahead w k) b 0 d) (some b) := by
  have := grownBy_sorted_i (w := w) (g := b) (n := k) (os := #[]) d
  rwa [grow_empty] at this
set_option maxHeartbeats 1000000 in
theorem delete_any (w : World) (l : List Int) (b cap X : Nat) (id : Int) (hown : rowOwn w (.slice (some ⟨b, 0, none⟩) l.length cap) l) (hX : w.cell? ⟨X, 0, none⟩ = some (.int .i64 id)) (hXl : X < w.heap.size) (hne : X ≠ b) :
    Calls Try.prog 26 #[.slice (some ⟨b, 0, none⟩) l.length cap, .func (.func 27) #[] #[.pointer (some ⟨X, 0, none⟩)]] w fun e w' =>
      e = .returned (.slice (some ⟨b, 0, none⟩) (keepL id l).length cap) ∧ rowOwn w' (.slice (some ⟨b, 0, none⟩) (keepL id l).length cap) (keepL id l) ∧ w.grownBy w' (some b) := by
  have eg : ∀ args w, (callFunc 27 args).run Try.prog w = .ok (.enter 27 args) w := enters_of Try.func27 (by kernel_rfl) rfl
  have hO : rowOwn w (.slice (some ⟨b, 0, none⟩) l.length cap) l := hown
  obtain ⟨g, c, e, _, _, hnc, hm, _, hH⟩ := holds_of_ownsRow hown (by simp)
  simp only [Value.slice.injEq, Option.some.injEq, Addr.mk.injEq, true_and, and_true] at e
  obtain ⟨rfl, rfl⟩ := e
  unfold maxLen at hm
  have hp : PredAt Try.prog 27 #[.pointer (some ⟨X, 0, none⟩)] encZ (fun x => x == id) w := fun W x hb => stop_gives id x X W ((hb.cell (p := ⟨X, 0, none⟩) hXl).trans hX)
  have hpo : PredOver Try.prog 27 #[.pointer (some ⟨X, 0, none⟩)] encZ (fun x => x == id) b 0 l.toArray.size w := fun n os dk x _ => stop_gives id x X _ (by
    unfold sortWorld
    rw [cell?_grow _ _ _ (by show X < (putRow _ _ _ _ _).heap.size; rw [size_putRow]; exact hXl), cell?_putRow_other _ _ b 0 _ _ (Or.inl hne)]
    exact hX)
  have hcon := Try.slices_DeleteFunc encZ (fun _ => rfl) (fun x => x == id) 27 #[.pointer (some ⟨X, 0, none⟩)] eg 0 int_zero b 0 cap l.toArray w hp hpo hH (by simp; omega) (by simpa using hnc)
  rw [List.size_toArray] at hcon
  refine hcon.mono ?_
  rintro e w' ⟨rfl, k, rfl⟩
  have h1 := ownsRow_putRow (q := k) (k := (keepL id l).length) (ys := keepL id l ++ List.replicate (l.length - (keepL id l).length) 0) hO (by have := keepL_le id l; simp; omega) (keepL_le id l)
  rw [List.take_left] at h1
  exact ⟨rfl, h1, grownBy_put _⟩
set_option maxHeartbeats 1000000 in
theorem sort_any (w : World) (v : Value) (l : List Int) (hown : rowOwn w v l) (hl : l.length ≤ 4096) :
    Calls Try.prog 31 #[v] w fun e w' => e = .returned (.tuple #[]) ∧ rowOwn w' v (l.mergeSort fun x y => decide (x ≤ y)) ∧ w.grownBy w' v.ownBlock := by
  rcases hown.2 with ⟨rfl, h0⟩ | ⟨b, cap, cur, rfl, hb, hh, hnc, hm, hs, ht⟩
  · obtain rfl : l = [] := List.eq_nil_of_length_eq_zero h0
    refine (Try.slices_Sort_int_none none 0 w).mono ?_
    rintro e w' ⟨rfl, rfl⟩
    exact ⟨rfl, by rw [List.mergeSort_nil]; exact hown, World.grownBy.refl _ _⟩
  · refine (Try.slices_Sort_int b 0 cap l w (holds_of_block_i hh (by simpa using ht)) (block_lt hh) (by omega)).mono ?_
    rintro e w' ⟨rfl, k, os, rfl⟩
    have h1 := ownsRow_sorted_i (n := k) (os := os) (ss := l) (ts := l.mergeSort fun x y => decide (x ≤ y)) (by simp) (Nat.zero_le b) hh hnc hm hs
    refine ⟨rfl, ?_, grownBy_sorted_i _⟩
    unfold rowOwn
    rw [List.length_mergeSort]
    exact h1
/-- slices.Sort's contracts, at the fence that asks nothing. -/
theorem sorts (m : Nat) : AnyZI.SortsIn Try.prog Try.laysSorted_ren Fence.wide m :=
  ⟨fun blk off cap ss W hH hblk hsz => callsIn_wide.2 (Try.slices_Sort_int blk off cap ss W hH hblk hsz),
   fun p cap W => callsIn_wide.2 (Try.slices_Sort_int_none p cap W)⟩
theorem keys_any (mb : Option Nat) (W : World) : CallsIn Fence.wide 5 Try.prog 35 #[.map mb] W fun e w' => e = .returned (.func (.func 40) #[] #[.pointer (some ⟨W.heap.size, 0, none⟩)]) ∧ w' = W.alloc (.cells #[.map mb] 44) :=
  AnyZI.keys_in Try.laysKeys Fence.wide 5 trivial rfl mb W
set_option maxHeartbeats 1000000 in
theorem sorted_any (b nn : Nat) (D0 : DataW Unit) (w : World) (hown : w.ownsMap Try.prog 3 tmE b nn D0) (hmax : Maps.size D0 ≤ 4096) :
    CallsIn Fence.wide 5 Try.prog 34 #[.func (.func 40) #[] #[.pointer (some ⟨w.heap.size, 0, none⟩)]] (w.alloc (.cells #[.map (some b)] 44)) fun e w' => ∃ (v : Value) (ss : List Int), e = .returned v ∧ ss.Perm (intKeys D0) ∧
      w'.ownsRow (w.alloc (.cells #[.map (some b)] 44)).heap.size 3 1 v ss.length ((ss.mergeSort (fun x y => decide (x ≤ y))).map encZ) ∧ (v = .slice none 0 0 ↔ ss = []) ∧ Below (w.alloc (.cells #[.map (some b)] 44)).heap.size (w.alloc (.cells #[.map (some b)] 44)) w' := by
  have hbl := hown.lt
  have hseq : SeqGives Fence.wide 2 Try.prog 40 #[.pointer (some ⟨w.heap.size, 0, none⟩)] encZ (fun ss => ss.Perm (intKeys D0)) (Maps.size D0) (w.alloc (.cells #[.map (some b)] 44)) :=
    AnyZI.keys_gives (ρ := Try.laysKeys_ren) { Try.laysKeys with } Fence.wide _ trivial rfl (by omega) w.heap.size b nn D0 _ (by simp) (by simp) (by
      obtain ⟨es, clock, hb, Ft, hs, hD⟩ := hown
      exact ⟨es, clock, (Below.heap_alloc _ _ b hbl).trans hb, Ft, hs, hD⟩)
  exact AnyZI.sorted_in Try.laysSorted Fence.wide 5 trivial trivial trivial trivial rfl (by omega) (sorts _) (enters_of Try.func31 (by kernel_rfl) rfl) 40 #[.pointer (some ⟨w.heap.size, 0, none⟩)] trivial (enters_of Try.func40 (by kernel_rfl) rfl) _ _ (by unfold maxLen; omega) (by omega) _ hseq
set_option maxHeartbeats 1000000 in
/-- Ids of a wheel: the timers' numbers, rising, in a row of its own. -/
theorem ids_any {S : Nat → Prop} {B M N n : Nat} {g : Nat → Value} {m : Mp} {q : Nat → List Int} (w : World) (h : WhIs S w B M g N m n q) (L : Tm) (ht : Tie m L) (hR : Rise L) (hi : ∀ x ∈ L, wfI x.1) (hL : L.length ≤ 64) :
    Calls Try.prog 18 #[.pointer (some ⟨B, 0, none⟩)] w fun e w' => ∃ v, e = .returned v ∧ w'.ownsRow w.heap.size 3 1 v L.length ((L.map Prod.fst).map encZ) ∧ Below w.heap.size w w' := by
  obtain ⟨D, ho, h2⟩ := h.map
  have hperm := MapIs.keys ho h2 ht hR hi
  have hsz : Maps.size D ≤ 4096 := by
    have := hperm.length_eq
    rw [size_intKeys, List.length_map] at this
    omega
  have c1 := h.c1
  have cM := (callsIn_wide (n := 5)).2 (made_yes w h)
  have cK := keys_any (some M) w
  have cS := sorted_any M _ D w ho hsz
  have hfin : ∀ ss : List Int, ss.Perm (intKeys D) → ss.mergeSort (fun x y => decide (x ≤ y)) = L.map Prod.fst ∧ ss.length = L.length := fun ss hp => by
    have hp2 := hp.trans hperm.symm
    refine ⟨sort_is (hp2.nodup_iff.2 (rise_nodup hR)) (rise_ids hR) (fun x => hp2.mem_iff), ?_⟩
    have := hp2.length_eq
    simpa using this
  have HF := Lib.hid hfin
  clear hfin hperm hsz ho h2 h ht hR hi hL
  refine (callsIn_wide (n := 6)).1 ?_
  have hfM : Fence.wide.fn 22 := trivial
  have hfK : Fence.wide.fn 35 := trivial
  have hfS : Fence.wide.fn 34 := trivial
  refine callsIn_of_wp Try.func18 rfl trivial ?_ rfl
  simp only [Try.ntmps18, List.size_toArray, List.length_cons, List.length_nil, Nat.reduceAdd, Nat.reduceSub, Array.replicate_succ, Array.replicate_zero, List.push_toArray, List.append_toArray, List.nil_append, List.cons_append]
  gi_wp2_with (first
    | (gi_at_call 22; refine cM.mono ?_; rintro e w' ⟨rfl, rfl⟩)
    | (gi_at_call 35; refine cK.mono ?_; rintro e w' ⟨rfl, rfl⟩)
    | (gi_at_call 34; refine cS.mono ?_; rintro e w' ⟨v, ss, rfl, hS, hrow, hnil, hb⟩))
  go_ret
  obtain ⟨e1, e2⟩ := HF.out ss hS
  rw [e1, e2] at hrow
  exact ⟨v, rfl, bown_base hrow (by simp), ((Below.refl _ w).alloc (Nat.le_refl _) _).trans (hb.mono (by simp))⟩
end Go.Proofs.Ytcekpkjibabjmaa
