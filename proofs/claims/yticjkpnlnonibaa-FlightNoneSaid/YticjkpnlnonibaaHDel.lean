/-
  slices.Delete at packets in flight: one is taken out of its row (layer 7).
-/
import Derived.Test.YticjkpnlnonibaaHWalkB
import Derived.Deep.RegionLaw
import Derived.Deep.LoopGhost
import Derived.Shelf.RegionOpenPlain
import Derived.Laws.IdiomCopy
namespace Go.Proofs.Yticjkpnlnonibaa
open Go.RowKit
set_option linter.unusedSimpArgs false
set_option linter.unusedVariables false

theorem block_setCells {B : Nat} {t : TypeId} {fr : Nat × Nat} : ∀ (vs : List Value) (o : Nat) (w : World) (cur : Array Value), w.heap[B]? = some (.cells cur t fr) →
    ∃ cur', (w.setCells B o vs).heap[B]? = some (.cells cur' t fr) ∧ cur'.size = cur.size ∧ (o + vs.length ≤ cur.size → cur'.toList = cur.toList.take o ++ vs ++ cur.toList.drop (o + vs.length))
  | [], o, w, cur, h => ⟨cur, h, rfl, fun _ => by simp⟩
  | v :: r, o, w, cur, h => by
    obtain ⟨cur', h1, h2, h3⟩ := block_setCells r (o + 1) (w.setCell ⟨B, o, none⟩ v) _ (block_set h o v)
    refine ⟨cur', h1, by rw [h2]; simp, fun hle => ?_⟩
    rw [List.length_cons] at hle
    rw [h3 (by rw [Array.size_setIfInBounds]; omega)]
    have hlt : o < cur.toList.length := by rw [Array.length_toList]; omega
    rw [Array.toList_setIfInBounds, List.set_eq_take_append_cons_drop, if_pos hlt]
    have e1 : (cur.toList.take o ++ v :: cur.toList.drop (o + 1)).take (o + 1) = cur.toList.take o ++ [v] := by
      have : (cur.toList.take o).length = o := by rw [List.length_take]; omega
      rw [List.take_append, this, List.take_of_length_le (by omega), show o + 1 - o = 1 by omega]
      rfl
    have e2 : (cur.toList.take o ++ v :: cur.toList.drop (o + 1)).drop (o + 1 + r.length) = cur.toList.drop (o + 1 + r.length) := by
      have : (cur.toList.take o).length = o := by rw [List.length_take]; omega
      rw [List.drop_append, this, List.drop_of_length_le (by omega), show o + 1 + r.length - o = r.length + 1 by omega, List.drop_succ_cons, List.drop_drop, List.nil_append]
    rw [e1, e2, List.length_cons, show o + (r.length + 1) = o + 1 + r.length by omega]
    simp
theorem but_setCells (B : Nat) : ∀ (vs : List Value) (o : Nat) (w : World), But (· = B) w (w.setCells B o vs)
  | [], _, w => But.refl _ w
  | v :: r, o, w => (But.set w (S := (· = B)) (p := ⟨B, o, none⟩) rfl v).trans (but_setCells B r (o + 1) _)
/-- clear of elements of several cells. -/
theorem run_clear_k {P : Program} (w : World) (t e ty : TypeId) (z : Value) (k : Nat) (ht : P.underlying t = some (.slice e)) (hv : ∀ w, (zeroValue e).run P w = .ok z w) (hk : z.cells.size = k) (hpos : 0 < k) (h1 : ∀ u ∈ z.cells, u.oneCell' = true)
    (b o n c : Nat) (hc : ∀ j, j < n * k → (w.cell? ⟨b, o + j, none⟩).isSome = true) (hf : ∀ j, j < n * k → w.frozen? ⟨b, o + j, none⟩ = false) :
    ∃ zs : List Value, zs.length = n * k ∧ (Builtin.clear_ #[t] ty #[.slice (some ⟨b, o, none⟩) n c]).run P w = .ok (.tuple #[]) (w.setCells b o zs) := by
  subst hk
  have hl : (Builtin.zeroCells z.cells n).toList.length = n * z.cells.size := by simp [Builtin.zeroCells]
  refine ⟨(Builtin.zeroCells z.cells n).toList, hl, ?_⟩
  have hst := run_storeCells_cells (P := P) b o (Builtin.zeroCells z.cells n).toList 0 w (by rw [hl]; simpa using hc) (by rw [hl]; simpa using hf) (by
    intro v hv'
    simp only [Builtin.zeroCells, Array.toList_map, List.mem_map] at hv'
    obtain ⟨i, _, rfl⟩ := hv'
    have hm : i % z.cells.size < z.cells.size := Nat.mod_lt _ hpos
    rw [getElem!_pos z.cells _ hm]
    exact h1 _ (Array.getElem_mem hm))
  simp only [Nat.add_zero] at hst
  cases n with
  | zero =>
    have e0 : (Builtin.zeroCells z.cells 0).toList = [] := List.eq_nil_of_length_eq_zero (by rw [hl]; simp)
    rw [e0]
    simp [Builtin.clear_, run_underlying ht, World.setCells]
  | succ n => simp [Builtin.clear_, run_underlying ht, hv, hst]
theorem it_zero (w : World) : (zeroValue 49).run Try.prog w = .ok (.agg #[.int .i64 0, .int .i64 0, .int .i64 0, .slice none 0 0]) w := by kernel_rfl
/-- The row's cells are there and not frozen. -/
theorem row_there {w : World} {g n cap : Nat} {xs : List Value} (h : w.ownsRow 0 49 4 (.slice (some ⟨g, 0, none⟩) n cap) n xs) : ∃ cur, w.heap[g]? = some (.cells cur 49 (0, 0)) ∧ n ≤ cap ∧ cap ≤ maxLen ∧ cur.size = cap * 4 ∧ cur.toList.take (n * 4) = xs := by
  rcases h.2 with ⟨e, _⟩ | ⟨g', cap', cur, e, _, hh, hnc, hm, hs, ht⟩
  · cases e
  · simp only [Value.slice.injEq, Option.some.injEq, Addr.mk.injEq, true_and, and_true] at e
    obtain ⟨rfl, rfl⟩ := e
    exact ⟨cur, hh, hnc, hm, hs, ht⟩
theorem cell_in {w : World} {g : Nat} {cur : Array Value} {t : TypeId} (h : w.heap[g]? = some (.cells cur t (0, 0))) {j : Nat} (hj : j < cur.size) : (w.cell? ⟨g, j, none⟩).isSome = true ∧ w.frozen? ⟨g, j, none⟩ = false := by
  refine ⟨?_, by simp [World.frozen?, h]⟩
  rw [cell_of_row w g j cur t (0, 0) h]
  simp [List.getElem?_eq_getElem, hj]
set_option maxHeartbeats 4000000 in
set_option maxRecDepth 1000000 in
theorem delete_any (w : World) (g cap i j : Nat) (l : List It) (hrow : itRow w 0 (.slice (some ⟨g, 0, none⟩) l.length cap) l) (hi : i < l.length) (hj : j = i + 1) (hl : l.length ≤ 256) :
    Calls Try.prog 37 #[.slice (some ⟨g, 0, none⟩) l.length cap, .int .i64 (i : Int), .int .i64 (j : Int)] w fun e w' =>
      e = .returned (.slice (some ⟨g, 0, none⟩) (l.length - 1) cap) ∧ itRow w' 0 (.slice (some ⟨g, 0, none⟩) (l.length - 1) cap) (l.eraseIdx i) ∧ But (· = g) w w' := by
  obtain ⟨i0, hi0, hz0, hz1, hz2⟩ := info_parts it_info
  obtain ⟨cur, hh, hnc, hm, hs, ht⟩ := row_there hrow
  unfold maxLen at hm
  obtain ⟨n, hn⟩ : ∃ n, l.length = n := ⟨_, rfl⟩
  have hlc := itsC_length l
  rw [hn] at hi hl hnc ht hlc ⊢
  obtain ⟨news, hnews⟩ : ∃ news, news = (itsC l).drop (j * 4) := ⟨_, rfl⟩
  have hlen : news.length = (n - j) * 4 := by rw [hnews, List.length_drop, hlc]; omega
  have hcellsA : ∀ t u, news[t]? = some u → w.cell? ⟨g, j * 4 + t, none⟩ = some u := by
    intro t u hu
    rw [hnews, List.getElem?_drop] at hu
    have := World.ownsRow.cells hrow (g := g) rfl (j * 4 + t) u hu
    rwa [plain_add, Nat.zero_add] at this
  obtain ⟨A, hA, hsrc⟩ : ∃ A : Addr, (if cap = j then (some ⟨g, 0, none⟩ : Option Addr) else some ⟨g, j * 4, none⟩) = some A ∧ Hid (∀ t u, news[t]? = some u → w.drew.cell? (A.add t) = some u) := by
    by_cases h : cap = j
    · refine ⟨⟨g, 0, none⟩, by simp [h], Lib.hid fun t u hu => ?_⟩
      have h0 : news.length = 0 := by rw [hlen]; omega
      rw [List.length_eq_zero_iff.1 h0] at hu
      simp at hu
    · refine ⟨⟨g, j * 4, none⟩, by simp [h], Lib.hid fun t u hu => ?_⟩
      rw [plain_add]
      exact hcellsA t u hu
  have s1 : Hid (news.length = (n - j) * 4) := Lib.hid hlen
  have s2 : Hid (∀ u ∈ news, u.oneCell' = true) := Lib.hid fun u hu => itsC_one l u (by rw [hnews] at hu; exact List.mem_of_mem_drop hu)
  have s3 : Hid (∀ t, t < news.length → (w.drew.cell? ⟨g, 0 + i * 4 + t, none⟩).isSome = true ∧ w.drew.frozen? ⟨g, 0 + i * 4 + t, none⟩ = false) := Lib.hid fun t h => by
    rw [hlen] at h
    exact cell_in (w := w.drew) hh (by omega)
  obtain ⟨W1, hW1⟩ : ∃ W1, W1 = w.drew.setCells g (0 + i * 4) news := ⟨_, rfl⟩
  obtain ⟨cur1, hh1, hs1, ht1⟩ := block_setCells news (0 + i * 4) w.drew cur hh
  rw [← hW1] at hh1
  have ht2 := ht1 (by omega)
  have hB1 : But (· = g) w W1 := by rw [hW1]; exact ((But.refl _ w).drew).trans (but_setCells g _ _ _)
  obtain ⟨zs, hzl, hcl⟩ : ∃ zs : List Value, zs.length = 1 * 4 ∧ ∀ ty, (Builtin.clear_ #[51] ty #[.slice (some ⟨g, (i + (n - j)) * 4, none⟩) (n - (i + (n - j))) (cap - (i + (n - j)))]).run Try.prog W1 = .ok (.tuple #[]) (W1.setCells g ((n - 1) * 4) zs) := by
    rw [show i + (n - j) = n - 1 by omega, show n - (n - 1) = 1 by omega]
    have key := fun ty => run_clear_k (P := Try.prog) W1 51 49 ty _ 4 Try.underlying51 it_zero it_zc (by decide) (by decide) g ((n - 1) * 4) 1 (cap - (n - 1)) (fun t h => (cell_in hh1 (by omega)).1) (fun t h => (cell_in hh1 (by omega)).2)
    obtain ⟨zs, h1, h2⟩ := key 0
    exact ⟨zs, h1, fun ty => h2⟩
  have hW : Hid (W1 = w.drew.setCells g (0 + i * 4) news) := Lib.hid hW1
  have hic : i ≤ cap := by omega
  have hjc : j ≤ cap := by omega
  have hne : ((i : Int) == (j : Int)) = false := by simp; omega
  have hjn : j ≤ n := by omega
  have hij : i ≤ j := by omega
  have X : Hid (∃ cur1 : Array Value, W1.heap[g]? = some (.cells cur1 49 (0, 0)) ∧ cur1.size = cap * 4 ∧ cur1.toList.take ((n - 1) * 4) = itsC (l.eraseIdx i)) := Lib.hid ⟨cur1, hh1, by omega, by
    rw [ht2, ← itsC_erase, hnews, hj, ← ht, Nat.zero_add]
    have e1 : (cur.toList.take (i * 4)).length = i * 4 := by rw [List.length_take, Array.length_toList]; omega
    rw [List.append_assoc, List.take_append, e1, List.take_of_length_le (by omega), List.take_take, Nat.min_eq_left (by omega)]
    congr 1
    rw [List.take_append, List.length_drop, List.length_take, Array.length_toList, Nat.min_eq_left (by omega), show (n - 1) * 4 - i * 4 - (n * 4 - (i + 1) * 4) = 0 by omega, List.take_zero, List.append_nil]
    exact List.take_of_length_le (by rw [List.length_drop, List.length_take, Array.length_toList, Nat.min_eq_left (by omega)]; omega)⟩
  have HB := Lib.hid hB1
  have HZ := Lib.hid hzl
  have HJ := Lib.hid hj
  have HNN := Lib.hid hn
  have HM := Lib.hid hm
  have mixed : Try.prog.follows Departure.mixedOrders = true := by kernel_rfl
  have hmn : (cap : Int) ≤ 9223372036854775807 := by omega
  clear hW1 ht1 ht2 hh1 hs1 hcellsA hrow hnews hlen hh hs ht hlc hB1 hzl hj hn hm
  go_enter Try.func37, Try.ntmps37
  go_wp2_with fail
  go_region_law_o (refine step_append_room rfl (.tmp 22) (.tmp 25) 51 rfl 49 i0 4 Try.underlying51 hi0 hz1 g 0 i cap (by simp [Act.eval, Act.put]) A (n - j) (cap - j) news (by simp [Act.eval, Act.put]) s1.out hsrc.out s2.out (by omega) s3.out ?_; rw [← hW.out])
  go_wp2
  · exfalso
    have := HJ.out
    omega
  go_ret
  have hj := HJ.out
  have hb := HB.out.trans (but_setCells g zs ((n - 1) * 4) W1)
  refine ⟨by rw [show i + (n - j) = n - 1 by omega]; rfl, ?_, hb⟩
  obtain ⟨cur1, h1, h2, h3⟩ := X.out
  obtain ⟨cur2, k1, k2, k3⟩ := block_setCells zs ((n - 1) * 4) W1 cur1 h1
  have hn := HNN.out
  have hel : (l.eraseIdx i).length = n - 1 := by rw [List.length_eraseIdx, if_pos (by omega), hn]
  unfold itRow
  rw [hel]
  refine ⟨by rw [itsC_length, hel], .inr ⟨g, cap, cur2, rfl, Nat.zero_le _, k1, by omega, HM.out, by omega, ?_⟩⟩
  rw [k3 (by rw [h2, HZ.out]; omega), List.append_assoc, List.take_append_of_le_length (by rw [List.length_take, Array.length_toList, h2]; omega), List.take_take, Nat.min_self, h3]
end Go.Proofs.Yticjkpnlnonibaa
