/-
  Plain lemmas on rings, on: the list in the order that draws give; a scan, place by place; what is asked next with draws.
-/
import Derived.Test.YtckeknhoimgccaaPrPlain
import Derived.Test.YtckeknhoimgccaaEPlain
namespace Go.Proofs.Ytckeknhoimgccaa

def pickL (row : List Int) (is : List Nat) : List Int := is.map fun i => row.getD i 0
theorem pickL_length (row : List Int) (is : List Nat) : (pickL row is).length = is.length := by simp [pickL]
theorem order_count {d : Dr} (h : okDr d) (n : Int) (x : Nat) : (d.order n).count x = (List.range (sizeO n)).count x := ordGo_count _ _ _ h (by rw [List.length_range]; omega) x
theorem pick_range (row : List Int) : pickL row (List.range row.length) = row := by
  unfold pickL
  apply List.ext_getElem
  · simp
  · intro i h1 h2
    simp [List.getD, h2]
theorem sizeO_of {n : Nat} (h : n ≤ 64) : sizeO (n : Int) = n := by unfold sizeO; split <;> (try split) <;> omega
/-- The list in another order has the same nodes. -/
theorem pick_perm {d : Dr} (h : okDr d) (row : List Int) (hn : row.length ≤ 64) : (pickL row (d.order row.length)).Perm row := by
  have hp : (d.order row.length).Perm (List.range row.length) := by
    rw [List.perm_iff_count]
    intro x
    rw [order_count h, sizeO_of hn]
  have := hp.map (fun i => row.getD i 0)
  exact this.trans (by
    have e := pick_range row
    unfold pickL at e
    rw [e])
theorem some_in {d : Dr} (h : okDr d) (n : Nat) (k : Int) (hn : n ≤ 64) : (d.some_ n k).Nodup ∧ ∀ x ∈ d.some_ n k, x < n := by
  obtain ⟨h1, h2⟩ := order_once h (n : Int)
  rw [sizeO_of hn] at h2
  unfold Dr.some_
  exact ⟨h1.sublist (List.take_sublist _ _), fun x hx => h2 x (List.mem_of_mem_take hx)⟩

/-! ### A scan, place by place -/
theorem scan_hit {live row : List Int} {j : Nat} (hj : j < row.length) (h : live.contains row[j] = true) : scan live row j = some (row[j], j + 1) := by
  unfold scan
  rw [List.drop_eq_getElem_cons hj, List.findIdx?_cons, if_pos h]
  simp [List.getD, hj]
theorem scan_miss {live row : List Int} {j : Nat} (hj : j < row.length) (h : live.contains row[j] = false) : scan live row j = scan live row (j + 1) := by
  unfold scan
  rw [List.drop_eq_getElem_cons hj, List.findIdx?_cons, if_neg (by rw [h]; simp)]
  cases hf : (row.drop (j + 1)).findIdx? (fun x => live.contains x) with
  | none => rfl
  | some i =>
    simp only [Option.map_some]
    rw [show j + (i + 1) = j + 1 + i by omega]
theorem scan_end (live row : List Int) : scan live row row.length = none := by
  unfold scan
  simp
/-! ### What is asked next -/
def Rg.asked (g : Rg) (live : List Int) (d : Dr) : Int × Bool × Rg := g.next live (pickL g.row (d.order g.row.length))
def Dr.asked (d : Dr) (g : Rg) (live : List Int) : Dr := if (scan live g.row g.at_).isSome then d else d.afterO g.row.length
theorem Rg.asked_perm {g : Rg} (h : g.ok) {d : Dr} (hd : okDr d) : (pickL g.row (d.order g.row.length)).Perm g.row := pick_perm hd g.row (by have := g.few h; omega)
theorem Rg.asked_ok {g : Rg} (h : g.ok) (live : List Int) {d : Dr} (hd : okDr d) : (g.asked live d).2.2.ok := Rg.next_ok h (Rg.asked_perm h hd)
/-- The ring as a new round begins. -/
def Rg.again (g : Rg) (d : Dr) : Rg := ⟨pickL g.row (d.order g.row.length), 0⟩
theorem Rg.again_ok {g : Rg} (h : g.ok) {d : Dr} (hd : okDr d) : (g.again d).ok := by
  have hp := Rg.asked_perm h hd
  exact ⟨(hp.nodup_iff).2 h.once, fun x hx => h.nodes x (hp.mem_iff.1 hx), Nat.zero_le _⟩
theorem Rg.at_end {g : Rg} (h : g.ok) : Rg.ok ⟨g.row, g.row.length⟩ := ⟨h.once, h.nodes, Nat.le_refl _⟩
theorem Rg.asked_first {g : Rg} {live : List Int} {d : Dr} {x : Int} {k : Nat} (h : scan live g.row g.at_ = some (x, k)) : g.asked live d = (x, true, ⟨g.row, k⟩) ∧ d.asked g live = d := by
  unfold Rg.asked Dr.asked Rg.next
  rw [h]
  exact ⟨rfl, rfl⟩
theorem Rg.asked_second {g : Rg} {live : List Int} {d : Dr} {x : Int} {k : Nat} (h : scan live g.row g.at_ = none) (h2 : scan live (g.again d).row 0 = some (x, k)) : g.asked live d = (x, true, ⟨(g.again d).row, k⟩) ∧ d.asked g live = d.afterO g.row.length := by
  unfold Rg.asked Dr.asked Rg.next
  rw [h]
  unfold Rg.again at h2
  simp only at h2
  simp only [h2]
  exact ⟨rfl, rfl⟩
theorem Rg.asked_none {g : Rg} {live : List Int} {d : Dr} (h : scan live g.row g.at_ = none) (h2 : scan live (g.again d).row 0 = none) : g.asked live d = (0, false, ⟨(g.again d).row, (g.again d).row.length⟩) ∧ d.asked g live = d.afterO g.row.length := by
  unfold Rg.asked Dr.asked Rg.next
  rw [h]
  unfold Rg.again at h2
  simp only at h2
  simp only [h2]
  exact ⟨rfl, rfl⟩
/-! ### Where a node stands -/
def idxI (xs : List Int) (x : Int) : Int := if xs.contains x then (xs.idxOf x : Int) else -1
theorem idxI_no {xs : List Int} {x : Int} (h : xs.contains x = false) : idxI xs x = -1 := by unfold idxI; rw [h]; rfl
theorem idxI_at {xs : List Int} {x : Int} {k : Nat} (hk : k < xs.length) (h0 : (xs.take k).contains x = false) (h1 : xs[k] = x) : xs.contains x = true ∧ xs.idxOf x = k := by
  have hm : x ∈ xs := h1 ▸ List.getElem_mem hk
  refine ⟨by simpa using hm, ?_⟩
  have hn : x ∉ xs.take k := by simpa using h0
  have e : xs = xs.take k ++ xs.drop k := (List.take_append_drop k xs).symm
  have h2 : xs.idxOf x = (xs.take k).length + (xs.drop k).idxOf x := by
    conv => lhs; rw [e]
    rw [List.idxOf_append, if_neg hn, Nat.add_comm]
  rw [h2, List.drop_eq_getElem_cons hk, h1, List.idxOf_cons_self, List.length_take]
  omega
theorem contains_snoc {xs : List Int} {x : Int} {k : Nat} (hk : k < xs.length) (h0 : (xs.take k).contains x = false) (h1 : xs[k] ≠ x) : (xs.take (k + 1)).contains x = false := by
  have hn : x ∉ xs.take k := by simpa using h0
  have hm : x ∉ xs.take (k + 1) := by
    rw [List.take_succ_eq_append_getElem hk]
    simp only [List.mem_append, List.mem_singleton, not_or]
    exact ⟨hn, fun e => h1 e.symm⟩
  cases hc : (xs.take (k + 1)).contains x with
  | false => rfl
  | true => exact absurd (List.contains_iff_mem.1 hc) hm
theorem idx_split {xs : List Int} {x : Int} (h : xs.contains x = true) : xs.idxOf x < xs.length ∧ (xs.Nodup → xs.filter (fun y => !(y == x)) = xs.take (xs.idxOf x) ++ xs.drop (xs.idxOf x + 1)) := by
  have hm : x ∈ xs := by simpa using h
  have hl := List.idxOf_lt_length_of_mem hm
  refine ⟨hl, fun hd => ?_⟩
  have e : xs = xs.take (xs.idxOf x) ++ x :: xs.drop (xs.idxOf x + 1) := by
    have h1 := List.drop_eq_getElem_cons hl
    have h2 : xs[xs.idxOf x] = x := by simp
    rw [h2] at h1
    rw [← h1, List.take_append_drop]
  have h3 : x ∉ xs.take (xs.idxOf x) ∧ x ∉ xs.drop (xs.idxOf x + 1) := by
    rw [e] at hd
    have := (List.nodup_append.1 hd)
    refine ⟨fun hx => this.2.2 x hx x (by simp) rfl, fun hx => (List.nodup_cons.1 this.2.1).1 hx⟩
  conv => lhs; rw [e]
  rw [List.filter_append, List.filter_cons_of_neg (by simp), filter_out h3.1, filter_out h3.2]
end Go.Proofs.Ytckeknhoimgccaa
