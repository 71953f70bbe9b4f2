/-
  A slice of texts in memory, as a list (layer 1's seat): what the walks know of it, and how it is kept.
-/
import Derived.Test.YtcnfjimncifbgaaDoorOrder
import Derived.Test.YtcnfjimncifbgaaDoorFrame
import Derived.Below
import Derived.Laws.AppendOwn
import Derived.Laws.OwnMore
import Derived.Deep.Draws
import Derived.SliceStrings
namespace Go.Proofs.YtcnfjimncifbgaaDoor
open Go.RowKit

/-- The slice value '.slice A n c' reads as the texts xs; where it has an element its block lies in the heap. -/
def RS (w : World) (A : Option Addr) (n : Nat) (xs : List ByteArray) : Prop :=
  xs.length = n ∧ (0 < n → ∃ b off, A = some ⟨b, off, none⟩ ∧ b < w.heap.size ∧ ∀ j (h : j < xs.length), w.cell? ⟨b, off + j, none⟩ = some (.string xs[j]))
theorem RS.len {w : World} {A : Option Addr} {n : Nat} {xs : List ByteArray} (h : RS w A n xs) : xs.length = n := h.1
theorem RS.zero (w : World) (A : Option Addr) : RS w A 0 [] := ⟨rfl, fun h => absurd h (by omega)⟩
theorem RS.below {w w' : World} {A : Option Addr} {n : Nat} {xs : List ByteArray} (h : RS w A n xs) (hb : Below w.heap.size w w') : RS w' A n xs :=
  ⟨h.1, fun hn => by
    obtain ⟨b, off, e, hlt, hc⟩ := h.2 hn
    exact ⟨b, off, e, Nat.lt_of_lt_of_le hlt hb.size, fun j hj => (hb.cell (p := ⟨b, off + j, none⟩) hlt).trans (hc j hj)⟩⟩
theorem RS.take {w : World} {A : Option Addr} {n : Nat} {xs : List ByteArray} (h : RS w A n xs) {k : Nat} (hk : k ≤ n) : RS w A k (xs.take k) := by
  have hl := h.1
  refine ⟨by rw [List.length_take]; omega, fun hk0 => ?_⟩
  obtain ⟨b, off, e, hlt, hc⟩ := h.2 (by omega)
  refine ⟨b, off, e, hlt, fun j hj => ?_⟩
  rw [List.length_take] at hj
  rw [List.getElem_take]
  exact hc j (by omega)
/-- A row of the call's own reads so. -/
theorem RS.own {w : World} {base : Nat} {v : Value} {n : Nat} {xs : List ByteArray} (h : w.ownsRow base 9 1 v n (xs.map Value.string)) : ∃ A c, v = .slice A n c ∧ RS w A n xs := by
  have hl : xs.length = n := by simpa using h.1
  rcases h.2 with ⟨rfl, rfl⟩ | ⟨g, cap, cur, rfl, _, hh, hnc, _, hsz, ht⟩
  · exact ⟨none, 0, rfl, hl, fun h => absurd h (by omega)⟩
  · refine ⟨some ⟨g, 0, none⟩, cap, rfl, hl, fun _ => ⟨g, 0, rfl, ?_, fun j hj => ?_⟩⟩
    · rcases Nat.lt_or_ge g w.heap.size with hlt | hge
      · exact hlt
      · rw [Array.getElem?_eq_none hge] at hh; cases hh
    · rw [Nat.zero_add, cell_of_row w g j cur 9 (0, 0) hh]
      have h1 : (cur.toList.take (n * 1))[j]? = some (.string xs[j]) := by rw [ht]; simp [hj]
      rw [List.getElem?_take, if_pos (by omega)] at h1
      simpa using h1

def Small (l : List ByteArray) : Prop := ∀ x ∈ l, x.size ≤ maxLen

open Go.ChangeShapes Go.WideShapes in
/-- A slice of texts that came in. -/
theorem RS.opened {H : Type} {enc : TypeId × Value → H} {W : World} {fuel : Nat} {a0 : Option Addr} {len0 cap0 : Nat} {x : DataW H × List MemPlace}
    (hf : DataW.trod enc Tryd.prog W 0 (fun _ => true) true fuel 25 [.slice a0 len0 cap0] = some x) : ∃ xs, RS W a0 len0 xs ∧ Small xs ∧ len0 ≤ maxLen := by
  rcases open_strings Tryd.underlying25 Tryd.underlying9 (by kernel_rfl) hf with ⟨hcs, _⟩ | ⟨a, len, cap, ss, hcs, _, hl, hm, hz, _, hcell, hws⟩
  · simp only [List.cons.injEq, Value.slice.injEq, and_true] at hcs
    obtain ⟨rfl, rfl, _⟩ := hcs
    exact ⟨[], RS.zero _ _, by intro y hy; simp at hy, Nat.zero_le _⟩
  · simp only [List.cons.injEq, Value.slice.injEq, and_true] at hcs
    obtain ⟨rfl, rfl, _⟩ := hcs
    have hz' : ss.length = cap := by simpa using hz
    refine ⟨ss.take len0, ⟨by rw [List.length_take]; omega, fun h0 => ?_⟩, fun y hy => hws y (List.mem_of_mem_take hy), by omega⟩
    obtain ⟨b, off, spot⟩ := a
    have hc := hcell 0 (by omega)
    have hspot : spot = none := by simpa [Addr.add] using World.cell?_spot hc
    subst hspot
    refine ⟨b, off, rfl, cell_lt (a := ⟨b, off, none⟩) (by simpa [Addr.add] using hc), fun j hj => ?_⟩
    rw [List.length_take] at hj
    have hcj := hcell j (by omega)
    have hg : ss.getD j ByteArray.empty = ss[j]'(by omega) := by simp [List.getD, List.getElem?_eq_getElem (show j < ss.length by omega)]
    rw [hg] at hcj
    rw [List.getElem_take]
    by_cases e : j = 0
    · subst e; simpa [Addr.add] using hcj
    · simpa [Addr.add, e] using hcj
end Go.Proofs.YtcnfjimncifbgaaDoor
