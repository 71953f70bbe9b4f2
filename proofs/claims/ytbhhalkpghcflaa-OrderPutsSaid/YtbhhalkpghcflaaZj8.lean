/-
  A slice of bytes in memory, as a list (layer 2's seat on): what the walks know of it, and how it is kept.
-/
import Derived.Test.YtbhhalkpghcflaaProg
import Derived.Test.YtbhhalkpghcflaaZj5
import Derived.WalkKit
import Derived.ProofKit
import Derived.OpenShut
import Derived.Below
import Derived.Laws.AppendOwn
import Derived.Laws.OwnMore
import Derived.Laws.AppendOwnNone
import Derived.Deep.Draws
import Derived.OwnWalk
namespace Go.Proofs.Ytbhhalkpghcflaa
open Go.RowKit

def byteV (c : UInt8) : Value := .int .u8 (c.toNat : Int)
/-- The slice value '.slice A n c' reads as the bytes xs; where it has an element its block lies in the heap. -/
def RB (w : World) (A : Option Addr) (n : Nat) (xs : List UInt8) : Prop :=
  xs.length = n ∧ (0 < n → ∃ b off, A = some ⟨b, off, none⟩ ∧ b < w.heap.size ∧ ∀ j (h : j < xs.length), w.cell? ⟨b, off + j, none⟩ = some (.int .u8 (xs[j].toNat : Int)))
theorem RB.len {w : World} {A : Option Addr} {n : Nat} {xs : List UInt8} (h : RB w A n xs) : xs.length = n := h.1
theorem RB.zero (w : World) (A : Option Addr) : RB w A 0 [] := ⟨rfl, fun h => absurd h (by omega)⟩
theorem RB.below {w w' : World} {A : Option Addr} {n : Nat} {xs : List UInt8} (h : RB w A n xs) (hb : Below w.heap.size w w') : RB w' A n xs :=
  ⟨h.1, fun hn => by
    obtain ⟨b, off, e, hlt, hc⟩ := h.2 hn
    exact ⟨b, off, e, Nat.lt_of_lt_of_le hlt hb.size, fun j hj => (hb.cell (p := ⟨b, off + j, none⟩) hlt).trans (hc j hj)⟩⟩
theorem RB.alloc {w : World} {A : Option Addr} {n : Nat} {xs : List UInt8} (h : RB w A n xs) (o : Obj) : RB (w.alloc o) A n xs := h.below ((Below.refl _ _).alloc (Nat.le_refl _) o)
theorem RB.take {w : World} {A : Option Addr} {n : Nat} {xs : List UInt8} (h : RB w A n xs) {k : Nat} (hk : k ≤ n) : RB w A k (xs.take k) := by
  have hl := h.1
  refine ⟨by rw [List.length_take]; omega, fun hk0 => ?_⟩
  obtain ⟨b, off, e, hlt, hc⟩ := h.2 (by omega)
  refine ⟨b, off, e, hlt, fun j hj => ?_⟩
  rw [List.length_take] at hj
  rw [List.getElem_take]
  exact hc j (by omega)
/-- A row of the call's own reads so. -/
theorem RB.own {w : World} {base : Nat} {v : Value} {n : Nat} {xs : List UInt8} (h : w.ownsRow base 5 1 v n (xs.map byteV)) : ∃ A c, v = .slice A n c ∧ RB w A n xs ∧ (A = none → c = 0) ∧ n ≤ c ∧ c ≤ maxLen := by
  have hl : xs.length = n := by simpa using h.1
  rcases h.2 with ⟨rfl, rfl⟩ | ⟨g, cap, cur, rfl, _, hh, hnc, hm, hsz, ht⟩
  · exact ⟨none, 0, rfl, ⟨hl, fun h => absurd h (by omega)⟩, fun _ => rfl, Nat.le_refl _, Nat.zero_le _⟩
  · refine ⟨some ⟨g, 0, none⟩, cap, rfl, ⟨hl, fun _ => ⟨g, 0, rfl, ?_, fun j hj => ?_⟩⟩, (fun e => by cases e), hnc, hm⟩
    · rcases Nat.lt_or_ge g w.heap.size with hlt | hge
      · exact hlt
      · rw [Array.getElem?_eq_none hge] at hh; cases hh
    · rw [Nat.zero_add, cell_of_row w g j cur 5 (0, 0) hh]
      have h1 : (cur.toList.take (n * 1))[j]? = some (byteV xs[j]) := by rw [ht]; simp [hj]
      rw [List.getElem?_take, if_pos (by omega)] at h1
      simpa [byteV] using h1
theorem RB.news {w : World} {ad : Addr} {n : Nat} {xs : List UInt8} (h : RB w (some ad) n xs) : ∀ j u, (xs.map byteV)[j]? = some u → w.cell? (ad.add j) = some u := by
  intro j u hu
  have hj : j < xs.length := by
    have := (List.getElem?_eq_some_iff.1 hu).1
    simpa using this
  have hl := h.1
  obtain ⟨b, off, e, _, hc⟩ := h.2 (by omega)
  simp only [Option.some.injEq] at e
  subst e
  rw [List.getElem?_map, List.getElem?_eq_getElem hj] at hu
  simp only [Option.map_some, Option.some.injEq] at hu
  subst hu
  have h1 := hc j hj
  by_cases e : j = 0
  · subst e; simp [Addr.add, byteV] at *; assumption
  · simp [Addr.add, byteV, e] at *; assumption

open Go.ChangeShapes Go.WideShapes in
/-- A slice of bytes that came in. -/
theorem RB.opened {H : Type} {enc : TypeId × Value → H} {W : World} {fuel : Nat} {a0 : Option Addr} {len0 cap0 : Nat} {x : DataW H × List MemPlace}
    (hf : DataW.trod enc Try.prog W 0 (fun _ => true) true fuel 32 [.slice a0 len0 cap0] = some x) : ∃ xs, RB W a0 len0 xs ∧ len0 ≤ cap0 ∧ cap0 ≤ maxLen ∧ (a0 = none → cap0 = 0) := by
  rcases open_ints Try.underlying32 Try.underlying5 (by kernel_rfl) hf with ⟨hcs, _⟩ | ⟨a, len, cap, zs, hcs, _, hl, hm, hz, _, hcell, hwz⟩
  · simp only [List.cons.injEq, Value.slice.injEq, and_true] at hcs
    obtain ⟨rfl, rfl, rfl⟩ := hcs
    exact ⟨[], RB.zero _ _, Nat.le_refl _, Nat.zero_le _, fun _ => rfl⟩
  · simp only [List.cons.injEq, Value.slice.injEq, and_true] at hcs
    obtain ⟨rfl, rfl, rfl⟩ := hcs
    have hz' : zs.length = cap0 := by simpa using hz
    refine ⟨(zs.map fun z => z.toNat.toUInt8).take len0, ⟨by simp; omega, fun h0 => ?_⟩, hl, hm, fun e => by cases e⟩
    obtain ⟨b, off, spot⟩ := a
    have hc := hcell 0 (by omega)
    have hspot : spot = none := by simpa [Addr.add] using World.cell?_spot hc
    subst hspot
    refine ⟨b, off, rfl, bcell_lt (a := ⟨b, off, none⟩) (by simpa [Addr.add] using hc), fun j hj => ?_⟩
    rw [List.length_take, List.length_map] at hj
    have hcj := hcell j (by omega)
    have hjz : j < zs.length := by omega
    have hg : zs.getD j 0 = zs[j] := by simp [List.getD, List.getElem?_eq_getElem hjz]
    have hw := hwz zs[j] (List.getElem_mem hjz)
    have hb : 0 ≤ zs[j] ∧ zs[j] ≤ 255 := by simpa [Lit.wf, IntKind.min, IntKind.max, IntKind.signed, IntKind.bits] using hw
    rw [hg] at hcj
    rw [List.getElem_take, List.getElem_map]
    have hv : ((zs[j].toNat.toUInt8).toNat : Int) = zs[j] := by
      have : zs[j].toNat < 256 := by omega
      simp
      omega
    rw [hv]
    by_cases e : j = 0
    · subst e; simpa [Addr.add] using hcj
    · simpa [Addr.add, e] using hcj
end Go.Proofs.Ytbhhalkpghcflaa
