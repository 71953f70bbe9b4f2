/-
  Frames in memory (layer 3): a frame's two cells, and a slice of frames as a list.
-/
import Derived.Test.YtjbemjnofnifaaaZj10
import Derived.Test.YtjbemjnofnifaaaZj3
namespace Go.Proofs.Ytjbemjnofnifaaa
open Go.RowKit

/-- The body of a frame as a slice value. -/
def BodyAt (w : World) (A : Option Addr) (c : Nat) (l : List UInt8) : Prop := RB w A l.length l ∧ l.length ≤ c ∧ (A = none → c = 0) ∧ l.length ≤ 140737488351232
theorem BodyAt.below {w w' : World} {A : Option Addr} {c : Nat} {l : List UInt8} (h : BodyAt w A c l) (hb : Below w.heap.size w w') : BodyAt w' A c l := ⟨h.1.below hb, h.2⟩
/-- What Take and others hand out as a frame's value. -/
def frV (f : Fr) (A : Option Addr) (c : Nat) : Value := .agg #[.int .u8 (f.k.toNat : Int), .slice A f.b.length c]
/-- The frame f lies at ⟨b, o⟩. -/
def FrAt (w : World) (b o : Nat) (f : Fr) : Prop := b < w.heap.size ∧ w.cell? ⟨b, o, none⟩ = some (.int .u8 (f.k.toNat : Int)) ∧ ∃ A c, w.cell? ⟨b, o + 1, none⟩ = some (.slice A f.b.length c) ∧ BodyAt w A c f.b
theorem FrAt.below {w w' : World} {b o : Nat} {f : Fr} (h : FrAt w b o f) (hb : Below w.heap.size w w') : FrAt w' b o f := by
  obtain ⟨hlt, h1, A, c, h2, h3⟩ := h
  exact ⟨Nat.lt_of_lt_of_le hlt hb.size, (hb.cell (p := ⟨b, o, none⟩) hlt).trans h1, A, c, (hb.cell (p := ⟨b, o + 1, none⟩) hlt).trans h2, h3.below hb⟩
/-- The slice value '.slice A n c' reads as the frames fs. -/
def RFs (w : World) (A : Option Addr) (n : Nat) (fs : List Fr) : Prop :=
  fs.length = n ∧ (0 < n → ∃ b off, A = some ⟨b, off, none⟩ ∧ b < w.heap.size ∧ ∀ j (h : j < fs.length), FrAt w b (off + j * 2) fs[j])
theorem RFs.below {w w' : World} {A : Option Addr} {n : Nat} {fs : List Fr} (h : RFs w A n fs) (hb : Below w.heap.size w w') : RFs w' A n fs :=
  ⟨h.1, fun hn => by
    obtain ⟨b, off, e, hlt, hc⟩ := h.2 hn
    exact ⟨b, off, e, Nat.lt_of_lt_of_le hlt hb.size, fun j hj => (hc j hj).below hb⟩⟩
theorem RFs.zero (w : World) (A : Option Addr) : RFs w A 0 [] := ⟨rfl, fun h => absurd h (by omega)⟩
theorem RFs.one {w : World} {A : Option Addr} {c : Nat} {f : Fr} (h : BodyAt w A c f.b) (t : TypeId) : RFs (w.alloc (.cells #[.int .u8 (f.k.toNat : Int), .slice A f.b.length c] t)) (some ⟨w.heap.size, 0, none⟩) 1 [f] := by
  refine ⟨rfl, fun _ => ⟨_, _, rfl, by simp, fun j hj => ?_⟩⟩
  have hj0 : j = 0 := by simpa using hj
  subst hj0
  refine ⟨by simp, ?_, A, c, ?_, h.below ((Below.refl _ _).alloc (Nat.le_refl _) _)⟩
  · rw [cell_of_row _ w.heap.size _ _ _ (0, 0) (heap_alloc_new w _)]; rfl
  · rw [cell_of_row _ w.heap.size _ _ _ (0, 0) (heap_alloc_new w _)]; rfl
/-- Where there is an element, its block is one of bytes. -/
def TyB (w : World) (A : Option Addr) (n : Nat) : Prop := 0 < n → ∃ b off cur, A = some ⟨b, off, none⟩ ∧ w.heap[b]? = some (.cells cur 5 (0, 0))
theorem TyB.own {w : World} {base : Nat} {A : Option Addr} {m c n : Nat} {xs : List Value} (h : w.ownsRow base 5 1 (.slice A m c) n xs) : TyB w A m := fun hm => by
  rcases h.2 with ⟨hv, _⟩ | ⟨g, cap, cur, hv, _, hh, _⟩
  · cases hv; omega
  · cases hv; exact ⟨_, _, _, rfl, hh⟩
theorem TyB.grown {w w' : World} {A : Option Addr} {n : Nat} {row : Option Nat} (h : TyB w A n) (hg : w.grownBy w' row) (hr : ∀ r, row = some r → ∀ cur, w.heap[r]? ≠ some (.cells cur 5 (0, 0))) : TyB w' A n := fun hn => by
  obtain ⟨b, off, cur, e, hh⟩ := h hn
  exact ⟨b, off, cur, e, (hg.block b (Array.getElem?_eq_some_iff.1 hh).1 (fun e' => hr b e'.symm cur hh)).trans hh⟩
theorem RB.grownT {w w' : World} {A : Option Addr} {n : Nat} {xs : List UInt8} {row : Option Nat} (h : RB w A n xs) (ht : TyB w A n) (hg : w.grownBy w' row) (hr : ∀ r, row = some r → ∀ cur, w.heap[r]? ≠ some (.cells cur 5 (0, 0))) : RB w' A n xs := by
  refine ⟨h.1, fun hn => ?_⟩
  obtain ⟨b, off, e, hlt, hc⟩ := h.2 hn
  obtain ⟨b', off', cur, e', hh⟩ := ht hn
  rw [e] at e'
  simp only [Option.some.injEq, Addr.mk.injEq] at e'
  obtain ⟨rfl, rfl, _⟩ := e'
  exact ⟨b, off, e, Nat.lt_of_lt_of_le hlt hg.size, fun j hj => (World.cell?_of_block (a := ⟨b, off + j, none⟩) (hg.block b hlt (fun e2 => hr b e2.symm cur hh))).trans (hc j hj)⟩
end Go.Proofs.Ytjbemjnofnifaaa
