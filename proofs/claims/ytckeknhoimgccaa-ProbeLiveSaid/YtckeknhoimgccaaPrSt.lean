/-
  What comes into layer 12's laws: a step, with its list of those that live.
-/
import Derived.Test.YtckeknhoimgccaaPrWorks
import Derived.Test.YtckeknhoimgccaaCame
import Derived.Test.YtckeknhoimgccaaRelI
import Derived.Test.YtckeknhoimgccaaRelMore
namespace Go.Proofs.Ytckeknhoimgccaa
open Go.RowKit
structure St where
  kind : Int
  node : Int
  many : Int
  live : Sl Int
abbrev TS : TypeId := 35
def stC (x : St) : List Value := [.int .i64 x.kind, .int .i64 x.node, .int .i64 x.many, .slice x.live.A x.live.l.length x.live.c]
/-- A list that came in reads as its nodes. -/
structure Liv (w : World) (s : Sl Int) : Prop where
  rv : RV w s.A s.l.length (s.l.map nV)
  le : s.l.length ≤ s.c
  max : s.c ≤ maxLen
theorem Liv.of_sk {enc : Int → List Value} (he : ∀ z, enc z = [nV z]) {w : World} {s : Sl Int} (h : SK enc 1 w s.A s.l.length s.l) (h1 : s.l.length ≤ s.c) (h2 : s.c ≤ maxLen) : Liv w s :=
  ⟨⟨by simp, fun hn => by
    obtain ⟨b, off, e, hb, hc⟩ := h.2 hn
    refine ⟨b, off, e, hb, fun j hj => ?_⟩
    rw [List.length_map] at hj
    have := hc j hj 0 (nV s.l[j]) (by rw [he]; rfl)
    rw [Nat.mul_one, Nat.add_zero] at this
    rw [List.getElem_map]
    exact this⟩, h1, h2⟩
theorem Liv.below {w w' : World} {s : Sl Int} (h : Liv w s) (hb : Below w.heap.size w w') : Liv w' s := ⟨h.rv.below hb, h.le, h.max⟩
/-- It is a list outside S, if S is new. -/
theorem Liv.lst {w : World} {s : Sl Int} (h : Liv w s) {S : Nat → Prop} (hS : ∀ k, k < w.heap.size → ¬ S k) : Lst S w s.A s.l.length s.c s.l :=
  ⟨⟨h.rv, fun b off e hn => by
    obtain ⟨b', off', e', hlt, _⟩ := h.rv.2 hn
    rw [e] at e'
    simp only [Option.some.injEq, Addr.mk.injEq] at e'
    exact hS b (by omega)⟩, h.le, by have := h.max; unfold maxLen at this; have := h.le; omega⟩
theorem ItAt.st {w : World} {b o : Nat} {x : St} (h : ItAt stC w b o x) : w.cell? ⟨b, o, none⟩ = some (.int .i64 x.kind) ∧ w.cell? ⟨b, o + 1, none⟩ = some (.int .i64 x.node) ∧ w.cell? ⟨b, o + 2, none⟩ = some (.int .i64 x.many) ∧ w.cell? ⟨b, o + 3, none⟩ = some (.slice x.live.A x.live.l.length x.live.c) := ⟨h 0 _ rfl, h 1 _ rfl, h 2 _ rfl, h 3 _ rfl⟩
theorem blk4 {W : World} {X : Nat} {a b c d : Value} {t : TypeId} (h : W.heap[X]? = some (.cells #[a, b, c, d] t (0, 0))) : W.cell? ⟨X, 0, none⟩ = some a ∧ W.cell? ⟨X, 1, none⟩ = some b ∧ W.cell? ⟨X, 2, none⟩ = some c ∧ W.cell? ⟨X, 3, none⟩ = some d := by
  refine ⟨?_, ?_, ?_, ?_⟩ <;> (rw [cell_of_row _ _ _ _ _ _ h]; rfl)
/-- Nothing that was there changes. -/
abbrev NoS : Nat → Prop := fun _ => False
theorem noS_below {w w' : World} (h : But NoS w w') : Below w.heap.size w w' := h.below (Nat.le_refl _) (fun _ _ h => h)
end Go.Proofs.Ytckeknhoimgccaa
