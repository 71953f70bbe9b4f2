/-
  A step of layer 10's law in memory.
-/
import Derived.Test.YtphkaohcfgmmkaaRuMem
namespace Go.Proofs.Ytphkaohcfgmmkaa
open Go.RowKit
structure St where
  kind : Int
  u : Up
  most : Int
  mem : Int
def okSt (s : St) : Prop := okUp s.u ∧ wfI s.most ∧ wfI s.mem
/-- It lies at ⟨b, o⟩. -/
def StAt (w : World) (b o : Nat) (x : St) : Prop := w.cell? ⟨b, o, none⟩ = some (.int .i64 x.kind) ∧ UpAt w b (o + 1) x.u ∧ w.cell? ⟨b, o + 4, none⟩ = some (.int .i64 x.most) ∧ w.cell? ⟨b, o + 5, none⟩ = some (.int .i64 x.mem)
/-- The slice value '.slice A n c' reads as the steps ss. -/
def SSt (w : World) (A : Option Addr) (n : Nat) (ss : List St) : Prop :=
  ss.length = n ∧ (0 < n → ∃ b off, A = some ⟨b, off, none⟩ ∧ b < w.heap.size ∧ ∀ j (h : j < ss.length), StAt w b (off + j * 6) ss[j])
theorem SSt.zero (w : World) (A : Option Addr) : SSt w A 0 [] := ⟨rfl, fun h => absurd h (by omega)⟩
theorem StAt.of_block {w w' : World} {b o : Nat} {x : St} (h : StAt w b o x) (hb : w'.heap[b]? = w.heap[b]?) : StAt w' b o x :=
  ⟨(World.cell?_of_block (a := ⟨b, o, none⟩) hb).trans h.1, h.2.1.of_block hb, (World.cell?_of_block (a := ⟨b, o + 4, none⟩) hb).trans h.2.2.1, (World.cell?_of_block (a := ⟨b, o + 5, none⟩) hb).trans h.2.2.2⟩
theorem SSt.of_block {w w' : World} {A : Option Addr} {n : Nat} {ss : List St} (h : SSt w A n ss) (hb : Below w.heap.size w w') : SSt w' A n ss :=
  ⟨h.1, fun hn => by
    obtain ⟨b, off, e, hlt, hc⟩ := h.2 hn
    exact ⟨b, off, e, Nat.lt_of_lt_of_le hlt hb.size, fun j hj => (hc j hj).of_block (hb.block b hlt)⟩⟩
theorem SSt.but {S : Nat → Prop} {w w' : World} {A : Option Addr} {n : Nat} {ss : List St} (h : SSt w A n ss) (hb : But S w w') (hs : ∀ b off, A = some ⟨b, off, none⟩ → 0 < n → ¬ S b) : SSt w' A n ss :=
  ⟨h.1, fun hn => by
    obtain ⟨b, off, e, hlt, hc⟩ := h.2 hn
    exact ⟨b, off, e, Nat.lt_of_lt_of_le hlt hb.size, fun j hj => (hc j hj).of_block (hb.block b hlt (hs b off e hn))⟩⟩
theorem SSt.at_ {w : World} {A : Option Addr} {n : Nat} {ss : List St} (h : SSt w A n ss) {k : Nat} (hk : k < n) (hk' : k < ss.length) : ∃ b off, A = some ⟨b, off, none⟩ ∧ b < w.heap.size ∧ StAt w b (off + k * 6) ss[k] := by
  obtain ⟨b, off, e, hb, hc⟩ := h.2 (by omega)
  exact ⟨b, off, e, hb, hc k hk'⟩
theorem SSt.up {w : World} {b off n : Nat} {ss : List St} (h : SSt w (some ⟨b, off, none⟩) n ss) {k : Nat} (hk : k < ss.length) : StAt w b (off + k * 6) ss[k] := by
  obtain ⟨b', off', e, _, hc⟩ := h.2 (by have := h.1; omega)
  simp only [Option.some.injEq, Addr.mk.injEq] at e
  obtain ⟨rfl, rfl, _⟩ := e
  exact hc k hk
end Go.Proofs.Ytphkaohcfgmmkaa
