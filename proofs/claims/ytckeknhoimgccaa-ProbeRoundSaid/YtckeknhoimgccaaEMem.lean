/-
  Layer 5's memory: the program's draws and the document's, behind their pointers.
-/
import Derived.Test.YtckeknhoimgccaaKMem
import Derived.Test.YtckeknhoimgccaaRelMore
import Derived.Test.YtckeknhoimgccaaRelI
import Derived.Test.YtckeknhoimgccaaEPlain
namespace Go.Proofs.Ytckeknhoimgccaa
open Go.RowKit

def u32V (x : Nat) : Value := .int .u32 (x : Int)
def iV (x : Nat) : Value := .int .i64 (x : Int)
/-- The block that the pointer v names. -/
def Tgt (v : Value) (k : Nat) : Prop := v = .pointer (some ⟨k, 0, none⟩)
def okD (d : Dr) : Prop := okDr d ∧ d.l.length ≤ 4096 ∧ d.at_ ≤ d.l.length
theorem okD.next {d : Dr} (h : okD d) (n : Int) : okD (d.next n) := ⟨h.1.next n, by rw [Dr.next_l]; exact h.2.1, Dr.next_le n d h.2.2⟩
theorem okD_ordGo : ∀ (i : Nat) (l : List Nat) (d : Dr), okD d → okD (ordGo i l d).2
  | 0, _, _, h => h
  | i + 1, l, d, h => by rw [ordGo]; exact okD_ordGo i _ _ (h.next _)
theorem okD.afterO {d : Dr} (h : okD d) (n : Int) : okD (d.afterO n) := okD_ordGo _ _ _ h
/-- The program's draws at v: nil, or behind a pointer. -/
def DwAt (S : Nat → Prop) (w : World) (v : Value) (d : Dr) : Prop :=
  okD d ∧ ((v = .pointer none ∧ d = ⟨[], 0⟩) ∨ ∃ B A n c, v = .pointer (some ⟨B, 0, none⟩) ∧ S B ∧ w.heap[B]? = some (.cells #[.slice A n c, .int .i64 (d.at_ : Int)] 64 (0, 0)) ∧ RVn S w A n ((d.l.drop d.at_).map u32V) ∧ n ≤ c ∧ c ≤ maxLen)
theorem DwAt.but {S S' : Nat → Prop} {w w' : World} {v : Value} {d : Dr} (h : DwAt S w v d) (hb : But S' w w') (hS : ∀ k, S' k → S k) (hv : ∀ k, S' k → ¬ Tgt v k) : DwAt S w' v d :=
  ⟨h.1, h.2.imp id fun ⟨B, A, n, c, e, h0, hh, hr, h1⟩ => ⟨B, A, n, c, e, h0, (hb.block B (block_lt hh) (fun hs => hv B hs e)).trans hh, hr.but (hb.mono hS), h1⟩⟩
theorem DwAt.below {S : Nat → Prop} {w w' : World} {v : Value} {d : Dr} (h : DwAt S w v d) (hb : Below w.heap.size w w') : DwAt S w' v d := h.but (S' := fun _ => False) (But.of_below hb) (fun _ h => h.elim) (fun _ h => h.elim)
theorem DwAt.lt {S : Nat → Prop} {w : World} {v : Value} {d : Dr} (h : DwAt S w v d) (k : Nat) (hk : Tgt v k) : k < w.heap.size := by
  rcases h.2 with ⟨e, _⟩ | ⟨B, A, n, c, e, _, hh, _⟩
  · rw [Tgt, e] at hk; cases hk
  · rw [Tgt, e] at hk
    simp only [Value.pointer.injEq, Option.some.injEq, Addr.mk.injEq] at hk
    have := block_lt hh
    omega
theorem DwAt.narrow {S S' : Nat → Prop} {w : World} {v : Value} {d : Dr} (h : DwAt S w v d) (hs : ∀ k, k < w.heap.size → S' k → S k) (hv : ∀ k, Tgt v k → S' k) : DwAt S' w v d :=
  ⟨h.1, h.2.imp id fun ⟨B, A, n, c, e, _, hh, hr, h1⟩ => ⟨B, A, n, c, e, hv B e, hh, hr.narrow hs, h1⟩⟩
/-- The document's draws at block B. -/
def RwAt (S : Nat → Prop) (w : World) (B : Nat) (d : Dr) : Prop :=
  okD d ∧ S B ∧ ∃ A n c, w.heap[B]? = some (.cells #[.slice A n c, .int .i64 (d.at_ : Int)] 48 (0, 0)) ∧ RVn S w A n (d.l.map u32V) ∧ n ≤ c ∧ c ≤ maxLen
theorem RwAt.but {S S' : Nat → Prop} {w w' : World} {B : Nat} {d : Dr} (h : RwAt S w B d) (hb : But S' w w') (hS : ∀ k, S' k → S k) (hB : ¬ S' B) : RwAt S w' B d := by
  obtain ⟨h1, h0, A, n, c, hh, hr, hm⟩ := h
  exact ⟨h1, h0, A, n, c, (hb.block B (block_lt hh) hB).trans hh, hr.but (hb.mono hS), hm⟩
theorem RwAt.below {S : Nat → Prop} {w w' : World} {B : Nat} {d : Dr} (h : RwAt S w B d) (hb : Below w.heap.size w w') : RwAt S w' B d := h.but (S' := fun _ => False) (But.of_below hb) (fun _ h => h.elim) (fun h => h)
theorem RwAt.lt {S : Nat → Prop} {w : World} {B : Nat} {d : Dr} (h : RwAt S w B d) : B < w.heap.size := by
  obtain ⟨_, _, A, n, c, hh, _⟩ := h
  exact block_lt hh
end Go.Proofs.Ytckeknhoimgccaa
