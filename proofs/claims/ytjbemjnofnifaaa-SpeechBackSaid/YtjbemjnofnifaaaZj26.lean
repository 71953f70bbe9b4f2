/-
  What the four functions of the program's package sum are asked to do (the contracts), and works() of the law over them (layer 2).
-/
import Derived.Test.YtjbemjnofnifaaaZj9
import Derived.Test.YtjbemjnofnifaaaZj3
import Derived.StillTailTactics
import Derived.Deep.QuietTactic
import Derived.BigQuiet
import Derived.WalkLawsBesides
namespace Go.Proofs.Ytjbemjnofnifaaa
open Go.RowKit
set_option linter.unusedSimpArgs false

/-- The slice at A holds the slices of bytes ps, one behind the other. -/
def Pieces (w : World) (A : Option Addr) (ps : List (List UInt8)) : Prop :=
  ps ≠ [] → ∃ b off, A = some ⟨b, off, none⟩ ∧ b < w.heap.size ∧ ∀ j (h : j < ps.length), ∃ Aj cj, w.cell? ⟨b, off + j, none⟩ = some (.slice Aj ps[j].length cj) ∧ RB w Aj ps[j].length ps[j] ∧ ps[j].length ≤ maxLen
theorem Pieces.none (w : World) (A : Option Addr) : Pieces w A [] := fun h => absurd rfl h
theorem Pieces.below {w w' : World} {A : Option Addr} {ps : List (List UInt8)} (h : Pieces w A ps) (hb : Below w.heap.size w w') : Pieces w' A ps := fun hn => by
  obtain ⟨b, off, e, hlt, hc⟩ := h hn
  refine ⟨b, off, e, Nat.lt_of_lt_of_le hlt hb.size, fun j hj => ?_⟩
  obtain ⟨Aj, cj, h1, h2, h3⟩ := hc j hj
  exact ⟨Aj, cj, (hb.cell (p := ⟨b, off + j, Option.none⟩) hlt).trans h1, h2.below hb, h3⟩
theorem Pieces.one {w : World} {A : Option Addr} {n c : Nat} {xs : List UInt8} (h : RB w A n xs) (hn : n ≤ maxLen) (t : TypeId) : Pieces (w.alloc (.cells #[.slice A n c] t)) (some ⟨w.heap.size, 0, Option.none⟩) [xs] := fun _ => by
  refine ⟨_, _, rfl, by simp, fun j hj => ?_⟩
  have hj0 : j = 0 := by simpa using hj
  subst hj0
  have hl := h.1
  subst hl
  exact ⟨A, c, by rw [cell_of_row _ w.heap.size _ _ _ _ (heap_alloc_new w _)]; rfl, h.alloc _, hn⟩
theorem Pieces.two {w : World} {A B : Option Addr} {n c m d : Nat} {xs ys : List UInt8} (h : RB w A n xs) (hn : n ≤ maxLen) (h' : RB w B m ys) (hm : m ≤ maxLen) (t : TypeId) : Pieces (w.alloc (.cells #[.slice A n c, .slice B m d] t)) (some ⟨w.heap.size, 0, Option.none⟩) [xs, ys] := fun _ => by
  refine ⟨_, _, rfl, by simp, fun j hj => ?_⟩
  have hj0 : j = 0 ∨ j = 1 := by simp at hj; omega
  have hl := h.1
  have hl' := h'.1
  subst hl hl'
  rcases hj0 with rfl | rfl
  · exact ⟨A, c, by rw [cell_of_row _ w.heap.size _ _ _ _ (heap_alloc_new w _)]; rfl, h.alloc _, hn⟩
  · exact ⟨B, d, by rw [cell_of_row _ w.heap.size _ _ _ _ (heap_alloc_new w _)]; rfl, h'.alloc _, hm⟩

structure Con : Prop where
  from_ : ∀ (A : Option Addr) (n c : Nat) (xs : List UInt8) (s : BitVec 32) (w : World), RB w A n xs → n ≤ maxLen →
    Calls Try.prog 85 #[.int .u32 (s.toNat : Int), .slice A n c] w fun e w' => e = .returned (.int .u32 ((crcFrom s xs).toNat : Int)) ∧ Below w.heap.size w w'
  sum : ∀ (A : Option Addr) (n c : Nat) (ps : List (List UInt8)) (w : World), Pieces w A ps → ps.length = n → n ≤ 1000 →
    Calls Try.prog 74 #[.slice A n c] w fun e w' => e = .returned (.int .u32 ((crc ps.flatten).toNat : Int)) ∧ Below w.heap.size w w'
  bytes : ∀ (s : BitVec 32) (w : World),
    Calls Try.prog 73 #[.int .u32 (s.toNat : Int)] w fun e w' => BGives w (sumBytes s) e w'
  sealed : ∀ (A : Option Addr) (n c : Nat) (xs : List UInt8) (w : World), RB w A n xs → (A = none → c = 0) → n ≤ c → n ≤ 140737488355328 →
    Calls Try.prog 93 #[.slice A n c] w fun e w' => e = .returned (.bool (sealedB xs)) ∧ Below w.heap.size w w'
end Go.Proofs.Ytjbemjnofnifaaa
