/-
  Messages in memory (layer 13): a message with the place of its updates, slices and rows of such; the parts of a kind.
-/
import Derived.Test.YtjbemjnofnifaaaZj12
import Derived.Test.YtjbemjnofnifaaaZj14
import Derived.Test.YtjbemjnofnifaaaZj15
import Derived.Test.YtjbemjnofnifaaaZj17
namespace Go.Proofs.Ytjbemjnofnifaaa
open Go.RowKit
set_option linter.unusedSimpArgs false
set_option linter.unusedVariables false

/-- A message, and where its updates lie. -/
structure Mi where
  kind : Int
  seq : Nat
  src : Int
  tgt : Int
  rep : Bool
  us : Sl Up
def Mi.m (x : Mi) : Ms := ⟨x.kind, x.seq, x.src, x.tgt, x.rep, x.us.l⟩
def miNone : Mi := ⟨0, 0, 0, 0, false, ⟨none, 0, []⟩⟩
def miC (x : Mi) : List Value := [.int .i64 x.kind, .int .u32 (x.seq : Int), .int .i64 x.src, .int .i64 x.tgt, .bool x.rep, .slice x.us.A x.us.l.length x.us.c]
def miV (x : Mi) : Value := .agg #[.int .i64 x.kind, .int .u32 (x.seq : Int), .int .i64 x.src, .int .i64 x.tgt, .bool x.rep, .slice x.us.A x.us.l.length x.us.c]
theorem miC_length (x : Mi) : (miC x).length = 6 := rfl
theorem miC_one (x : Mi) : ∀ u ∈ miC x, u.oneCell' = true := fun u hu => by
  simp only [miC, List.mem_cons, List.not_mem_nil, or_false] at hu
  rcases hu with rfl | rfl | rfl | rfl | rfl | rfl <;> rfl
/-- Its updates lie there. -/
structure UsOk (w : World) (s : Sl Up) : Prop where
  us : SUp w s.A s.l.length s.l
  le : s.l.length ≤ s.c
  max : s.c ≤ maxLen
  nil : s.A = none → s.c = 0
theorem UsOk.below {w w' : World} {s : Sl Up} (h : UsOk w s) (hb : Below w.heap.size w w') : UsOk w' s := ⟨h.us.of_block hb, h.le, h.max, h.nil⟩
theorem UsOk.none (w : World) : UsOk w ⟨none, 0, []⟩ := ⟨SUp.zero _ _, Nat.le_refl _, Nat.zero_le _, fun _ => rfl⟩
/-- Where it has an element, its block is one of updates. -/
def TyU (w : World) (s : Sl Up) : Prop := 0 < s.l.length → ∃ b off cur, s.A = some ⟨b, off, none⟩ ∧ w.heap[b]? = some (.cells cur 66 (0, 0))
theorem TyU.nil (w : World) (A : Option Addr) (c : Nat) : TyU w ⟨A, c, []⟩ := fun h => absurd h (Nat.lt_irrefl _)
theorem TyU.but {S : Nat → Prop} {w w' : World} {s : Sl Up} (h : TyU w s) (hb : But S w w') (hs : ∀ b off, s.A = some ⟨b, off, none⟩ → ¬ S b) : TyU w' s := fun hn => by
  obtain ⟨b, off, cur, e, hh⟩ := h hn
  exact ⟨b, off, cur, e, (hb.block b (block_lt hh) (hs b off e)).trans hh⟩
theorem TyU.below {w w' : World} {s : Sl Up} (h : TyU w s) (hb : Below w.heap.size w w') : TyU w' s := h.but (But.of_below (S := fun _ => False) hb) (fun _ _ _ h => h)
/-- What grows in a row of another type leaves it. -/
theorem UsOk.grown {w w' : World} {s : Sl Up} {row : Option Nat} (h : UsOk w s) (ht : TyU w s) (hg : w.grownBy w' row) (hr : ∀ r, row = some r → ∀ cur, w.heap[r]? ≠ some (.cells cur 66 (0, 0))) : UsOk w' s ∧ TyU w' s := by
  have hk : 0 < s.l.length → ∃ b off cur, s.A = some ⟨b, off, .none⟩ ∧ w.heap[b]? = some (.cells cur 66 (0, 0)) ∧ w'.heap[b]? = w.heap[b]? := fun hn => by
    obtain ⟨b, off, cur, e, hh⟩ := ht hn
    exact ⟨b, off, cur, e, hh, hg.block b (block_lt hh) (fun e' => hr b e'.symm cur hh)⟩
  refine ⟨⟨⟨h.us.1, fun hn => ?_⟩, h.le, h.max, h.nil⟩, fun hn => ?_⟩
  · obtain ⟨b, off, e, hlt, hc⟩ := h.us.2 hn
    obtain ⟨b', off', cur, e', hh, hk'⟩ := hk hn
    rw [e] at e'
    simp only [Option.some.injEq, Addr.mk.injEq] at e'
    obtain ⟨rfl, rfl, _⟩ := e'
    exact ⟨b, off, e, Nat.lt_of_lt_of_le hlt hg.size, fun j hj => (hc j hj).of_block hk'⟩
  · obtain ⟨b, off, cur, e, hh, hk'⟩ := hk hn
    exact ⟨b, off, cur, e, hk'.trans hh⟩
def Mi.ok (w : World) (x : Mi) : Prop := UsOk w x.us ∧ x.m.wide
theorem Mi.ok.below {w w' : World} {x : Mi} (h : x.ok w) (hb : Below w.heap.size w w') : x.ok w' := ⟨h.1.below hb, h.2⟩
theorem miNone_ok (w : World) : miNone.ok w := ⟨UsOk.none w, by unfold Ms.wide miNone Mi.m; simp⟩
/-- The slice value '.slice A n c' reads as these messages. -/
structure Mis (w : World) (A : Option Addr) (n c : Nat) (l : List Mi) : Prop where
  at_ : SK miC 6 w A n l
  ok : ∀ x ∈ l, x.ok w
  le : n ≤ c
  max : c ≤ maxLen
  nil : A = none → c = 0
theorem Mis.below {w w' : World} {A : Option Addr} {n c : Nat} {l : List Mi} (h : Mis w A n c l) (hb : Below w.heap.size w w') : Mis w' A n c l := ⟨h.at_.below hb, fun x hx => (h.ok x hx).below hb, h.le, h.max, h.nil⟩
/-- A row of messages of the call's own. -/
def miRow (w : World) (base : Nat) (v : Value) (l : List Mi) : Prop := rowK miC 25 6 w base v l ∧ ∀ x ∈ l, x.ok w
theorem Mis.of_row {w : World} {base : Nat} {v : Value} {l : List Mi} (h : miRow w base v l) : ∃ A c, v = .slice A l.length c ∧ Mis w A l.length c l := by
  obtain ⟨A, c, e, h1, h2, h3, _⟩ := SK.of_row miC_length h.1
  refine ⟨A, c, e, h1, h.2, h2, h3, fun hA => ?_⟩
  rcases h.1.2 with ⟨e', _⟩ | ⟨g, cap, cur, e', _⟩
  · rw [e] at e'
    simp only [Value.slice.injEq] at e'
    exact e'.2.2
  · rw [e] at e'
    simp only [Value.slice.injEq] at e'
    rw [hA] at e'
    cases e'.1
theorem msg_info : (Try.prog.info? 25).map (fun i => (i.zero, i.size, i.bytes)) = some (some (.agg #[.int .i64 0, .int .u32 0, .int .i64 0, .int .i64 0, .bool false, .slice none 0 0]), 6, 64) := by kernel_rfl

/-! ### The parts of a kind -/
def partsL (k : Int) : List Int := if k = 1 ∨ k = 3 then [0, 1, 2] else if k = 2 ∨ k = 4 then [0, 1] else if k = 5 then [1, 4] else if k = 6 then [1, 3, 4] else []
theorem partsL_le (k : Int) : (partsL k).length ≤ 3 := by unfold partsL; repeat' split
                                                          all_goals simp
theorem partsL_nil (k : Int) : partsL k = [] ↔ k < 1 ∨ 6 < k := by
  unfold partsL
  repeat' split
  all_goals simp
  all_goals omega
def emptyB (m : Ms) (p : Int) : Bool := if p = 0 then decide (m.seq = 0) else if p = 1 then decide (m.src = 0) else if p = 2 then decide (m.tgt = 0) else if p = 3 then !m.rep else decide (m.us.length = 0)
def nodeB (n : Int) : Bool := decide (0 ≤ n ∧ n < 8)
def upsB (l : List Up) : Bool := decide (l.length ≤ 16 ∧ ∀ u ∈ l, u.right = true)
/-- What the program's Right asks. -/
def partB (m : Ms) (p : Int) : Bool := (partsL m.kind).contains p || emptyB m p
theorem right_parts (m : Ms) : m.right = true ↔ (∀ p : Nat, p < 5 → partB m (p : Int) = true) ∧ 0 < (partsL m.kind).length ∧ nodeB m.src = true ∧ nodeB m.tgt = true ∧ upsB m.us = true := by
  rw [Ms.right_iff]
  have h5 : (∀ p : Nat, p < 5 → partB m (p : Int) = true) ↔ (partB m 0 = true ∧ partB m 1 = true ∧ partB m 2 = true ∧ partB m 3 = true ∧ partB m 4 = true) := by
    constructor
    · intro h
      exact ⟨h 0 (by decide), h 1 (by decide), h 2 (by decide), h 3 (by decide), h 4 (by decide)⟩
    · rintro ⟨h0, h1, h2, h3, h4⟩ p hp
      match p, hp with
      | 0, _ => exact h0
      | 1, _ => exact h1
      | 2, _ => exact h2
      | 3, _ => exact h3
      | 4, _ => exact h4
  rw [h5]
  obtain ⟨k, q, f, t, r, l⟩ := m
  have hl0 : l.length = 0 ↔ l = [] := List.length_eq_zero_iff
  have hn : ∀ n : Int, nodeB n = true ↔ 0 ≤ n ∧ n < 8 := fun n => by unfold nodeB; simp
  have hu : upsB l = true ↔ l.length ≤ 16 ∧ ∀ u ∈ l, u.right = true := by unfold upsB; rw [decide_eq_true_iff]
  simp only [hn, hu]
  by_cases c1 : k = 1 ∨ k = 3
  · have e : partsL k = [0, 1, 2] := by unfold partsL; rw [if_pos c1]
    simp only [partB, e, emptyB]
    simp
    constructor
    · rintro ⟨a, b, c, d, e, f, g, i, j⟩
      simp only at *
      exact ⟨⟨i (by omega), g (by omega)⟩, by omega, by omega, d, e⟩
    · rintro ⟨⟨a, b⟩, c, d, e, f⟩
      refine ⟨by simp only; omega, by simp only; omega, by simp only; omega, e, f, by simp only; omega, fun _ => b, fun _ => a, by simp only; omega⟩
  · by_cases c2 : k = 2 ∨ k = 4
    · have e : partsL k = [0, 1] := by unfold partsL; rw [if_neg c1, if_pos c2]
      simp only [partB, e, emptyB]
      simp
      constructor
      · rintro ⟨a, b, c, d, e, f, g, i, j⟩
        simp only at *
        have h1 := i (by omega)
        have h2 := g (by omega)
        have h3 := j (by omega) (by omega)
        exact ⟨⟨h3, h1, h2⟩, by omega, by omega, d, e⟩
      · rintro ⟨⟨t0, a, b⟩, c, d, e, f⟩
        refine ⟨by simp only; omega, by simp only; omega, by simp only; omega, e, f, by simp only; omega, fun _ => b, fun _ => a, fun _ _ => t0⟩
    · by_cases c3 : k = 5
      · have e : partsL k = [1, 4] := by unfold partsL; rw [if_neg c1, if_neg c2, if_pos c3]
        simp only [partB, e, emptyB]
        simp
        constructor
        · rintro ⟨a, b, c, d, e, f, g, i, j⟩
          simp only at *
          have h1 := i (by omega)
          have h2 := f (by omega)
          exact ⟨⟨h2.1, h2.2, h1⟩, by omega, by omega, d, e⟩
        · rintro ⟨⟨q0, t0, r0⟩, c, d, e, f⟩
          refine ⟨by simp only; omega, by simp only; omega, by simp only; omega, e, f, fun _ => ⟨q0, t0⟩, by simp only; omega, fun _ => r0, fun _ _ => t0⟩
      · by_cases c4 : k = 6
        · have e : partsL k = [1, 3, 4] := by unfold partsL; rw [if_neg c1, if_neg c2, if_neg c3, if_pos c4]
          simp only [partB, e, emptyB]
          simp
          constructor
          · rintro ⟨a, b, c, d, e, f, g, i, j⟩
            simp only at *
            have h2 := f (by omega)
            exact ⟨⟨h2.1, h2.2⟩, by omega, by omega, d, e⟩
          · rintro ⟨⟨q0, t0⟩, c, d, e, f⟩
            refine ⟨by simp only; omega, by simp only; omega, by simp only; omega, e, f, fun _ => ⟨q0, t0⟩, by simp only; omega, by simp only; omega, fun _ _ => t0⟩
        · have e : partsL k = [] := by unfold partsL; rw [if_neg c1, if_neg c2, if_neg c3, if_neg c4]
          simp only [partB, e, emptyB]
          simp
          rintro ⟨⟨a, b⟩, _⟩
          simp only at *
          omega
end Go.Proofs.Ytjbemjnofnifaaa
