/-
  The document's wheel in memory, and what of it may be read (layer 6).
-/
import Derived.Test.YtcekpkjibabjmaaWSet
namespace Go.Proofs.Ytcekpkjibabjmaa
open Go.RowKit
set_option linter.unusedSimpArgs false

/-- A timer's cells. -/
def flat : Tm → List Value
  | [] => []
  | x :: r => .int .i64 x.1 :: .int .i64 (x.2 : Int) :: flat r
theorem flat_append : ∀ (a b : Tm), flat (a ++ b) = flat a ++ flat b
  | [], _ => rfl
  | x :: r, b => by simp [flat, flat_append r b]
theorem flat_length : ∀ L : Tm, (flat L).length = L.length * 2
  | [] => rfl
  | x :: r => by simp only [flat, List.length_cons, flat_length r]; omega
theorem flat_at : ∀ (L : Tm) (j : Nat) (h : j < L.length), (flat L)[j * 2]? = some (.int .i64 L[j].1) ∧ (flat L)[j * 2 + 1]? = some (.int .i64 (L[j].2 : Int))
  | x :: r, 0, _ => ⟨rfl, rfl⟩
  | x :: r, j + 1, h => by
    have := flat_at r j (by simpa using h)
    rw [show (j + 1) * 2 = j * 2 + 1 + 1 by omega]
    simp only [flat, List.getElem?_cons_succ, List.getElem_cons_succ]
    exact this
theorem flat_one : ∀ (L : Tm), ∀ u ∈ flat L, u.oneCell' = true
  | [], _, h => by cases h
  | x :: r, u, h => by
    simp only [flat, List.mem_cons] at h
    rcases h with rfl | rfl | h
    · rfl
    · rfl
    · exact flat_one r u h
/-- The slice value '.slice A n c' reads as the timers L; where it has one its block is one of Q. -/
def TmRow (Q : Nat → Prop) (w : World) (A : Option Addr) (n : Nat) (L : Tm) : Prop :=
  L.length = n ∧ (0 < n → ∃ b off, A = some ⟨b, off, none⟩ ∧ b < w.heap.size ∧ Q b ∧ ∀ j (h : j < L.length), w.cell? ⟨b, off + j * 2, none⟩ = some (.int .i64 L[j].1) ∧ w.cell? ⟨b, off + j * 2 + 1, none⟩ = some (.int .i64 (L[j].2 : Int)))
theorem TmRow.but {Q T : Nat → Prop} {w w' : World} {A : Option Addr} {n : Nat} {L : Tm} (h : TmRow Q w A n L) (hb : But T w w') (hT : ∀ b, T b → b < w.heap.size → ¬ Q b) : TmRow Q w' A n L :=
  ⟨h.1, fun hn => by
    obtain ⟨b, off, e, hlt, hq, hc⟩ := h.2 hn
    refine ⟨b, off, e, Nat.lt_of_lt_of_le hlt hb.size, hq, fun j hj => ?_⟩
    obtain ⟨h1, h2⟩ := hc j hj
    exact ⟨(hb.cell (p := ⟨b, off + j * 2, none⟩) hlt (fun ht => hT b ht hlt hq)).trans h1, (hb.cell (p := ⟨b, off + j * 2 + 1, none⟩) hlt (fun ht => hT b ht hlt hq)).trans h2⟩⟩
theorem TmRow.mono {Q R : Nat → Prop} {w : World} {A : Option Addr} {n : Nat} {L : Tm} (h : TmRow Q w A n L) (hs : ∀ b, b < w.heap.size → Q b → R b) : TmRow R w A n L :=
  ⟨h.1, fun hn => by
    obtain ⟨b, off, e, hlt, hq, hc⟩ := h.2 hn
    exact ⟨b, off, e, hlt, hs b hlt hq, hc⟩⟩
theorem TmRow.own {w : World} {base : Nat} {v : Value} {n : Nat} {L : Tm} (h : w.ownsRow base 56 2 v n (flat L)) : ∃ A c, v = .slice A n c ∧ TmRow (fun b => base ≤ b) w A n L := by
  have hl : L.length = n := by have := h.1; rw [flat_length] at this; omega
  rcases h.2 with ⟨rfl, h0⟩ | ⟨g, cap, cur, e, hb, hh, _⟩
  · exact ⟨none, 0, by rw [h0], hl, fun hn => by omega⟩
  · refine ⟨some ⟨g, 0, none⟩, cap, e, hl, fun _ => ⟨g, 0, rfl, block_lt hh, hb, fun j hj => ?_⟩⟩
    obtain ⟨h1, h2⟩ := flat_at L j hj
    have c1 := h.cells (g := g) (by rw [e]; rfl) _ _ h1
    have c2 := h.cells (g := g) (by rw [e]; rfl) _ _ h2
    rw [plain_add] at c1 c2
    exact ⟨c1, by rw [Nat.add_assoc]; exact c2⟩
/-- The document's wheel at block B2 is in state s; its blocks are of Q. -/
def RwAt (Q : Nat → Prop) (w : World) (B2 : Nat) (s : St) : Prop :=
  Q B2 ∧ s.ok ∧ ∃ A n c, w.heap[B2]? = some (.cells #[.int .i64 (s.now : Int), .slice A n c] 28 (0, 0)) ∧ TmRow (fun b => Q b ∧ b ≠ B2) w A n s.L
theorem RwAt.but {Q T : Nat → Prop} {w w' : World} {B2 : Nat} {s : St} (h : RwAt Q w B2 s) (hb : But T w w') (hT : ∀ b, T b → b < w.heap.size → ¬ Q b) : RwAt Q w' B2 s := by
  obtain ⟨h0, hok, A, n, c, hh, hr⟩ := h
  exact ⟨h0, hok, A, n, c, (hb.block B2 (block_lt hh) (fun ht => hT B2 ht (block_lt hh) h0)).trans hh, hr.but hb (fun b ht hl hq => hT b ht hl hq.1)⟩
theorem RwAt.below {Q : Nat → Prop} {w w' : World} {B2 : Nat} {s : St} (h : RwAt Q w B2 s) (hb : Below w.heap.size w w') : RwAt Q w' B2 s := h.but (T := fun _ => False) (But.of_below hb) (fun _ h => h.elim)
theorem RwAt.mono {Q R : Nat → Prop} {w : World} {B2 : Nat} {s : St} (h : RwAt Q w B2 s) (hs : ∀ b, b < w.heap.size → Q b → R b) : RwAt R w B2 s := by
  obtain ⟨h0, hok, A, n, c, hh, hr⟩ := h
  exact ⟨hs _ (block_lt hh) h0, hok, A, n, c, hh, hr.mono (fun b hb hq => ⟨hs b hb hq.1, hq.2⟩)⟩
theorem RwAt.lt {Q : Nat → Prop} {w : World} {B2 : Nat} {s : St} (h : RwAt Q w B2 s) : B2 < w.heap.size := by
  obtain ⟨_, _, A, n, c, hh, _⟩ := h
  exact block_lt hh
theorem timer_info : (Try.prog.info? 56).map (fun i => (i.zero, i.size, i.bytes)) = some (some (.agg #[.int .i64 0, .int .i64 0]), 2, 16) := by kernel_rfl
/-- append of one timer, from a block that was just laid. -/
theorem wpList_append_tm {w : World} {ops : Array Oper} {rest : List Oper} {o : Oper} {a : Act} {Q : Exit → Act → World → Prop} (hgd : o.guard = none) (s x : Operand)
    (ho : o.op = .call { callee := .builtin .append, args := #[s, x], argTypes := #[26, 26] })
    (base : Nat) (v : Value) (L : Tm) (hs : a.eval s = v) (hown : w.ownsRow base 56 2 v L.length (flat L)) (y : Int × Nat)
    (hx : a.eval x = .slice (some ⟨w.heap.size, 0, none⟩) 1 1) (hL : L.length ≤ 4096) (hbase : base ≤ w.heap.size)
    (h : Hid (∀ v' w', w'.ownsRow base 56 2 v' (L ++ [y]).length (flat (L ++ [y])) → (w.alloc (.cells #[.int .i64 y.1, .int .i64 (y.2 : Int)] 56)).grownBy w' v.ownBlock → wpList Try.prog ops Q rest (a.put o.dst v') w')) :
    wpList Try.prog ops Q (o :: rest) a (w.alloc (.cells #[.int .i64 y.1, .int .i64 (y.2 : Int)] 56)) := by
  obtain ⟨i0, hi, hz0, hz1, hz2⟩ := info_parts timer_info
  refine wpList_append_own _ hgd s x 26 ho base 56 i0 (.agg #[.int .i64 0, .int .i64 0]) 2 16 Try.underlying26 hi hz0 hz1 hz2 rfl (by decide) v L.length (flat L) hs (hown.alloc _) ⟨w.heap.size, 0, none⟩ 1 1 [.int .i64 y.1, .int .i64 (y.2 : Int)] hx rfl (fun j u hu => ?_) (fun u hu => flat_one [y] u hu) (by unfold maxLen; omega) (by omega) (by simp; omega) (fun v' w' h2 h3 _ => h.out v' w' (by rw [flat_append, List.length_append]; exact h2) h3)
  rw [plain_add]
  match j, hu with
  | 0, hu => simp at hu; subst hu; simp
  | 1, hu => simp at hu; subst hu; simp
end Go.Proofs.Ytcekpkjibabjmaa
