/-
  Memory, of whatever program: what a call changes but for some blocks (But), rows of one-cell values (RV, RVn), rows of the call's own, and what of them may be appended.
-/
import Derived.Test.YtbhhalkpghcflaaProg
import Derived.WalkKit
import Derived.ProofKit
import Derived.OpenShut
import Derived.Below
import Derived.Laws.AppendOwn
import Derived.Laws.OwnMore
import Derived.Laws.AppendOwnNone
import Derived.Laws.Rows
import Derived.Deep.Draws
import Derived.OwnWalk
import Derived.Lib.Hide
import Derived.Laws.EntriesVeiled
import Derived.BigQuiet
import Derived.Deep.QuietTactic
import Derived.LoopTactic
import Derived.StillTailTactics
import Derived.Outline
namespace Go.Proofs.Ytbhhalkpghcflaa
open Go.RowKit

/-- But for the blocks of S nothing that was there has changed. -/
structure But (S : Nat → Prop) (w w' : World) : Prop where
  os : w'.os = w.os
  tape : w'.tape = w.tape
  output : w'.output = w.output
  size : w.heap.size ≤ w'.heap.size
  block : ∀ k, k < w.heap.size → ¬ S k → w'.heap[k]? = w.heap[k]?
theorem But.refl (S : Nat → Prop) (w : World) : But S w w := ⟨rfl, rfl, rfl, Nat.le_refl _, fun _ _ _ => rfl⟩
theorem But.trans {S : Nat → Prop} {a b c : World} (h : But S a b) (k : But S b c) : But S a c :=
  ⟨k.os.trans h.os, k.tape.trans h.tape, k.output.trans h.output, Nat.le_trans h.size k.size, fun i hi hs => (k.block i (Nat.lt_of_lt_of_le hi h.size) hs).trans (h.block i hi hs)⟩
theorem But.mono {S S' : Nat → Prop} {w w' : World} (h : But S w w') (hs : ∀ k, S k → S' k) : But S' w w' := ⟨h.os, h.tape, h.output, h.size, fun k hk hn => h.block k hk (fun e => hn (hs k e))⟩
theorem But.of_below {S : Nat → Prop} {w w' : World} (h : Below w.heap.size w w') : But S w w' := ⟨h.os, h.tape, h.output, h.size, fun k hk _ => h.block k hk⟩
theorem But.of_grown {S : Nat → Prop} {w w' : World} {row : Option Nat} (h : w.grownBy w' row) (hr : ∀ r, row = some r → r < w.heap.size → S r) : But S w w' := ⟨h.os, h.tape, h.output, h.size, fun k hk hs => h.block k hk (fun e => hs (hr k e.symm hk))⟩
theorem But.below {S : Nat → Prop} {w w' : World} (h : But S w w') {B : Nat} (hB : B ≤ w.heap.size) (hs : ∀ k, k < B → ¬ S k) : Below B w w' := ⟨h.os, h.tape, h.output, h.size, fun k hk => h.block k (Nat.lt_of_lt_of_le hk hB) (hs k hk)⟩
theorem But.cell {S : Nat → Prop} {w w' : World} (h : But S w w') {p : Addr} (hp : p.block < w.heap.size) (hs : ¬ S p.block) : w'.cell? p = w.cell? p := World.cell?_of_block (h.block p.block hp hs)
theorem But.set {S : Nat → Prop} (w : World) {p : Addr} (hs : S p.block) (v : Value) : But S w (w.setCell p v) :=
  ⟨rfl, rfl, rfl, by simp [World.setCell], fun k _ hk => Below.heap_setCell _ _ _ _ (fun e => hk (e ▸ hs))⟩
theorem But.alloc {S : Nat → Prop} {w w' : World} (h : But S w w') (o : Obj) : But S w (w'.alloc o) := h.trans (But.of_below ((Below.refl _ _).alloc (Nat.le_refl _) o))
theorem But.drew {S : Nat → Prop} {w w' : World} (h : But S w w') : But S w w'.drew := ⟨h.os, h.tape, h.output, h.size, h.block⟩
theorem But.drewN {S : Nat → Prop} {w w' : World} (h : But S w w') (n : Nat) : But S w (w'.drewN n) := ⟨h.os, h.tape, h.output, h.size, h.block⟩
theorem below_drewN {B : Nat} {a w : World} (h : Below B a w) (n : Nat) : Below B a (w.drewN n) := h.trans ⟨rfl, rfl, rfl, Nat.le_refl _, fun _ _ => rfl⟩
/-- Nothing but what was new then has changed since. -/
theorem But.then_ {S : Nat → Prop} {a b c : World} (h : But S a b) {T : Nat → Prop} (k : But T b c) (hT : ∀ i, T i → i < a.heap.size → S i) : But S a c :=
  ⟨k.os.trans h.os, k.tape.trans h.tape, k.output.trans h.output, Nat.le_trans h.size k.size, fun i hi hs => (k.block i (Nat.lt_of_lt_of_le hi h.size) (fun e => hs (hT i e hi))).trans (h.block i hi hs)⟩
theorem own_but {S : Nat → Prop} {w w' : World} {base : Nat} {e : TypeId} {size n : Nat} {v : Value} {xs : List Value} (h : w.ownsRow base e size v n xs) (hb : But S w w') (hs : ∀ j, v.ownBlock = some j → ¬ S j) : w'.ownsRow base e size v n xs :=
  ⟨h.1, h.2.imp id fun ⟨g, cap, cur, h1, h2, h3, h4⟩ => ⟨g, cap, cur, h1, h2, by
    have hlt : g < w.heap.size := (Array.getElem?_eq_some_iff.1 h3).1
    rw [hb.block g hlt (hs g (by rw [h1]; rfl))]; exact h3, h4⟩⟩
theorem bown_base {w : World} {base base' : Nat} {e : TypeId} {size n : Nat} {v : Value} {xs : List Value} (h : w.ownsRow base e size v n xs) (hb : base' ≤ base) : w.ownsRow base' e size v n xs :=
  ⟨h.1, h.2.imp id fun ⟨g, cap, cur, h1, h2, h3⟩ => ⟨g, cap, cur, h1, Nat.le_trans hb h2, h3⟩⟩
theorem bown_keep {w w' : World} {base : Nat} {e : TypeId} {size n : Nat} {v : Value} {xs : List Value} (h : w.ownsRow base e size v n xs) (hb : Below w.heap.size w w') : w'.ownsRow base e size v n xs :=
  own_but h (But.of_below (S := fun _ => False) hb) (fun _ _ h => h)
theorem block_set {w : World} {B : Nat} {cur : Array Value} {t : TypeId} {fr : Nat × Nat} (h : w.heap[B]? = some (.cells cur t fr)) (i : Nat) (v : Value) : (w.setCell ⟨B, i, none⟩ v).heap[B]? = some (.cells (cur.setIfInBounds i v) t fr) := by
  obtain ⟨hlt, hv⟩ := Array.getElem?_eq_some_iff.1 h
  show (w.heap.modify B _)[B]? = _
  rw [Array.getElem?_eq_getElem (by simpa using hlt), Array.getElem_modify_self, hv]
  rfl
theorem block_lt {w : World} {B : Nat} {o : Obj} (h : w.heap[B]? = some o) : B < w.heap.size := (Array.getElem?_eq_some_iff.1 h).1
theorem bcell_lt {w : World} {a : Addr} {v : Value} (h : w.cell? a = some v) : a.block < w.heap.size := by
  rcases Nat.lt_or_ge a.block w.heap.size with hlt | hge
  · exact hlt
  · have hn : w.heap[a.block]? = none := Array.getElem?_eq_none hge
    simp [World.cell?, hn] at h
theorem plain_add (b off k : Nat) : (⟨b, off, none⟩ : Addr).add k = ⟨b, off + k, none⟩ := by unfold Addr.add; split <;> simp_all

/-! ### Rows of one-cell values -/
/-- The slice value '.slice A n c' reads as the values xs, a cell each; where it has an element its block lies in the heap. -/
def RV (w : World) (A : Option Addr) (n : Nat) (xs : List Value) : Prop :=
  xs.length = n ∧ (0 < n → ∃ b off, A = some ⟨b, off, none⟩ ∧ b < w.heap.size ∧ ∀ j (h : j < xs.length), w.cell? ⟨b, off + j, none⟩ = some xs[j])
theorem RV.zero (w : World) (A : Option Addr) : RV w A 0 [] := ⟨rfl, fun h => absurd h (by omega)⟩
theorem RV.but {S : Nat → Prop} {w w' : World} {A : Option Addr} {n : Nat} {xs : List Value} (h : RV w A n xs) (hb : But S w w') (hs : ∀ b off, A = some ⟨b, off, none⟩ → 0 < n → ¬ S b) : RV w' A n xs :=
  ⟨h.1, fun hn => by
    obtain ⟨b, off, e, hlt, hc⟩ := h.2 hn
    exact ⟨b, off, e, Nat.lt_of_lt_of_le hlt hb.size, fun j hj => (hb.cell (p := ⟨b, off + j, none⟩) hlt (hs b off e hn)).trans (hc j hj)⟩⟩
theorem RV.below {w w' : World} {A : Option Addr} {n : Nat} {xs : List Value} (h : RV w A n xs) (hb : Below w.heap.size w w') : RV w' A n xs := h.but (But.of_below (S := fun _ => False) hb) (fun _ _ _ _ h => h)
theorem RV.own {w : World} {base : Nat} {e : TypeId} {v : Value} {n : Nat} {xs : List Value} (h : w.ownsRow base e 1 v n xs) : ∃ A c, v = .slice A n c ∧ RV w A n xs ∧ (A = none → c = 0) ∧ n ≤ c ∧ c ≤ maxLen ∧ ∀ b off, A = some ⟨b, off, none⟩ → base ≤ b := by
  have hl : xs.length = n := by simpa using h.1
  rcases h.2 with ⟨rfl, rfl⟩ | ⟨g, cap, cur, rfl, hg, hh, hnc, hm, hsz, ht⟩
  · exact ⟨none, 0, rfl, ⟨hl, fun h => absurd h (by omega)⟩, fun _ => rfl, Nat.le_refl _, Nat.zero_le _, (fun _ _ e => by cases e)⟩
  · refine ⟨some ⟨g, 0, none⟩, cap, rfl, ⟨hl, fun _ => ⟨g, 0, rfl, (Array.getElem?_eq_some_iff.1 hh).1, fun j hj => ?_⟩⟩, (fun e => by cases e), hnc, hm, fun b off e => ?_⟩
    · rw [Nat.zero_add, cell_of_row w g j cur e (0, 0) hh]
      have h1 : (cur.toList.take (n * 1))[j]? = some xs[j] := by rw [ht]; simp [hj]
      rw [List.getElem?_take, if_pos (by omega)] at h1
      simpa using h1
    · simp only [Option.some.injEq, Addr.mk.injEq] at e
      omega
theorem own_form {w : World} {base : Nat} {e : TypeId} {size n : Nat} {v : Value} {xs : List Value} (h : w.ownsRow base e size v n xs) (hn : 0 < n) : ∃ g cap, v = .slice (some ⟨g, 0, none⟩) n cap ∧ base ≤ g ∧ g < w.heap.size := by
  rcases h.2 with ⟨_, e⟩ | ⟨g, cap, cur, e, hb, hh, _⟩
  · omega
  · exact ⟨g, cap, e, hb, block_lt hh⟩
theorem RV.at_ {w : World} {A : Option Addr} {n : Nat} {xs : List Value} (h : RV w A n xs) {k : Nat} (hk : k < n) : ∃ b off, A = some ⟨b, off, none⟩ ∧ b < w.heap.size ∧ w.cell? ⟨b, off + k, none⟩ = some (xs[k]'(by have := h.1; omega)) := by
  obtain ⟨b, off, e, hb, hc⟩ := h.2 (by omega)
  exact ⟨b, off, e, hb, hc k (by have := h.1; omega)⟩
theorem RV.take {w : World} {A : Option Addr} {n : Nat} {xs : List Value} (h : RV w A n xs) {k : Nat} (hk : k ≤ n) : RV w A k (xs.take k) := by
  have hl := h.1
  refine ⟨by rw [List.length_take]; omega, fun hk0 => ?_⟩
  obtain ⟨b, off, e, hlt, hc⟩ := h.2 (by omega)
  refine ⟨b, off, e, hlt, fun j hj => ?_⟩
  rw [List.length_take] at hj
  rw [List.getElem_take]
  exact hc j (by omega)
theorem RV.drop {w : World} {b off n m : Nat} {xs : List Value} (h : RV w (some ⟨b, off, none⟩) n xs) (hm : m ≤ n) : RV w (some ⟨b, off + m, none⟩) (n - m) (xs.drop m) := by
  have hl := h.1
  refine ⟨by rw [List.length_drop, hl], fun hp => ?_⟩
  obtain ⟨b', off', e, hb, hc⟩ := h.2 (by omega)
  simp only [Option.some.injEq, Addr.mk.injEq] at e
  obtain ⟨rfl, rfl, _⟩ := e
  refine ⟨b, off + m, rfl, hb, fun j hj => ?_⟩
  rw [List.length_drop] at hj
  rw [List.getElem_drop, Nat.add_assoc]
  exact hc (m + j) (by omega)
theorem RV.news {w : World} {ad : Addr} {n : Nat} {xs : List Value} (h : RV w (some ad) n xs) : ∀ j u, xs[j]? = some u → w.cell? (ad.add j) = some u := by
  intro j u hu
  have hj : j < xs.length := (List.getElem?_eq_some_iff.1 hu).1
  have hl := h.1
  obtain ⟨b, off, e, _, hc⟩ := h.2 (by omega)
  simp only [Option.some.injEq] at e
  subst e
  rw [List.getElem?_eq_getElem hj] at hu
  rw [plain_add, hc j hj]
  exact hu
/-- The same, outside S. -/
def RVn (S : Nat → Prop) (w : World) (A : Option Addr) (n : Nat) (xs : List Value) : Prop := RV w A n xs ∧ ∀ b off, A = some ⟨b, off, none⟩ → 0 < n → ¬ S b
theorem RVn.but {S : Nat → Prop} {w w' : World} {A : Option Addr} {n : Nat} {xs : List Value} (h : RVn S w A n xs) (hb : But S w w') : RVn S w' A n xs := ⟨h.1.but hb h.2, h.2⟩
theorem RVn.drop {S : Nat → Prop} {w : World} {b off n m : Nat} {xs : List Value} (h : RVn S w (some ⟨b, off, none⟩) n xs) (hm : m ≤ n) : RVn S w (some ⟨b, off + m, none⟩) (n - m) (xs.drop m) :=
  ⟨h.1.drop hm, fun b' off' e hn => by
    simp only [Option.some.injEq, Addr.mk.injEq] at e
    obtain ⟨rfl, _, _⟩ := e
    exact h.2 b off rfl (by omega)⟩
theorem RVn.narrow {S S' : Nat → Prop} {w : World} {A : Option Addr} {n : Nat} {xs : List Value} (h : RVn S w A n xs) (hs : ∀ k, k < w.heap.size → S' k → S k) : RVn S' w A n xs :=
  ⟨h.1, fun b off e hn hs' => by
    obtain ⟨b', off', e', hlt, _⟩ := h.1.2 hn
    rw [e] at e'
    simp only [Option.some.injEq, Addr.mk.injEq] at e'
    exact h.2 b off e hn (hs b (by omega) hs')⟩

/-! ### append -/
/-- append of a row that was handed in, nil or not, behind a row of the call's own. -/
theorem wpList_append_rv {P : Program} {w : World} {ops : Array Oper} {rest : List Oper} {o : Oper} {a : Act} {Q : Exit → Act → World → Prop} (hgd : o.guard = none) (s x : Operand) (t : TypeId)
    (ho : o.op = .call { callee := .builtin .append, args := #[s, x], argTypes := #[t, t] })
    (base : Nat) (e : TypeId) (i : TypeInfo) (z : Value) (bytes : Nat) (ht : P.underlying t = some (.slice e)) (hi : P.info? e = some i) (hz : i.zero = some z)
    (hsize : i.size = 1) (hby : i.bytes = bytes) (hzs : z.cells.size = 1)
    (v : Value) (m : Nat) (ys : List Value) (hs : a.eval s = v) (hown : w.ownsRow base e 1 v m ys)
    (A : Option Addr) (n c : Nat) (xs : List Value) (hx : a.eval x = .slice A n c) (hnil : A = none → c = 0) (hR : RV w A n xs) (hone : ∀ u ∈ xs, u.oneCell' = true)
    (h63 : m + n ≤ maxLen) (hbytes : (m + n) * bytes ≤ 140737488355328) (hbase : base ≤ w.heap.size)
    (h : Hid (∀ v' w', w'.ownsRow base e 1 v' (m + n) (ys ++ xs) → w.grownBy w' v.ownBlock → wpList P ops Q rest (a.put o.dst v') w')) : wpList P ops Q (o :: rest) a w := by
  have hl := hR.1
  cases A with
  | none =>
    have hn : n = 0 := by
      rcases Nat.eq_zero_or_pos n with e | e
      · exact e
      · obtain ⟨b, off, e, _⟩ := hR.2 e
        cases e
    subst hn
    obtain rfl := hnil rfl
    obtain rfl : xs = [] := List.eq_nil_of_length_eq_zero hl
    exact wpList_append_own_none hgd s x t ho base e i 1 ht hi v m ys hs hown hx (h.out v w (by simpa using hown) (World.grownBy.refl w _))
  | some ad =>
    exact wpList_append_own w hgd s x t ho base e i z 1 bytes ht hi hz hsize hby hzs (by decide) v m ys hs hown ad n c xs hx (by simp [hl]) hR.news hone h63 hbytes hbase (fun v' w' h2 h3 _ => h.out v' w' h2 h3)
/-- append of one value, that has just been laid in a block of its own. -/
theorem wpList_append_val {P : Program} {w : World} {ops : Array Oper} {rest : List Oper} {o : Oper} {a : Act} {Q : Exit → Act → World → Prop} (hgd : o.guard = none) (s x : Operand) (t : TypeId)
    (ho : o.op = .call { callee := .builtin .append, args := #[s, x], argTypes := #[t, t] })
    (base : Nat) (e : TypeId) (i : TypeInfo) (z : Value) (bytes : Nat) (ht : P.underlying t = some (.slice e)) (hi : P.info? e = some i) (hz : i.zero = some z)
    (hsize : i.size = 1) (hby : i.bytes = bytes) (hzs : z.cells.size = 1)
    (v : Value) (m : Nat) (ys : List Value) (hs : a.eval s = v) (hown : w.ownsRow base e 1 v m ys) (u : Value) (T : TypeId) (hone : u.oneCell' = true)
    (hx : a.eval x = .slice (some ⟨w.heap.size, 0, none⟩) 1 1)
    (h63 : m + 1 ≤ maxLen) (hbytes : (m + 1) * bytes ≤ 140737488355328) (hbase : base ≤ w.heap.size)
    (h : Hid (∀ v' w', w'.ownsRow base e 1 v' (m + 1) (ys ++ [u]) → (w.alloc (.cells #[u] T)).grownBy w' v.ownBlock → wpList P ops Q rest (a.put o.dst v') w')) : wpList P ops Q (o :: rest) a (w.alloc (.cells #[u] T)) := by
  refine wpList_append_own _ hgd s x t ho base e i z 1 bytes ht hi hz hsize hby hzs (by decide) v m ys hs (hown.alloc _) ⟨w.heap.size, 0, none⟩ 1 1 [u] hx rfl (fun j u' hu => ?_) (fun u' hu => by
    obtain rfl := List.mem_singleton.1 hu
    exact hone) h63 hbytes (by simp; omega) (fun v' w' h2 h3 _ => h.out v' w' h2 h3)
  have hj : j = 0 := by
    have := (List.getElem?_eq_some_iff.1 hu).1
    simpa using this
  subst hj
  simp only [List.getElem?_cons_zero, Option.some.injEq] at hu
  subst hu
  rw [plain_add, cell_of_row _ _ _ _ _ _ (heap_alloc_new w _)]
  rfl

/-! ### What came in -/
section
open Go.ChangeShapes Go.WideShapes
variable {H : Type} {enc : TypeId × Value → H}
def intV (k : IntKind) (z : Int) : Value := .int k z
/-- A slice of integers that came in. -/
theorem ints_opened {P : Program} {W : World} {fuel : Nat} {T E : TypeId} {k : IntKind} {a0 : Option Addr} {len0 cap0 : Nat} {x : DataW H × List MemPlace} (hT : P.underlying T = some (.slice E)) (hE : P.underlying E = some (.int k)) (hC : P.cellsOf E = 1)
    (hf : DataW.trod enc P W 0 (fun _ => true) true fuel T [.slice a0 len0 cap0] = some x) : ∃ zs : List Int, RV W a0 len0 (zs.map (intV k)) ∧ (∀ z ∈ zs, (Lit.int k z).wf = true) ∧ len0 ≤ cap0 ∧ cap0 ≤ maxLen ∧ (a0 = none → cap0 = 0) := by
  rcases open_ints hT hE hC hf with ⟨hcs, _⟩ | ⟨a, len, cap, zs, hcs, _, hl, hm, hz, _, hcell, hwz⟩
  · simp only [List.cons.injEq, Value.slice.injEq, and_true] at hcs
    obtain ⟨rfl, rfl, rfl⟩ := hcs
    exact ⟨[], RV.zero _ _, by simp, Nat.le_refl _, Nat.zero_le _, fun _ => rfl⟩
  · simp only [List.cons.injEq, Value.slice.injEq, and_true] at hcs
    obtain ⟨rfl, rfl, rfl⟩ := hcs
    have hz' : zs.length = cap0 := by simpa using hz
    refine ⟨zs.take len0, ⟨by simp; omega, fun h0 => ?_⟩, fun z hz => hwz z (List.mem_of_mem_take hz), hl, hm, fun e => by cases e⟩
    obtain ⟨b, off, spot⟩ := a
    have hc := hcell 0 (by omega)
    have hspot : spot = none := by simpa [Addr.add] using World.cell?_spot hc
    subst hspot
    rw [plain_add] at hc
    refine ⟨b, off, rfl, bcell_lt hc, fun j hj => ?_⟩
    rw [List.length_map, List.length_take] at hj
    have hcj := hcell j (by omega)
    rw [plain_add] at hcj
    rw [hcj]
    have hjz : j < zs.length := by omega
    have hg : zs.getD j 0 = zs[j] := by simp [List.getD, List.getElem?_eq_getElem hjz]
    rw [hg]
    simp [intV]
end
end Go.Proofs.Ytbhhalkpghcflaa
/-
  Slices and rows of structs of k cells each (enc says an element's cells), of whatever program: reading, keeping, appending.
-/
namespace Go.Proofs.Ytbhhalkpghcflaa
open Go.RowKit
set_option linter.unusedSimpArgs false

section
variable {α : Type} (enc : α → List Value)
/-- x lies at ⟨b, o⟩. -/
def ItAt (w : World) (b o : Nat) (x : α) : Prop := ∀ i u, (enc x)[i]? = some u → w.cell? ⟨b, o + i, none⟩ = some u
/-- The slice value '.slice A n c' reads as ss. -/
def SK (k : Nat) (w : World) (A : Option Addr) (n : Nat) (ss : List α) : Prop :=
  ss.length = n ∧ (0 < n → ∃ b off, A = some ⟨b, off, none⟩ ∧ b < w.heap.size ∧ ∀ j (h : j < ss.length), ItAt enc w b (off + j * k) ss[j])
/-- A row of the call's own. -/
def rowK (E : TypeId) (k : Nat) (w : World) (base : Nat) (v : Value) (l : List α) : Prop := w.ownsRow base E k v l.length (l.flatMap enc)
end
section
variable {α : Type} {enc : α → List Value} {k : Nat} {E : TypeId} {w w' : World} {A : Option Addr} {n base : Nat} {ss l : List α} {v : Value}
theorem ItAt.of_block {b o : Nat} {x : α} (h : ItAt enc w b o x) (hb : w'.heap[b]? = w.heap[b]?) : ItAt enc w' b o x := fun i u hu => (World.cell?_of_block (a := ⟨b, o + i, none⟩) hb).trans (h i u hu)
theorem ItAt.of_new (x : α) (cs : Array Value) (hcs : cs.toList = enc x) (T : TypeId) : ItAt enc (w.alloc (.cells cs T)) w.heap.size 0 x := by
  intro i u hu
  rw [cell_of_row _ _ _ _ _ _ (heap_alloc_new w _), Nat.zero_add, ← Array.getElem?_toList, hcs]
  exact hu
theorem SK.zero : SK enc k w A 0 [] := ⟨rfl, fun h => absurd h (by omega)⟩
theorem SK.keep (h : SK enc k w A n ss) (hb : ∀ b off, A = some ⟨b, off, none⟩ → w'.heap[b]? = w.heap[b]?) : SK enc k w' A n ss :=
  ⟨h.1, fun hn => by
    obtain ⟨b, off, e, hlt, hc⟩ := h.2 hn
    refine ⟨b, off, e, ?_, fun j hj => (hc j hj).of_block (hb b off e)⟩
    have := hb b off e
    rw [Array.getElem?_eq_getElem hlt] at this
    exact (Array.getElem?_eq_some_iff.1 this).1⟩
theorem SK.below (h : SK enc k w A n ss) (hb : Below w.heap.size w w') : SK enc k w' A n ss :=
  ⟨h.1, fun hn => by
    obtain ⟨b, off, e, hlt, hc⟩ := h.2 hn
    exact ⟨b, off, e, Nat.lt_of_lt_of_le hlt hb.size, fun j hj => (hc j hj).of_block (hb.block b hlt)⟩⟩
theorem SK.but {S : Nat → Prop} (h : SK enc k w A n ss) (hb : But S w w') (hs : ∀ b off, A = some ⟨b, off, none⟩ → 0 < n → ¬ S b) : SK enc k w' A n ss :=
  ⟨h.1, fun hn => by
    obtain ⟨b, off, e, hlt, hc⟩ := h.2 hn
    exact ⟨b, off, e, Nat.lt_of_lt_of_le hlt hb.size, fun j hj => (hc j hj).of_block (hb.block b hlt (hs b off e hn))⟩⟩
theorem SK.at_ (h : SK enc k w A n ss) {j : Nat} (hj : j < n) (hj' : j < ss.length) : ∃ b off, A = some ⟨b, off, none⟩ ∧ b < w.heap.size ∧ ItAt enc w b (off + j * k) ss[j] := by
  obtain ⟨b, off, e, hb, hc⟩ := h.2 (by omega)
  exact ⟨b, off, e, hb, hc j hj'⟩
theorem SK.take (h : SK enc k w A n ss) {m : Nat} (hm : m ≤ n) : SK enc k w A m (ss.take m) := by
  have hl := h.1
  refine ⟨by rw [List.length_take]; omega, fun hk0 => ?_⟩
  obtain ⟨b, off, e, hlt, hc⟩ := h.2 (by omega)
  refine ⟨b, off, e, hlt, fun j hj => ?_⟩
  rw [List.length_take] at hj
  rw [List.getElem_take]
  exact hc j (by omega)

theorem flat_length (hk : ∀ x, (enc x).length = k) : ∀ l : List α, (l.flatMap enc).length = l.length * k
  | [] => by simp
  | x :: l => by rw [List.flatMap_cons, List.length_append, hk, flat_length hk l, List.length_cons, Nat.add_mul]; omega
theorem flat_one (h1 : ∀ x, ∀ u ∈ enc x, u.oneCell' = true) (l : List α) : ∀ u ∈ l.flatMap enc, u.oneCell' = true := fun u hu => by
  obtain ⟨x, _, hx⟩ := List.mem_flatMap.1 hu
  exact h1 x u hx
theorem flat_drop (hk : ∀ x, (enc x).length = k) : ∀ (l : List α) (j : Nat), (l.flatMap enc).drop (j * k) = (l.drop j).flatMap enc
  | [], j => by simp
  | x :: l, 0 => by simp
  | x :: l, j + 1 => by
    rw [List.drop_succ_cons, List.flatMap_cons, ← flat_drop hk l j, show (j + 1) * k = (enc x).length + j * k by rw [hk, Nat.add_mul]; omega, List.drop_length_add_append]
theorem flat_at (hk : ∀ x, (enc x).length = k) {l : List α} {j : Nat} (hj : j < l.length) (i : Nat) (hi : i < k) : (l.flatMap enc)[j * k + i]? = (enc l[j])[i]? := by
  have h1 := flat_drop hk l j
  rw [List.drop_eq_getElem_cons hj] at h1
  have h2 : ((l.flatMap enc).drop (j * k))[i]? = (l.flatMap enc)[j * k + i]? := by rw [List.getElem?_drop]
  rw [← h2, h1, List.flatMap_cons, List.getElem?_append_left (by rw [hk]; exact hi)]
theorem rowK.nil (w : World) (base : Nat) : rowK enc E k w base (.slice none 0 0) [] := ⟨by simp, .inl ⟨rfl, rfl⟩⟩
theorem rowK.but {S : Nat → Prop} (h : rowK enc E k w base v l) (hb : But S w w') (hs : ∀ j, v.ownBlock = some j → ¬ S j) : rowK enc E k w' base v l := own_but h hb hs
theorem rowK.below (h : rowK enc E k w base v l) (hb : Below w.heap.size w w') : rowK enc E k w' base v l := bown_keep h hb
theorem rowK.base_le (h : rowK enc E k w base v l) {base' : Nat} (hb : base' ≤ base) : rowK enc E k w base' v l := bown_base h hb
theorem rowK.from (h : rowK enc E k w base v l) : ∀ r, v.ownBlock = some r → base ≤ r ∧ r < w.heap.size := fun r hr => by
  rcases h.2 with ⟨rfl, _⟩ | ⟨g, _, _, rfl, hg, hh, _⟩
  · cases hr
  · cases hr
    exact ⟨hg, block_lt hh⟩
theorem rowK.cells_ (h : rowK enc E k w base v l) {b : Nat} (hb : v.ownBlock = some b) : ∃ cur, w.heap[b]? = some (.cells cur E (0, 0)) := by
  rcases h.2 with ⟨rfl, _⟩ | ⟨g, _, cur, rfl, _, hh, _⟩
  · cases hb
  · cases hb
    exact ⟨cur, hh⟩
/-- A row of the call's own reads as a slice. -/
theorem SK.of_row (hk : ∀ x, (enc x).length = k) (h : rowK enc E k w base v l) : ∃ A c, v = .slice A l.length c ∧ SK enc k w A l.length l ∧ l.length ≤ c ∧ c ≤ maxLen ∧ (∀ b off, A = some ⟨b, off, none⟩ → base ≤ b) := by
  have h0 := h
  rcases h.2 with ⟨rfl, h1⟩ | ⟨g, cap, cur, rfl, hg, hh, hnc, hm, hsz, ht⟩
  · rw [h1]
    exact ⟨none, 0, rfl, ⟨h1, fun h => absurd h (Nat.lt_irrefl _)⟩, Nat.le_refl _, Nat.zero_le _, (fun _ _ e => by cases e)⟩
  · refine ⟨some ⟨g, 0, none⟩, cap, rfl, ⟨rfl, fun _ => ⟨g, 0, rfl, block_lt hh, fun j hj i u hu => ?_⟩⟩, hnc, hm, fun b off e => ?_⟩
    · have hi : i < k := by rw [← hk l[j]]; exact (List.getElem?_eq_some_iff.1 hu).1
      have := World.ownsRow.cells h0 (g := g) rfl (j * k + i) u (by rw [flat_at hk hj i hi]; exact hu)
      rwa [plain_add, ← Nat.add_assoc] at this
    · simp only [Option.some.injEq, Addr.mk.injEq] at e
      omega
/-- append of one struct, from a block that was just laid. -/
theorem wpList_append_k {P : Program} {ops : Array Oper} {rest : List Oper} {o : Oper} {a : Act} {Q : Exit → Act → World → Prop} (hgd : o.guard = none) (s x : Operand) (t : TypeId)
    (ho : o.op = .call { callee := .builtin .append, args := #[s, x], argTypes := #[t, t] })
    (i : TypeInfo) (z : Value) (bytes : Nat) (ht : P.underlying t = some (.slice E)) (hi : P.info? E = some i) (hz : i.zero = some z) (hsize : i.size = k) (hby : i.bytes = bytes) (hzs : z.cells.size = k) (hk0 : 0 < k)
    (hk : ∀ x, (enc x).length = k) (h1 : ∀ x, ∀ u ∈ enc x, u.oneCell' = true)
    (base : Nat) (v : Value) (l : List α) (hs : a.eval s = v) (hown : rowK enc E k w base v l) (X : Nat) (y : α) (hx : a.eval x = .slice (some ⟨X, 0, none⟩) 1 1) (hc : ItAt enc w X 0 y)
    (hl : l.length + 1 ≤ maxLen) (hlb : (l.length + 1) * bytes ≤ 140737488355328) (hbase : base ≤ w.heap.size)
    (h : Hid (∀ v' w', rowK enc E k w' base v' (l ++ [y]) → w.grownBy w' v.ownBlock → wpList P ops Q rest (a.put o.dst v') w')) : wpList P ops Q (o :: rest) a w := by
  refine wpList_append_own w hgd s x _ ho base E i z k bytes ht hi hz hsize hby hzs hk0 v l.length (l.flatMap enc) hs hown ⟨X, 0, none⟩ 1 1 (enc y) hx (by rw [hk]; omega) (fun j u hu => ?_) (h1 y) hl hlb hbase (fun v' w' h2 h3 _ => h.out v' w' ?_ h3)
  · rw [plain_add]
    exact hc j u hu
  · unfold rowK
    rw [List.flatMap_append, List.length_append, List.flatMap_cons, List.flatMap_nil, List.append_nil]
    exact h2
end
end Go.Proofs.Ytbhhalkpghcflaa
