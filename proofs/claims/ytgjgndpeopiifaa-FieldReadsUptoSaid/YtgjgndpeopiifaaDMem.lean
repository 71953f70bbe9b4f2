/-
  Layer 4's memory: what a call changes (But), rows of one-cell values, readers' blocks, and what may be appended to.
-/
import Derived.Test.YtgjgndpeopiifaaDRead
import Derived.Test.YtgjgndpeopiifaaBOwn
import Derived.Test.YtgjgndpeopiifaaRelMore
import Derived.Test.YtgjgndpeopiifaaRelI
import Derived.ArgAppend
import Derived.Lib.AppendStr
import Derived.Lib.Hide
import Derived.Laws.EntriesVeiled
import Derived.BigQuiet
import Derived.Deep.QuietTactic
import Derived.LoopTactic
import Derived.StillTailTactics
namespace Go.Proofs.Ytgjgndpeopiifaa
open Go.RowKit

/-- But for the blocks of S nothing that was there has changed. -/
structure But (S : Nat → Prop) (w w' : World) : Prop where
  os : w'.os = w.os
  tape : w'.tape = w.tape
  output : w'.output = w.output
  size : w.heap.size ≤ w'.heap.size
  block : ∀ k, k < w.heap.size → ¬ S k → w'.heap[k]? = w.heap[k]?
theorem But.refl (S : Nat → Prop) (w : World) : But S w w := ⟨rfl, rfl, rfl, Nat.le_refl _, fun _ _ _ => rfl⟩
theorem But.trans {S : Nat → Prop} {a b c : World} (h : But S a b) (k : But S b c) : But S a c :=
  ⟨k.os.trans h.os, k.tape.trans h.tape, k.output.trans h.output, Nat.le_trans h.size k.size, fun i hi hs => (k.block i (Nat.lt_of_lt_of_le hi h.size) hs).trans (h.block i hi hs)⟩
theorem But.mono {S S' : Nat → Prop} {w w' : World} (h : But S w w') (hs : ∀ k, S k → S' k) : But S' w w' := ⟨h.os, h.tape, h.output, h.size, fun k hk hn => h.block k hk (fun e => hn (hs k e))⟩
theorem But.of_below {S : Nat → Prop} {w w' : World} (h : Below w.heap.size w w') : But S w w' := ⟨h.os, h.tape, h.output, h.size, fun k hk _ => h.block k hk⟩
theorem But.of_grown {S : Nat → Prop} {w w' : World} {row : Option Nat} (h : w.grownBy w' row) (hr : ∀ r, row = some r → r < w.heap.size → S r) : But S w w' := ⟨h.os, h.tape, h.output, h.size, fun k hk hs => h.block k hk (fun e => hs (hr k e.symm hk))⟩
theorem But.below {S : Nat → Prop} {w w' : World} (h : But S w w') {B : Nat} (hB : B ≤ w.heap.size) (hs : ∀ k, k < B → ¬ S k) : Below B w w' := ⟨h.os, h.tape, h.output, h.size, fun k hk => h.block k (Nat.lt_of_lt_of_le hk hB) (hs k hk)⟩
theorem But.cell {S : Nat → Prop} {w w' : World} (h : But S w w') {p : Addr} (hp : p.block < w.heap.size) (hs : ¬ S p.block) : w'.cell? p = w.cell? p := World.cell?_of_block (h.block p.block hp hs)
theorem But.set {S : Nat → Prop} (w : World) {p : Addr} (hs : S p.block) (v : Value) : But S w (w.setCell p v) :=
  ⟨rfl, rfl, rfl, by simp [World.setCell], fun k _ hk => Below.heap_setCell _ _ _ _ (fun e => hk (e ▸ hs))⟩
theorem But.drew {S : Nat → Prop} {w w' : World} (h : But S w w') : But S w w'.drew := ⟨h.os, h.tape, h.output, h.size, h.block⟩
theorem own_but {S : Nat → Prop} {w w' : World} {base : Nat} {e : TypeId} {size n : Nat} {v : Value} {xs : List Value} (h : w.ownsRow base e size v n xs) (hb : But S w w') (hs : ∀ j, v.ownBlock = some j → ¬ S j) : w'.ownsRow base e size v n xs :=
  ⟨h.1, h.2.imp id fun ⟨g, cap, cur, h1, h2, h3, h4⟩ => ⟨g, cap, cur, h1, h2, by
    have hlt : g < w.heap.size := (Array.getElem?_eq_some_iff.1 h3).1
    rw [hb.block g hlt (hs g (by rw [h1]; rfl))]; exact h3, h4⟩⟩

theorem block_set {w : World} {B : Nat} {cur : Array Value} {t : TypeId} {fr : Nat × Nat} (h : w.heap[B]? = some (.cells cur t fr)) (i : Nat) (v : Value) : (w.setCell ⟨B, i, none⟩ v).heap[B]? = some (.cells (cur.setIfInBounds i v) t fr) := by
  obtain ⟨hlt, hv⟩ := Array.getElem?_eq_some_iff.1 h
  show (w.heap.modify B _)[B]? = _
  rw [Array.getElem?_eq_getElem (by simpa using hlt), Array.getElem_modify_self, hv]
  rfl

/-! ### Rows of one-cell values -/
def RV (w : World) (A : Option Addr) (n : Nat) (xs : List Value) : Prop :=
  xs.length = n ∧ (0 < n → ∃ b off, A = some ⟨b, off, none⟩ ∧ b < w.heap.size ∧ ∀ j (h : j < xs.length), w.cell? ⟨b, off + j, none⟩ = some xs[j])
theorem RV.zero (w : World) (A : Option Addr) : RV w A 0 [] := ⟨rfl, fun h => absurd h (by omega)⟩
theorem RV.but {S : Nat → Prop} {w w' : World} {A : Option Addr} {n : Nat} {xs : List Value} (h : RV w A n xs) (hb : But S w w') (hs : ∀ b off, A = some ⟨b, off, none⟩ → 0 < n → ¬ S b) : RV w' A n xs :=
  ⟨h.1, fun hn => by
    obtain ⟨b, off, e, hlt, hc⟩ := h.2 hn
    exact ⟨b, off, e, Nat.lt_of_lt_of_le hlt hb.size, fun j hj => (hb.cell (p := ⟨b, off + j, none⟩) hlt (hs b off e hn)).trans (hc j hj)⟩⟩
theorem RV.below {w w' : World} {A : Option Addr} {n : Nat} {xs : List Value} (h : RV w A n xs) (hb : Below w.heap.size w w') : RV w' A n xs := h.but (But.of_below (S := fun _ => False) hb) (fun _ _ _ _ h => h)
theorem RV.own {w : World} {base : Nat} {e : TypeId} {v : Value} {n : Nat} {xs : List Value} (h : w.ownsRow base e 1 v n xs) : ∃ A c, v = .slice A n c ∧ RV w A n xs ∧ (A = none → c = 0) ∧ n ≤ c ∧ c ≤ maxLen := by
  have hl : xs.length = n := by simpa using h.1
  rcases h.2 with ⟨rfl, rfl⟩ | ⟨g, cap, cur, rfl, _, hh, hnc, hm, hsz, ht⟩
  · exact ⟨none, 0, rfl, ⟨hl, fun h => absurd h (by omega)⟩, fun _ => rfl, Nat.le_refl _, Nat.zero_le _⟩
  · refine ⟨some ⟨g, 0, none⟩, cap, rfl, ⟨hl, fun _ => ⟨g, 0, rfl, (Array.getElem?_eq_some_iff.1 hh).1, fun j hj => ?_⟩⟩, (fun e => by cases e), hnc, hm⟩
    rw [Nat.zero_add, cell_of_row w g j cur e (0, 0) hh]
    have h1 : (cur.toList.take (n * 1))[j]? = some xs[j] := by rw [ht]; simp [hj]
    rw [List.getElem?_take, if_pos (by omega)] at h1
    simpa using h1
theorem RV.at_ {w : World} {A : Option Addr} {n : Nat} {xs : List Value} (h : RV w A n xs) {k : Nat} (hk : k < n) : ∃ b off, A = some ⟨b, off, none⟩ ∧ b < w.heap.size ∧ w.cell? ⟨b, off + k, none⟩ = some (xs[k]'(by have := h.1; omega)) := by
  obtain ⟨b, off, e, hb, hc⟩ := h.2 (by omega)
  exact ⟨b, off, e, hb, hc k (by have := h.1; omega)⟩
def strV (s : List UInt8) : Value := .string ⟨s.toArray⟩
def u64V (n : Nat) : Value := .int .u64 (n : Int)

/-! ### Bytes -/
theorem rb_drop {w : World} {b off n m : Nat} {xs : List UInt8} (h : RB w (some ⟨b, off, none⟩) n xs) (hm : m ≤ n) : RB w (some ⟨b, off + m, none⟩) (n - m) (xs.drop m) := by
  have hl := h.1
  refine ⟨by rw [List.length_drop, hl], fun hp => ?_⟩
  obtain ⟨b', off', e, hb, hc⟩ := h.2 (by omega)
  simp only [Option.some.injEq, Addr.mk.injEq] at e
  obtain ⟨rfl, rfl, _⟩ := e
  refine ⟨b, off + m, rfl, hb, fun j hj => ?_⟩
  rw [List.length_drop] at hj
  rw [List.getElem_drop, Nat.add_assoc]
  exact hc (m + j) (by omega)
theorem RB.at_ {w : World} {A : Option Addr} {n : Nat} {xs : List UInt8} (h : RB w A n xs) (hn : 0 < n) : ∃ b off, A = some ⟨b, off, none⟩ ∧ b < w.heap.size ∧ ∀ j, j < n → w.cell? ⟨b, off + j, none⟩ = some (.int .u8 ((xs.getD j 0).toNat : Int)) := by
  obtain ⟨b, off, e, hb, hc⟩ := h.2 hn
  refine ⟨b, off, e, hb, fun j hj => ?_⟩
  have hl := h.1
  have := hc j (by omega)
  rw [this]
  simp [List.getD, List.getElem?_eq_getElem (show j < xs.length by omega)]
theorem own_conv {w : World} {A : Option Addr} {n : Nat} {xs : List UInt8} (h : RB w A n xs) (c : Nat) : (convert 22 9 (.slice A n c)).run Try.prog w = .ok (.string ⟨xs.toArray⟩) w := by
  have hl := h.1
  rcases Nat.eq_zero_or_pos n with h0 | hp
  · subst h0
    obtain rfl : xs = [] := List.eq_nil_of_length_eq_zero hl
    rw [run_convert_bytes_string w _ _ _ _ 0 c Try.underlying22 Try.underlying5 Try.underlying9]
    cases A <;> simp [Conv.bytesToString, loadCells]
    all_goals rfl
  · obtain ⟨b, off, rfl, _, hc⟩ := h.2 hp
    subst hl
    refine run_convert_bytes_back w _ _ _ ⟨b, off, none⟩ c xs Try.underlying22 Try.underlying5 Try.underlying9 fun j hj => ?_
    have hplain : (⟨b, off, none⟩ : Addr).add j = ⟨b, off + j, none⟩ := by unfold Addr.add; split <;> simp_all
    rw [hplain]
    exact hc j hj
/-- A slice of bytes that lies outside S. -/
def RBn (S : Nat → Prop) (w : World) (A : Option Addr) (n : Nat) (xs : List UInt8) : Prop := RB w A n xs ∧ ∀ b off, A = some ⟨b, off, none⟩ → 0 < n → ¬ S b
theorem RB.but {S : Nat → Prop} {w w' : World} {A : Option Addr} {n : Nat} {xs : List UInt8} (h : RB w A n xs) (hb : But S w w') (hs : ∀ b off, A = some ⟨b, off, none⟩ → 0 < n → ¬ S b) : RB w' A n xs :=
  ⟨h.1, fun hn => by
    obtain ⟨b, off, e, hlt, hc⟩ := h.2 hn
    exact ⟨b, off, e, Nat.lt_of_lt_of_le hlt hb.size, fun j hj => (hb.cell (p := ⟨b, off + j, none⟩) hlt (hs b off e hn)).trans (hc j hj)⟩⟩
theorem RBn.but {S : Nat → Prop} {w w' : World} {A : Option Addr} {n : Nat} {xs : List UInt8} (h : RBn S w A n xs) (hb : But S w w') : RBn S w' A n xs := ⟨h.1.but hb h.2, h.2⟩
theorem RBn.drop {S : Nat → Prop} {w : World} {b off n m : Nat} {xs : List UInt8} (h : RBn S w (some ⟨b, off, none⟩) n xs) (hm : m ≤ n) : RBn S w (some ⟨b, off + m, none⟩) (n - m) (xs.drop m) :=
  ⟨rb_drop h.1 hm, fun b' off' e hn => by
    simp only [Option.some.injEq, Addr.mk.injEq] at e
    obtain ⟨rfl, _, _⟩ := e
    exact h.2 b off rfl (by omega)⟩

/-! ### Readers -/
/-- The program's reader at block B. -/
def RdAt (S : Nat → Prop) (w : World) (B : Nat) (s : St) : Prop :=
  S B ∧ ∃ A n c, w.heap[B]? = some (.cells #[.bool true, .slice A n c, .int .i64 (s.e : Int)] 62 (0, 0)) ∧ RBn S w A n s.b ∧ n ≤ c ∧ (A = none → c = 0) ∧ n ≤ 140737488355328
theorem RdAt.lt {S : Nat → Prop} {w : World} {B : Nat} {s : St} (h : RdAt S w B s) : B < w.heap.size := by
  obtain ⟨_, A, n, c, hh, _⟩ := h
  exact (Array.getElem?_eq_some_iff.1 hh).1
/-- Other readers' writes leave it. -/
theorem RdAt.but {S S' : Nat → Prop} {w w' : World} {B : Nat} {s : St} (h : RdAt S w B s) (hb : But S' w w') (hS : ∀ k, S' k → S k) (hB : ¬ S' B) : RdAt S w' B s := by
  have hlt := h.lt
  obtain ⟨h0, A, n, c, hh, hr, hm⟩ := h
  exact ⟨h0, A, n, c, (hb.block B hlt hB).trans hh, hr.but (hb.mono hS), hm⟩
theorem RdAt.below {S : Nat → Prop} {w w' : World} {B : Nat} {s : St} (h : RdAt S w B s) (hb : Below w.heap.size w w') : RdAt S w' B s := h.but (S' := fun _ => False) (But.of_below hb) (fun _ h => h.elim) (fun h => h)

/-! ### What may be appended to -/
def Addable (w : World) (base : Nat) (v : Value) (m : Nat) (xs : List UInt8) : Prop :=
  w.ownsRow base 5 1 v m (xs.map byteV) ∨ ∃ B, v = .slice B m m ∧ RB w B m xs ∧ (B = none → m = 0)
theorem Addable.below {w w' : World} {base : Nat} {v : Value} {m : Nat} {xs : List UInt8} (h : Addable w base v m xs) (hb : Below w.heap.size w w') : Addable w' base v m xs := by
  rcases h with h | ⟨B, e, h, hn⟩
  · exact .inl (bown_keep h hb)
  · exact .inr ⟨B, e, h.below hb, hn⟩
/-- A row of the call's own: what was there below the base is as it was. -/
def Adds (w : World) (base : Nat) (m : Nat) (xs : List UInt8) (e : Ending) (w' : World) : Prop := ∃ v, e = .returned v ∧ w'.ownsRow base 5 1 v m (xs.map byteV) ∧ Below base w w'
theorem wpList_append_add {P : Program} {w : World} {ops : Array Oper} {rest : List Oper} {o : Oper} {a : Act} {Q : Exit → Act → World → Prop} (hgd : o.guard = none) (s x : Operand) (t : TypeId)
    (ho : o.op = .call { callee := .builtin .append, args := #[s, x], argTypes := #[t, t] })
    (base : Nat) (i : TypeInfo) (ht : P.underlying t = some (.slice 5)) (hi : P.info? 5 = some i) (hz : i.zero = some (.int .u8 0))
    (hsize : i.size = 1) (hby : i.bytes = 1)
    (v : Value) (m : Nat) (ys : List UInt8) (hs : a.eval s = v) (hv : Addable w base v m ys)
    (A : Option Addr) (n c : Nat) (xs : List UInt8) (hx : a.eval x = .slice A n c) (hR : RB w A n xs) (hn : 0 < n)
    (h63 : m + n ≤ maxLen) (hbytes : (m + n) * 1 ≤ 140737488355328) (hbase : base ≤ w.heap.size)
    (h : Hid (∀ v' w', w'.ownsRow base 5 1 v' (m + n) ((ys ++ xs).map byteV) → Below base w w' → wpList P ops Q rest (a.put o.dst v') w')) : wpList P ops Q (o :: rest) a w := by
  rcases hv with hown | ⟨B, rfl, hB, hnil⟩
  · refine wpList_append_rb hgd s x t ho base 5 i (.int .u8 0) 1 ht hi hz hsize hby rfl v m (ys.map byteV) hs hown A n c xs hx (fun e => by
      obtain ⟨_, _, e', _⟩ := hR.2 hn
      rw [e] at e'; cases e') hR h63 hbytes hbase (fun v' w' h1 h2 => h.out v' w' (by rw [List.map_append]; exact h1) ((Below.refl _ w).grown h2 hbase (fun j hj => (hown.lt j hj).1)))
  · obtain ⟨b, off, rfl, hlt, _⟩ := hR.2 hn
    refine wpList_append_grows w hgd s x t ho 5 i (.int .u8 0) 1 1 ht hi hz hsize hby rfl (by decide) B m m (ys.map byteV) hs (fun e => ⟨hnil e, hnil e⟩) (by simp [hB.1]) (fun ad e j u hu => by
        subst e
        exact hB.news j u hu) ⟨b, off, none⟩ n c (xs.map byteV) hx (by simp [hR.1]) hR.news (by
      intro u hu
      simp only [List.mem_map] at hu
      obtain ⟨y, _, rfl⟩ := hu
      rfl) (by omega) h63 hbytes (fun v' w' h1 h2 => h.out v' w' (by rw [List.map_append]; exact bown_base h1 hbase) ((Below.refl _ w).grown h2 hbase (fun j hj => by cases hj)))
theorem wpList_append_str {P : Program} {w : World} {ops : Array Oper} {rest : List Oper} {o : Oper} {a : Act} {Q : Exit → Act → World → Prop} (hgd : o.guard = none) (s x : Operand) (t u : TypeId)
    (ho : o.op = .call { callee := .builtin .append, args := #[s, x], argTypes := #[t, u] })
    (base : Nat) (i : TypeInfo) (ht : P.underlying t = some (.slice 5)) (hu : P.underlying u = some .string) (hi : P.info? 5 = some i) (hz : i.zero = some (.int .u8 0))
    (hsize : i.size = 1) (hby : i.bytes = 1)
    (v : Value) (m : Nat) (ys : List UInt8) (hs : a.eval s = v) (hown : w.ownsRow base 5 1 v m (ys.map byteV))
    (xs : List UInt8) (hx : a.eval x = .string ⟨xs.toArray⟩)
    (h63 : m + xs.length ≤ maxLen) (hbytes : m + xs.length ≤ 140737488355328) (hbase : base ≤ w.heap.size)
    (h : Hid (∀ v' w', w'.ownsRow base 5 1 v' (m + xs.length) ((ys ++ xs).map byteV) → Below base w w' → wpList P ops Q rest (a.put o.dst v') w')) : wpList P ops Q (o :: rest) a w := by
  have hsz : (⟨xs.toArray⟩ : ByteArray).size = xs.length := by simp [ByteArray.size]
  have hst : Lib.strCells ⟨xs.toArray⟩ = xs.map byteV := by simp [Lib.strCells, byteV]
  refine Lib.wpList_append_own_string w hgd s x t u ho base 5 i ht hu hi hz hsize hby v m (ys.map byteV) hs hown ⟨xs.toArray⟩ hx (by rw [hsz]; exact h63) (by rw [hsz]; exact hbytes) hbase (fun v' w' h1 h2 _ => h.out v' w' ?_ ((Below.refl _ w).grown h2 hbase (fun j hj => (hown.lt j hj).1)))
  rw [List.map_append, ← hst, ← hsz]
  exact h1
theorem wpList_append_rbh {P : Program} {w : World} {ops : Array Oper} {rest : List Oper} {o : Oper} {a : Act} {Q : Exit → Act → World → Prop} (hgd : o.guard = none) (s x : Operand) (t : TypeId)
    (ho : o.op = .call { callee := .builtin .append, args := #[s, x], argTypes := #[t, t] })
    (base : Nat) (i : TypeInfo) (ht : P.underlying t = some (.slice 5)) (hi : P.info? 5 = some i) (hz : i.zero = some (.int .u8 0))
    (hsize : i.size = 1) (hby : i.bytes = 1)
    (v : Value) (m : Nat) (ys : List UInt8) (hs : a.eval s = v) (hown : w.ownsRow base 5 1 v m (ys.map byteV))
    (A : Option Addr) (n c : Nat) (xs : List UInt8) (hx : a.eval x = .slice A n c) (hnil : A = none → c = 0) (hR : RB w A n xs)
    (h63 : m + n ≤ maxLen) (hbytes : (m + n) * 1 ≤ 140737488355328) (hbase : base ≤ w.heap.size)
    (h : Hid (∀ v' w', w'.ownsRow base 5 1 v' (m + n) ((ys ++ xs).map byteV) → w.grownBy w' v.ownBlock → wpList P ops Q rest (a.put o.dst v') w')) : wpList P ops Q (o :: rest) a w :=
  wpList_append_rb hgd s x t ho base 5 i (.int .u8 0) 1 ht hi hz hsize hby rfl v m (ys.map byteV) hs hown A n c xs hx hnil hR h63 hbytes hbase (fun v' w' h1 h2 => h.out v' w' (by rw [List.map_append]; exact h1) h2)
theorem u8_info' : (Try.prog.info? 5).map (fun i => (i.zero, i.size, i.bytes)) = some (some (.int .u8 0), 1, 1) := u8_info
theorem str_info : (Try.prog.info? 9).map (fun i => (i.zero, i.size, i.bytes)) = some (some (.string ⟨#[]⟩), 1, 16) := by kernel_rfl
theorem u64_info : (Try.prog.info? 23).map (fun i => (i.zero, i.size, i.bytes)) = some (some (.int .u64 0), 1, 8) := by kernel_rfl
end Go.Proofs.Ytgjgndpeopiifaa
