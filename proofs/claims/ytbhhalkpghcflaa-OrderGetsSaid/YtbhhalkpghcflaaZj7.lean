/-
  Layer 4's memory: what a call changes (But), rows of one-cell values, readers' blocks, and what may be appended to.
-/
import Derived.Test.YtbhhalkpghcflaaZj1
import Derived.Test.YtbhhalkpghcflaaZj5
import Derived.Test.YtbhhalkpghcflaaZj3
import Derived.Test.YtbhhalkpghcflaaZj6
import Derived.ArgAppend
import Derived.Lib.AppendStr
import Derived.Lib.Hide
import Derived.Laws.EntriesVeiled
import Derived.BigQuiet
import Derived.Deep.QuietTactic
import Derived.LoopTactic
import Derived.StillTailTactics
namespace Go.Proofs.Ytbhhalkpghcflaa
open Go.RowKit



/-! ### Rows of one-cell values -/
theorem RV.ownD {w : World} {base : Nat} {e : TypeId} {v : Value} {n : Nat} {xs : List Value} (h : w.ownsRow base e 1 v n xs) : ∃ A c, v = .slice A n c ∧ RV w A n xs ∧ (A = none → c = 0) ∧ n ≤ c ∧ c ≤ maxLen := by
  have hl : xs.length = n := by simpa using h.1
  rcases h.2 with ⟨rfl, rfl⟩ | ⟨g, cap, cur, rfl, _, hh, hnc, hm, hsz, ht⟩
  · exact ⟨none, 0, rfl, ⟨hl, fun h => absurd h (by omega)⟩, fun _ => rfl, Nat.le_refl _, Nat.zero_le _⟩
  · refine ⟨some ⟨g, 0, none⟩, cap, rfl, ⟨hl, fun _ => ⟨g, 0, rfl, (Array.getElem?_eq_some_iff.1 hh).1, fun j hj => ?_⟩⟩, (fun e => by cases e), hnc, hm⟩
    rw [Nat.zero_add, cell_of_row w g j cur e (0, 0) hh]
    have h1 : (cur.toList.take (n * 1))[j]? = some xs[j] := by rw [ht]; simp [hj]
    rw [List.getElem?_take, if_pos (by omega)] at h1
    simpa using h1
def strV (s : List UInt8) : Value := .string ⟨s.toArray⟩
def u64V (n : Nat) : Value := .int .u64 (n : Int)

/-! ### Bytes -/
/-- A slice of bytes that lies outside S. -/
def RBn (S : Nat → Prop) (w : World) (A : Option Addr) (n : Nat) (xs : List UInt8) : Prop := RB w A n xs ∧ ∀ b off, A = some ⟨b, off, none⟩ → 0 < n → ¬ S b
theorem RBn.but {S : Nat → Prop} {w w' : World} {A : Option Addr} {n : Nat} {xs : List UInt8} (h : RBn S w A n xs) (hb : But S w w') : RBn S w' A n xs := ⟨h.1.but hb h.2, h.2⟩
theorem RBn.drop {S : Nat → Prop} {w : World} {b off n m : Nat} {xs : List UInt8} (h : RBn S w (some ⟨b, off, none⟩) n xs) (hm : m ≤ n) : RBn S w (some ⟨b, off + m, none⟩) (n - m) (xs.drop m) :=
  ⟨rb_drop h.1 hm, fun b' off' e hn => by
    simp only [Option.some.injEq, Addr.mk.injEq] at e
    obtain ⟨rfl, _, _⟩ := e
    exact h.2 b off rfl (by omega)⟩

/-! ### Readers -/
/-- The program's reader at block B. -/
def RdAt (S : Nat → Prop) (w : World) (B : Nat) (s : St) : Prop :=
  S B ∧ ∃ A n c, w.heap[B]? = some (.cells #[.bool true, .slice A n c, .int .i64 (s.e : Int)] 81 (0, 0)) ∧ RBn S w A n s.b ∧ n ≤ c ∧ (A = none → c = 0) ∧ n ≤ 140737488355328
theorem RdAt.lt {S : Nat → Prop} {w : World} {B : Nat} {s : St} (h : RdAt S w B s) : B < w.heap.size := by
  obtain ⟨_, A, n, c, hh, _⟩ := h
  exact (Array.getElem?_eq_some_iff.1 hh).1
/-- Other readers' writes leave it. -/
theorem RdAt.but {S S' : Nat → Prop} {w w' : World} {B : Nat} {s : St} (h : RdAt S w B s) (hb : But S' w w') (hS : ∀ k, S' k → S k) (hB : ¬ S' B) : RdAt S w' B s := by
  have hlt := h.lt
  obtain ⟨h0, A, n, c, hh, hr, hm⟩ := h
  exact ⟨h0, A, n, c, (hb.block B hlt hB).trans hh, hr.but (hb.mono hS), hm⟩
theorem RdAt.below {S : Nat → Prop} {w w' : World} {B : Nat} {s : St} (h : RdAt S w B s) (hb : Below w.heap.size w w') : RdAt S w' B s := h.but (S' := fun _ => False) (But.of_below hb) (fun _ h => h.elim) (fun h => h)

/-! ### What may be appended to -/
def AddD (w : World) (base : Nat) (v : Value) (m : Nat) (xs : List UInt8) : Prop :=
  w.ownsRow base 5 1 v m (xs.map byteV) ∨ ∃ B, v = .slice B m m ∧ RB w B m xs ∧ (B = none → m = 0)
theorem AddD.below {w w' : World} {base : Nat} {v : Value} {m : Nat} {xs : List UInt8} (h : AddD w base v m xs) (hb : Below w.heap.size w w') : AddD w' base v m xs := by
  rcases h with h | ⟨B, e, h, hn⟩
  · exact .inl (bown_keep h hb)
  · exact .inr ⟨B, e, h.below hb, hn⟩
/-- A row of the call's own: what was there below the base is as it was. -/
def Adds (w : World) (base : Nat) (m : Nat) (xs : List UInt8) (e : Ending) (w' : World) : Prop := ∃ v, e = .returned v ∧ w'.ownsRow base 5 1 v m (xs.map byteV) ∧ Below base w w'
theorem wpList_append_addD {P : Program} {w : World} {ops : Array Oper} {rest : List Oper} {o : Oper} {a : Act} {Q : Exit → Act → World → Prop} (hgd : o.guard = none) (s x : Operand) (t : TypeId)
    (ho : o.op = .call { callee := .builtin .append, args := #[s, x], argTypes := #[t, t] })
    (base : Nat) (i : TypeInfo) (ht : P.underlying t = some (.slice 5)) (hi : P.info? 5 = some i) (hz : i.zero = some (.int .u8 0))
    (hsize : i.size = 1) (hby : i.bytes = 1)
    (v : Value) (m : Nat) (ys : List UInt8) (hs : a.eval s = v) (hv : AddD w base v m ys)
    (A : Option Addr) (n c : Nat) (xs : List UInt8) (hx : a.eval x = .slice A n c) (hR : RB w A n xs) (hn : 0 < n)
    (h63 : m + n ≤ maxLen) (hbytes : (m + n) * 1 ≤ 140737488355328) (hbase : base ≤ w.heap.size)
    (h : Hid (∀ v' w', w'.ownsRow base 5 1 v' (m + n) ((ys ++ xs).map byteV) → Below base w w' → wpList P ops Q rest (a.put o.dst v') w')) : wpList P ops Q (o :: rest) a w := by
  rcases hv with hown | ⟨B, rfl, hB, hnil⟩
  · refine wpList_append_rb hgd s x t ho base 5 i (.int .u8 0) 1 ht hi hz hsize hby rfl v m (ys.map byteV) hs hown A n c xs hx (fun e => by
      obtain ⟨_, _, e', _⟩ := hR.2 hn
      rw [e] at e'; cases e') hR h63 hbytes hbase (fun v' w' h1 h2 => h.out v' w' (by rw [List.map_append]; exact h1) ((Below.refl _ w).grown h2 hbase (fun j hj => (hown.lt j hj).1)))
  · obtain ⟨b, off, rfl, hlt, _⟩ := hR.2 hn
    refine wpList_append_grows w hgd s x t ho 5 i (.int .u8 0) 1 1 ht hi hz hsize hby rfl (by decide) B m m (ys.map byteV) hs (fun e => ⟨hnil e, hnil e⟩) (by simp [hB.1]) (fun ad e j u hu => by
        subst e
        exact hB.news j u hu) ⟨b, off, none⟩ n c (xs.map byteV) hx (by simp [hR.1]) hR.news (by
      intro u hu
      simp only [List.mem_map] at hu
      obtain ⟨y, _, rfl⟩ := hu
      rfl) (by omega) h63 hbytes (fun v' w' h1 h2 => h.out v' w' (by rw [List.map_append]; exact bown_base h1 hbase) ((Below.refl _ w).grown h2 hbase (fun j hj => by cases hj)))
theorem wpList_append_str {P : Program} {w : World} {ops : Array Oper} {rest : List Oper} {o : Oper} {a : Act} {Q : Exit → Act → World → Prop} (hgd : o.guard = none) (s x : Operand) (t u : TypeId)
    (ho : o.op = .call { callee := .builtin .append, args := #[s, x], argTypes := #[t, u] })
    (base : Nat) (i : TypeInfo) (ht : P.underlying t = some (.slice 5)) (hu : P.underlying u = some .string) (hi : P.info? 5 = some i) (hz : i.zero = some (.int .u8 0))
    (hsize : i.size = 1) (hby : i.bytes = 1)
    (v : Value) (m : Nat) (ys : List UInt8) (hs : a.eval s = v) (hown : w.ownsRow base 5 1 v m (ys.map byteV))
    (xs : List UInt8) (hx : a.eval x = .string ⟨xs.toArray⟩)
    (h63 : m + xs.length ≤ maxLen) (hbytes : m + xs.length ≤ 140737488355328) (hbase : base ≤ w.heap.size)
    (h : Hid (∀ v' w', w'.ownsRow base 5 1 v' (m + xs.length) ((ys ++ xs).map byteV) → Below base w w' → wpList P ops Q rest (a.put o.dst v') w')) : wpList P ops Q (o :: rest) a w := by
  have hsz : (⟨xs.toArray⟩ : ByteArray).size = xs.length := by simp [ByteArray.size]
  have hst : Lib.strCells ⟨xs.toArray⟩ = xs.map byteV := by simp [Lib.strCells, byteV]
  refine Lib.wpList_append_own_string w hgd s x t u ho base 5 i ht hu hi hz hsize hby v m (ys.map byteV) hs hown ⟨xs.toArray⟩ hx (by rw [hsz]; exact h63) (by rw [hsz]; exact hbytes) hbase (fun v' w' h1 h2 _ => h.out v' w' ?_ ((Below.refl _ w).grown h2 hbase (fun j hj => (hown.lt j hj).1)))
  rw [List.map_append, ← hst, ← hsz]
  exact h1
theorem u8_info' : (Try.prog.info? 5).map (fun i => (i.zero, i.size, i.bytes)) = some (some (.int .u8 0), 1, 1) := u8_info
theorem str_info : (Try.prog.info? 9).map (fun i => (i.zero, i.size, i.bytes)) = some (some (.string ⟨#[]⟩), 1, 16) := by kernel_rfl
theorem u64_info : (Try.prog.info? 23).map (fun i => (i.zero, i.size, i.bytes)) = some (some (.int .u64 0), 1, 8) := by kernel_rfl
end Go.Proofs.Ytbhhalkpghcflaa
