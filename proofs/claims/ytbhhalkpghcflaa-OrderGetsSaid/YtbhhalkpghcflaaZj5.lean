/-
  A slice of bytes in memory, as a list (layer 2's seat on): what the walks know of it, and how it is kept.
-/
import Derived.Test.YtbhhalkpghcflaaProg
import Derived.Test.YtbhhalkpghcflaaZj3
import Derived.WalkKit
import Derived.ProofKit
import Derived.OpenShut
import Derived.Below
import Derived.Laws.AppendOwn
import Derived.Laws.OwnMore
import Derived.Laws.AppendOwnNone
import Derived.Deep.Draws
import Derived.OwnWalk
import Derived.Laws.IdiomStrings
import Derived.Lib.AppendStr
namespace Go.Proofs.Ytbhhalkpghcflaa
open Go.RowKit

def byteV (c : UInt8) : Value := .int .u8 (c.toNat : Int)
/-- The slice value '.slice A n c' reads as the bytes xs; where it has an element its block lies in the heap. -/
def RB (w : World) (A : Option Addr) (n : Nat) (xs : List UInt8) : Prop :=
  xs.length = n ∧ (0 < n → ∃ b off, A = some ⟨b, off, none⟩ ∧ b < w.heap.size ∧ ∀ j (h : j < xs.length), w.cell? ⟨b, off + j, none⟩ = some (.int .u8 (xs[j].toNat : Int)))
theorem RB.len {w : World} {A : Option Addr} {n : Nat} {xs : List UInt8} (h : RB w A n xs) : xs.length = n := h.1
theorem RB.zero (w : World) (A : Option Addr) : RB w A 0 [] := ⟨rfl, fun h => absurd h (by omega)⟩
theorem RB.below {w w' : World} {A : Option Addr} {n : Nat} {xs : List UInt8} (h : RB w A n xs) (hb : Below w.heap.size w w') : RB w' A n xs :=
  ⟨h.1, fun hn => by
    obtain ⟨b, off, e, hlt, hc⟩ := h.2 hn
    exact ⟨b, off, e, Nat.lt_of_lt_of_le hlt hb.size, fun j hj => (hb.cell (p := ⟨b, off + j, none⟩) hlt).trans (hc j hj)⟩⟩
theorem RB.alloc {w : World} {A : Option Addr} {n : Nat} {xs : List UInt8} (h : RB w A n xs) (o : Obj) : RB (w.alloc o) A n xs := h.below ((Below.refl _ _).alloc (Nat.le_refl _) o)
theorem RB.take {w : World} {A : Option Addr} {n : Nat} {xs : List UInt8} (h : RB w A n xs) {k : Nat} (hk : k ≤ n) : RB w A k (xs.take k) := by
  have hl := h.1
  refine ⟨by rw [List.length_take]; omega, fun hk0 => ?_⟩
  obtain ⟨b, off, e, hlt, hc⟩ := h.2 (by omega)
  refine ⟨b, off, e, hlt, fun j hj => ?_⟩
  rw [List.length_take] at hj
  rw [List.getElem_take]
  exact hc j (by omega)
/-- A row of the call's own reads so. -/
theorem RB.own {w : World} {base : Nat} {v : Value} {n : Nat} {xs : List UInt8} (h : w.ownsRow base 5 1 v n (xs.map byteV)) : ∃ A c, v = .slice A n c ∧ RB w A n xs ∧ (A = none → c = 0) ∧ n ≤ c ∧ c ≤ maxLen := by
  have hl : xs.length = n := by simpa using h.1
  rcases h.2 with ⟨rfl, rfl⟩ | ⟨g, cap, cur, rfl, _, hh, hnc, hm, hsz, ht⟩
  · exact ⟨none, 0, rfl, ⟨hl, fun h => absurd h (by omega)⟩, fun _ => rfl, Nat.le_refl _, Nat.zero_le _⟩
  · refine ⟨some ⟨g, 0, none⟩, cap, rfl, ⟨hl, fun _ => ⟨g, 0, rfl, ?_, fun j hj => ?_⟩⟩, (fun e => by cases e), hnc, hm⟩
    · rcases Nat.lt_or_ge g w.heap.size with hlt | hge
      · exact hlt
      · rw [Array.getElem?_eq_none hge] at hh; cases hh
    · rw [Nat.zero_add, cell_of_row w g j cur 5 (0, 0) hh]
      have h1 : (cur.toList.take (n * 1))[j]? = some (byteV xs[j]) := by rw [ht]; simp [hj]
      rw [List.getElem?_take, if_pos (by omega)] at h1
      simpa [byteV] using h1
theorem RB.news {w : World} {ad : Addr} {n : Nat} {xs : List UInt8} (h : RB w (some ad) n xs) : ∀ j u, (xs.map byteV)[j]? = some u → w.cell? (ad.add j) = some u := by
  intro j u hu
  have hj : j < xs.length := by
    have := (List.getElem?_eq_some_iff.1 hu).1
    simpa using this
  have hl := h.1
  obtain ⟨b, off, e, _, hc⟩ := h.2 (by omega)
  simp only [Option.some.injEq] at e
  subst e
  rw [List.getElem?_map, List.getElem?_eq_getElem hj] at hu
  simp only [Option.map_some, Option.some.injEq] at hu
  subst hu
  have h1 := hc j hj
  by_cases e : j = 0
  · subst e; simp [Addr.add, byteV] at *; assumption
  · simp [Addr.add, byteV, e] at *; assumption

open Go.ChangeShapes Go.WideShapes in
/-- A slice of bytes that came in. -/
theorem RB.opened {H : Type} {enc : TypeId × Value → H} {W : World} {fuel : Nat} {a0 : Option Addr} {len0 cap0 : Nat} {x : DataW H × List MemPlace}
    (hf : DataW.trod enc Try.prog W 0 (fun _ => true) true fuel 32 [.slice a0 len0 cap0] = some x) : ∃ xs, RB W a0 len0 xs ∧ len0 ≤ cap0 ∧ cap0 ≤ maxLen ∧ (a0 = none → cap0 = 0) := by
  rcases open_ints Try.underlying32 Try.underlying5 (by kernel_rfl) hf with ⟨hcs, _⟩ | ⟨a, len, cap, zs, hcs, _, hl, hm, hz, _, hcell, hwz⟩
  · simp only [List.cons.injEq, Value.slice.injEq, and_true] at hcs
    obtain ⟨rfl, rfl, rfl⟩ := hcs
    exact ⟨[], RB.zero _ _, Nat.le_refl _, Nat.zero_le _, fun _ => rfl⟩
  · simp only [List.cons.injEq, Value.slice.injEq, and_true] at hcs
    obtain ⟨rfl, rfl, rfl⟩ := hcs
    have hz' : zs.length = cap0 := by simpa using hz
    refine ⟨(zs.map fun z => z.toNat.toUInt8).take len0, ⟨by simp; omega, fun h0 => ?_⟩, hl, hm, fun e => by cases e⟩
    obtain ⟨b, off, spot⟩ := a
    have hc := hcell 0 (by omega)
    have hspot : spot = none := by simpa [Addr.add] using World.cell?_spot hc
    subst hspot
    refine ⟨b, off, rfl, bcell_lt (a := ⟨b, off, none⟩) (by simpa [Addr.add] using hc), fun j hj => ?_⟩
    rw [List.length_take, List.length_map] at hj
    have hcj := hcell j (by omega)
    have hjz : j < zs.length := by omega
    have hg : zs.getD j 0 = zs[j] := by simp [List.getD, List.getElem?_eq_getElem hjz]
    have hw := hwz zs[j] (List.getElem_mem hjz)
    have hb : 0 ≤ zs[j] ∧ zs[j] ≤ 255 := by simpa [Lit.wf, IntKind.min, IntKind.max, IntKind.signed, IntKind.bits] using hw
    rw [hg] at hcj
    rw [List.getElem_take, List.getElem_map]
    have hv : ((zs[j].toNat.toUInt8).toNat : Int) = zs[j] := by
      have : zs[j].toNat < 256 := by omega
      simp
      omega
    rw [hv]
    by_cases e : j = 0
    · subst e; simpa [Addr.add] using hcj
    · simpa [Addr.add, e] using hcj
end Go.Proofs.Ytbhhalkpghcflaa
/-
  Rows of bytes of the call's own (layer 2's seat on): what the walks carry of them, and append.
-/
namespace Go.Proofs.Ytbhhalkpghcflaa
open Go.RowKit

theorem u8_info : (Try.prog.info? 5).map (fun i => (i.zero, i.size, i.bytes)) = some (some (.int .u8 0), 1, 1) := by kernel_rfl

/-- A row of the call's own that holds the bytes ys; nothing that was there has changed. -/
def BOwn (w : World) (B : Nat) (v : Value) (ys : List UInt8) (w' : World) : Prop := w'.ownsRow B 5 1 v ys.length (ys.map byteV) ∧ Below w.heap.size w w' ∧ w.heap.size ≤ B
/-- The same, as a call's result. -/
def BGives (w : World) (ys : List UInt8) (e : Ending) (w' : World) : Prop := ∃ A c, e = .returned (.slice A ys.length c) ∧ RB w' A ys.length ys ∧ (A = none → c = 0) ∧ ys.length ≤ c ∧ c ≤ maxLen ∧ Below w.heap.size w w'
theorem BOwn.start (w : World) : BOwn w w.heap.size (.slice none 0 0) [] w := ⟨World.ownsRow_nil _ _ _ _, Below.refl _ _, Nat.le_refl _⟩
theorem BOwn.gives {w w' : World} {B : Nat} {v : Value} {ys : List UInt8} (h : BOwn w B v ys w') : BGives w ys (.returned v) w' := by
  obtain ⟨A, c, rfl, hR, h1, h2, h3⟩ := RB.own h.1
  exact ⟨A, c, rfl, hR, h1, h2, h3, h.2.1⟩
theorem bown_one {w w0 w1 : World} {B : Nat} {v v' : Value} {ys : List UInt8} {s : UInt8} {o : Obj} (h : BOwn w B v ys w0)
    (hown : w1.ownsRow B 5 1 v' (ys.length + 1) (ys.map byteV ++ [byteV s])) (hg : (w0.alloc o).grownBy w1 v.ownBlock) : BOwn w B v' (ys ++ [s]) w1 := by
  have hs := h.2.1.size
  have hB := h.2.2
  exact ⟨by simpa using hown, (h.2.1.alloc hs o).grown hg (by simp; omega) (fun j hj => Nat.le_trans hB (h.1.lt j hj).1), hB⟩
theorem bown_more {w w0 w1 : World} {B : Nat} {v v' : Value} {ys zs : List UInt8} (h : BOwn w B v ys w0)
    (hown : w1.ownsRow B 5 1 v' (ys.length + zs.length) (ys.map byteV ++ zs.map byteV)) (hg : w0.grownBy w1 v.ownBlock) : BOwn w B v' (ys ++ zs) w1 := by
  have hs := h.2.1.size
  have hB := h.2.2
  exact ⟨by simpa using hown, h.2.1.grown hg hs (fun j hj => Nat.le_trans hB (h.1.lt j hj).1), hB⟩
theorem bown_new {w w0 w1 : World} {B : Nat} {v v' : Value} {ys zs : List UInt8} {o : Obj} (h : BOwn w B v ys w0)
    (hown : w1.ownsRow B 5 1 v' (ys.length + zs.length) (ys.map byteV ++ zs.map byteV)) (hg : (w0.alloc o).grownBy w1 v.ownBlock) : BOwn w B v' (ys ++ zs) w1 := by
  have hs := h.2.1.size
  have hB := h.2.2
  exact ⟨by simpa using hown, (h.2.1.alloc hs o).grown hg (by simp; omega) (fun j hj => Nat.le_trans hB (h.1.lt j hj).1), hB⟩
theorem BOwn.then_ {w w1 w2 : World} {B : Nat} {v : Value} {ys : List UInt8} (h : BOwn w B v ys w1) (hb : Below w1.heap.size w1 w2) : BOwn w B v ys w2 := ⟨bown_keep h.1 hb, h.2.1.trans (hb.mono h.2.1.size), h.2.2⟩

/-- append of a row that was handed in, nil or not. -/
theorem wpList_append_rb {P : Program} {w : World} {ops : Array Oper} {rest : List Oper} {o : Oper} {a : Act} {Q : Exit → Act → World → Prop} (hgd : o.guard = none) (s x : Operand) (t : TypeId)
    (ho : o.op = .call { callee := .builtin .append, args := #[s, x], argTypes := #[t, t] })
    (base : Nat) (e : TypeId) (i : TypeInfo) (z : Value) (bytes : Nat) (ht : P.underlying t = some (.slice e)) (hi : P.info? e = some i) (hz : i.zero = some z)
    (hsize : i.size = 1) (hby : i.bytes = bytes) (hzs : z.cells.size = 1)
    (v : Value) (m : Nat) (ys : List Value) (hs : a.eval s = v) (hown : w.ownsRow base e 1 v m ys)
    (A : Option Addr) (n c : Nat) (xs : List UInt8) (hx : a.eval x = .slice A n c) (hnil : A = none → c = 0) (hR : RB w A n xs)
    (h63 : m + n ≤ maxLen) (hbytes : (m + n) * bytes ≤ 140737488355328) (hbase : base ≤ w.heap.size)
    (h : ∀ v' w', w'.ownsRow base e 1 v' (m + n) (ys ++ xs.map byteV) → w.grownBy w' v.ownBlock → wpList P ops Q rest (a.put o.dst v') w') : wpList P ops Q (o :: rest) a w := by
  have hl := hR.1
  cases A with
  | none =>
    have hn : n = 0 := by
      rcases Nat.eq_zero_or_pos n with e | e
      · exact e
      · obtain ⟨b, off, e, _⟩ := hR.2 e
        cases e
    subst hn
    obtain rfl := hnil rfl
    obtain rfl : xs = [] := List.eq_nil_of_length_eq_zero hl
    exact wpList_append_own_none hgd s x t ho base e i 1 ht hi v m ys hs hown hx (h v w (by simpa using hown) (World.grownBy.refl w _))
  | some ad =>
    exact wpList_append_own w hgd s x t ho base e i z 1 bytes ht hi hz hsize hby hzs (by decide) v m ys hs hown ad n c (xs.map byteV) hx (by simp [hl]) hR.news (by
      intro u hu
      simp only [List.mem_map] at hu
      obtain ⟨y, _, rfl⟩ := hu
      rfl) h63 hbytes hbase (fun v' w' h2 h3 _ => h v' w' h2 h3)
end Go.Proofs.Ytbhhalkpghcflaa
/-
  More on slices of bytes: cut, turned to a text, kept, appended (what frame and field both use).
-/
namespace Go.Proofs.Ytbhhalkpghcflaa
open Go.RowKit

theorem rb_drop {w : World} {b off n m : Nat} {xs : List UInt8} (h : RB w (some ⟨b, off, none⟩) n xs) (hm : m ≤ n) : RB w (some ⟨b, off + m, none⟩) (n - m) (xs.drop m) := by
  have hl := h.1
  refine ⟨by rw [List.length_drop, hl], fun hp => ?_⟩
  obtain ⟨b', off', e, hb, hc⟩ := h.2 (by omega)
  simp only [Option.some.injEq, Addr.mk.injEq] at e
  obtain ⟨rfl, rfl, _⟩ := e
  refine ⟨b, off + m, rfl, hb, fun j hj => ?_⟩
  rw [List.length_drop] at hj
  rw [List.getElem_drop, Nat.add_assoc]
  exact hc (m + j) (by omega)
theorem own_conv {w : World} {A : Option Addr} {n : Nat} {xs : List UInt8} (h : RB w A n xs) (c : Nat) : (convert 32 9 (.slice A n c)).run Try.prog w = .ok (.string ⟨xs.toArray⟩) w := by
  have hl := h.1
  rcases Nat.eq_zero_or_pos n with h0 | hp
  · subst h0
    obtain rfl : xs = [] := List.eq_nil_of_length_eq_zero hl
    rw [run_convert_bytes_string w _ _ _ _ 0 c Try.underlying32 Try.underlying5 Try.underlying9]
    cases A <;> simp [Conv.bytesToString, loadCells]
    all_goals rfl
  · obtain ⟨b, off, rfl, _, hc⟩ := h.2 hp
    subst hl
    refine run_convert_bytes_back w _ _ _ ⟨b, off, none⟩ c xs Try.underlying32 Try.underlying5 Try.underlying9 fun j hj => ?_
    have hplain : (⟨b, off, none⟩ : Addr).add j = ⟨b, off + j, none⟩ := by unfold Addr.add; split <;> simp_all
    rw [hplain]
    exact hc j hj
theorem RB.at_ {w : World} {A : Option Addr} {n : Nat} {xs : List UInt8} (h : RB w A n xs) (hn : 0 < n) : ∃ b off, A = some ⟨b, off, none⟩ ∧ b < w.heap.size ∧ ∀ j, j < n → w.cell? ⟨b, off + j, none⟩ = some (.int .u8 ((xs.getD j 0).toNat : Int)) := by
  obtain ⟨b, off, e, hb, hc⟩ := h.2 hn
  refine ⟨b, off, e, hb, fun j hj => ?_⟩
  have hl := h.1
  have := hc j (by omega)
  rw [this]
  simp [List.getD, List.getElem?_eq_getElem (show j < xs.length by omega)]
theorem RB.but {S : Nat → Prop} {w w' : World} {A : Option Addr} {n : Nat} {xs : List UInt8} (h : RB w A n xs) (hb : But S w w') (hs : ∀ b off, A = some ⟨b, off, none⟩ → 0 < n → ¬ S b) : RB w' A n xs :=
  ⟨h.1, fun hn => by
    obtain ⟨b, off, e, hlt, hc⟩ := h.2 hn
    exact ⟨b, off, e, Nat.lt_of_lt_of_le hlt hb.size, fun j hj => (hb.cell (p := ⟨b, off + j, none⟩) hlt (hs b off e hn)).trans (hc j hj)⟩⟩
theorem wpList_append_rbh {P : Program} {w : World} {ops : Array Oper} {rest : List Oper} {o : Oper} {a : Act} {Q : Exit → Act → World → Prop} (hgd : o.guard = none) (s x : Operand) (t : TypeId)
    (ho : o.op = .call { callee := .builtin .append, args := #[s, x], argTypes := #[t, t] })
    (base : Nat) (i : TypeInfo) (ht : P.underlying t = some (.slice 5)) (hi : P.info? 5 = some i) (hz : i.zero = some (.int .u8 0))
    (hsize : i.size = 1) (hby : i.bytes = 1)
    (v : Value) (m : Nat) (ys : List UInt8) (hs : a.eval s = v) (hown : w.ownsRow base 5 1 v m (ys.map byteV))
    (A : Option Addr) (n c : Nat) (xs : List UInt8) (hx : a.eval x = .slice A n c) (hnil : A = none → c = 0) (hR : RB w A n xs)
    (h63 : m + n ≤ maxLen) (hbytes : (m + n) * 1 ≤ 140737488355328) (hbase : base ≤ w.heap.size)
    (h : Hid (∀ v' w', w'.ownsRow base 5 1 v' (m + n) ((ys ++ xs).map byteV) → w.grownBy w' v.ownBlock → wpList P ops Q rest (a.put o.dst v') w')) : wpList P ops Q (o :: rest) a w :=
  wpList_append_rb hgd s x t ho base 5 i (.int .u8 0) 1 ht hi hz hsize hby rfl v m (ys.map byteV) hs hown A n c xs hx hnil hR h63 hbytes hbase (fun v' w' h1 h2 => h.out v' w' (by rw [List.map_append]; exact h1) h2)
end Go.Proofs.Ytbhhalkpghcflaa
