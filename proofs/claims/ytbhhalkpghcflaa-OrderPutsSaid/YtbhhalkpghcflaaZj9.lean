/-
  Rows of bytes of the call's own (layer 2's seat on): what the walks carry of them, and append.
-/
import Derived.Test.YtbhhalkpghcflaaZj8
namespace Go.Proofs.Ytbhhalkpghcflaa
open Go.RowKit

theorem u8_info : (Try.prog.info? 5).map (fun i => (i.zero, i.size, i.bytes)) = some (some (.int .u8 0), 1, 1) := by kernel_rfl

/-- A row of the call's own that holds the bytes ys; nothing that was there has changed. -/
def BOwn (w : World) (B : Nat) (v : Value) (ys : List UInt8) (w' : World) : Prop := w'.ownsRow B 5 1 v ys.length (ys.map byteV) ∧ Below w.heap.size w w' ∧ w.heap.size ≤ B
/-- The same, as a call's result. -/
def BGives (w : World) (ys : List UInt8) (e : Ending) (w' : World) : Prop := ∃ A c, e = .returned (.slice A ys.length c) ∧ RB w' A ys.length ys ∧ (A = none → c = 0) ∧ ys.length ≤ c ∧ c ≤ maxLen ∧ Below w.heap.size w w'
theorem BOwn.start (w : World) : BOwn w w.heap.size (.slice none 0 0) [] w := ⟨World.ownsRow_nil _ _ _ _, Below.refl _ _, Nat.le_refl _⟩
theorem BOwn.gives {w w' : World} {B : Nat} {v : Value} {ys : List UInt8} (h : BOwn w B v ys w') : BGives w ys (.returned v) w' := by
  obtain ⟨A, c, rfl, hR, h1, h2, h3⟩ := RB.own h.1
  exact ⟨A, c, rfl, hR, h1, h2, h3, h.2.1⟩
theorem bown_one {w w0 w1 : World} {B : Nat} {v v' : Value} {ys : List UInt8} {s : UInt8} {o : Obj} (h : BOwn w B v ys w0)
    (hown : w1.ownsRow B 5 1 v' (ys.length + 1) (ys.map byteV ++ [byteV s])) (hg : (w0.alloc o).grownBy w1 v.ownBlock) : BOwn w B v' (ys ++ [s]) w1 := by
  have hs := h.2.1.size
  have hB := h.2.2
  exact ⟨by simpa using hown, (h.2.1.alloc hs o).grown hg (by simp; omega) (fun j hj => Nat.le_trans hB (h.1.lt j hj).1), hB⟩
theorem bown_more {w w0 w1 : World} {B : Nat} {v v' : Value} {ys zs : List UInt8} (h : BOwn w B v ys w0)
    (hown : w1.ownsRow B 5 1 v' (ys.length + zs.length) (ys.map byteV ++ zs.map byteV)) (hg : w0.grownBy w1 v.ownBlock) : BOwn w B v' (ys ++ zs) w1 := by
  have hs := h.2.1.size
  have hB := h.2.2
  exact ⟨by simpa using hown, h.2.1.grown hg hs (fun j hj => Nat.le_trans hB (h.1.lt j hj).1), hB⟩
theorem bown_new {w w0 w1 : World} {B : Nat} {v v' : Value} {ys zs : List UInt8} {o : Obj} (h : BOwn w B v ys w0)
    (hown : w1.ownsRow B 5 1 v' (ys.length + zs.length) (ys.map byteV ++ zs.map byteV)) (hg : (w0.alloc o).grownBy w1 v.ownBlock) : BOwn w B v' (ys ++ zs) w1 := by
  have hs := h.2.1.size
  have hB := h.2.2
  exact ⟨by simpa using hown, (h.2.1.alloc hs o).grown hg (by simp; omega) (fun j hj => Nat.le_trans hB (h.1.lt j hj).1), hB⟩
theorem BOwn.then_ {w w1 w2 : World} {B : Nat} {v : Value} {ys : List UInt8} (h : BOwn w B v ys w1) (hb : Below w1.heap.size w1 w2) : BOwn w B v ys w2 := ⟨bown_keep h.1 hb, h.2.1.trans (hb.mono h.2.1.size), h.2.2⟩

/-- append of a row that was handed in, nil or not. -/
theorem wpList_append_rb {P : Program} {w : World} {ops : Array Oper} {rest : List Oper} {o : Oper} {a : Act} {Q : Exit → Act → World → Prop} (hgd : o.guard = none) (s x : Operand) (t : TypeId)
    (ho : o.op = .call { callee := .builtin .append, args := #[s, x], argTypes := #[t, t] })
    (base : Nat) (e : TypeId) (i : TypeInfo) (z : Value) (bytes : Nat) (ht : P.underlying t = some (.slice e)) (hi : P.info? e = some i) (hz : i.zero = some z)
    (hsize : i.size = 1) (hby : i.bytes = bytes) (hzs : z.cells.size = 1)
    (v : Value) (m : Nat) (ys : List Value) (hs : a.eval s = v) (hown : w.ownsRow base e 1 v m ys)
    (A : Option Addr) (n c : Nat) (xs : List UInt8) (hx : a.eval x = .slice A n c) (hnil : A = none → c = 0) (hR : RB w A n xs)
    (h63 : m + n ≤ maxLen) (hbytes : (m + n) * bytes ≤ 140737488355328) (hbase : base ≤ w.heap.size)
    (h : ∀ v' w', w'.ownsRow base e 1 v' (m + n) (ys ++ xs.map byteV) → w.grownBy w' v.ownBlock → wpList P ops Q rest (a.put o.dst v') w') : wpList P ops Q (o :: rest) a w := by
  have hl := hR.1
  cases A with
  | none =>
    have hn : n = 0 := by
      rcases Nat.eq_zero_or_pos n with e | e
      · exact e
      · obtain ⟨b, off, e, _⟩ := hR.2 e
        cases e
    subst hn
    obtain rfl := hnil rfl
    obtain rfl : xs = [] := List.eq_nil_of_length_eq_zero hl
    exact wpList_append_own_none hgd s x t ho base e i 1 ht hi v m ys hs hown hx (h v w (by simpa using hown) (World.grownBy.refl w _))
  | some ad =>
    exact wpList_append_own w hgd s x t ho base e i z 1 bytes ht hi hz hsize hby hzs (by decide) v m ys hs hown ad n c (xs.map byteV) hx (by simp [hl]) hR.news (by
      intro u hu
      simp only [List.mem_map] at hu
      obtain ⟨y, _, rfl⟩ := hu
      rfl) h63 hbytes hbase (fun v' w' h2 h3 _ => h v' w' h2 h3)
end Go.Proofs.Ytbhhalkpghcflaa
