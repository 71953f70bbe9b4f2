/-
  As long as the row, and what of it is live, stays, each live node comes within twice as many asks as there are live ones, less one: the law sodalitylaw12.ProbeRound, walked.
-/
import Derived.Test.YtckeknhoimgccaaPrBits
import Derived.Maps.AppendAt
namespace Go.Proofs.Ytckeknhoimgccaa
open Go.RowKit
set_option linter.unusedSimpArgs false
set_option linter.unusedVariables false

theorem own_lst2 {w : World} {base : Nat} {A : Option Addr} {m c : Nat} {xs : List Int} (h : w.ownsRow base 3 1 (.slice A m c) m (xs.map nV)) {S : Nat → Prop} (hS : ∀ k, base ≤ k → ¬ S k) : Lst S w A m c xs ∧ xs.length = m := by
  obtain ⟨A9, c9, e9, hR, hnil, hnc, hmx, hbase⟩ := RV.own h
  simp only [Value.slice.injEq, true_and] at e9
  obtain ⟨rfl, rfl⟩ := e9
  unfold maxLen at hmx
  exact ⟨⟨⟨hR, fun b off e _ => hS b (hbase b off e)⟩, hnc, by omega⟩, by simpa using hR.1⟩
/-- append of one value that has just been laid in a block of its own; where the row lies then. -/
theorem wpList_append_val_at {P : Program} {w : World} {ops : Array Oper} {rest : List Oper} {o : Oper} {a : Act} {Q : Exit → Act → World → Prop} (hgd : o.guard = none) (s x : Operand) (t : TypeId)
    (ho : o.op = .call { callee := .builtin .append, args := #[s, x], argTypes := #[t, t] })
    (base : Nat) (e : TypeId) (i : TypeInfo) (z : Value) (bytes : Nat) (ht : P.underlying t = some (.slice e)) (hi : P.info? e = some i) (hz : i.zero = some z)
    (hsize : i.size = 1) (hby : i.bytes = bytes) (hzs : z.cells.size = 1)
    (v : Value) (m : Nat) (ys : List Value) (hs : a.eval s = v) (hown : w.ownsRow base e 1 v m ys) (u : Value) (T : TypeId) (hone : u.oneCell' = true)
    (hx : a.eval x = .slice (some ⟨w.heap.size, 0, none⟩) 1 1)
    (h63 : m + 1 ≤ maxLen) (hbytes : (m + 1) * bytes ≤ 140737488355328) (hbase : base ≤ w.heap.size)
    (h : Hid (∀ v' w', w'.ownsRow base e 1 v' (m + 1) (ys ++ [u]) → (w.alloc (.cells #[u] T)).grownBy w' v.ownBlock → (v'.ownBlock = v.ownBlock ∨ v'.ownBlock = some (w.heap.size + 1)) → wpList P ops Q rest (a.put o.dst v') w')) : wpList P ops Q (o :: rest) a (w.alloc (.cells #[u] T)) := by
  refine wpList_append_own_at _ hgd s x t ho base e i z 1 bytes ht hi hz hsize hby hzs (by decide) v m ys hs (hown.alloc _) ⟨w.heap.size, 0, none⟩ 1 1 [u] hx rfl (fun j u' hu => ?_) (fun u' hu => by
    obtain rfl := List.mem_singleton.1 hu
    exact hone) h63 hbytes (by simp; omega) (fun v' w' h2 h3 _ h5 => h.out v' w' h2 h3 (by simpa using h5))
  have hj : j = 0 := by
    have := (List.getElem?_eq_some_iff.1 hu).1
    simpa using this
  subst hj
  simp only [List.getElem?_cons_zero, Option.some.injEq] at hu
  subst hu
  rw [plain_add, cell_of_row _ _ _ _ _ _ (heap_alloc_new w _)]
  rfl
/-- The two, and the row of a value. -/
def Ow (B b : Nat) (v : Value) : Nat → Prop := fun k => Two B b k ∨ v.ownBlock = some k
/-- A row beside the ring grows. -/
theorem PrIs.regrow {B b : Nat} {v v1 : Value} {w w' : World} {g : Rg} {d : Dr} {o : Obj} (h : PrIs (Ow B b v) B b w g d) (hg : (w.alloc o).grownBy w' v.ownBlock) (hl : v1.ownBlock = v.ownBlock ∨ v1.ownBlock = some (w.heap.size + 1)) (hlt1 : ∀ j, v1.ownBlock = some j → j < w'.heap.size) (h1 : v.ownBlock ≠ some B) (h2 : v.ownBlock ≠ some b) : PrIs (Ow B b v1) B b w' g d := by
  have hb : But (fun k => v.ownBlock = some k) w w' := (But.of_below ((Below.refl _ w).alloc (Nat.le_refl _) o)).trans (But.of_grown hg (fun r e _ => e))
  have hn : ∀ k, k < w.heap.size → (Ow B b v k ∨ Ow B b v1 k) → Ow B b v k := fun k hk e => by
    rcases e with e | e | e
    · exact e
    · exact .inl e
    · rcases hl with hl | hl
      · exact .inr (hl ▸ e)
      · rw [hl] at e
        have := Option.some.inj e
        omega
  have r1 := h.ring.narrow (S' := fun k => Ow B b v k ∨ Ow B b v1 k) hn (.inl (.inl (.inl rfl)))
  have d1 := h.dw.narrow (S' := fun k => Ow B b v k ∨ Ow B b v1 k) hn (fun k hk => .inl (.inl (.inr (tgt_is.1 hk))))
  have r2 := r1.but hb (fun k e => .inl (.inr e)) h1
  have d2 := d1.but hb (fun k e => .inl (.inr e)) (fun k e ht => h2 (by rw [tgt_is.1 ht] at e; exact e))
  refine ⟨r2.narrow (fun k _ e => .inr e) (.inl (.inl rfl)), d2.narrow (fun k _ e => .inr e) (fun k hk => .inl (.inr (tgt_is.1 hk))), h.ne, fun k hk => ?_⟩
  rcases hk with hk | hk
  · exact Nat.lt_of_lt_of_le (h.lt k (.inl hk)) hb.size
  · exact hlt1 k hk
/-- The nodes that have been laid. -/
structure RdA (B b : Nat) (v : Value) (p : Nat → Bool) (k : Nat) (w0 w : World) (g : Rg) (d : Dr) : Prop where
  pr : PrIs (Ow B b v) B b w g d
  has : ∀ x, x ∈ g.row ↔ x ∈ nodesL p k
  bel : Below w0.heap.size w0 w
section
variable {B b : Nat} {v v1 : Value} {p : Nat → Bool} {k : Nat} {w0 w w' : World} {g : Rg} {d d' : Dr}
theorem RdA.takes (h : RdA B b v p k w0 w g d) (hk : k < 8) : g.takes (k : Int) = true := by
  rw [Rg.takes_iff]
  refine ⟨by omega, fun hm => ?_⟩
  obtain ⟨i, h1, _, h2⟩ := nodesL_mem.1 ((h.has _).1 hm)
  omega
theorem RdA.add (h : RdA B b v p k w0 w g d) (hk : k < 8) (hp : p k = true) (h1 : PrIs (Ow B b v) B b w' (g.added k d) d') (hb : But (Two B b) w w') (hB : w0.heap.size ≤ B) (hB2 : w0.heap.size ≤ b) : RdA B b v p (k + 1) w0 w' (g.added k d) d' := by
  refine ⟨h1, fun x => ?_, two_below hb h.bel hB hB2⟩
  unfold Rg.added
  rw [if_pos (h.takes hk), nodesL_yes hp]
  have := (putAt_perm g.row (d.below (g.row.length + 1 : Nat)) (k : Int)).mem_iff (a := x)
  show x ∈ putAt g.row _ _ ↔ _
  rw [this, List.mem_cons, List.mem_append, List.mem_singleton, h.has x]
  exact Or.comm
theorem RdA.skip (h : RdA B b v p k w0 w g d) (hp : p k = false) : RdA B b v p (k + 1) w0 w g d := ⟨h.pr, fun x => by rw [nodesL_no hp]; exact h.has x, h.bel⟩
theorem RdA.regrow {o : Obj} {base m : Nat} {xs : List Value} (h : RdA B b v p k w0 w g d) (ho : w.ownsRow base 3 1 v m xs) (hbase : B < base ∧ b < base ∧ w0.heap.size ≤ base) (hg : (w.alloc o).grownBy w' v.ownBlock) (hl : v1.ownBlock = v.ownBlock ∨ v1.ownBlock = some (w.heap.size + 1)) (hlt1 : ∀ j, v1.ownBlock = some j → j < w'.heap.size) : RdA B b v1 p k w0 w' g d := by
  refine ⟨h.pr.regrow hg hl hlt1 (fun e => by have := (ho.lt _ e).1; omega) (fun e => by have := (ho.lt _ e).1; omega), h.has, ?_⟩
  exact (h.bel.alloc h.bel.size o).grown hg (by have := h.bel.size; simp; omega) (fun j hj => by have := (ho.lt j hj).1; omega)
end
/-- What stands as nodes are asked. -/
structure RdSt (B b : Nat) (A : Option Addr) (m c : Nat) (all : List Int) (w0 w : World) (g : Rg) (d : Dr) : Prop where
  pr : PrIs (Two B b) B b w g d
  lst : Lst (Two B b) w A m c all
  sub : ∀ x ∈ all, x ∈ g.row
  bel : Below w0.heap.size w0 w
section
variable {B b : Nat} {A : Option Addr} {m c : Nat} {all : List Int} {w0 w w' : World} {g : Rg} {d : Dr}
theorem RdSt.next (h : RdSt B b A m c all w0 w g d) (hB : w0.heap.size ≤ B) (hB2 : w0.heap.size ≤ b) : Calls Try.prog 15 #[.pointer (some ⟨B, 0, none⟩), .slice A m c, .pointer (some ⟨b, 0, none⟩)] w fun e w' => e = .returned (.tuple #[.int .i64 (g.asked all d).1, .bool (g.asked all d).2.1]) ∧ RdSt B b A m c all w0 w' (g.asked all d).2.2 (d.asked g all) := by
  refine (h.pr.next A m c all h.lst).mono ?_
  rintro e w' ⟨rfl, h1, h2⟩
  refine ⟨rfl, h1, h.lst.but h2 (fun _ k => k), fun x hx => ?_, two_below h2 h.bel hB hB2⟩
  have hp := Rg.asked_perm h.pr.ok h.pr.okD.1
  exact (Rg.next_row (g := g) (live := all) hp).mem_iff.2 (h.sub x hx)
/-- How soon a node comes. -/
theorem RdSt.sooner (h : RdSt B b A m c all w0 w g d) {a : Int} (ha : a ∈ all) : (g.asked all d).2.1 = true ∧ ((g.asked all d).1 = a ∨ need all (g.asked all d).2.2.row (g.asked all d).2.2.at_ a + 1 ≤ need all g.row g.at_ a) :=
  need_next (Rg.asked_perm h.pr.ok h.pr.okD.1) h.pr.ok.once ha (h.sub a ha)
end
theorem need_pos (live row : List Int) (k : Nat) {a : Int} (ha : a ∈ live) : 1 ≤ need live row k a := by
  have := List.length_pos_of_mem ha
  unfold need
  split <;> omega
/-- As long as it has not come it comes soon. -/
def Soon (fb : Bool) (all : List Int) (g : Rg) (a : Int) (j m : Nat) : Prop := fb = false → need all g.row g.at_ a + j ≤ 2 * m - 1
set_option maxHeartbeats 16000000 in
set_option maxRecDepth 100000 in
theorem round_walk (A : Option Addr) (n c : Nat) (xs : List Nat) (y0 y1 : Nat) (z : Int) (w : World) (hR : RV w A n (xs.map u32V)) (hnil : A = none → c = 0) (hnc : n ≤ c) (hn : n ≤ 35184372088832) (hx : ∀ x ∈ xs, x < 4294967296) (hy0 : y0 < 256) (hy1 : y1 < 256) (hz0 : 0 ≤ z) (hz1 : z ≤ 255) :
    Calls Try.prog 4 #[.slice A n c, .agg #[.int .u8 (y0 : Int), .int .u8 (y1 : Int)], .int .u8 z] w fun e w' => e = .returned (.bool true) ∧ Below w.heap.size w w' := by
  obtain ⟨i0, hi, hi0, hi1, hi2⟩ := info_parts int_info
  have HN := Lib.hid (fun w => rgnew_any w)
  have HD := Lib.hid (fun w' hb => new_any A n c xs w' (hR.below (w' := w') hb) hnil hnc hn hx)
  obtain ⟨X, hX⟩ : ∃ X, w.heap.size = X := ⟨_, rfl⟩
  obtain ⟨W1, hW1⟩ : ∃ W1, w.alloc (.cells #[.int .u8 (y0 : Int), .int .u8 (y1 : Int)] 51) = W1 := ⟨_, rfl⟩
  have hs1 : W1.heap.size = X + 1 := by rw [← hW1, ← hX]; simp
  have hb1 : Below w.heap.size w W1 := by rw [← hW1]; exact (Below.refl _ _).alloc (Nat.le_refl _) _
  have k1 : W1.heap[X]? = some (.cells #[.int .u8 (y0 : Int), .int .u8 (y1 : Int)] 51 (0, 0)) := by rw [← hW1, ← hX]; exact heap_alloc_new w _
  have cx0 : W1.cell? ⟨X, 0, none⟩ = some (.int .u8 (y0 : Int)) := by rw [cell_of_row _ _ _ _ _ _ k1]; rfl
  have cx1 : W1.cell? ⟨X, 1, none⟩ = some (.int .u8 (y1 : Int)) := by rw [cell_of_row _ _ _ _ _ _ k1]; rfl
  have hy0' : (y0 : Int) ≤ 255 := by omega
  have hy1' : (y1 : Int) ≤ 255 := by omega
  have HX := Lib.hid hX
  have HW1 := Lib.hid hW1
  have HS1 := Lib.hid hs1
  have HBl1 := Lib.hid hb1
  have HWk := Lib.hid (fun w => works_any w)
  clear hR hnil hx hW1 hX hs1 hb1 k1 hy0 hy1
  go_enter Try.func4, Try.ntmps4
  go_wp2_with fail
  rw [HX.out, HW1.out]
  go_quiet (fail)
  go_wp2_with fail
  obtain ⟨Wq, hWq⟩ : ∃ Wq, W1.drewN nq = Wq := ⟨_, rfl⟩
  rw [hWq]
  have hbq : Below w.heap.size w Wq := by rw [← hWq]; exact below_drewN HBl1.out _
  have hsq : Wq.heap.size = X + 1 := by rw [← hWq]; exact HS1.out
  obtain ⟨B, hB⟩ : ∃ B, Wq.heap.size = B := ⟨_, rfl⟩
  have HBq := Lib.hid hbq
  have HB := Lib.hid hB
  have HSq : Hid (B = X + 1) := Lib.hid (by rw [← hB]; exact hsq)
  clear hWq hbq hsq hB cx0 cx1
  refine (HN.out _).mono ?_
  rintro e w2 ⟨rfl, hw2⟩
  rw [HB.out]
  have hbw2 : Below Wq.heap.size Wq w2 := by rw [hw2]; exact (Below.refl _ _).alloc (Nat.le_refl _) _
  have HW2 := Lib.hid hw2
  have HD2 := Lib.hid (HD.out w2 (HBq.out.trans (hbw2.mono HBq.out.size)))
  clear hw2 hbw2
  go_wp2_with fail
  refine HD2.out.mono ?_
  rintro e w3 ⟨b, rfl, hb, hb2, hd, hbl⟩
  obtain ⟨d0, hd0⟩ : ∃ d0 : Dr, ⟨xs.take 4096, 0⟩ = d0 := ⟨_, rfl⟩
  rw [hd0] at hd
  obtain ⟨hp, hbw⟩ := pr_made HB.out HW2.out hb hb2 hd hbl
  have hbB : B + 1 ≤ b := by rw [HW2.out] at hb; simp at hb; rw [HB.out] at hb; exact hb
  obtain ⟨g0, hg0⟩ : ∃ g0, w3.heap.size = g0 := ⟨_, rfl⟩
  have HG := Lib.hid hg0
  have HbB : Hid (w.heap.size ≤ B ∧ w.heap.size ≤ b ∧ B < g0 ∧ b < g0) := Lib.hid ⟨by have := HSq.out; have := HX.out; omega, by have := HSq.out; have := HX.out; omega, by omega, by omega⟩
  have HA0 : Hid (RdA B b (.slice none 0 0) (onB (y0 : Int)) 0 w w3 Rg.new d0) := Lib.hid ⟨⟨hp.ring.narrow (fun k _ e => e.elim id (fun e => by cases e)) (.inl (.inl rfl)), hp.dw.narrow (fun k _ e => e.elim id (fun e => by cases e)) (fun k hk => .inl (.inr (tgt_is.1 hk))), hp.ne, fun k hk => hk.elim (hp.lt k) (fun e => by cases e)⟩, fun x => by rw [nodesL_zero]; exact Iff.rfl, HBq.out.trans (hbw.mono HBq.out.size)⟩
  clear hb hb2 hd hbl hd0 hp hbw hbB hg0
  go_wp2
  go_loopw [11, 12] (fun vv iv wr => ∃ (k m : Nat) (A' : Option Addr) (c' : Nat) (g : Rg) (d : Dr), k ≤ 8 ∧ m ≤ k ∧ iv = .int .i64 (k : Int) ∧ vv = .slice A' m c' ∧ Hid (RdA B b (.slice A' m c') (onB (y0 : Int)) k w wr g d) ∧ Hid ((nodesL (fun i => onB (y0 : Int) i && onB (y1 : Int) i) k).length = m) ∧ Hid (wr.ownsRow g0 3 1 (.slice A' m c') m ((nodesL (fun i => onB (y0 : Int) i && onB (y1 : Int) i) k).map nV)) ∧ Hid (g0 ≤ wr.heap.size)) (fun _ iv _ => 8 - (intOf iv).toNat)
  case atStart => exact ⟨0, 0, none, 0, Rg.new, d0, by omega, by omega, rfl, rfl, HA0, Lib.hid rfl, Lib.hid (World.ownsRow_nil _ _ _ _), Lib.hid (by rw [← HG.out]; exact Nat.le_refl _)⟩
  case round =>
    obtain ⟨k, m, A', c', g, d, hk, hmk, rfl, rfl, hra, hm, hown, hgs⟩ := hrel
    by_cases hlt : k < 8
    · cases hon : onB (y0 : Int) k with
      | true =>
        have hq : (bits BinOp.and IntKind.u8 ((y0 : Int) / 2 ^ k) 1 == 1) = true := hon
        have hadd := hra.out.pr.add (k : Int)
        rw [hra.out.takes hlt] at hadd
        have HAdd := Lib.hid hadd
        have HOn := Lib.hid hon
        clear hadd hon
        go_wp2_with fail
        refine HAdd.out.mono ?_
        rintro e w4 ⟨rfl, hp4, hb4⟩
        have HA4 := Lib.hid (hra.out.add hlt HOn.out hp4 hb4 HbB.out.1 HbB.out.2.1)
        have HOwn4 : Hid (w4.ownsRow g0 3 1 (.slice A' m c') m ((nodesL (fun i => onB (y0 : Int) i && onB (y1 : Int) i) k).map nV)) := Lib.hid (own_but hown.out hb4 (fun j hj e => by have h1 := (hown.out.lt j hj).1; have := HbB.out; rcases e with rfl | rfl <;> omega))
        have hgs4 : g0 ≤ w4.heap.size := Nat.le_trans hgs.out hb4.size
        obtain ⟨d4, hd4⟩ : ∃ d4, d.added g k = d4 := ⟨_, rfl⟩
        obtain ⟨g4, hg4⟩ : ∃ g4, g.added k d = g4 := ⟨_, rfl⟩
        rw [hd4, hg4] at HA4
        clear hp4 hb4 hd4 hg4
        cases hon1 : onB (y1 : Int) k with
        | true =>
          have hq1 : (bits BinOp.and IntKind.u8 ((y1 : Int) / 2 ^ k) 1 == 1) = true := hon1
          have HY := Lib.hid (nodesL_yes (p := fun i => onB (y0 : Int) i && onB (y1 : Int) i) (k := k) (by simp [HOn.out, hon1]))
          clear hon1
          go_wp2_with (at_builtin; refine wpList_append_val_at rfl (.tmp 45) (.tmp 47) 27 rfl g0 3 i0 (.int .i64 0) 8 Try.underlying27 hi hi0 hi1 hi2 rfl (.slice A' m c') m ((nodesL (fun i => onB (y0 : Int) i && onB (y1 : Int) i) k).map nV) rfl HOwn4.out (.int .i64 (k : Int)) _ rfl rfl ?c1 ?c2 ?c3 ?_)
          case c1 => unfold maxLen; omega
          case c2 => omega
          case c3 => exact hgs4
          refine Lib.hid ?_
          intro v1 w5 hown1 hg1 hloc
          have hb5 : Below g0 w4 w5 := ((Below.refl _ w4).alloc hgs4 _).grown hg1 (by simp; omega) (fun j hj => (HOwn4.out.lt j hj).1)
          have e1 : (nodesL (fun i => onB (y0 : Int) i && onB (y1 : Int) i) (k + 1)).map nV = (nodesL (fun i => onB (y0 : Int) i && onB (y1 : Int) i) k).map nV ++ [.int .i64 (k : Int)] := by rw [HY.out, List.map_append]; rfl
          rw [← e1] at hown1
          obtain ⟨A1, c1, rfl, _⟩ := RV.own hown1
          have HO1 := Lib.hid hown1
          have HM1 : Hid ((nodesL (fun i => onB (y0 : Int) i && onB (y1 : Int) i) (k + 1)).length = m + 1) := Lib.hid (by rw [HY.out, List.length_append, hm.out]; rfl)
          have HA5 : Hid (RdA B b (.slice A1 (m + 1) c1) (onB (y0 : Int)) (k + 1) w w5 g4 d4) := Lib.hid (HA4.out.regrow HOwn4.out ⟨HbB.out.2.2.1, HbB.out.2.2.2, by have := HbB.out; omega⟩ hg1 hloc (fun j hj => (hown1.lt j hj).2))
          have HG5 : Hid (g0 ≤ w5.heap.size) := Lib.hid (Nat.le_trans hgs4 hb5.size)
          clear hown1 hg1 hb5 e1 hloc
          go_wp2
          go_roundw
          case rel => exact ⟨k + 1, m + 1, A1, c1, g4, d4, by omega, by omega, by go_num, rfl, HA5, HM1, HO1, HG5⟩
          case measure => simp [intOf]; omega
        | false =>
          have hq1 : (bits BinOp.and IntKind.u8 ((y1 : Int) / 2 ^ k) 1 == 1) = false := hon1
          have hno := nodesL_no (p := fun i => onB (y0 : Int) i && onB (y1 : Int) i) (k := k) (by simp [hon1])
          have HM1 : Hid ((nodesL (fun i => onB (y0 : Int) i && onB (y1 : Int) i) (k + 1)).length = m) := Lib.hid (by rw [hno]; exact hm.out)
          have HO1 : Hid (w4.ownsRow g0 3 1 (.slice A' m c') m ((nodesL (fun i => onB (y0 : Int) i && onB (y1 : Int) i) (k + 1)).map nV)) := Lib.hid (by rw [hno]; exact HOwn4.out)
          clear hon1 hno
          go_wp2
          go_roundw
          case rel => exact ⟨k + 1, m, A', c', g4, d4, by omega, by omega, by go_num, rfl, HA4, HM1, HO1, Lib.hid hgs4⟩
          case measure => simp [intOf]; omega
      | false =>
        have hq : (bits BinOp.and IntKind.u8 ((y0 : Int) / 2 ^ k) 1 == 1) = false := hon
        have hno := nodesL_no (p := fun i => onB (y0 : Int) i && onB (y1 : Int) i) (k := k) (by simp [hon])
        have HM1 : Hid ((nodesL (fun i => onB (y0 : Int) i && onB (y1 : Int) i) (k + 1)).length = m) := Lib.hid (by rw [hno]; exact hm.out)
        have HO1 : Hid (wr.ownsRow g0 3 1 (.slice A' m c') m ((nodesL (fun i => onB (y0 : Int) i && onB (y1 : Int) i) (k + 1)).map nV)) := Lib.hid (by rw [hno]; exact hown.out)
        have HA1 := Lib.hid (hra.out.skip hon)
        clear hon hno
        go_wp2
        go_roundw
        case rel => exact ⟨k + 1, m, A', c', g, d, by omega, by omega, by go_num, rfl, HA1, HM1, HO1, hgs⟩
        case measure => simp [intOf]; omega
    · obtain rfl : k = 8 := by omega
      obtain ⟨all, hall⟩ : ∃ all, nodesL (fun i => onB (y0 : Int) i && onB (y1 : Int) i) 8 = all := ⟨_, rfl⟩
      have hm' := hm.out
      have hown' := hown.out
      have hsub : ∀ x ∈ all, x ∈ g.row := fun x hx => by
        rw [← hall] at hx
        obtain ⟨i, h1, h2, h3⟩ := nodesL_mem.1 hx
        exact (hra.out.has x).2 (nodesL_mem.2 ⟨i, h1, by simp at h2; exact h2.1, h3⟩)
      rw [hall] at hm' hown'
      have hl := (own_lst2 hown' (S := Two B b) (fun i hi e => by have := HbB.out; rcases e with rfl | rfl <;> omega)).1
      have hpr := hra.out.pr
      have HSt : Hid (RdSt B b A' m c' all w wr g d) := Lib.hid ⟨⟨hpr.ring.narrow (fun k _ e => .inl e) (.inl rfl), hpr.dw.narrow (fun k _ e => .inl e) (fun k hk => .inr (tgt_is.1 hk)), hpr.ne, fun k hk => hpr.lt k (.inl hk)⟩, hl, hsub, hra.out.bel⟩
      have HM := Lib.hid hm'
      clear hm' hown' hsub hl hpr hall hm hown hra hgs
      go_wp2
      go_loopw [13] (fun kv wq => ∃ (k : Nat) (g : Rg) (d : Dr), k ≤ 20 ∧ kv = .int .i64 (k : Int) ∧ Hid (RdSt B b A' m c' all w wq g d)) (fun kv _ => 20 - (intOf kv).toNat)
      case atStart => exact ⟨0, g, d, by omega, rfl, HSt⟩
      case round =>
        clear HSt
        obtain ⟨k, g, d, hk20, rfl, hst⟩ := hrel
        obtain ⟨wo, rfl⟩ : ∃ wo : World, wo = wr := ⟨_, rfl⟩
        by_cases hkz : (k : Int) < z % 20
        · have hk20' : k < 20 := by omega
          have HNx := Lib.hid (hst.out.next HbB.out.1 HbB.out.2.1)
          go_wp2_with fail
          refine HNx.out.mono ?_
          rintro e w4 ⟨rfl, hst4⟩
          have HSt4 := Lib.hid hst4
          clear hst4
          go_wp2
          go_roundw
          case rel =>
            repeat apply Exists.intro
            exact ⟨⟨k + 1, _, _, by omega, by go_num, HSt4⟩, rfl⟩
          case measure => simp [intOf]; omega
        · go_wp2
          go_loopw [14] (fun kv wq => ∃ (k : Nat) (g : Rg) (d : Dr), k ≤ m ∧ kv = .int .i64 (k : Int) ∧ Hid (RdSt B b A' m c' all w wq g d)) (fun kv _ => m - (intOf kv).toNat)
          case atStart => exact ⟨0, g, d, by omega, rfl, hst⟩
          case round =>
            clear hst
            obtain ⟨k2, g, d, hk2, rfl, hst⟩ := hrel
            obtain ⟨wp, rfl⟩ : ∃ wp : World, wp = wr := ⟨_, rfl⟩
            by_cases hkm : k2 < m
            · have hk' : k2 < all.length := by rw [HM.out]; exact hkm
              have ha : all[k2] ∈ all := List.getElem_mem hk'
              have hns := need_start (live := all) hst.out.pr.ok.once ha g.at_
              rw [HM.out] at hns
              have hcell : ∀ wq, RdSt B b A' m c' all w wq g d → True := fun _ _ => trivial
              have HCell : Hid (∀ wq g d, RdSt B b A' m c' all w wq g d → ∃ ob oo, A' = some ⟨ob, oo, none⟩ ∧ wq.cell? ⟨ob, oo + k2, none⟩ = some (.int .i64 all[k2])) := Lib.hid (fun wq g d h => by
                obtain ⟨ob, oo, e1, _, e2⟩ := h.lst.node hkm
                exact ⟨ob, oo, e1, e2⟩)
              obtain ⟨a, haa⟩ : ∃ a, all[k2] = a := ⟨_, rfl⟩
              rw [haa] at ha hns HCell
              have HA := Lib.hid ha
              have HSt0 : Hid (RdSt B b A' m c' all w wp g d ∧ Soon false all g a 0 m) := Lib.hid ⟨hst.out, fun _ => by omega⟩
              have r1 : (k2 : Int) < (m : Int) := by omega
              have r2 : (0 : Int) ≤ (k2 : Int) := by omega
              have r3 : (1 : Int) ≤ (m : Int) := by omega
              have r4 : (m : Int) ≤ 8 := by omega
              clear hk' haa ha hns hcell
              go_wp2
              go_loopw [15, 16] (fun fv jv wq => ∃ (j : Nat) (fb : Bool) (g : Rg) (d : Dr), j ≤ 2 * m - 1 ∧ fv = .bool fb ∧ jv = .int .i64 (j : Int) ∧ Hid (RdSt B b A' m c' all w wq g d ∧ Soon fb all g a j m)) (fun _ jv _ => 2 * m - (intOf jv).toNat)
              case atStart => exact ⟨0, false, g, d, by omega, rfl, rfl, HSt0⟩
              case round =>
                clear HSt0 hst
                obtain ⟨j, fb, g, d, hj, rfl, rfl, hst⟩ := hrel
                cases fb with
                | true =>
                  have HStE := Lib.hid hst.out.1
                  clear hst
                  by_cases hjm : (j : Int) < 2 * (m : Int) - 1
                  all_goals
                    go_wp2
                    go_roundw
                    case rel => exact ⟨k2 + 1, g, d, by omega, by go_num, HStE⟩
                    case measure => simp [intOf]; omega
                | false =>
                  by_cases hjm : j < 2 * m - 1
                  · have hjz : (j : Int) < 2 * (m : Int) - 1 := by omega
                    obtain ⟨s1, s2⟩ := hst.out.1.sooner HA.out
                    have HNx := Lib.hid (hst.out.1.next HbB.out.1 HbB.out.2.1)
                    have hnd := hst.out.2 rfl
                    rw [s1] at HNx
                    obtain ⟨x, hx⟩ : ∃ x, (g.asked all d).1 = x := ⟨_, rfl⟩
                    obtain ⟨g5, hg5⟩ : ∃ g5, (g.asked all d).2.2 = g5 := ⟨_, rfl⟩
                    rw [hx, hg5] at HNx s2
                    have hnd5 : x ≠ a → need all g5.row g5.at_ a + (j + 1) ≤ 2 * m - 1 := fun hne => by
                      rcases s2 with e | e
                      · exact absurd e hne
                      · omega
                    have HNd := Lib.hid hnd5
                    clear s1 s2 hnd hx hg5 hnd5
                    go_wp2_with fail
                    refine HNx.out.mono ?_
                    rintro e w6 ⟨rfl, hst6⟩
                    obtain ⟨ob, oo, rfl, hcc⟩ := HCell.out w6 _ _ hst6
                    have HSt6 := Lib.hid hst6
                    clear hst6
                    by_cases hxa : x = a
                    · have t1 : (x == a) = true := by simpa using hxa
                      have HSt7 : Hid (RdSt B b (some ⟨ob, oo, none⟩) m c' all w w6 g5 (d.asked g all) ∧ Soon true all g5 a (j + 1) m) := Lib.hid ⟨HSt6.out, fun h => by cases h⟩
                      clear hxa
                      go_wp2
                      go_roundw
                      case rel => exact ⟨j + 1, true, g5, _, by omega, rfl, by go_num, HSt7⟩
                      case measure => simp [intOf]; omega
                    · have t1 : (x == a) = false := by rw [beq_eq_false_iff_ne]; exact hxa
                      have HSt7 : Hid (RdSt B b (some ⟨ob, oo, none⟩) m c' all w w6 g5 (d.asked g all) ∧ Soon false all g5 a (j + 1) m) := Lib.hid ⟨HSt6.out, fun _ => HNd.out hxa⟩
                      clear hxa
                      go_wp2
                      go_roundw
                      case rel => exact ⟨j + 1, false, g5, _, by omega, rfl, by go_num, HSt7⟩
                      case measure => simp [intOf]; omega
                  · exfalso
                    have h1 := hst.out.2 rfl
                    have h2 := need_pos all g.row g.at_ HA.out
                    omega
            · obtain rfl : k2 = m := by omega
              have HW := Lib.hid (HWk.out wp)
              have HF := Lib.hid hst.out.bel
              go_wp2_with fail
              refine HW.out.mono ?_
              rintro e w7 ⟨rfl, hb7⟩
              have HB7 := Lib.hid hb7
              clear hb7
              go_wp2
              go_ret
              exact ⟨rfl, HF.out.trans (HB7.out.mono HF.out.size)⟩
end Go.Proofs.Ytckeknhoimgccaa
