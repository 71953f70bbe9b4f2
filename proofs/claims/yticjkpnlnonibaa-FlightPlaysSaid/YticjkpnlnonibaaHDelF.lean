/-
  slices.IndexFunc and slices.DeleteFunc at packets in flight, with Lose's closure (layer 7).
-/
import Derived.Test.YticjkpnlnonibaaHDel
namespace Go.Proofs.Yticjkpnlnonibaa
open Go.RowKit
set_option linter.unusedSimpArgs false
set_option linter.unusedVariables false

/-- The closure: does the packet go to this node? -/
theorem goes_any (x : It) (to : Int) (X : Nat) (w : World) (hc : w.cell? ⟨X, 0, none⟩ = some (.int .i64 to)) :
    Calls Try.prog 39 #[.agg #[.int .i64 (x.id : Int), .int .i64 x.p.fr, .int .i64 x.p.to, .slice x.p.A x.p.body.length x.p.c], .pointer (some ⟨X, 0, none⟩)] w fun e w' => e = .returned (.bool (x.p.to == to)) ∧ Below w.heap.size w w' := by
  have hX := bcell_lt hc
  simp only at hX
  have c1 : (w.alloc (.cells #[.int .i64 (x.id : Int), .int .i64 x.p.fr, .int .i64 x.p.to, .slice x.p.A x.p.body.length x.p.c] 49)).cell? ⟨X, 0, none⟩ = some (.int .i64 to) :=
    (((Below.refl _ w).alloc (Nat.le_refl _) _).cell (p := ⟨X, 0, none⟩) hX).trans hc
  go_enter Try.func39, Try.ntmps39
  go_wp2
  go_ret
  exact ⟨rfl, (Below.refl _ w).alloc (Nat.le_refl _) _⟩
def noneTo (to : Int) (l : List It) : Prop := ∀ x ∈ l, x.p.to ≠ to
theorem filter_noneTo {to : Int} {l : List It} (h : noneTo to l) : l.filter (fun x => x.p.to != to) = l := by
  rw [List.filter_eq_self]
  intro x hx
  exact bne_iff_ne.2 (h x hx)
theorem noneTo_snoc {to : Int} {l : List It} {k : Nat} (hk : k < l.length) (h : noneTo to (l.take k)) (hx : l[k].p.to ≠ to) : noneTo to (l.take (k + 1)) := fun y hy => by
  rw [List.take_succ_eq_append_getElem hk] at hy
  rcases List.mem_append.1 hy with hy | hy
  · exact h y hy
  · obtain rfl := List.mem_singleton.1 hy
    exact hx
/-- What IndexFunc answers. -/
def Found (to : Int) (l : List It) (r : Int) : Prop := (r = -1 ∧ noneTo to l) ∨ ∃ (k : Nat) (h : k < l.length), r = (k : Int) ∧ l[k].p.to = to ∧ noneTo to (l.take k)
set_option maxHeartbeats 4000000 in
theorem index_any (w : World) (A : Option Addr) (g n cap X : Nat) (to : Int) (l : List It) (hn : l.length = n) (hn2 : n ≤ 256) (hrow : itRow w 0 (.slice A n cap) l) (hA : 0 < n → A = some ⟨g, 0, none⟩) (hc : w.cell? ⟨X, 0, none⟩ = some (.int .i64 to)) :
    Calls Try.prog 42 #[.slice A n cap, .func (.func 39) #[] #[.pointer (some ⟨X, 0, none⟩)]] w fun e w' => (∃ r, e = .returned (.int .i64 r) ∧ Found to l r) ∧ Below w.heap.size w w' := by
  have HR := Lib.hid hrow
  have HN := Lib.hid hn
  have HA := Lib.hid hA
  have HX := Lib.hid hc
  have hXl := bcell_lt hc
  simp only at hXl
  have q1 : (n : Int) ≤ 256 := by omega
  clear hrow hn hA hc
  go_enter Try.func42, Try.ntmps42
  go_wp2
  go_loopw [8] (fun kv wr => ∃ k : Nat, kv = .int .i64 (k : Int) ∧ k ≤ n ∧ Hid (noneTo to (l.take k)) ∧ Hid (Below w.heap.size w wr)) (fun kv _ => n - (RowKit.intOf kv).toNat)
  case atStart => exact ⟨0, rfl, Nat.zero_le _, Lib.hid (fun x hx => by simp at hx), Lib.hid (Below.refl _ _)⟩
  case round =>
    obtain ⟨k, rfl, hk, hno, hbe⟩ := hrel
    by_cases hlt : k < n
    · have hkl : k < l.length := by rw [HN.out]; exact hlt
      obtain rfl := HA.out (by omega)
      obtain ⟨c0, c1, c2, c3⟩ := (HR.out.below hbe.out).at_ hkl
      obtain ⟨x, hx⟩ : ∃ x, l[k] = x := ⟨_, rfl⟩
      rw [hx] at c0 c1 c2 c3
      have cX := (hbe.out.cell (p := ⟨X, 0, none⟩) hXl).trans HX.out
      have HG := Lib.hid (goes_any x to X _ cX)
      have q2 : (k : Int) < (n : Int) := by omega
      have HXX := Lib.hid hx
      clear hx cX
      go_wp2_with fail
      refine HG.out.mono ?_
      rintro e w' ⟨rfl, hb⟩
      have hbe2 := Lib.hid (hbe.out.trans (hb.mono hbe.out.size))
      clear hb
      by_cases hyy : x.p.to = to
      · have z1 : (x.p.to == to) = true := by rw [beq_iff_eq]; exact hyy
        rw [z1]
        go_wp2
        go_ret
        exact ⟨⟨_, rfl, .inr ⟨k, hkl, rfl, by rw [HXX.out]; exact hyy, hno.out⟩⟩, hbe2.out⟩
      · have z1 : (x.p.to == to) = false := by rw [beq_eq_false_iff_ne]; exact hyy
        rw [z1]
        have HT := Lib.hid (noneTo_snoc hkl hno.out (by rw [HXX.out]; exact hyy))
        go_wp2
        go_roundw
        case rel => exact ⟨k + 1, by go_num, by omega, HT, hbe2⟩
        case measure => simp [RowKit.intOf]; omega
    · obtain rfl : k = n := by omega
      go_wp2
      go_ret
      refine ⟨⟨_, rfl, .inl ⟨rfl, ?_⟩⟩, hbe.out⟩
      have := hno.out
      rwa [List.take_of_length_le (by rw [HN.out]; exact Nat.le_refl _)] at this
theorem take_three (a b c : List Value) (k : Nat) (h : a.length + b.length ≤ k) : (a ++ (b ++ c)).take k = a ++ (b ++ c.take (k - (a.length + b.length))) := by
  rw [List.take_append, List.take_of_length_le (by omega), List.take_append, List.take_of_length_le (by omega), Nat.sub_sub]
theorem drop_next {α : Type} {M l : List α} {j : Nat} (h : M.drop j = l.drop j) : M.drop (j + 1) = l.drop (j + 1) := by
  have := congrArg (List.drop 1) h
  simpa [List.drop_drop, Nat.add_comm] using this
/-- A packet is written over another one. -/
theorem itRow.put {w : World} {g n cap : Nat} {M : List It} (hn : M.length = n) (h : itRow w 0 (.slice (some ⟨g, 0, none⟩) n cap) M) (i : Nat) (hi : i < n) (x : It) :
    itRow ((((w.setCell ⟨g, i * 4, none⟩ (.int .i64 (x.id : Int))).setCell ⟨g, i * 4 + 1, none⟩ (.int .i64 x.p.fr)).setCell ⟨g, i * 4 + 2, none⟩ (.int .i64 x.p.to)).setCell ⟨g, i * 4 + 3, none⟩ (.slice x.p.A x.p.body.length x.p.c)) 0 (.slice (some ⟨g, 0, none⟩) n cap) (M.set i x) := by
  subst hn
  obtain ⟨cur, hh, hnc, hm, hs, ht⟩ := row_there h
  obtain ⟨cur', k1, k2, k3⟩ := block_setCells (itC x) (i * 4) w cur hh
  have hl4 : (itC x).length = 4 := rfl
  unfold itRow
  rw [List.length_set]
  refine ⟨by rw [itsC_length, List.length_set], .inr ⟨g, cap, cur', rfl, Nat.zero_le _, k1, hnc, hm, by omega, ?_⟩⟩
  rw [k3 (by rw [hl4]; omega), hl4]
  have e1 : (cur.toList.take (i * 4)).length = i * 4 := by rw [List.length_take, Array.length_toList]; omega
  have e2 : cur.toList.take (i * 4) = itsC (M.take i) := by rw [← itsC_take, ← ht, List.take_take, Nat.min_eq_left (by omega)]
  have e3 : (cur.toList.drop (i * 4 + 4)).take (M.length * 4 - (i * 4 + 4)) = itsC (M.drop (i + 1)) := by
    rw [← itsC_drop, ← ht, List.drop_take, show (i + 1) * 4 = i * 4 + 4 by omega]
  rw [List.append_assoc, take_three _ _ _ _ (by rw [e1, hl4]; omega), e1, hl4, e2, e3, List.set_eq_take_append_cons_drop, if_pos hi, itsC_append]
  rfl
/-- A row is cut. -/
theorem itRow.cut {w : World} {g n cap : Nat} {M : List It} (hn : M.length = n) (h : itRow w 0 (.slice (some ⟨g, 0, none⟩) n cap) M) (i : Nat) (hi : i ≤ n) : itRow w 0 (.slice (some ⟨g, 0, none⟩) i cap) (M.take i) := by
  subst hn
  obtain ⟨cur, hh, hnc, hm, hs, ht⟩ := row_there h
  have hl : (M.take i).length = i := by rw [List.length_take]; omega
  unfold itRow
  rw [hl]
  refine ⟨by rw [itsC_length, hl], .inr ⟨g, cap, cur, rfl, Nat.zero_le _, hh, by omega, hm, hs, ?_⟩⟩
  rw [← itsC_take, ← ht, List.take_take, Nat.min_eq_left (by omega)]
def keepTo (to : Int) (l : List It) : List It := l.filter fun x => x.p.to != to
theorem keepTo_snoc {to : Int} {l : List It} {k : Nat} (hk : k < l.length) : keepTo to (l.take (k + 1)) = keepTo to (l.take k) ++ (if l[k].p.to = to then [] else [l[k]]) := by
  unfold keepTo
  rw [List.take_succ_eq_append_getElem hk, List.filter_append]
  congr 1
  by_cases h : l[k].p.to = to
  · rw [if_pos h]; simp [h]
  · rw [if_neg h]; simp [h]
theorem keepTo_le (to : Int) (l : List It) : (keepTo to l).length ≤ l.length := List.length_filter_le _ _
/-- How far the loop is: M in the row, the first i are kept, from j on nothing has changed. -/
structure Del (to : Int) (l M : List It) (i j : Nat) : Prop where
  len : M.length = l.length
  kept : M.take i = keepTo to (l.take j)
  rest : M.drop j = l.drop j
  lt : i < j
  le : j ≤ l.length
theorem Del.start {to : Int} {l : List It} {k : Nat} (hk : k < l.length) (h : l[k].p.to = to) (hno : noneTo to (l.take k)) : Del to l l k (k + 1) :=
  ⟨rfl, by rw [keepTo_snoc hk, if_pos h, List.append_nil]; exact (filter_noneTo hno).symm, rfl, Nat.lt_succ_self _, hk⟩
theorem Del.at_ {to : Int} {l M : List It} {i j : Nat} (h : Del to l M i j) (hj : j < l.length) (hM : j < M.length) : M[j] = l[j] := by
  have h1 := h.rest
  rw [List.drop_eq_getElem_cons hM, List.drop_eq_getElem_cons hj] at h1
  exact (List.cons.inj h1).1
theorem Del.drop {to : Int} {l M : List It} {i j : Nat} (h : Del to l M i j) (hj : j < l.length) (hx : l[j].p.to = to) : Del to l M i (j + 1) :=
  ⟨h.len, by rw [keepTo_snoc hj, if_pos hx, List.append_nil]; exact h.kept, drop_next h.rest, by have := h.lt; omega, hj⟩
theorem Del.keep {to : Int} {l M : List It} {i j : Nat} (h : Del to l M i j) (hj : j < l.length) (hx : l[j].p.to ≠ to) : Del to l (M.set i l[j]) (i + 1) (j + 1) := by
  have h1 := h.len
  have h2 := h.lt
  refine ⟨by rw [List.length_set]; exact h1, ?_, ?_, by omega, hj⟩
  · rw [keepTo_snoc hj, if_neg hx, ← h.kept, List.take_succ_eq_append_getElem (by rw [List.length_set]; omega), List.getElem_set_self, List.take_set_of_le (Nat.le_refl _)]
  · rw [List.drop_set_of_lt (by omega)]; exact drop_next h.rest
set_option maxHeartbeats 8000000 in
theorem delf_any (w : World) (A : Option Addr) (g n cap X : Nat) (to : Int) (l : List It) (hn : l.length = n) (hn2 : n ≤ 256) (hrow : itRow w 0 (.slice A n cap) l) (hA : 0 < n → A = some ⟨g, 0, none⟩) (hc : w.cell? ⟨X, 0, none⟩ = some (.int .i64 to)) (hXg : X ≠ g) :
    Calls Try.prog 38 #[.slice A n cap, .func (.func 39) #[] #[.pointer (some ⟨X, 0, none⟩)]] w fun e w' =>
      (∃ m, e = .returned (.slice A m cap) ∧ m = (keepTo to l).length ∧ itRow w' 0 (.slice A m cap) (keepTo to l)) ∧ But (fun k => A = some ⟨k, 0, none⟩) w w' := by
  have HI := Lib.hid (index_any w A g n cap X to l hn hn2 hrow hA hc)
  have HR := Lib.hid hrow
  have HN := Lib.hid hn
  have HA := Lib.hid hA
  have HX := Lib.hid hc
  have hXl := bcell_lt hc
  simp only at hXl
  have HXg := Lib.hid hXg
  have q1 : (n : Int) ≤ 256 := by omega
  obtain ⟨hncap, hcapm⟩ : n ≤ cap ∧ cap ≤ maxLen := by
    obtain ⟨A', c', e, h1, h2, _⟩ := hrow.form
    simp only [Value.slice.injEq] at e
    omega
  unfold maxLen at hcapm
  clear hrow hn hA hc hXg
  go_enter Try.func38, Try.ntmps38
  go_wp2_with fail
  refine HI.out.mono ?_
  rintro e w1 ⟨⟨r, rfl, hf⟩, hb⟩
  have HB := Lib.hid hb
  clear hb HI
  rcases hf with ⟨rfl, hno⟩ | ⟨k, hkl, rfl, hkt, hno⟩
  · have hno' := Lib.hid hno
    clear hno
    go_wp2
    go_ret
    have hk : keepTo to l = l := filter_noneTo hno'.out
    rw [hk]
    exact ⟨⟨n, rfl, HN.out.symm, HR.out.below HB.out⟩, But.of_below HB.out⟩
  · have hk : k < n := by rw [← HN.out]; exact hkl
    obtain rfl := HA.out (by omega)
    have HD0 := Lib.hid (Del.start hkl hkt hno)
    have zk : ((k : Int) == -1) = false := by rw [beq_eq_false_iff_ne]; omega
    have HR1 := Lib.hid (HR.out.below HB.out)
    have q2 : (k : Int) < (n : Int) := by omega
    clear hkt hno
    go_wp2
    go_loopw [5, 6] (fun iv jv wr => ∃ (i j : Nat) (M : List It), iv = .int .i64 (i : Int) ∧ jv = .int .i64 (j : Int) ∧ j ≤ n ∧ i < j ∧ Hid (Del to l M i j) ∧ Hid (itRow wr 0 (.slice (some ⟨g, 0, none⟩) n cap) M) ∧ Hid (But (· = g) w wr)) (fun _ jv _ => n - (RowKit.intOf jv).toNat)
    case atStart => exact ⟨k, k + 1, l, rfl, by go_num, by omega, by omega, HD0, HR1, Lib.hid (But.of_below HB.out)⟩
    case round =>
      obtain ⟨i, j, M, rfl, rfl, hj, hij, HD, HM, HBu⟩ := hrel
      have HML : Hid (M.length = n) := Lib.hid (HD.out.len.trans HN.out)
      have q3 : (i : Int) < (j : Int) := by omega
      have q4 : (j : Int) ≤ (n : Int) := by omega
      by_cases hlt : j < n
      · have hjl : j < l.length := by rw [HN.out]; exact hlt
        have hjM : j < M.length := by rw [HML.out]; exact hlt
        obtain ⟨c0, c1, c2, c3⟩ := HM.out.at_ hjM
        rw [HD.out.at_ hjl hjM] at c0 c1 c2 c3
        obtain ⟨x, hx⟩ : ∃ x, l[j] = x := ⟨_, rfl⟩
        rw [hx] at c0 c1 c2 c3
        have HXX := Lib.hid hx
        have q5 : (j : Int) < (n : Int) := by omega
        have cX : wr.cell? ⟨X, 0, none⟩ = some (.int .i64 to) := (HBu.out.cell (p := ⟨X, 0, none⟩) hXl HXg.out).trans HX.out
        have hal : Below wr.heap.size wr (wr.alloc (.cells #[.int .i64 (x.id : Int), .int .i64 x.p.fr, .int .i64 x.p.to, .slice x.p.A x.p.body.length x.p.c] 49)) := (Below.refl _ wr).alloc (Nat.le_refl _) _
        have HG := Lib.hid (goes_any x to X _ ((hal.cell (p := ⟨X, 0, none⟩) (bcell_lt cX)).trans cX))
        have HAl := Lib.hid hal
        clear hx cX hal
        go_wp2_with fail
        refine HG.out.mono ?_
        clear HG
        rintro e w2 ⟨rfl, hb⟩
        have hb2 : Below wr.heap.size wr w2 := HAl.out.trans (hb.mono HAl.out.size)
        have hB2 : But (· = g) w w2 := HBu.out.then_ (But.of_below (S := fun _ => False) hb2) (fun _ h => h.elim)
        have hM2 := HM.out.below hb2
        have hbx := (hb.block wr.heap.size (by simp)).trans (heap_alloc_new wr _)
        obtain ⟨d0, d1, d2, d3⟩ := blk4 hbx
        have HB2 := Lib.hid hB2
        have HM2 := Lib.hid hM2
        by_cases hyy : x.p.to = to
        · have z1 : (x.p.to == to) = true := by rw [beq_iff_eq]; exact hyy
          rw [z1]
          have HT := Lib.hid (HD.out.drop hjl (by rw [HXX.out]; exact hyy))
          clear hb hb2 hB2 hM2 hbx c0 c1 c2 c3
          go_wp2
          go_roundw
          case rel => exact ⟨i, j + 1, M, rfl, by go_num, by omega, by omega, HT, HM2, HB2⟩
          case measure => simp [RowKit.intOf]; omega
        · have z1 : (x.p.to == to) = false := by rw [beq_eq_false_iff_ne]; exact hyy
          rw [z1]
          have HT := HD.out.keep hjl (by rw [HXX.out]; exact hyy)
          rw [HXX.out] at HT
          have HT2 := Lib.hid HT
          have hin : i < n := by omega
          have HPut := Lib.hid (itRow.put HML.out hM2 i hin x)
          obtain ⟨e0, e1, e2, e3⟩ := hM2.at_ (k := i) (by rw [HML.out]; exact hin)
          obtain ⟨cur, hh⟩ := hM2.cells (b := g) rfl
          have f0 := blk_froz hh (i * 4)
          have f1 := blk_froz hh (i * 4 + 1)
          have f2 := blk_froz hh (i * 4 + 2)
          have f3 := blk_froz hh (i * 4 + 3)
          have q6 : (i : Int) < (n : Int) := by omega
          have q7 : (0 : Int) ≤ (i : Int) := by omega
          have hBu3 : But (· = g) w ((((w2.setCell ⟨g, i * 4, none⟩ (.int .i64 (x.id : Int))).setCell ⟨g, i * 4 + 1, none⟩ (.int .i64 x.p.fr)).setCell ⟨g, i * 4 + 2, none⟩ (.int .i64 x.p.to)).setCell ⟨g, i * 4 + 3, none⟩ (.slice x.p.A x.p.body.length x.p.c)) :=
            (((hB2.trans (But.set (S := (· = g)) _ (p := ⟨g, i * 4, none⟩) rfl _)).trans (But.set (S := (· = g)) _ (p := ⟨g, i * 4 + 1, none⟩) rfl _)).trans (But.set (S := (· = g)) _ (p := ⟨g, i * 4 + 2, none⟩) rfl _)).trans (But.set (S := (· = g)) _ (p := ⟨g, i * 4 + 3, none⟩) rfl _)
          have HB3 := Lib.hid hBu3
          clear HT hM2 hh hb hb2 hB2 hbx c0 c1 c2 c3 hBu3
          go_wp2
          refine ⟨⟨i + 1, j + 1, M.set i x, by go_num, by go_num, by omega, by omega, HT2, HPut, HB3⟩, ?_⟩
          simp [RowKit.intOf]; omega
      · obtain rfl : j = n := by omega
        have hM := HM.out
        have hMl := HML.out
        obtain ⟨cur, hh⟩ := hM.cells (b := g) rfl
        have hcz : cur.size = cap * 4 ∧ j ≤ cap := by
          have h2 := hM
          unfold itRow at h2
          rw [hMl] at h2
          obtain ⟨cur', k1, k2, _, k3, _⟩ := row_there h2
          rw [hh] at k1
          simp only [Option.some.injEq, Obj.cells.injEq] at k1
          obtain ⟨rfl, _⟩ := k1
          exact ⟨k3, k2⟩
        obtain ⟨zs, hzl, hcl⟩ : ∃ zs : List Value, zs.length = (j - i) * 4 ∧ ∀ ty, (Builtin.clear_ #[51] ty #[.slice (some ⟨g, i * 4, none⟩) (j - i) (cap - i)]).run Try.prog wr = .ok (.tuple #[]) (wr.setCells g (i * 4) zs) := by
          have key := fun ty => run_clear_k (P := Try.prog) wr 51 49 ty _ 4 Try.underlying51 it_zero it_zc (by decide) (by decide) g (i * 4) (j - i) (cap - i) (fun t h => (cell_in hh (by omega)).1) (fun t h => (cell_in hh (by omega)).2)
          obtain ⟨zs, h1, h2⟩ := key 0
          exact ⟨zs, h1, fun ty => h2⟩
        obtain ⟨hcz1, hcz2⟩ := hcz
        have HCZ := Lib.hid hcz1
        have HZL := Lib.hid hzl
        have HH := Lib.hid hh
        have q6 : (i : Int) < (cap : Int) := by omega
        have q7 : (0 : Int) ≤ (i : Int) := by omega
        have q8 : (cap : Int) ≤ 9223372036854775807 := by omega
        clear hh hcz1 hzl hM hMl
        go_wp2
        go_ret
        have hl := HD.out.len
        have hn := HN.out
        have hk : M.take i = keepTo to l := by
          have := HD.out.kept
          rwa [show l.take j = l from List.take_of_length_le (by omega)] at this
        have hti : (M.take i).length = i := by rw [List.length_take]; omega
        have hc := HM.out.cut HML.out i (by omega)
        rw [← hk, hti]
        refine ⟨⟨i, rfl, rfl, ?_⟩, (HBu.out.trans (but_setCells g zs (i * 4) wr)).mono (fun k e => by rw [e])⟩
        obtain ⟨cur2, k1, k2, k3⟩ := block_setCells zs (i * 4) wr cur HH.out
        unfold itRow at hc ⊢
        rw [hti] at hc ⊢
        obtain ⟨cur3, j1, j2, j3, j4, j5⟩ := row_there hc
        have e3 := HH.out.symm.trans j1
        simp only [Option.some.injEq, Obj.cells.injEq] at e3
        obtain ⟨rfl, _⟩ := e3
        refine ⟨hc.1, .inr ⟨g, cap, cur2, rfl, Nat.zero_le _, k1, j2, j3, by omega, ?_⟩⟩
        rw [k3 (by rw [HZL.out, HCZ.out]; omega), List.append_assoc, List.take_append_of_le_length (by rw [List.length_take, Array.length_toList, HCZ.out]; omega), List.take_take, Nat.min_self, j5]
end Go.Proofs.Yticjkpnlnonibaa
