/-
  Out and Lose of the document's flight (layer 7).
-/
import Derived.Test.YticjkpnlnonibaaHRef
namespace Go.Proofs.Yticjkpnlnonibaa
open Go.RowKit
set_option linter.unusedSimpArgs false
set_option linter.unusedVariables false

/-- append of one element of several cells, from a block that was just laid. -/
theorem wpList_append_new {P : Program} {w : World} {ops : Array Oper} {rest : List Oper} {o : Oper} {a : Act} {Q : Exit → Act → World → Prop} (hgd : o.guard = none) (s x : Operand) (t : TypeId)
    (ho : o.op = .call { callee := .builtin .append, args := #[s, x], argTypes := #[t, t] })
    (base : Nat) (e : TypeId) (i : TypeInfo) (z : Value) (size bytes : Nat) (ht : P.underlying t = some (.slice e)) (hi : P.info? e = some i) (hz : i.zero = some z)
    (hsize : i.size = size) (hby : i.bytes = bytes) (hzs : z.cells.size = size) (hpos : 0 < size)
    (v : Value) (m : Nat) (ys : List Value) (hs : a.eval s = v) (hown : w.ownsRow base e size v m ys)
    (ad : Addr) (c : Nat) (news : List Value) (hx : a.eval x = .slice (some ad) 1 c) (hn : news.length = 1 * size) (hcs : ∀ j u, news[j]? = some u → w.cell? (ad.add j) = some u) (h1c : ∀ u ∈ news, u.oneCell' = true)
    (h63 : m + 1 ≤ maxLen) (hbytes : (m + 1) * bytes ≤ 140737488355328) (hbase : base ≤ w.heap.size)
    (h : Hid (∀ v' w', w'.ownsRow base e size v' (m + 1) (ys ++ news) → w.grownBy w' v.ownBlock → wpList P ops Q rest (a.put o.dst v') w')) : wpList P ops Q (o :: rest) a w :=
  wpList_append_own w hgd s x t ho base e i z size bytes ht hi hz hsize hby hzs hpos v m ys hs hown ad 1 c news hx hn hcs h1c h63 hbytes hbase (fun v' w' h1 h2 _ => h.out v' w' h1 h2)
theorem itC_news {w : World} {X : Nat} {x : It} (h : w.heap[X]? = some (.cells #[.int .i64 (x.id : Int), .int .i64 x.p.fr, .int .i64 x.p.to, .slice x.p.A x.p.body.length x.p.c] TF (0, 0))) : ∀ j u, (itC x)[j]? = some u → w.cell? ((⟨X, 0, none⟩ : Addr).add j) = some u := fun j u hj => by
  obtain ⟨h0, h1, h2, h3⟩ := blk4 h
  rw [plain_add]
  match j, hj with
  | 0, hj => simp only [itC, List.getElem?_cons_zero, Option.some.injEq] at hj; subst hj; exact h0
  | 1, hj => simp only [itC, List.getElem?_cons_succ, List.getElem?_cons_zero, Option.some.injEq] at hj; subst hj; exact h1
  | 2, hj => simp only [itC, List.getElem?_cons_succ, List.getElem?_cons_zero, Option.some.injEq] at hj; subst hj; exact h2
  | 3, hj => simp only [itC, List.getElem?_cons_succ, List.getElem?_cons_zero, Option.some.injEq] at hj; subst hj; exact h3
theorem itC_one (x : It) : ∀ u ∈ itC x, u.oneCell' = true := fun u hu => itsC_one [x] u (by simpa [itsC] using hu)
theorem itRow.snoc {w : World} {base : Nat} {v : Value} {l : List It} {x : It} (h : w.ownsRow base TF 4 v (l.length + 1) (itsC l ++ itC x)) : itRow w base v (l ++ [x]) := by
  unfold itRow
  rw [List.length_append, List.length_singleton, itsC_append]
  simpa [itsC] using h
theorem erase_step {l : List It} {k j : Nat} (hj : j < l.length) : (l.take (j + 1)).eraseIdx k = (l.take j).eraseIdx k ++ (if j = k then [] else [l[j]]) := by
  have hlt : (l.take j).length = j := by rw [List.length_take]; omega
  rw [List.take_succ_eq_append_getElem hj]
  by_cases h : j = k
  · subst h
    rw [if_pos rfl, List.append_nil, List.eraseIdx_append_of_length_le (by omega), hlt, Nat.sub_self, List.eraseIdx_zero, List.tail_cons, List.append_nil, List.eraseIdx_of_length_le (by omega)]
  · rw [if_neg h]
    rcases Nat.lt_or_ge k j with h1 | h1
    · rw [List.eraseIdx_append_of_lt_length (by omega)]
    · rw [List.eraseIdx_append_of_length_le (by omega), hlt, List.eraseIdx_of_length_le (l := [l[j]]) (by simp; omega), List.eraseIdx_of_length_le (l := l.take j) (by omega)]
/-- What the document's taking away leaves. -/
def RGone (base : Nat) (w : World) (B : Nat) (v : Value) (s' : Fl) (w' : World) : Prop := ∃ v', RfAt base w' B v' s' ∧ But (Sof B v) w w' ∧ ∀ b, v'.ownBlock = some b → v.ownBlock = some b ∨ w.heap.size ≤ b
set_option maxHeartbeats 8000000 in
theorem rlose_any (base : Nat) (w : World) (B : Nat) (v : Value) (s : Fl) (h : RfAt base w B v s) (hbase : base ≤ w.heap.size) (to : Int) :
    Calls Try.prog 24 #[.pointer (some ⟨B, 0, none⟩), .int .i64 to] w fun e w' => e = .returned (.int .i64 ((s.L.length : Int) - ((s.lose to).L.length : Int))) ∧ RGone base w B v (s.lose to) w' := by
  obtain ⟨A, c, hv, hnc, hcm, hnil, hgo⟩ := h.row.form
  have hlen := h.ok.len
  have hmost := h.ok.most
  obtain ⟨c0, _, _⟩ := h.cells
  obtain ⟨n, hnn⟩ : ∃ n, s.L.length = n := ⟨_, rfl⟩
  have HH := Lib.hid h
  have HRow := Lib.hid h.row
  have HV := Lib.hid hv
  have HNN := Lib.hid hnn
  have hB := h.lt
  rw [hv, hnn] at c0
  have C0 := Lib.hid c0
  have q1 : (n : Int) ≤ 256 := by omega
  have hn2 : n ≤ 256 := by omega
  obtain ⟨i0, hi, hz0, hz1, hz2⟩ := info_parts it_info
  clear h hv hnc hnil hgo hnn
  go_enter Try.func24, Try.ntmps24
  go_wp2
  go_loopw [5, 6, 7] (fun vv nv kv wr => ∃ (k m : Nat), kv = .int .i64 (k : Int) ∧ nv = .int .i64 (m : Int) ∧ k ≤ n ∧ Hid (m + (keepTo to (s.L.take k)).length = k) ∧ Hid (itRow wr w.heap.size vv (keepTo to (s.L.take k))) ∧ Hid (Below w.heap.size w wr)) (fun _ _ kv _ => n - (RowKit.intOf kv).toNat)
  case atStart => exact ⟨0, 0, rfl, rfl, Nat.zero_le _, Lib.hid rfl, Lib.hid (itRow.nil _ _), Lib.hid (Below.refl _ _)⟩
  case round =>
    obtain ⟨k, m, rfl, rfl, hk, HM, HC, HB⟩ := hrel
    have c1 := (HB.out.cell (p := ⟨B, 0, none⟩) hB).trans C0.out
    by_cases hlt : k < n
    · have hkl : k < s.L.length := by rw [HNN.out]; exact hlt
      obtain ⟨g, c', e, _⟩ := HRow.out.some_ (by omega)
      rw [HV.out] at e
      simp only [Value.slice.injEq, true_and] at e
      obtain ⟨rfl, rfl⟩ := e
      have hrow := HRow.out
      rw [HV.out] at hrow
      obtain ⟨r0, r1, r2, r3⟩ := (hrow.below HB.out).at_ hkl
      have hst := keepTo_snoc (to := to) hkl
      obtain ⟨x, hx⟩ : ∃ x, s.L[k] = x := ⟨_, rfl⟩
      rw [hx] at r0 r1 r2 r3 hst
      have hm := HM.out
      have q2 : (k : Int) < (n : Int) := by omega
      have q3 : (m : Int) ≤ 256 := by omega
      by_cases hyy : x.p.to = to
      · have z1 : (x.p.to == to) = true := by rw [beq_iff_eq]; exact hyy
        rw [if_pos hyy, List.append_nil] at hst
        have HT : Hid (m + 1 + (keepTo to (s.L.take (k + 1))).length = k + 1) := Lib.hid (by rw [hst]; omega)
        have HC' : Hid (itRow wr w.heap.size u5 (keepTo to (s.L.take (k + 1)))) := Lib.hid (by rw [hst]; exact HC.out)
        clear hst hrow hx hm hyy
        go_wp2
        go_roundw
        case rel => exact ⟨k + 1, m + 1, by go_num, by go_num, by omega, HT, HC', HB⟩
        case measure => simp [RowKit.intOf]; omega
      · have z1 : (x.p.to == to) = false := by rw [beq_eq_false_iff_ne]; exact hyy
        rw [if_neg hyy] at hst
        have HT : Hid (m + (keepTo to (s.L.take (k + 1))).length = k + 1) := Lib.hid (by rw [hst, List.length_append, List.length_singleton]; omega)
        have hkl2 : (keepTo to (s.L.take k)).length ≤ 256 := by omega
        have HST := Lib.hid hst
        clear hst hrow hx hm hyy
        go_wp2_with (at_builtin; refine wpList_append_new rfl _ _ 46 rfl w.heap.size TF i0 _ 4 48 Try.underlying46 hi hz0 hz1 hz2 it_zc (by decide) _ (keepTo to (s.L.take k)).length (itsC (keepTo to (s.L.take k))) rfl ?qa ⟨wr.heap.size, 0, none⟩ 1 (itC x) rfl rfl ?qb (itC_one x) ?qc ?qd ?qe ?_)
        case qa => exact HC.out.below ((Below.refl _ _).alloc (Nat.le_refl _) _)
        case qb => exact itC_news (heap_alloc_new wr _)
        case qc => unfold maxLen; omega
        case qd => omega
        case qe => have := HB.out.size; simp; omega
        refine Lib.hid ?_
        intro v' w' hown hg
        have hro := itRow.snoc hown
        have hbn : Below w.heap.size w w' := by
          have hal := HB.out.alloc HB.out.size (.cells #[.int .i64 (x.id : Int), .int .i64 x.p.fr, .int .i64 x.p.to, .slice x.p.A x.p.body.length x.p.c] TF)
          exact hal.grown hg hal.size (fun b e => HC.out.ge e)
        have HC' : Hid (itRow w' w.heap.size v' (keepTo to (s.L.take (k + 1)))) := Lib.hid (by rw [HST.out]; exact hro)
        have HB' := Lib.hid hbn
        clear hown hg hro hbn
        go_wp2
        go_roundw
        case rel => exact ⟨k + 1, m, by go_num, rfl, by omega, HT, HC', HB'⟩
        case measure => simp [RowKit.intOf]; omega
    · obtain rfl : k = n := by omega
      have hb := HB.out.block B hB
      have hblk := hb.trans HH.out.blk
      have bf := blk_froz hblk 0
      have HBLK := Lib.hid hblk
      have hkeep : s.L.take k = s.L := List.take_of_length_le (by rw [HNN.out]; exact Nat.le_refl _)
      rw [hkeep] at HM HC
      clear hb hblk hkeep
      obtain ⟨A', n', c', ev⟩ : ∃ A' n' c', u5 = .slice A' n' c' := by
        obtain ⟨A', c', e, _⟩ := HC.out.form
        exact ⟨A', _, c', e⟩
      subst ev
      go_wp2
      go_ret
      have h := HH.out
      have hset : But (· = B) wr (wr.setCell ⟨B, 0, none⟩ (.slice A' n' c')) := But.set (S := (· = B)) wr (p := ⟨B, 0, none⟩) rfl _
      have hbut : But (Sof B v) w (wr.setCell ⟨B, 0, none⟩ (.slice A' n' c')) := (But.of_below HB.out).trans (hset.mono (fun i e => .inl e))
      refine ⟨?_, .slice A' n' c', ⟨block_set HBLK.out 0 _, ?_, ?_, h.ge, h.ok.lose to⟩, hbut, fun b e => .inr (HC.out.ge e)⟩
      · have hm := HM.out
        rw [HNN.out, keep_is]
        show Ending.returned (.int .i64 (m : Int)) = _
        congr 3
        omega
      · have hrow2 : itRow wr base (.slice A' n' c') (keepTo to s.L) := bown_base HC.out hbase
        exact hrow2.but hset (fun b e e2 => by have := HC.out.ge e; omega)
      · intro y hy
        have hy2 : y ∈ s.L := (List.mem_filter.1 hy).1
        exact ⟨(h.body y hy2).1.but hbut (fun b off e hn hs => (h.body y hy2).2 b off e hn (h.geS hs)), (h.body y hy2).2⟩
theorem rout_none (base : Nat) (w : World) (B : Nat) (v : Value) (s : Fl) (h : RfAt base w B v s) (pick : Int) (hn : s.L.length = 0) :
    Calls Try.prog 22 #[.pointer (some ⟨B, 0, none⟩), .int .i64 pick] w fun e w' => e = .returned (.tuple #[.agg #[.int .i64 0, .int .i64 0, .int .i64 0, .slice none 0 0], .bool false]) ∧ Below w.heap.size w w' := by
  obtain ⟨A, c, hv, _⟩ := h.row.form
  have hal : Below w.heap.size w (w.alloc (.cells #[.int .i64 0, .int .i64 0, .int .i64 0, .slice none 0 0] TF)) := (Below.refl _ w).alloc (Nat.le_refl _) _
  have hc0 := (h.below hal).cells.1
  rw [hv, hn] at hc0
  have HP := Lib.hid (rpicked_none _ B c A pick hc0)
  have hbx := heap_alloc_new w (.cells #[.int .i64 0, .int .i64 0, .int .i64 0, .slice none 0 0] TF)
  have hf0 := blk_froz hbx 0
  have hf1 := blk_froz hbx 1
  have hf2 := blk_froz hbx 2
  have hf3 := blk_froz hbx 3
  obtain ⟨d0, d1, d2, d3⟩ := blk4 hbx
  have HAl := Lib.hid hal
  clear h hn hv hc0 hal hbx
  go_enter Try.func22, Try.ntmps22
  go_wp2_with fail
  refine HP.out.mono ?_
  rintro e w' ⟨rfl, hw'⟩
  rw [hw']
  clear hw' HP
  go_wp2
  refine bodyPost_ret (v := .tuple #[.agg #[.int .i64 0, .int .i64 0, .int .i64 0, .slice none 0 0], .bool false]) (by simp [results, Try.results22, go_sem, d0, d1, d2, d3]) rfl ?_
  exact ⟨rfl, HAl.out⟩
theorem set4_blk {W : World} {X : Nat} {u0 u1 u2 u3 : Value} {t : TypeId} (h : W.heap[X]? = some (.cells #[u0, u1, u2, u3] t (0, 0))) (a b c d : Value) (o : Obj) :
    ((((((W.setCell ⟨X, 0, none⟩ a).setCell ⟨X, 1, none⟩ b).setCell ⟨X, 2, none⟩ c)).setCell ⟨X, 3, none⟩ d).alloc o).heap[X]? = some (.cells #[a, b, c, d] t (0, 0)) := by
  have h1 := block_set (block_set (block_set (block_set h 0 a) 1 b) 2 c) 3 d
  rw [heap_alloc_old _ _ (block_lt h1)]
  exact h1
theorem but_set4' {W : World} {X : Nat} {a b c d : Value} : But (· = X) W ((((W.setCell ⟨X, 0, none⟩ a).setCell ⟨X, 1, none⟩ b).setCell ⟨X, 2, none⟩ c).setCell ⟨X, 3, none⟩ d) := but_set4 W X a b c d
set_option maxHeartbeats 8000000 in
theorem rout_some (base : Nat) (w : World) (B : Nat) (v : Value) (s : Fl) (h : RfAt base w B v s) (hbase : base ≤ w.heap.size) (pick : Int) (hn : 0 < s.L.length) (hk : pickOf s.L.length pick < s.L.length) :
    Calls Try.prog 22 #[.pointer (some ⟨B, 0, none⟩), .int .i64 pick] w fun e w' => e = .returned (.tuple #[itV s.L[pickOf s.L.length pick], .bool true]) ∧ RGone base w B v (s.out pick) w' := by
  obtain ⟨g, c, hv, hnc, hm, _, hg⟩ := h.row.some_ hn
  have hlen := h.ok.len
  have hmost := h.ok.most
  obtain ⟨c0, _, _⟩ := h.cells
  have hrow := h.row
  rw [hv] at hrow c0
  obtain ⟨x, hx⟩ : ∃ x, s.L[pickOf s.L.length pick] = x := ⟨_, rfl⟩
  have HX := Lib.hid hx
  obtain ⟨r0, r1, r2, r3⟩ := hrow.at_ hk
  rw [hx] at r0 r1 r2 r3 ⊢
  have hB := h.lt
  obtain ⟨W0, hW0⟩ : ∃ W0, w.alloc (.cells #[.int .i64 0, .int .i64 0, .int .i64 0, .slice none 0 0] TF) = W0 := ⟨_, rfl⟩
  have hal : Below w.heap.size w W0 := by rw [← hW0]; exact (Below.refl _ w).alloc (Nat.le_refl _) _
  have hz1 : W0.heap[w.heap.size]? = some (.cells #[.int .i64 0, .int .i64 0, .int .i64 0, .slice none 0 0] TF (0, 0)) := by rw [← hW0]; exact heap_alloc_new w _
  have hs0 : W0.heap.size = w.heap.size + 1 := by rw [← hW0]; simp
  obtain ⟨k, hkk⟩ : ∃ k, pickOf s.L.length pick = k := ⟨_, rfl⟩
  obtain ⟨n, hnn⟩ : ∃ n, s.L.length = n := ⟨_, rfl⟩
  have HP := Lib.hid (rpicked_any W0 B s.L.length c (some ⟨g, 0, none⟩) pick hn (by omega) ((hal.cell (p := ⟨B, 0, none⟩) hB).trans c0))
  rw [hkk] at hk r0 r1 r2 r3 HP
  have HKK := Lib.hid hkk
  have HKL := Lib.hid hk
  have HH := Lib.hid h
  have HRow := Lib.hid hrow
  have HV := Lib.hid hv
  have HNN := Lib.hid hnn
  have HZ := Lib.hid hz1
  have HAl := Lib.hid hal
  have HW0 := Lib.hid hW0
  have HS0 := Lib.hid hs0
  clear hs0
  rw [hnn] at c0 hk hnc
  have C0 := Lib.hid c0
  have R0 := Lib.hid r0
  have R1 := Lib.hid r1
  have R2 := Lib.hid r2
  have R3 := Lib.hid r3
  have q1 : (n : Int) ≤ 256 := by omega
  have hn2 : n ≤ 256 := by omega
  have q4 : (k : Int) < (n : Int) := by omega
  have q5 : (0 : Int) ≤ (k : Int) := by omega
  have zk : ¬ (k : Int) < 0 := by omega
  obtain ⟨i0, hi, hz0, hzz, hz2⟩ := info_parts it_info
  clear h hv hnn hx hW0 hal hz1 hkk hrow r0 r1 r2 r3 c0
  go_enter Try.func22, Try.ntmps22
  go_wp2_with fail
  rw [HW0.out]
  refine HP.out.mono ?_
  rintro e w' ⟨rfl, hw'⟩
  rw [hw']
  clear hw' HP
  go_wp2
  go_loopw [7, 8] (fun vv jv wr => ∃ (j : Nat), jv = .int .i64 (j : Int) ∧ j ≤ n ∧ Hid (itRow wr W0.heap.size vv ((s.L.take j).eraseIdx k)) ∧ Hid (Below W0.heap.size W0 wr)) (fun _ jv _ => n - (RowKit.intOf jv).toNat)
  case atStart => exact ⟨0, rfl, Nat.zero_le _, Lib.hid (itRow.nil _ _), Lib.hid (Below.refl _ _)⟩
  case round =>
    obtain ⟨j, rfl, hj, HC, HB⟩ := hrel
    have hbw : Below w.heap.size w wr := HAl.out.trans (HB.out.mono HAl.out.size)
    have c1 := (hbw.cell (p := ⟨B, 0, none⟩) hB).trans C0.out
    by_cases hlt : j < n
    · have hjl : j < s.L.length := by rw [HNN.out]; exact hlt
      obtain ⟨t0, t1, t2, t3⟩ := (HRow.out.below hbw).at_ hjl
      have hst := erase_step (k := k) hjl
      obtain ⟨y, hy⟩ : ∃ y, s.L[j] = y := ⟨_, rfl⟩
      rw [hy] at t0 t1 t2 t3 hst
      have q2 : (j : Int) < (n : Int) := by omega
      by_cases hjk : j = k
      · have z1 : ((j : Int) == (k : Int)) = true := by rw [beq_iff_eq]; omega
        rw [if_pos hjk, List.append_nil] at hst
        have HC' : Hid (itRow wr W0.heap.size u7 ((s.L.take (j + 1)).eraseIdx k)) := Lib.hid (by rw [hst]; exact HC.out)
        have HJK := Lib.hid hjk
        clear hst hy hjk hbw
        go_wp2
        go_roundw
        case rel => exact ⟨j + 1, by go_num, by omega, HC', HB⟩
        case measure => simp [RowKit.intOf]; omega
      · have z1 : ((j : Int) == (k : Int)) = false := by rw [beq_eq_false_iff_ne]; omega
        rw [if_neg hjk] at hst
        have hle : ((s.L.take j).eraseIdx k).length ≤ 256 := by
          have := List.length_eraseIdx_le (s.L.take j) k
          rw [List.length_take] at this
          omega
        have HST := Lib.hid hst
        have HJK := Lib.hid hjk
        clear hst hy hjk hbw
        go_wp2_with (at_builtin; refine wpList_append_new rfl _ _ 46 rfl W0.heap.size TF i0 _ 4 48 Try.underlying46 hi hz0 hzz hz2 it_zc (by decide) _ ((s.L.take j).eraseIdx k).length (itsC ((s.L.take j).eraseIdx k)) rfl ?qa ⟨wr.heap.size, 0, none⟩ 1 (itC y) rfl rfl ?qb (itC_one y) ?qc ?qd ?qe ?_)
        case qa => exact HC.out.below ((Below.refl _ _).alloc (Nat.le_refl _) _)
        case qb => exact itC_news (heap_alloc_new wr _)
        case qc => unfold maxLen; omega
        case qd => omega
        case qe => have := HB.out.size; simp; omega
        refine Lib.hid ?_
        intro v' w' hown hgr
        have hro := itRow.snoc hown
        have hbn : Below W0.heap.size W0 w' := by
          have hal := HB.out.alloc HB.out.size (.cells #[.int .i64 (y.id : Int), .int .i64 y.p.fr, .int .i64 y.p.to, .slice y.p.A y.p.body.length y.p.c] TF)
          exact hal.grown hgr hal.size (fun b e => HC.out.ge e)
        have HC' : Hid (itRow w' W0.heap.size v' ((s.L.take (j + 1)).eraseIdx k)) := Lib.hid (by rw [HST.out]; exact hro)
        have HB' := Lib.hid hbn
        clear hown hgr hro hbn
        go_wp2
        go_roundw
        case rel => exact ⟨j + 1, by go_num, by omega, HC', HB'⟩
        case measure => simp [RowKit.intOf]; omega
    · obtain rfl : j = n := by omega
      have hkeep : s.L.take j = s.L := List.take_of_length_le (by rw [HNN.out]; exact Nat.le_refl _)
      rw [hkeep] at HC
      have hblk := (hbw.block B hB).trans HH.out.blk
      have bf := blk_froz hblk 0
      have hgl : g < w.heap.size := hg
      have t0 := (hbw.cell (p := ⟨g, k * 4, none⟩) hgl).trans R0.out
      have t1 := (hbw.cell (p := ⟨g, k * 4 + 1, none⟩) hgl).trans R1.out
      have t2 := (hbw.cell (p := ⟨g, k * 4 + 2, none⟩) hgl).trans R2.out
      have t3 := (hbw.cell (p := ⟨g, k * 4 + 3, none⟩) hgl).trans R3.out
      have hz3 := (HB.out.block w.heap.size (by have := HS0.out; omega)).trans HZ.out
      obtain ⟨X, hX⟩ : ∃ X, w.heap.size = X := ⟨_, rfl⟩
      have HXX := Lib.hid hX
      rw [hX] at hz3
      have hX1 := block_lt hz3
      obtain ⟨d0, d1, d2, d3⟩ := blk4 hz3
      have df0 := blk_froz hz3 0
      have df1 := blk_froz hz3 1
      have df2 := blk_froz hz3 2
      have df3 := blk_froz hz3 3
      have q6 : B ≠ X := by omega
      have hBr := block_lt hblk
      have HBLK := Lib.hid hblk
      have HZ3 := Lib.hid hz3
      have HBW := Lib.hid hbw
      obtain ⟨A', n', c', ev⟩ : ∃ A' n' c', u7 = .slice A' n' c' := by
        obtain ⟨A', c', e, _⟩ := HC.out.form
        exact ⟨A', _, c', e⟩
      subst ev
      rw [hX]
      clear hblk hz3 hbw hX hkeep
      go_wp2
      have hsetB : But (· = B) wr (wr.setCell ⟨B, 0, none⟩ (.slice A' n' c')) := But.set (S := (· = B)) wr (p := ⟨B, 0, none⟩) rfl _
      have hz4 := (hsetB.block X hX1 (fun e => q6 e.symm)).trans HZ3.out
      obtain ⟨e0, e1, e2, e3⟩ := blk4 (set4_blk hz4 (.int .i64 (x.id : Int)) (.int .i64 x.p.fr) (.int .i64 x.p.to) (.slice x.p.A x.p.body.length x.p.c) (.cells #[.int .i64 (x.id : Int), .int .i64 x.p.fr, .int .i64 x.p.to, .slice x.p.A x.p.body.length x.p.c] TF))
      refine bodyPost_ret (v := .tuple #[itV x, .bool true]) (by simp [results, Try.results22, go_sem, e0, e1, e2, e3, itV]) rfl ?_
      have h := HH.out
      have hxx := HXX.out
      have hs0 := HS0.out
      have hnew : But (fun i => w.heap.size ≤ i) (wr.setCell ⟨B, 0, none⟩ (.slice A' n' c')) (((((((wr.setCell ⟨B, 0, none⟩ (.slice A' n' c')).setCell ⟨X, 0, none⟩ (.int .i64 (x.id : Int))).setCell ⟨X, 1, none⟩ (.int .i64 x.p.fr)).setCell ⟨X, 2, none⟩ (.int .i64 x.p.to)).setCell ⟨X, 3, none⟩ (.slice x.p.A x.p.body.length x.p.c))).alloc (.cells #[.int .i64 (x.id : Int), .int .i64 x.p.fr, .int .i64 x.p.to, .slice x.p.A x.p.body.length x.p.c] TF)) :=
        (but_set4'.mono (fun i e => by show w.heap.size ≤ i; omega)).trans (But.of_below (S := fun i => w.heap.size ≤ i) ((Below.refl _ _).alloc (Nat.le_refl _) _))
      have hXonly : But (· = X) (wr.setCell ⟨B, 0, none⟩ (.slice A' n' c')) (((((((wr.setCell ⟨B, 0, none⟩ (.slice A' n' c')).setCell ⟨X, 0, none⟩ (.int .i64 (x.id : Int))).setCell ⟨X, 1, none⟩ (.int .i64 x.p.fr)).setCell ⟨X, 2, none⟩ (.int .i64 x.p.to)).setCell ⟨X, 3, none⟩ (.slice x.p.A x.p.body.length x.p.c))).alloc (.cells #[.int .i64 (x.id : Int), .int .i64 x.p.fr, .int .i64 x.p.to, .slice x.p.A x.p.body.length x.p.c] TF)) :=
        but_set4'.trans (But.of_below (S := (· = X)) ((Below.refl _ _).alloc (Nat.le_refl _) _))
      have hbut1 : But (Sof B v) w (wr.setCell ⟨B, 0, none⟩ (.slice A' n' c')) := (But.of_below HBW.out).trans (hsetB.mono (fun i e => .inl e))
      have hbut := hbut1.then_ hnew (fun i e hi => absurd hi (Nat.not_lt.2 e))
      refine ⟨rfl, .slice A' n' c', ⟨?_, ?_, ?_, h.ge, h.ok.out pick⟩, hbut, fun b e => .inr (Nat.le_trans (by omega) (HC.out.ge e))⟩
      · rw [hXonly.block B (by simp [World.setCell]; exact hBr) q6]
        exact block_set HBLK.out 0 _
      · unfold Fl.out
        rw [HKK.out]
        have hrow2 : itRow wr base (.slice A' n' c') (s.L.eraseIdx k) := bown_base HC.out (by omega)
        refine itRow.but (S := (· = X)) (itRow.but (S := (· = B)) hrow2 hsetB (fun b e e2 => ?_)) hXonly (fun b e e2 => ?_)
        · have := HC.out.ge e
          omega
        · have := HC.out.ge e
          omega
      · intro y hy
        have hy2 : y ∈ s.L := Fl.out_mem hy
        exact ⟨(h.body y hy2).1.but hbut (fun b off e hn hs => (h.body y hy2).2 b off e hn (h.geS hs)), (h.body y hy2).2⟩
end Go.Proofs.Yticjkpnlnonibaa
