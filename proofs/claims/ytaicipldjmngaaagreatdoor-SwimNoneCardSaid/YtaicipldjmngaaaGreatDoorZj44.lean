import Derived.Test.YtaicipldjmngaaaGreatDoorZj26
import Derived.Test.YtaicipldjmngaaaGreatDoorZj3
namespace Go.Proofs.YtaicipldjmngaaaGreatDoor.ru
open Go.RowKit Go.Maps
set_option linter.unusedSimpArgs false
set_option linter.unusedVariables false
end Go.Proofs.YtaicipldjmngaaaGreatDoor.ru

namespace Go.Proofs.YtaicipldjmngaaaGreatDoor.ru
open Go.RowKit Go.Maps
set_option linter.unusedSimpArgs false
set_option linter.unusedVariables false
abbrev ButQ (B M : Nat) : World → World → Prop := But (fun k => k = B ∨ k = M)
end Go.Proofs.YtaicipldjmngaaaGreatDoor.ru

namespace Go.Proofs.YtaicipldjmngaaaGreatDoor.ru
open Go.RowKit Go.Maps
set_option linter.unusedSimpArgs false
set_option linter.unusedVariables false
theorem atL_append (F G : List Ru) (n : Int) : atL (F ++ G) n = (atL F n).or (atL G n) := by unfold atL; rw [List.find?_append]
theorem atL_cons (x : Ru) (G : List Ru) (n : Int) : atL (x :: G) n = if x.u.node = n then some x else atL G n := by
  unfold atL
  rw [List.find?_cons]
  by_cases h : x.u.node = n <;> simp [h]
theorem atL_out {F : List Ru} {n : Int} (h : ∀ r ∈ F, r.u.node ≠ n) : atL F n = none := by
  cases e : atL F n with
  | none => rfl
  | some r => exact absurd (atL_mem e).2 (h r (atL_mem e).1)
theorem left_now (lim : Nat) {L : List Ru} {k : Nat} (hk : k < L.length) : left k lim L = ((L.take k).map Ru.more).filter (fun r => decide (r.sent < lim)) ++ L[k] :: L.drop (k + 1) := by
  unfold left
  rw [List.drop_eq_getElem_cons hk]
theorem left_next (lim : Nat) {L : List Ru} {k : Nat} (hk : k < L.length) : left (k + 1) lim L = ((L.take k).map Ru.more).filter (fun r => decide (r.sent < lim)) ++ ((if L[k].sent + 1 < lim then [L[k].more] else []) ++ L.drop (k + 1)) := by
  unfold left
  rw [List.take_succ_eq_append_getElem hk, List.map_append, List.filter_append, List.append_assoc]
  congr 2
  rw [List.map_cons, List.map_nil, List.filter_cons]
  by_cases h : L[k].sent + 1 < lim
  · rw [if_pos h, if_pos (by rw [decide_eq_true_iff]; exact h)]
    rfl
  · rw [if_neg h, if_neg (by rw [decide_eq_true_iff]; exact h)]
    rfl
theorem left_at (lim : Nat) {L : List Ru} (hd : (L.map (·.u.node)).Nodup) {k : Nat} (hk : k < L.length) (n : Int) :
    atL (left (k + 1) lim L) n = putR (atL (left k lim L)) L[k].u.node (if L[k].sent + 1 < lim then some L[k].more else none) n := by
  have hn : ((left k lim L).map (·.u.node)).Nodup := (left_sub (·.u.node) (fun _ => rfl) k lim L).nodup hd
  rw [left_now lim hk, List.map_append, List.map_cons] at hn
  rw [left_next lim hk, left_now lim hk]
  obtain ⟨F, hF⟩ : ∃ F, ((L.take k).map Ru.more).filter (fun r => decide (r.sent < lim)) = F := ⟨_, rfl⟩
  rw [hF] at hn ⊢
  obtain ⟨x, hx⟩ : ∃ x, L[k] = x := ⟨_, rfl⟩
  rw [hx] at hn ⊢
  have hn2 := List.nodup_append.1 hn
  have h1 : ∀ r ∈ F, r.u.node ≠ x.u.node := fun r hr e => hn2.2.2 _ (List.mem_map.2 ⟨r, hr, rfl⟩) _ (by rw [e]; simp) rfl
  have h2 : ∀ r ∈ L.drop (k + 1), r.u.node ≠ x.u.node := fun r hr e => by
    have := List.nodup_cons.1 hn2.2.1
    exact this.1 (List.mem_map.2 ⟨r, hr, e⟩)
  by_cases e : n = x.u.node
  · subst e
    rw [putR_same, atL_append, atL_out h1, Option.none_or, atL_append, atL_out h2]
    by_cases hl : x.sent + 1 < lim
    · rw [if_pos hl, if_pos hl, atL_cons, if_pos (show x.more.u.node = x.u.node from rfl)]; rfl
    · rw [if_neg hl, if_neg hl]; rfl
  · have e' : ¬ x.u.node = n := fun h => e h.symm
    rw [putR_other _ _ e, atL_append, atL_append, atL_append, atL_cons (G := L.drop (k + 1)), if_neg e']
    by_cases hl : x.sent + 1 < lim
    · rw [if_pos hl, atL_cons, if_neg (show ¬ x.more.u.node = n from e')]; rfl
    · rw [if_neg hl]; rfl
theorem left_len (lim : Nat) (L : List Ru) (k : Nat) : (left k lim L).length ≤ L.length := by
  have := (left_sub (·.u.node) (fun _ => rfl) k lim L).length_le
  simpa using this
theorem left_nodes {L : List Ru} (h : (L.map (·.u.node)).Nodup) (lim k : Nat) : ((left k lim L).map (·.u.node)).Nodup := (left_sub (·.u.node) (fun _ => rfl) k lim L).nodup h
theorem left_wf {L : List Ru} (h : ∀ r ∈ L, wfI r.u.node) (lim k : Nat) : ∀ r ∈ left k lim L, wfI r.u.node := fun r hr => by
  obtain ⟨s, hs, e, _⟩ := left_mem hr
  rw [e]; exact h s hs
theorem left_zero (lim : Nat) (L : List Ru) : left 0 lim L = L := by unfold left; simp
theorem take_cut (q : Qu) (m lim : Nat) : q.take (min m q.L.length) lim = q.take m lim := by
  have e : ∀ L : List Ru, L.take (min m L.length) = L.take m := fun L => by
    rcases Nat.le_total m L.length with h | h
    · rw [Nat.min_eq_left h]
    · rw [Nat.min_eq_right h, List.take_of_length_le (Nat.le_refl _), List.take_of_length_le h]
  have e2 : ∀ L : List Ru, L.drop (min m L.length) = L.drop m := fun L => by
    rcases Nat.le_total m L.length with h | h
    · rw [Nat.min_eq_left h]
    · rw [Nat.min_eq_right h, List.drop_of_length_le (Nat.le_refl _), List.drop_of_length_le h]
  unfold Qu.take left
  rw [e, e2]
structure TkAt (w : World) (B M : Nat) (q : Qu) (lim k : Nat) : Prop where
  blk : w.heap[B]? = some (.cells #[.int .i64 (q.mult : Int), .int .i64 (q.clock : Int), .map (some M)] 192 (0, 0))
  map : QMap w M (atL (left k lim q.L)) (left k lim q.L).length
theorem TkAt.keep {w w' : World} {B M : Nat} {q : Qu} {lim k : Nat} (h : TkAt w B M q lim k) (h1 : w'.heap[B]? = w.heap[B]?) (h2 : w'.heap[M]? = w.heap[M]?) : TkAt w' B M q lim k := ⟨h1.trans h.blk, h.map.block h2⟩
theorem TkAt.lt {w : World} {B M : Nat} {q : Qu} {lim k : Nat} (h : TkAt w B M q lim k) : B < w.heap.size ∧ M < w.heap.size := ⟨block_lt h.blk, h.map.lt⟩
theorem TkAt.below {w w' : World} {B M : Nat} {q : Qu} {lim k : Nat} (h : TkAt w B M q lim k) (hb : Below w.heap.size w w') : TkAt w' B M q lim k := h.keep (hb.block B h.lt.1) (hb.block M h.lt.2)
theorem TkAt.start {w : World} {B M : Nat} {q : Qu} (lim : Nat) (h : QuAt w B M q) : TkAt w B M q lim 0 := ⟨h.blk, by rw [left_zero]; exact h.map⟩
theorem TkAt.done {w : World} {B M : Nat} {q : Qu} {lim m : Nat} (h : TkAt w B M q lim m) (hok : q.ok) : QuAt w B M (q.take m lim).2 := by
  have hk := Qu.take_ok hok m lim
  have hp := sortQ_perm (left m lim q.L)
  refine ⟨h.blk, ?_, hk⟩
  have h1 : QMap w M (atL (q.take m lim).2.L) (left m lim q.L).length := h.map.congr (fun n _ => (atL_perm hp hk.nodes n).symm)
  exact QMap.count h1 hk.nodes hk.wf
theorem TkAt.step {w' : World} {B M : Nat} {q : Qu} {lim k n : Nat} (hok : q.ok) (hk : k < q.L.length) (hm : QMap w' M (putR (atL (left k lim q.L)) q.L[k].u.node (if q.L[k].sent + 1 < lim then some q.L[k].more else none)) n)
    (hB : w'.heap[B]? = some (.cells #[.int .i64 (q.mult : Int), .int .i64 (q.clock : Int), .map (some M)] 192 (0, 0))) : TkAt w' B M q lim (k + 1) :=
  ⟨hB, QMap.count (hm.congr (fun n _ => (left_at lim hok.nodes hk n).symm)) (left_nodes hok.nodes lim _) (left_wf hok.wf lim _)⟩
theorem upRow_cells {w : World} {base : Nat} {v : Value} {l : List Up} (h : upRow w base v l) {b : Nat} (hb : v.ownBlock = some b) : ∃ cur, w.heap[b]? = some (.cells cur 63 (0, 0)) := by
  rcases h.2 with ⟨rfl, _⟩ | ⟨g, cap, cur, rfl, _, hh, _⟩
  · cases hb
  · cases hb
    exact ⟨cur, hh⟩
theorem rowK_from {w : World} {base : Nat} {v : Value} {l : List Up} (h : upRow w base v l) : ∀ r, v.ownBlock = some r → base ≤ r := fun r hr => by
  rcases h.2 with ⟨rfl, _⟩ | ⟨g, _, _, rfl, hg, hh, _⟩
  · cases hr
  · cases hr
    exact hg
def TakePost (w : World) (B M : Nat) (q : Qu) (m lim : Nat) (e : Ending) (w' : World) : Prop := ∃ v, e = .returned v ∧ upRow w' w.heap.size v (q.take m lim).1 ∧ QuAt w' B M (q.take m lim).2 ∧ ButQ B M w w'
end Go.Proofs.YtaicipldjmngaaaGreatDoor.ru

namespace Go.Proofs.YtaicipldjmngaaaGreatDoor.ru
open Go.RowKit Go.Maps
set_option linter.unusedSimpArgs false
set_option linter.unusedVariables false
set_option maxRecDepth 100000 in
set_option maxHeartbeats 16000000 in
theorem take_any {B M : Nat} {q : Qu} (a b : Int) (hwa : wfI a) (hwb : wfI b) (w : World) (h : QuAt w B M q) (hsm : ∀ r ∈ q.L, r.sent ≤ 1000000) :
    Calls Tryz.prog 192 #[.pointer (some ⟨B, 0, none⟩), .int .i64 a, .int .i64 b] w (TakePost w B M q a.toNat (limitQ q.mult b)) := by
  have HM := Lib.hid (made_yes w h)
  have HLim := Lib.hid (limit_any b hwb w h)
  have h8 := h.few
  have hlm := limitQ_512 h.ok.mult8 b
  obtain ⟨lim, hlim⟩ : ∃ lim, limitQ q.mult b = lim := ⟨_, rfl⟩
  rw [hlim] at HLim hlm ⊢
  have HQ := Lib.hid h
  have HSm := Lib.hid hsm
  unfold wfI at hwa
  obtain ⟨n, hn⟩ : ∃ n, q.L.length = n := ⟨_, rfl⟩
  obtain ⟨m, hm⟩ : ∃ m, min a.toNat n = m := ⟨_, rfl⟩
  have hmin : min (max a 0) (n : Int) = (m : Int) := by omega
  have hmn : m ≤ n := by omega
  have hpost : q.take a.toNat lim = q.take m lim := by rw [← hm, ← hn, take_cut]
  have HPost := Lib.hid hpost
  have HN := Lib.hid hn
  have HMin := Lib.hid hmin
  rw [hn] at h8
  have hn8 : (n : Int) ≤ 8 := by omega
  have hl8 : (lim : Int) ≤ 512 := by omega
  clear h hlim hsm hwa hwb hpost hn hm hmin hlm
  go_enter Tryz.func192, Tryz.ntmps192
  go_wp2_with fail
  refine HM.out.mono ?_
  rintro e w' ⟨rfl, rfl⟩
  clear HM
  go_wp2_with fail
  refine HLim.out.mono ?_
  rintro e w1 ⟨rfl, nq, rfl⟩
  clear HLim
  obtain ⟨w1, hw1⟩ : ∃ w1, w.drewN nq = w1 := ⟨_, rfl⟩
  have hb1 : Below w.heap.size w w1 := by rw [← hw1]; exact below_drewN (Below.refl _ _) nq
  rw [hw1]
  have HB1 := Lib.hid hb1
  have HQ1 := Lib.hid (HQ.out.below hb1)
  have HSo := Lib.hid (sorted_any w1 (HQ.out.below hb1))
  clear hw1 hb1
  go_wp2_with fail
  refine HSo.out.mono ?_
  rintro e w2 ⟨v, rfl, hrow, hb2⟩
  clear HSo
  have HB2 := Lib.hid (HB1.out.trans (hb2.mono HB1.out.size))
  have HQ2 := Lib.hid (HQ1.out.below hb2)
  obtain ⟨A, c, rfl, hSK, hnc, hm63, hbase⟩ := SK.of_row ruC_len hrow
  rw [HN.out] at hSK hnc
  rw [HN.out]
  have HSK := Lib.hid hSK
  have HBase := Lib.hid hbase
  have hc63 : (c : Int) ≤ 9223372036854775807 := by unfold maxLen at hm63; omega
  have hmc : (m : Int) ≤ (c : Int) := by omega
  have hmin := HMin.out
  clear hrow hb2 hSK hbase hm63 HMin
  go_wp2
  have HRow0 : Hid (upRow w2 w2.heap.size (.slice none 0 0) ((q.L.take 0).map (·.u))) := Lib.hid (by simpa using upRow.nil w2 w2.heap.size)
  have HTk0 : Hid (TkAt w2 B M q lim 0) := Lib.hid (TkAt.start lim HQ2.out)
  go_loopw [9, 28] (fun v i wr => ∃ k : Nat, k ≤ m ∧ i = .int .i64 (k : Int) ∧ Hid (upRow wr w2.heap.size v ((q.L.take k).map (·.u))) ∧ Hid (TkAt wr B M q lim k) ∧ Hid (ButQ B M w2 wr)) (fun _ i _ => m - (intOf i).toNat)
  case atStart => exact ⟨0, Nat.zero_le _, rfl, HRow0, HTk0, Lib.hid (But.refl _ _)⟩
  case round =>
    obtain ⟨k, hk, rfl, HV, HT, HBt⟩ := hrel
    obtain ⟨v, rfl⟩ : ∃ v, v = u9 := ⟨_, rfl⟩
    by_cases hlt : k < m
    · have hkl : k < q.L.length := by have := HN.out; omega
      obtain ⟨b0, off, rfl, hbl, hit⟩ := (HSK.out.but HBt.out (fun b0 off e hp hs => by
        have h1 := HBase.out b0 off e
        have h2 := HQ1.out.lt
        rcases hs with hs | hs <;> omega)).at_ (show k < n by omega) hkl
      obtain ⟨x, hx⟩ : ∃ x, q.L[k] = x := ⟨_, rfl⟩
      rw [hx] at hit
      obtain ⟨c0, c1, c2, c3, c4⟩ := hit.ru
      have hxs : (x.sent : Int) ≤ 1000000 := by
        have := HSm.out q.L[k] (List.getElem_mem hkl)
        rw [hx] at this
        omega
      have q1 : (k : Int) < (m : Int) := by omega
      have q0 : (0 : Int) ≤ (k : Int) := by omega
      have HX := Lib.hid hx
      clear hx hit
      have hb' := below1 wr (.cells #[.int .i64 x.u.node, .int .u32 (x.u.inc : Int), .int .i64 x.u.st, .int .i64 ((x.sent : Int) + 1), .int .i64 (x.wh : Int)] 165)
      have hn' := heap_alloc_new wr (.cells #[.int .i64 x.u.node, .int .u32 (x.u.inc : Int), .int .i64 x.u.st, .int .i64 ((x.sent : Int) + 1), .int .i64 (x.wh : Int)] 165)
      obtain ⟨V, hV⟩ : ∃ V, wr.heap.size = V := ⟨_, rfl⟩
      obtain ⟨W3, hW3⟩ : ∃ W3, wr.alloc (.cells #[.int .i64 x.u.node, .int .u32 (x.u.inc : Int), .int .i64 x.u.st, .int .i64 ((x.sent : Int) + 1), .int .i64 (x.wh : Int)] 165) = W3 := ⟨_, rfl⟩
      have hs3 : W3.heap.size = V + 1 := by rw [← hW3, ← hV]; simp
      rw [hW3] at hb' hn'
      rw [hV] at hn'
      have hT3 := HT.out.below hb'
      have hmapd : QMap W3.drew M (atL (left k lim q.L)) (left k lim q.L).length := hT3.map
      have hwx : wfI x.u.node := by rw [← HX.out]; exact HQ.out.ok.wf _ (List.getElem_mem hkl)
      have HV3 := Lib.hid (upRow.below HV.out hb')
      have HT3 := Lib.hid hT3
      have HB3 := Lib.hid (HBt.out.trans (But.of_below hb'))
      have HS3 := Lib.hid hs3
      have HN3 := Lib.hid hn'
      have HW3 := Lib.hid hW3
      have HVs := Lib.hid hV
      have hVne : V ≠ M ∧ V ≠ B := by have := HT.out.lt; omega
      have HVne := Lib.hid hVne
      clear hb' hn' hW3 hV hs3 hVne
      by_cases hl : x.sent + 1 < lim
      · have zl : decide ((x.sent : Int) + 1 < (lim : Int)) = true := by rw [decide_eq_true_iff]; omega
        obtain ⟨w4, hrun, hm4, hg4, hs4⟩ := hmapd.put x.more hwx (by have := left_len lim q.L k; have := HQ2.out.few; unfold maxLen; omega)
        have hb4 : But (· = M) W3 w4 := But.of_grown (w := W3) ⟨hg4.os, hg4.tape, hg4.output, hg4.size, hg4.block⟩ (fun r e _ => by cases e; rfl)
        have HT4 : Hid (TkAt w4 B M q lim (k + 1)) := Lib.hid (TkAt.step HQ.out.ok hkl (by rw [HX.out, if_pos hl]; exact hm4) (by rw [hb4.block B HT3.out.lt.1 HQ.out.ne]; exact HT3.out.blk))
        have HB4 : Hid (ButQ B M w2 w4) := Lib.hid (HB3.out.trans (hb4.mono (fun j e => .inr e)))
        have HV4 : Hid (upRow w4 w2.heap.size v ((q.L.take k).map (·.u))) := Lib.hid (own_but HV3.out hb4 (fun j hj e => by
          obtain ⟨cur, hc⟩ := upRow_cells HV3.out hj
          exact HT3.out.map.not_cells (e ▸ hc)))
        have HN4 := Lib.hid ((hb4.block V (block_lt HN3.out) HVne.out.1).trans HN3.out)
        have HS4 : Hid (V + 1 ≤ w4.heap.size) := Lib.hid (by have := hb4.size; have := HS3.out; omega)
        unfold ruV Ru.more at hrun
        simp only [Int.natCast_add, Int.cast_ofNat_Int] at hrun
        clear hmapd hm4 hg4 hs4 hb4 hwx
        go_wp2
        rw [HW3.out]
        clear c0 c1 c2 c3 c4
        rw [HVs.out]
        obtain ⟨b0_, b1_, b2_⟩ := blk3 HT3.out.blk
        obtain ⟨c0, c1, c2, c3, c4⟩ := blk5 HN3.out
        have hBl := HT3.out.lt.1
        have hVl := block_lt HN3.out
        go_region
        clear hrun b0_ b1_ b2_ c0 c1 c2 c3 c4 hBl hVl
        obtain ⟨c0, c1, c2, c3, c4⟩ := blk5 HN4.out
        go_wp2_with (at_builtin; refine wpList_append_up rfl _ _ rfl w2.heap.size _ ((q.L.take k).map (·.u)) rfl ?qa2 w4.heap.size x.u rfl ?qb2 ?qc2 ?qd2 ?_)
        case qa2 => exact HV4.out.below (below1 _ _)
        case qb2 => exact up_new w4 x.u 63
        case qc2 => rw [List.length_map, List.length_take]; omega
        case qd2 => have := HB4.out.size; simp; omega
        refine Lib.hid ?_
        intro v5 w5 hown5 hg5
        have hb5 : Below w4.heap.size w4 w5 ∨ True := .inr trivial
        have hkeep : ∀ j, j < w4.heap.size → some j ≠ v.ownBlock → w5.heap[j]? = w4.heap[j]? := fun j hj hne => (hg5.block j (by simp; omega) hne).trans (heap_alloc_old _ _ hj)
        have hneB : ∀ j, (j = B ∨ j = M) → some j ≠ v.ownBlock := fun j hj e => by
          obtain ⟨cur, hc⟩ := upRow_cells HV4.out e.symm
          rcases hj with rfl | rfl
          · rw [HT4.out.blk] at hc; simp at hc
          · exact HT4.out.map.not_cells hc
        have HT5 := Lib.hid (HT4.out.keep (hkeep B HT4.out.lt.1 (hneB B (.inl rfl))) (hkeep M HT4.out.lt.2 (hneB M (.inr rfl))))
        have HB5 : Hid (ButQ B M w2 w5) := Lib.hid (HB4.out.then_ (T := fun j => v.ownBlock = some j) ⟨hg5.os, hg5.tape, hg5.output, by have := hg5.size; simp at this; omega, fun j hj hne => hkeep j hj (fun e => hne e.symm)⟩ (fun j hj hlt => by
          have := (rowK_from HV4.out j hj)
          omega))
        have HV5 : Hid (upRow w5 w2.heap.size v5 ((q.L.take (k + 1)).map (·.u))) := Lib.hid (by
          rw [List.take_succ_eq_append_getElem hkl, List.map_append, HX.out]
          have h9 := hown5
          rw [← List.map_take] at h9
          exact h9)
        clear hown5 hg5 hb5 hkeep hneB c0 c1 c2 c3 c4
        go_wp2
        go_roundw
        case rel => exact ⟨k + 1, by omega, by go_num, HV5, HT5, HB5⟩
        case measure => simp [intOf]; omega
      · have zl : decide ((x.sent : Int) + 1 < (lim : Int)) = false := by rw [decide_eq_false_iff_not]; omega
        obtain ⟨w4, hrun, hm4, hg4, hs4⟩ := hmapd.drop hwx 0
        have hb4 : But (· = M) W3 w4 := But.of_grown (w := W3) ⟨hg4.os, hg4.tape, hg4.output, hg4.size, hg4.block⟩ (fun r e _ => by cases e; rfl)
        have HT4 : Hid (TkAt w4 B M q lim (k + 1)) := Lib.hid (TkAt.step HQ.out.ok hkl (by rw [HX.out, if_neg hl]; exact hm4) (by rw [hb4.block B HT3.out.lt.1 HQ.out.ne]; exact HT3.out.blk))
        have HB4 : Hid (ButQ B M w2 w4) := Lib.hid (HB3.out.trans (hb4.mono (fun j e => .inr e)))
        have HV4 : Hid (upRow w4 w2.heap.size v ((q.L.take k).map (·.u))) := Lib.hid (own_but HV3.out hb4 (fun j hj e => by
          obtain ⟨cur, hc⟩ := upRow_cells HV3.out hj
          exact HT3.out.map.not_cells (e ▸ hc)))
        have HN4 := Lib.hid ((hb4.block V (block_lt HN3.out) HVne.out.1).trans HN3.out)
        have HS4 : Hid (V + 1 ≤ w4.heap.size) := Lib.hid (by have := hb4.size; have := HS3.out; omega)
        have hr0 := trivial
        clear hmapd hm4 hg4 hs4 hb4 hwx
        go_wp2
        rw [HW3.out]
        clear c0 c1 c2 c3 c4
        rw [HVs.out]
        obtain ⟨b0_, b1_, b2_⟩ := blk3 HT3.out.blk
        obtain ⟨c0, c1, c2, c3, c4⟩ := blk5 HN3.out
        have hBl := HT3.out.lt.1
        have hVl := block_lt HN3.out
        go_region
        clear hrun b0_ b1_ b2_ c0 c1 c2 c3 c4 hBl hVl
        obtain ⟨c0, c1, c2, c3, c4⟩ := blk5 HN4.out
        go_wp2_with (at_builtin; refine wpList_append_up rfl _ _ rfl w2.heap.size _ ((q.L.take k).map (·.u)) rfl ?qa0 w4.heap.size x.u rfl ?qb0 ?qc0 ?qd0 ?_)
        case qa0 => exact HV4.out.below (below1 _ _)
        case qb0 => exact up_new w4 x.u 63
        case qc0 => rw [List.length_map, List.length_take]; omega
        case qd0 => have := HB4.out.size; simp; omega
        refine Lib.hid ?_
        intro v5 w5 hown5 hg5
        have hb5 : Below w4.heap.size w4 w5 ∨ True := .inr trivial
        have hkeep : ∀ j, j < w4.heap.size → some j ≠ v.ownBlock → w5.heap[j]? = w4.heap[j]? := fun j hj hne => (hg5.block j (by simp; omega) hne).trans (heap_alloc_old _ _ hj)
        have hneB : ∀ j, (j = B ∨ j = M) → some j ≠ v.ownBlock := fun j hj e => by
          obtain ⟨cur, hc⟩ := upRow_cells HV4.out e.symm
          rcases hj with rfl | rfl
          · rw [HT4.out.blk] at hc; simp at hc
          · exact HT4.out.map.not_cells hc
        have HT5 := Lib.hid (HT4.out.keep (hkeep B HT4.out.lt.1 (hneB B (.inl rfl))) (hkeep M HT4.out.lt.2 (hneB M (.inr rfl))))
        have HB5 : Hid (ButQ B M w2 w5) := Lib.hid (HB4.out.then_ (T := fun j => v.ownBlock = some j) ⟨hg5.os, hg5.tape, hg5.output, by have := hg5.size; simp at this; omega, fun j hj hne => hkeep j hj (fun e => hne e.symm)⟩ (fun j hj hlt => by
          have := (rowK_from HV4.out j hj)
          omega))
        have HV5 : Hid (upRow w5 w2.heap.size v5 ((q.L.take (k + 1)).map (·.u))) := Lib.hid (by
          rw [List.take_succ_eq_append_getElem hkl, List.map_append, HX.out]
          have h9 := hown5
          rw [← List.map_take] at h9
          exact h9)
        clear hown5 hg5 hb5 hkeep hneB c0 c1 c2 c3 c4
        go_wp2
        go_roundw
        case rel => exact ⟨k + 1, by omega, by go_num, HV5, HT5, HB5⟩
        case measure => simp [intOf]; omega
    · go_wp2
      go_ret
      obtain rfl : k = m := by omega
      refine ⟨v, rfl, ?_, ?_, ?_⟩
      · rw [HPost.out]
        exact bown_base HV.out HB2.out.size
      · rw [HPost.out]
        exact HT.out.done HQ.out.ok
      · exact (But.of_below HB2.out).trans HBt.out
end Go.Proofs.YtaicipldjmngaaaGreatDoor.ru
