import Derived.Test.YtaicipldjmngaaaGreatDoorZj22
import Derived.Test.YtaicipldjmngaaaGreatDoorZj23
import Derived.RangeFuncNested
import Derived.RangeFuncBound
import Derived.RangeFuncCalls
import Derived.RangeFuncLeaves
import Derived.Sort.MapsRangeIn
import Derived.Shelf.Abstract
import Derived.Shelf.RegionOpen
import Derived.OwnWalkIn
import Derived.TacticsInMore
import Derived.LoopNIn
import Derived.LoopIn
namespace Go.Proofs.YtaicipldjmngaaaGreatDoor.ru
open Go.RowKit Go.Shelf Go.Rel Go.Maps Go.Sort
set_option linter.unusedSimpArgs false
set_option linter.unusedVariables false
attribute [local go_sem] Oper.semAt_some
def ruEncs (x : Ru) : Array Value := #[.agg #[.int .i64 x.u.node, .int .u32 (x.u.inc : Int), .int .i64 x.u.st, .int .i64 (x.sent : Int), .int .i64 (x.wh : Int)]]
theorem nodup_of_map {α β : Type} {f : α → β} {l : List α} (h : (l.map f).Nodup) : l.Nodup := (List.pairwise_map.1 h).imp (fun e k => e (by rw [k]))
theorem perm_of_nodes {pre L : List Ru} (hs : ∀ x ∈ pre, x ∈ L) (hp : (pre.map (·.u.node)).Perm (L.map (·.u.node))) (hd : (L.map (·.u.node)).Nodup) : pre.Perm L := by
  have hd' : (pre.map (·.u.node)).Nodup := (hp.nodup_iff).2 hd
  have n1 : pre.Nodup := nodup_of_map hd'
  have n2 : L.Nodup := nodup_of_map hd
  refine (List.perm_ext_iff_of_nodup n1 n2).2 fun x => ⟨hs x, fun hx => ?_⟩
  obtain ⟨y, hy, e⟩ := List.mem_map.1 (hp.mem_iff.2 (List.mem_map.2 ⟨x, hx, rfl⟩))
  rw [← node_inj hd (hs y hy) hx e]
  exact hy
set_option maxHeartbeats 4000000 in
set_option maxRecDepth 100000 in
theorem values_tells (k : Nat) (hk : 1 ≤ k) (Bm M : Nat) (L : List Ru) (w : World) (hBm : w.heap[Bm]? = some (.cells #[.map (some M)] 190 (0, 0))) (hM : QMap w M (atL L) L.length) (hd : (L.map (·.u.node)).Nodup) (hi : ∀ r ∈ L, wfI r.u.node) :
    SeqO Fence.wide k Tryz.prog 198 #[.pointer (some ⟨Bm, 0, none⟩)] ruEncs (fun _ _ => True) KeepsWalks (fun xs => xs.Perm L) (fun _ => True) L.length w := fun l J Jx W hW hJ hJx hY h0 => by
  have hMW := hM.block (hW.block M hM.lt)
  have cb : W.cell? ⟨Bm, 0, none⟩ = some (.map (some M)) := by
    rw [cell_of_row _ _ _ _ _ _ ((hW.block _ (block_lt hBm)).trans hBm)]; rfl
  obtain ⟨D, hown, h2⟩ := hMW
  have hkeys := ruKeys hown h2 hd hi
  have hsz : Maps.size D = L.length := by
    have := hkeys.length_eq
    rw [size_intKeys, List.length_map] at this
    exact this.symm
  have HKeys := Lib.hid hkeys
  have HSz := Lib.hid hsz
  have H2 := Lib.hid h2
  have HY := Lib.hid hY
  have HJ := Lib.hid hJ
  have HH0 := Lib.hid h0
  have HD := Lib.hid hd
  have HI := Lib.hid hi
  clear hBm hM hJx hY hJ h0 hW hkeys hsz h2 hd hi
  refine callsIn_of_wp Tryz.func198 rfl trivial ?_ rfl
  simp only [Tryz.ntmps198, List.size_toArray, List.length_cons, List.length_nil, Nat.reduceAdd, Nat.reduceSub, Array.replicate_succ, Array.replicate_zero, List.push_toArray, List.append_toArray, List.nil_append, List.cons_append]
  gi_wp2_with (first
    | (gi_at_range; refine wpListIn_range_own _ rfl _ 190 rfl 3 165 law Tryz.underlying190 _ M L.length _ rfl hown ?_; intro w0 hrg0 hg0 hs0)
    | gi_in)
  (try go_frame)
  have HOwn := Lib.hid hown
  clear hown cb
  gi_loopw [7] (fun _ wr => ∃ (left : Lit → Bool) (cnt : Nat) (pre : List Ru), wr.ranges Tryz.prog 3 ruE M W.heap.size L.length D left cnt ∧ Hid (pre.length + cnt ≤ Maps.size D) ∧ Hid (CollectedI D left (pre.map (·.u.node))) ∧ Hid (∀ x ∈ pre, x ∈ L) ∧ Hid (J pre wr))
    (fun _ wr => wr.rangeLeft M W.heap.size)
  case atStart =>
    exact ⟨_, _, [], hrg0, Lib.hid (by simp), Lib.hid (CollectedI.start D), Lib.hid (by simp), Lib.hid (HJ.out [] W w0 none HH0.out hg0 (fun r e => by cases e))⟩
  case round =>
    obtain ⟨left, cnt, pre, hrg, hcs, hC, hV, hJs⟩ := hrel
    gi_wp2_with (first
      | (gi_at_next; refine wpListIn_next_ranges _ rfl _ rfl 3 law ruE encZ ruV (fun key kl hk => by obtain ⟨x, hx, _⟩ := Maps.keyOf_i64 Tryz.underlying3 hk; exact ⟨x, hx⟩) (fun v y hv => by obtain ⟨c, rfl, _⟩ := ruE_inv hv; exact ⟨c, rfl⟩) M W.heap.size L.length _ _ _ rfl hrg ?_ ?_)
      | gi_in)
    · intro hc0 hl0
      gi_wp2
      refine bodyPost_end (results_none rfl _ _ _) rfl ?_
      exact ⟨⟨_, rfl⟩, .inl ⟨pre, perm_of_nodes hV.out ((hC.out.perm HOwn.out law Tryz.underlying3 hl0).trans HKeys.out.symm) HD.out, hJs.out⟩⟩
    · intro x c kl yd yp w2 cnt2 hkey hlk hv hat hrg2 hlt hg2 hs2 hen
      obtain ⟨x', ex, rfl, hwf⟩ := Maps.keyOf_i64 Tryz.underlying3 hkey
      obtain rfl : x = x' := encZ_inj ex
      rw [ruE_mk] at hv
      obtain rfl : ruD c = yd := (Prod.mk.inj (Option.some.inj hv)).1
      have hwx : wfI x := by
        have e1 : IntKind.i64.min = -9223372036854775808 := by decide
        have e2 : IntKind.i64.max = 9223372036854775807 := by decide
        simp [Lit.wf] at hwf
        unfold wfI
        omega
      have hcL : c ∈ L ∧ c.u.node = x := by
        have h3 := H2.out x hwx
        have hh : has D (.int .i64 x) = true := has_true_of_atKey hat
        rw [h3.1, Option.isSome_iff_exists] at hh
        obtain ⟨r, hr⟩ := hh
        have e := (hat (.lit (.bool false))).symm.trans (h3.2 r hr (.lit (.bool false)))
        rw [ruD_inj e]
        exact atL_mem hr
      have HC2 : Hid (CollectedI D (fun z => left z && !z.sameKey (.int .i64 x)) ((pre ++ [c]).map (·.u.node))) := Lib.hid (by
        have := hC.out.step hlk hat
        rw [List.map_append, List.map_cons, List.map_nil, hcL.2]
        exact this)
      have HV2 : Hid (∀ y ∈ pre ++ [c], y ∈ L) := Lib.hid (fun y hy => by
        rcases List.mem_append.1 hy with h | h
        · exact hV.out y h
        · rw [List.mem_singleton.1 h]; exact hcL.1)
      have hlen : pre.length < L.length := by have := hcs.out; have := HSz.out; omega
      have HCs2 : Hid ((pre ++ [c]).length + cnt2 ≤ Maps.size D) := Lib.hid (by have := hcs.out; simp; omega)
      have hJ2 : J pre w2 := HJ.out pre wr w2 (some W.heap.size) hJs.out hg2 (fun r e => by
        cases e
        obtain ⟨o, ho, hw⟩ := hrg.iter_walk
        exact ⟨Nat.le_refl _, o, ho, Obj.not_cells_of_walk hw⟩)
      obtain ⟨W3, hW3⟩ : ∃ W3, w2.alloc (.cells #[.int .i64 c.u.node, .int .u32 (c.u.inc : Int), .int .i64 c.u.st, .int .i64 (c.sent : Int), .int .i64 (c.wh : Int)] 165) = W3 := ⟨_, rfl⟩
      have hJ3 : J pre W3 := by rw [← hW3]; exact HJ.out.alloc _ hJ2
      have hk3 : KeepsWalks w2 W3 := by rw [← hW3]; exact KeepsWalks.alloc _ _
      have hn := heap_alloc_new w2 (.cells #[.int .i64 c.u.node, .int .u32 (c.u.inc : Int), .int .i64 c.u.st, .int .i64 (c.sent : Int), .int .i64 (c.wh : Int)] 165)
      rw [hW3] at hn
      obtain ⟨d0, d1, d2, d3, d4⟩ := blk5 hn
      obtain ⟨fn, tmps, assign, body, hy, hRd⟩ := HY.out pre c W3 hJ3 trivial hlen
      simp only [ruEncs] at hy
      have HRd := Lib.hid hRd
      have HRg2 := Lib.hid hrg2
      have HRg := Lib.hid hrg
      have HK3 := Lib.hid hk3
      have HLt := Lib.hid hlt
      unfold ruV at hen
      clear hs2 hRd hJ2 hJ3 hk3 hrg2 hrg hlt hat hkey ex hv hwf hwx hcL hlk hg2 hn hrg0 hg0 hs0
      gi_wp2
      refine HRd.out.mono ?_
      rintro e W4 ⟨hkf, (⟨rfl, hJ4, hk4⟩ | ⟨rfl, hJx4⟩)⟩
      · have HJ4 := Lib.hid hJ4
        have HRg4 := Lib.hid ((HRg2.out.of_walks HK3.out).of_walks hk4)
        clear hJ4 hk4 hy hkf hen d0 d1 d2 d3 d4 hW3
        gi_wp2
        go_roundw
        case rel => exact ⟨_, cnt2, pre ++ [c], HRg4.out, HCs2, HC2, HV2, HJ4⟩
        case measure => rw [HRg4.out.left_eq, HRg.out.left_eq]; exact HLt.out
      · have HJx4 := Lib.hid hJx4
        clear hJx4 hy hkf hen d0 d1 d2 d3 d4 hW3
        gi_wp2
        refine bodyPost_ret (results_none rfl _ _ _) rfl ?_
        exact ⟨⟨_, rfl⟩, .inr ⟨pre ++ [c], trivial, HJx4.out⟩⟩
end Go.Proofs.YtaicipldjmngaaaGreatDoor.ru

namespace Go.Proofs.YtaicipldjmngaaaGreatDoor.ru
open Go.RowKit Go.Shelf Go.Rel Go.Maps
set_option linter.unusedSimpArgs false
set_option linter.unusedVariables false
attribute [local go_sem] Oper.semAt_some
theorem cell5_new (w : World) (x y z u v : Value) (t : TypeId) (j : Nat) (q : Value) (h : [x, y, z, u, v][j]? = some q) : (w.alloc (.cells #[x, y, z, u, v] t)).cell? ((⟨w.heap.size, 0, none⟩ : Addr).add j) = some q := by
  rw [plain_add, Nat.zero_add, cell_of_row _ w.heap.size j _ _ (0, 0) (heap_alloc_new w _)]
  simpa using h
theorem keepsFrom_below {B : Nat} {W W' : World} (h : Below W.heap.size W W') : KeepsFrom B W W' := ⟨h.size, fun k o _ hk _ => (h.block k (block_lt hk)).trans hk⟩
def ruAx (mk : Ru → Nat → Act) (x : Ru) (a : Act) (W : World) : Prop := ∃ Bx, W.heap[Bx]? = some (.cells #[.int .i64 x.u.node, .int .u32 (x.u.inc : Int), .int .i64 x.u.st, .int .i64 (x.sent : Int), .int .i64 (x.wh : Int)] 165 (0, 0)) ∧ a = mk x Bx
theorem ruAx_own (B : Nat) (mk : Ru → Nat → Act) (x : Ru) (a : Act) : OwnFrom B (fun (_ : Unit) W => ruAx mk x a W) := fun _ _ _ _ ⟨Bx, h, e⟩ hg hr =>
  ⟨Bx, (grownBy_keeps_cells hg (fun r e => (hr r e).2) h rfl).trans h, e⟩
def apMk (X : Nat) (fv : Value) (x : Ru) (Bx : Nat) : Act := { tmps := #[.slice none 0 0, fv, .pointer (some ⟨X, 0, none⟩), undef, .slice none 0 0, .pointer (some ⟨Bx, 0, none⟩), fv, .agg #[.int .i64 x.u.node, .int .u32 (x.u.inc : Int), .int .i64 x.u.st, .int .i64 (x.sent : Int), .int .i64 (x.wh : Int)], undef, undef, undef, undef, undef], defers := [] }
abbrev valIt : Nat := 198
set_option maxHeartbeats 4000000 in
set_option maxRecDepth 100000 in
theorem append_seq_any (k : Nat) (hk : 2 ≤ k) (lb : Array Value) (S : List Ru → Prop) (N : Nat) (hN : N ≤ 1000) (w : World) (hseq : SeqO Fence.wide (k - 1) Tryz.prog valIt lb ruEncs (fun _ _ => True) KeepsWalks S (fun _ => True) N w) :
    CallsIn Fence.wide k Tryz.prog 229 #[.slice none 0 0, .func (.func valIt) #[] lb] w fun e w' => ∃ v xs, e = .returned v ∧ S xs ∧ wtRow w' w.heap.size v xs ∧ Below w.heap.size w w' := by
  obtain ⟨i0, hi, hz0, hz1, hz2⟩ := info_parts wt_info
  obtain ⟨X, hX⟩ : ∃ X, w.heap.size = X := ⟨_, rfl⟩
  have b1 := below1 w (.cells #[.slice none 0 0] 162)
  have k1 := Boxed.new w 162 (.slice none 0 0)
  obtain ⟨W1, hW1⟩ : ∃ W1, w.alloc (.cells #[.slice none 0 0] 162) = W1 := ⟨_, rfl⟩
  have s1 : W1.heap.size = X + 1 := by rw [← hW1, ← hX]; simp
  rw [hW1] at b1 k1
  rw [hX] at k1
  have HB1 := Lib.hid b1
  have HW1 := Lib.hid hW1
  have HX := Lib.hid hX
  have HS1 := Lib.hid s1
  have HK1 := Lib.hid k1
  have HSeq := Lib.hid hseq
  have hk1 : 1 ≤ k := by omega
  clear hX b1 k1 hW1 s1 hseq
  refine callsIn_of_wp_marks Tryz.func229 rfl trivial ?_ rfl
  simp only [Tryz.ntmps229, List.size_toArray, List.length_cons, List.length_nil, Nat.reduceAdd, Nat.reduceSub, Array.replicate_succ, Array.replicate_zero, List.push_toArray, List.append_toArray, List.nil_append, List.cons_append]
  gi_wp2
  rw [HW1.out, HX.out]
  refine wpIn_range_o rfl hk1 (gf := valIt) (lb := lb) (by simp [go_sem]) trivial (enters_of Tryz.func198 (by kernel_rfl) rfl) HSeq.out walksK_t (fun W o' o h => KeepsWalks.putObj _ h rfl) HB1.out (fun _ => rfl)
    (fun pre Wc => (∃ v, Boxed Wc X 162 v ∧ Wc.ownsRow w.heap.size 165 5 v pre.length (pre.flatMap ruC) ∧ True) ∧ Below w.heap.size w Wc)
    (fun _ _ _ => False)
    (OwnFrom.and (Own.from (holdsRow_own w.heap.size X 162 165 5 (fun pre : List Ru => pre.length) (fun pre => pre.flatMap ruC) (fun _ _ => True)) _) (ownFrom_below (Nat.le_refl _) (by have := HS1.out; have := HX.out; omega)))
    (fun _ _ _ _ _ hs _ _ => hs)
    ⟨⟨_, HK1.out, World.ownsRow_nil _ _ _ _, trivial⟩, HB1.out⟩
    (ruAx (apMk X (.func (.func valIt) #[] lb)))
    (ruAx_own _ _) ?assign ?body ?done ?stop
  case assign =>
    rintro l2 pre x Wc K ⟨⟨v, hv, hrow, _⟩, hB⟩ _ hK
    unfold ruEncs
    have hb := below1 Wc (.cells #[.int .i64 x.u.node, .int .u32 (x.u.inc : Int), .int .i64 x.u.st, .int .i64 (x.sent : Int), .int .i64 (x.wh : Int)] 165)
    have hn := heap_alloc_new Wc (.cells #[.int .i64 x.u.node, .int .u32 (x.u.inc : Int), .int .i64 x.u.st, .int .i64 (x.sent : Int), .int .i64 (x.wh : Int)] 165)
    have H := Lib.hid (And.intro hb hn)
    have HKK := Lib.hid hK
    have HV := Lib.hid hv
    have HRow := Lib.hid hrow
    have HBB := Lib.hid hB
    clear hb hn hK hv hrow hB
    gi_wp2
    exact HKK.out _ _ (keepsFrom_below H.out.1) (KeepsWalks.alloc _ _) ⟨⟨v, HV.out.alloc _, HRow.out.alloc _, trivial⟩, HBB.out.alloc HBB.out.size _⟩ ⟨_, H.out.2, rfl⟩
  case body =>
    rintro l2 pre x a' W hl ⟨r0, hr0⟩ ⟨⟨v, hv, hrow, _⟩, hB⟩ ⟨Bx, hx, rfl⟩ hlt
    have hcL := hv.cell
    obtain ⟨c0, c1, c2, c3, c4⟩ := blk5 hx
    have hBsz := hB.size
    have HRow := Lib.hid hrow
    have HV := Lib.hid hv
    have HBB := Lib.hid hB
    unfold apMk
    clear hrow hv hB hr0 hx
    gi_wp2_with (gi_at_builtin; refine wpListIn_append_own _ rfl _ _ 162 rfl w.heap.size 165 i0 (.agg #[.int .i64 0, .int .u32 0, .int .i64 0, .int .i64 0, .int .i64 0]) 5 40 Tryz.underlying162 hi hz0 hz1 hz2 rfl (by decide) _ _ _ rfl (HRow.out.alloc _) ⟨W.heap.size, 0, none⟩ 1 1 [.int .i64 x.u.node, .int .u32 (x.u.inc : Int), .int .i64 x.u.st, .int .i64 (x.sent : Int), .int .i64 (x.wh : Int)] rfl rfl (cell5_new _ _ _ _ _ _ _) (by simp [Value.oneCell']) (by unfold maxLen; omega) (by omega) (by simp; omega) ?_; intro v' w1 hown' hgrow _; obtain ⟨g', cap', rfl⟩ := ownsRow_succ hown'; obtain ⟨hv1, hv2, hr2, hk2, hb2⟩ := HV.out.appended (by decide) HRow.out hBsz (by have := HX.out; omega) hown' hgrow; have hc1 := hv1.cell; have hf1 := hv1.frozen; have HV1 := Lib.hid hv1; have HV2 := Lib.hid hv2; have HR2' := Lib.hid hr2; have HK2 := Lib.hid hk2; have HB2' := Lib.hid hb2; have HG := Lib.hid hgrow; clear hv1 hv2 hr2 hk2 hb2 hgrow hown')
    refine ⟨HK2.out.from _, HK2.out.walks, ⟨⟨_, HV2.out, ?_, trivial⟩, HBB.out.trans HB2'.out⟩⟩
    have := HR2'.out
    rw [List.length_append, List.flatMap_append]
    simpa [ruC] using this
  case done =>
    rintro D ys Wc hD hS ⟨⟨v, hv, hrow, _⟩, hB⟩ hK
    have HSS := Lib.hid hS
    have hrow' : wtRow (Wc.putObj D (.deferred none)) w.heap.size v ys := ownsRow_putObj hrow (.deferred none) hK rfl
    have hcL := hv.cell
    have HD : Hid (Below w.heap.size w (Wc.putObj D (.deferred none))) := Lib.hid (hB.trans (belowK_b (w := w) (Nat.le_refl _) Wc D _ _ (by have := HS1.out; have := HX.out; omega) hK rfl rfl))
    have HR := Lib.hid hrow'
    clear hrow' hrow hB hv hS
    gi_wp2
    refine ⟨by simp, .inl ⟨_, _, rfl, run_takeDeferred hK, ?_⟩⟩
    exact ⟨_, results_tmp rfl _ _ _, v, ys, rfl, HSS.out, HR.out, HD.out⟩
  case stop =>
    rintro D c' pre W _ _ h _
    exact h.elim
set_option maxHeartbeats 2000000 in
theorem collect_any (k : Nat) (hk : 3 ≤ k) (lb : Array Value) (S : List Ru → Prop) (N : Nat) (hN : N ≤ 1000) (w : World) (hseq : SeqO Fence.wide (k - 1 - 1) Tryz.prog valIt lb ruEncs (fun _ _ => True) KeepsWalks S (fun _ => True) N w) :
    CallsIn Fence.wide k Tryz.prog 196 #[.func (.func valIt) #[] lb] w fun e w' => ∃ v xs, e = .returned v ∧ S xs ∧ wtRow w' w.heap.size v xs ∧ Below w.heap.size w w' := by
  have HA := Lib.hid (append_seq_any (k - 1) (by omega) lb S N hN w hseq)
  have hk1 : 1 ≤ k := by omega
  clear hseq
  refine callsIn_of_wp Tryz.func196 rfl trivial ?_ rfl
  simp only [Tryz.ntmps196, List.size_toArray, List.length_cons, List.length_nil, Nat.reduceAdd, Nat.reduceSub, Array.replicate_succ, Array.replicate_zero, List.push_toArray, List.append_toArray, List.nil_append, List.cons_append]
  gi_wp2_with fail
  refine ⟨trivial, HA.out.mono ?_⟩
  rintro e w' ⟨v, xs, rfl, hS, hrow, hb⟩
  have H := Lib.hid (And.intro hS (And.intro hrow hb))
  clear hS hrow hb
  gi_wp2
  go_ret
  exact ⟨v, xs, rfl, H.out⟩
end Go.Proofs.YtaicipldjmngaaaGreatDoor.ru
