/-
  maps.Values' iterator over the queue's map: all that waits comes, each once, in some order (layer 10).
-/
import Derived.Test.YtphkaohcfgmmkaaRuWalkA
import Derived.Test.YtphkaohcfgmmkaaSeqO
import Derived.RangeFuncNested
import Derived.RangeFuncBound
import Derived.RangeFuncCalls
import Derived.RangeFuncLeaves
import Derived.Sort.MapsRangeIn
import Derived.Shelf.Abstract
import Derived.Shelf.RegionOpen
import Derived.OwnWalkIn
import Derived.TacticsInMore
import Derived.LoopNIn
import Derived.LoopIn
namespace Go.Proofs.Ytphkaohcfgmmkaa
open Go.RowKit Go.Shelf Go.Rel Go.Maps Go.Sort
set_option linter.unusedSimpArgs false
set_option linter.unusedVariables false
attribute [local go_sem] Oper.semAt_some

def ruEncs (x : Ru) : Array Value := #[.agg #[.int .i64 x.u.node, .int .u32 (x.u.inc : Int), .int .i64 x.u.st, .int .i64 (x.sent : Int), .int .i64 (x.wh : Int)]]
theorem nodup_of_map {α β : Type} {f : α → β} {l : List α} (h : (l.map f).Nodup) : l.Nodup := (List.pairwise_map.1 h).imp (fun e k => e (by rw [k]))
theorem perm_of_nodes {pre L : List Ru} (hs : ∀ x ∈ pre, x ∈ L) (hp : (pre.map (·.u.node)).Perm (L.map (·.u.node))) (hd : (L.map (·.u.node)).Nodup) : pre.Perm L := by
  have hd' : (pre.map (·.u.node)).Nodup := (hp.nodup_iff).2 hd
  have n1 : pre.Nodup := nodup_of_map hd'
  have n2 : L.Nodup := nodup_of_map hd
  refine (List.perm_ext_iff_of_nodup n1 n2).2 fun x => ⟨hs x, fun hx => ?_⟩
  obtain ⟨y, hy, e⟩ := List.mem_map.1 (hp.mem_iff.2 (List.mem_map.2 ⟨x, hx, rfl⟩))
  rw [← node_inj hd (hs y hy) hx e]
  exact hy
set_option maxHeartbeats 4000000 in
set_option maxRecDepth 100000 in
theorem values_tells (k : Nat) (hk : 1 ≤ k) (Bm M : Nat) (L : List Ru) (w : World) (hBm : w.heap[Bm]? = some (.cells #[.map (some M)] 45 (0, 0))) (hM : QMap w M (atL L) L.length) (hd : (L.map (·.u.node)).Nodup) (hi : ∀ r ∈ L, wfI r.u.node) :
    SeqO Fence.wide k Try.prog 27 #[.pointer (some ⟨Bm, 0, none⟩)] ruEncs (fun _ _ => True) KeepsWalks (fun xs => xs.Perm L) (fun _ => True) L.length w := fun l J Jx W hW hJ hJx hY h0 => by
  have hMW := hM.block (hW.block M hM.lt)
  have cb : W.cell? ⟨Bm, 0, none⟩ = some (.map (some M)) := by
    rw [cell_of_row _ _ _ _ _ _ ((hW.block _ (block_lt hBm)).trans hBm)]; rfl
  obtain ⟨D, hown, h2⟩ := hMW
  have hkeys := ruKeys hown h2 hd hi
  have hsz : Maps.size D = L.length := by
    have := hkeys.length_eq
    rw [size_intKeys, List.length_map] at this
    exact this.symm
  have HKeys := Lib.hid hkeys
  have HSz := Lib.hid hsz
  have H2 := Lib.hid h2
  have HY := Lib.hid hY
  have HJ := Lib.hid hJ
  have HH0 := Lib.hid h0
  have HD := Lib.hid hd
  have HI := Lib.hid hi
  clear hBm hM hJx hY hJ h0 hW hkeys hsz h2 hd hi
  refine callsIn_of_wp Try.func27 rfl trivial ?_ rfl
  simp only [Try.ntmps27, List.size_toArray, List.length_cons, List.length_nil, Nat.reduceAdd, Nat.reduceSub, Array.replicate_succ, Array.replicate_zero, List.push_toArray, List.append_toArray, List.nil_append, List.cons_append]
  gi_wp2_with (first
    | (gi_at_range; refine wpListIn_range_own _ rfl _ 45 rfl 3 53 law Try.underlying45 _ M L.length _ rfl hown ?_; intro w0 hrg0 hg0 hs0)
    | gi_in)
  (try go_frame)
  have HOwn := Lib.hid hown
  clear hown cb
  gi_loopw [7] (fun _ wr => ∃ (left : Lit → Bool) (cnt : Nat) (pre : List Ru), wr.ranges Try.prog 3 ruE M W.heap.size L.length D left cnt ∧ Hid (pre.length + cnt ≤ Maps.size D) ∧ Hid (CollectedI D left (pre.map (·.u.node))) ∧ Hid (∀ x ∈ pre, x ∈ L) ∧ Hid (J pre wr))
    (fun _ wr => wr.rangeLeft M W.heap.size)
  case atStart =>
    exact ⟨_, _, [], hrg0, Lib.hid (by simp), Lib.hid (CollectedI.start D), Lib.hid (by simp), Lib.hid (HJ.out [] W w0 none HH0.out hg0 (fun r e => by cases e))⟩
  case round =>
    obtain ⟨left, cnt, pre, hrg, hcs, hC, hV, hJs⟩ := hrel
    gi_wp2_with (first
      | (gi_at_next; refine wpListIn_next_ranges _ rfl _ rfl 3 law ruE encZ ruV (fun key kl hk => by obtain ⟨x, hx, _⟩ := Maps.keyOf_i64 Try.underlying3 hk; exact ⟨x, hx⟩) (fun v y hv => by obtain ⟨c, rfl, _⟩ := ruE_inv hv; exact ⟨c, rfl⟩) M W.heap.size L.length _ _ _ rfl hrg ?_ ?_)
      | gi_in)
    · intro hc0 hl0
      gi_wp2
      refine bodyPost_end (results_none rfl _ _ _) rfl ?_
      exact ⟨⟨_, rfl⟩, .inl ⟨pre, perm_of_nodes hV.out ((hC.out.perm HOwn.out law Try.underlying3 hl0).trans HKeys.out.symm) HD.out, hJs.out⟩⟩
    · intro x c kl yd yp w2 cnt2 hkey hlk hv hat hrg2 hlt hg2 hs2 hen
      obtain ⟨x', ex, rfl, hwf⟩ := Maps.keyOf_i64 Try.underlying3 hkey
      obtain rfl : x = x' := encZ_inj ex
      rw [ruE_mk] at hv
      obtain rfl : ruD c = yd := (Prod.mk.inj (Option.some.inj hv)).1
      have hwx : wfI x := by
        have e1 : IntKind.i64.min = -9223372036854775808 := by decide
        have e2 : IntKind.i64.max = 9223372036854775807 := by decide
        simp [Lit.wf] at hwf
        unfold wfI
        omega
      have hcL : c ∈ L ∧ c.u.node = x := by
        have h3 := H2.out x hwx
        have hh : has D (.int .i64 x) = true := has_true_of_atKey hat
        rw [h3.1, Option.isSome_iff_exists] at hh
        obtain ⟨r, hr⟩ := hh
        have e := (hat (.lit (.bool false))).symm.trans (h3.2 r hr (.lit (.bool false)))
        rw [ruD_inj e]
        exact atL_mem hr
      have HC2 : Hid (CollectedI D (fun z => left z && !z.sameKey (.int .i64 x)) ((pre ++ [c]).map (·.u.node))) := Lib.hid (by
        have := hC.out.step hlk hat
        rw [List.map_append, List.map_cons, List.map_nil, hcL.2]
        exact this)
      have HV2 : Hid (∀ y ∈ pre ++ [c], y ∈ L) := Lib.hid (fun y hy => by
        rcases List.mem_append.1 hy with h | h
        · exact hV.out y h
        · rw [List.mem_singleton.1 h]; exact hcL.1)
      have hlen : pre.length < L.length := by have := hcs.out; have := HSz.out; omega
      have HCs2 : Hid ((pre ++ [c]).length + cnt2 ≤ Maps.size D) := Lib.hid (by have := hcs.out; simp; omega)
      have hJ2 : J pre w2 := HJ.out pre wr w2 (some W.heap.size) hJs.out hg2 (fun r e => by
        cases e
        obtain ⟨o, ho, hw⟩ := hrg.iter_walk
        exact ⟨Nat.le_refl _, o, ho, Obj.not_cells_of_walk hw⟩)
      obtain ⟨W3, hW3⟩ : ∃ W3, w2.alloc (.cells #[.int .i64 c.u.node, .int .u32 (c.u.inc : Int), .int .i64 c.u.st, .int .i64 (c.sent : Int), .int .i64 (c.wh : Int)] 53) = W3 := ⟨_, rfl⟩
      have hJ3 : J pre W3 := by rw [← hW3]; exact HJ.out.alloc _ hJ2
      have hk3 : KeepsWalks w2 W3 := by rw [← hW3]; exact KeepsWalks.alloc _ _
      have hn := heap_alloc_new w2 (.cells #[.int .i64 c.u.node, .int .u32 (c.u.inc : Int), .int .i64 c.u.st, .int .i64 (c.sent : Int), .int .i64 (c.wh : Int)] 53)
      rw [hW3] at hn
      obtain ⟨d0, d1, d2, d3, d4⟩ := blk5 hn
      obtain ⟨fn, tmps, assign, body, hy, hRd⟩ := HY.out pre c W3 hJ3 trivial hlen
      simp only [ruEncs] at hy
      have HRd := Lib.hid hRd
      have HRg2 := Lib.hid hrg2
      have HRg := Lib.hid hrg
      have HK3 := Lib.hid hk3
      have HLt := Lib.hid hlt
      unfold ruV at hen
      clear hs2 hRd hJ2 hJ3 hk3 hrg2 hrg hlt hat hkey ex hv hwf hwx hcL hlk hg2 hn hrg0 hg0 hs0
      gi_wp2
      refine HRd.out.mono ?_
      rintro e W4 ⟨hkf, (⟨rfl, hJ4, hk4⟩ | ⟨rfl, hJx4⟩)⟩
      · have HJ4 := Lib.hid hJ4
        have HRg4 := Lib.hid ((HRg2.out.of_walks HK3.out).of_walks hk4)
        clear hJ4 hk4 hy hkf hen d0 d1 d2 d3 d4 hW3
        gi_wp2
        go_roundw
        case rel => exact ⟨_, cnt2, pre ++ [c], HRg4.out, HCs2, HC2, HV2, HJ4⟩
        case measure => rw [HRg4.out.left_eq, HRg.out.left_eq]; exact HLt.out
      · have HJx4 := Lib.hid hJx4
        clear hJx4 hy hkf hen d0 d1 d2 d3 d4 hW3
        gi_wp2
        refine bodyPost_ret (results_none rfl _ _ _) rfl ?_
        exact ⟨⟨_, rfl⟩, .inr ⟨pre ++ [c], trivial, HJx4.out⟩⟩
end Go.Proofs.Ytphkaohcfgmmkaa
