/-
  updates, live: the program's iterators over a roll (layer 9).
-/
import Derived.Test.YtmfokogckfoheaaRoNew
import Derived.Test.YtmfokogckfoheaaSeqO
import Derived.RangeFuncNested
import Derived.RangeFuncBound
import Derived.RangeFuncCalls
import Derived.RangeFuncLeaves
import Derived.Shelf.Abstract
import Derived.Shelf.RegionOpen
import Derived.OwnWalkIn
import Derived.TacticsInMore
import Derived.LoopNIn
import Derived.LoopIn
namespace Go.Proofs.Ytmfokogckfoheaa
open Go.RowKit Go.Shelf Go.Rel Go.Maps
set_option linter.unusedSimpArgs false
set_option linter.unusedVariables false
attribute [local go_sem] Oper.semAt_some

def upEncs (x : Up) : Array Value := #[.agg #[.int .i64 x.node, .int .u32 (x.inc : Int), .int .i64 x.st]]
/-- What a round keeps that goes on: the map, the rolls, and whatever is a variable that holds a pointer to a roll, or a function. -/
def KpT (M : Nat) (W W' : World) : Prop := W.heap.size ≤ W'.heap.size ∧ W'.heap[M]? = W.heap[M]? ∧ ∀ (k : Nat) (cur : Array Value) (t : TypeId) (f : Nat × Nat), W.heap[k]? = some (.cells cur t f) → (t = 24 ∨ t = 63 ∨ t = 84) → W'.heap[k]? = some (.cells cur t f)
theorem kpT_t {M : Nat} {A B C : World} (h : KpT M A B) (k : KpT M B C) : KpT M A C := ⟨Nat.le_trans h.1 k.1, k.2.1.trans h.2.1, fun i cur t f hi ht => k.2.2 i cur t f (h.2.2 i cur t f hi ht) ht⟩
theorem kpT_below {M : Nat} {W W' : World} (h : Below W.heap.size W W') (hM : M < W.heap.size) : KpT M W W' := ⟨h.size, h.block M hM, fun k cur t f hk _ => (h.block k (block_lt hk)).trans hk⟩
theorem kpT_b {M l : Nat} (hM : M < l) (W : World) (o' : Obj) (o : Loop) (hl : W.heap[l]? = some (.loop o)) : KpT M W (W.putObj l o') :=
  ⟨(grownBy_putObj' W l o').size, World.putObj_heap_other (by omega), fun k cur t f hk _ => by
    by_cases e : k = l
    · subst e; rw [hl] at hk; cases hk
    · exact (World.putObj_heap_other (by omega)).trans hk⟩
theorem kpT_grown {M : Nat} {W W' : World} {row : Option Nat} (h : W.grownBy W' row) (hM : M < W.heap.size) (hr : ∀ r, row = some r → r ≠ M ∧ ∀ (cur : Array Value) (t : TypeId) (f : Nat × Nat), W.heap[r]? = some (.cells cur t f) → ¬ (t = 24 ∨ t = 63 ∨ t = 84)) : KpT M W W' :=
  ⟨h.size, h.block M hM (fun e => (hr M e.symm).1 rfl), fun k cur t f hk ht => (h.block k (block_lt hk) (fun e => (hr k e.symm).2 cur t f hk ht)).trans hk⟩
theorem RlAt.kpT {W W' : World} {B M : Nat} {r : Ro} {n : Nat} (h : RlAt W B M r n) (hk : KpT M W W') : RlAt W' B M r n := ⟨hk.2.2 _ _ _ _ h.blk (.inr (.inl rfl)), h.map.block hk.2.1, h.ok⟩

theorem updates_any (p : Option Addr) (w : World) : Calls Try.prog 35 #[.pointer p] w fun e w' => e = .returned (.func (.func 40) #[] #[.pointer (some ⟨w.heap.size, 0, none⟩)]) ∧ w' = w.alloc (.cells #[.pointer p] 24) := by
  go_enter Try.func35, Try.ntmps35
  go_wp2
  go_ret
  exact ⟨rfl, rfl⟩
theorem plive_any (p : Option Addr) (w : World) : Calls Try.prog 36 #[.pointer p] w fun e w' => e = .returned (.func (.func 41) #[] #[.pointer (some ⟨w.heap.size, 0, none⟩)]) ∧ w' = w.alloc (.cells #[.pointer p] 24) := by
  go_enter Try.func36, Try.ntmps36
  go_wp2
  go_ret
  exact ⟨rfl, rfl⟩
set_option maxHeartbeats 4000000 in
set_option maxRecDepth 100000 in
theorem updates_tells (k : Nat) (hk : 1 ≤ k) (Bn B M n : Nat) (r : Ro) (w : World) (hBn : w.heap[Bn]? = some (.cells #[.pointer (some ⟨B, 0, none⟩)] 24 (0, 0))) (hR : RlAt w B M r n) :
    SeqO Fence.wide k Try.prog 40 #[.pointer (some ⟨Bn, 0, none⟩)] upEncs (fun _ _ => True) (KpT M) (fun xs => xs = listTo r.T 8) (fun _ => True) 8 w := fun l J Jx W hW hJ hJx hY h0 => by
  have HW : Hid (KpT M w W) := Lib.hid (kpT_below hW hR.lt.2)
  have HR := Lib.hid hR
  have HBn := Lib.hid hBn
  have HY := Lib.hid hY
  have HJ := Lib.hid hJ
  have HH0 := Lib.hid h0
  clear hR hBn hJx hY hJ h0 hW
  refine callsIn_of_wp Try.func40 rfl trivial ?_ rfl
  simp only [Try.ntmps40, List.size_toArray, List.length_cons, List.length_nil, Nat.reduceAdd, Nat.reduceSub, Array.replicate_succ, Array.replicate_zero, List.push_toArray, List.append_toArray, List.nil_append, List.cons_append]
  gi_wp2
  gi_loopw [6] (fun i wr => ∃ (q : Nat) (pre : List Up), q ≤ 8 ∧ i = .int .i64 (q : Int) ∧ Hid (pre = listTo r.T q) ∧ Hid (J pre wr) ∧ Hid (KpT M w wr)) (fun i _ => 8 - (intOf i).toNat)
  case atStart => exact ⟨0, [], Nat.zero_le _, rfl, Lib.hid rfl, HH0, HW⟩
  case round =>
    obtain ⟨q, pre, hq, rfl, hpre, hj, hkp⟩ := hrel
    by_cases hlt : q < 8
    · have hRw := HR.out.kpT hkp.out
      have hbx := hkp.out.2.2 _ _ _ _ HBn.out (.inl rfl)
      have cb : wr.cell? ⟨Bn, 0, none⟩ = some (.pointer (some ⟨B, 0, none⟩)) := by rw [cell_of_row _ _ _ _ _ _ hbx]; rfl
      have c1 := hRw.c1
      have hlk := hRw.map.look (show wfI (q : Int) by unfold wfI; omega)
      obtain ⟨u, hu⟩ : ∃ u, atU r.T (q : Int) = u := ⟨_, rfl⟩
      rw [hu] at hlk
      unfold upV at hlk
      have q1 : (q : Int) < 8 := by omega
      have hlen : pre.length < 8 := by
        have h1 := listTo_len r.T q
        rw [← hpre.out] at h1
        omega
      have hMw := hRw.lt.2
      have hk3 : ∀ o, KpT M wr (wr.alloc o) := fun o => kpT_below (below1 wr o) hMw
      cases hT : r.T (q : Int) with
      | none =>
        rw [hT] at hlk
        have HP : Hid (pre = listTo r.T (q + 1)) := Lib.hid (by rw [listTo_none hT]; exact hpre.out)
        have HK3 := Lib.hid hk3
        simp only [Option.isSome_none] at hlk
        clear hRw hbx hT hu hk3
        gi_wp2
        refine ⟨fun _ h => (by cases h), ?_⟩
        gi_wp2
        go_roundw
        case rel => exact ⟨q + 1, pre, hlt, by go_num, HP, Lib.hid (HJ.out.alloc _ hj.out), Lib.hid (kpT_t hkp.out (HK3.out _))⟩
        case measure => simp [intOf]; omega
      | some x =>
        rw [hT] at hlk
        obtain rfl : x = u := by rw [← hu]; unfold atU; rw [hT]; rfl
        have HP : Hid (pre ++ [x] = listTo r.T (q + 1)) := Lib.hid (by rw [listTo_some hT, hpre.out])
        simp only [Option.isSome_some] at hlk
        obtain ⟨W3, hW3⟩ : ∃ W3, wr.alloc (.cells #[.int .i64 x.node, .int .u32 (x.inc : Int), .int .i64 x.st] 32) = W3 := ⟨_, rfl⟩
        have hJ3 : J pre W3 := by rw [← hW3]; exact HJ.out.alloc _ hj.out
        have HK3 : Hid (KpT M wr W3) := Lib.hid (by rw [← hW3]; exact hk3 _)
        have hn := heap_alloc_new wr (.cells #[.int .i64 x.node, .int .u32 (x.inc : Int), .int .i64 x.st] 32)
        rw [hW3] at hn
        obtain ⟨d0, d1, d2⟩ := blk3 hn
        obtain ⟨fn, tmps, assign, body, hy, hRd⟩ := HY.out pre x W3 hJ3 trivial hlen
        simp only [upEncs] at hy
        have HRd := Lib.hid hRd
        clear hRw hbx hT hu hk3 hn hJ3 hRd
        gi_wp2
        refine HRd.out.mono ?_
        rintro e W4 ⟨hkf, (⟨rfl, hJ4, hk4⟩ | ⟨rfl, hJx4⟩)⟩
        · have HJ4 := Lib.hid hJ4
          have HK4 : Hid (KpT M w W4) := Lib.hid (kpT_t hkp.out (kpT_t HK3.out hk4))
          clear hJ4 hk4 hy hkf
          gi_wp2
          go_roundw
          case rel => exact ⟨q + 1, pre ++ [x], hlt, by go_num, HP, HJ4, HK4⟩
          case measure => simp [intOf]; omega
        · have HJx4 := Lib.hid hJx4
          clear hJx4 hy hkf
          gi_wp2
          refine bodyPost_ret (results_none rfl _ _ _) rfl ?_
          exact ⟨⟨_, rfl⟩, .inr ⟨pre ++ [x], trivial, HJx4.out⟩⟩
    · obtain rfl : q = 8 := by omega
      have HP : Hid (pre = listTo r.T 8) := hpre
      gi_wp2
      refine bodyPost_end (results_none rfl _ _ _) rfl ?_
      exact ⟨⟨_, rfl⟩, .inl ⟨pre, HP.out, hj.out⟩⟩
end Go.Proofs.Ytmfokogckfoheaa
