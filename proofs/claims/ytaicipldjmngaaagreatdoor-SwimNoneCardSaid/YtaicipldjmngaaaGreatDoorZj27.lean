import Derived.Test.YtaicipldjmngaaaGreatDoorZj5
import Derived.Test.YtaicipldjmngaaaGreatDoorZj23
import Derived.RangeFuncNested
import Derived.RangeFuncBound
import Derived.RangeFuncCalls
import Derived.RangeFuncLeaves
import Derived.Shelf.Abstract
import Derived.Shelf.RegionOpen
import Derived.OwnWalkIn
import Derived.TacticsInMore
import Derived.LoopNIn
import Derived.LoopIn
namespace Go.Proofs.YtaicipldjmngaaaGreatDoor.ro
open Go.RowKit Go.Shelf Go.Rel Go.Maps
set_option linter.unusedSimpArgs false
set_option linter.unusedVariables false
attribute [local go_sem] Oper.semAt_some
def upEncs (x : Up) : Array Value := #[.agg #[.int .i64 x.node, .int .u32 (x.inc : Int), .int .i64 x.st]]
def KpT (M : Nat) (W W' : World) : Prop := W.heap.size ≤ W'.heap.size ∧ W'.heap[M]? = W.heap[M]? ∧ ∀ (k : Nat) (cur : Array Value) (t : TypeId) (f : Nat × Nat), W.heap[k]? = some (.cells cur t f) → (t = 31 ∨ t = 153 ∨ t = 197) → W'.heap[k]? = some (.cells cur t f)
theorem kpT_t {M : Nat} {A B C : World} (h : KpT M A B) (k : KpT M B C) : KpT M A C := ⟨Nat.le_trans h.1 k.1, k.2.1.trans h.2.1, fun i cur t f hi ht => k.2.2 i cur t f (h.2.2 i cur t f hi ht) ht⟩
theorem kpT_below {M : Nat} {W W' : World} (h : Below W.heap.size W W') (hM : M < W.heap.size) : KpT M W W' := ⟨h.size, h.block M hM, fun k cur t f hk _ => (h.block k (block_lt hk)).trans hk⟩
theorem kpT_b {M l : Nat} (hM : M < l) (W : World) (o' : Obj) (o : Loop) (hl : W.heap[l]? = some (.loop o)) : KpT M W (W.putObj l o') :=
  ⟨(grownBy_putObj' W l o').size, World.putObj_heap_other (by omega), fun k cur t f hk _ => by
    by_cases e : k = l
    · subst e; rw [hl] at hk; cases hk
    · exact (World.putObj_heap_other (by omega)).trans hk⟩
theorem kpT_grown {M : Nat} {W W' : World} {row : Option Nat} (h : W.grownBy W' row) (hM : M < W.heap.size) (hr : ∀ r, row = some r → r ≠ M ∧ ∀ (cur : Array Value) (t : TypeId) (f : Nat × Nat), W.heap[r]? = some (.cells cur t f) → ¬ (t = 31 ∨ t = 153 ∨ t = 197)) : KpT M W W' :=
  ⟨h.size, h.block M hM (fun e => (hr M e.symm).1 rfl), fun k cur t f hk ht => (h.block k (block_lt hk) (fun e => (hr k e.symm).2 cur t f hk ht)).trans hk⟩
theorem RlAt.kpT {W W' : World} {B M : Nat} {r : Ro} {n : Nat} (h : RlAt W B M r n) (hk : KpT M W W') : RlAt W' B M r n := ⟨hk.2.2 _ _ _ _ h.blk (.inr (.inl rfl)), h.map.block hk.2.1, h.ok⟩
theorem updates_any (p : Option Addr) (w : World) : Calls Tryz.prog 94 #[.pointer p] w fun e w' => e = .returned (.func (.func 133) #[] #[.pointer (some ⟨w.heap.size, 0, none⟩)]) ∧ w' = w.alloc (.cells #[.pointer p] 31) := by
  go_enter Tryz.func94, Tryz.ntmps94
  go_wp2
  go_ret
  exact ⟨rfl, rfl⟩
theorem plive_any (p : Option Addr) (w : World) : Calls Tryz.prog 95 #[.pointer p] w fun e w' => e = .returned (.func (.func 134) #[] #[.pointer (some ⟨w.heap.size, 0, none⟩)]) ∧ w' = w.alloc (.cells #[.pointer p] 31) := by
  go_enter Tryz.func95, Tryz.ntmps95
  go_wp2
  go_ret
  exact ⟨rfl, rfl⟩
set_option maxHeartbeats 4000000 in
set_option maxRecDepth 100000 in
theorem updates_tells (k : Nat) (hk : 1 ≤ k) (Bn B M n : Nat) (r : Ro) (w : World) (hBn : w.heap[Bn]? = some (.cells #[.pointer (some ⟨B, 0, none⟩)] 31 (0, 0))) (hR : RlAt w B M r n) :
    SeqO Fence.wide k Tryz.prog 133 #[.pointer (some ⟨Bn, 0, none⟩)] upEncs (fun _ _ => True) (KpT M) (fun xs => xs = listTo r.T 8) (fun _ => True) 8 w := fun l J Jx W hW hJ hJx hY h0 => by
  have HW : Hid (KpT M w W) := Lib.hid (kpT_below hW hR.lt.2)
  have HR := Lib.hid hR
  have HBn := Lib.hid hBn
  have HY := Lib.hid hY
  have HJ := Lib.hid hJ
  have HH0 := Lib.hid h0
  clear hR hBn hJx hY hJ h0 hW
  refine callsIn_of_wp Tryz.func133 rfl trivial ?_ rfl
  simp only [Tryz.ntmps133, List.size_toArray, List.length_cons, List.length_nil, Nat.reduceAdd, Nat.reduceSub, Array.replicate_succ, Array.replicate_zero, List.push_toArray, List.append_toArray, List.nil_append, List.cons_append]
  gi_wp2
  gi_loopw [6] (fun i wr => ∃ (q : Nat) (pre : List Up), q ≤ 8 ∧ i = .int .i64 (q : Int) ∧ Hid (pre = listTo r.T q) ∧ Hid (J pre wr) ∧ Hid (KpT M w wr)) (fun i _ => 8 - (intOf i).toNat)
  case atStart => exact ⟨0, [], Nat.zero_le _, rfl, Lib.hid rfl, HH0, HW⟩
  case round =>
    obtain ⟨q, pre, hq, rfl, hpre, hj, hkp⟩ := hrel
    by_cases hlt : q < 8
    · have hRw := HR.out.kpT hkp.out
      have hbx := hkp.out.2.2 _ _ _ _ HBn.out (.inl rfl)
      have cb : wr.cell? ⟨Bn, 0, none⟩ = some (.pointer (some ⟨B, 0, none⟩)) := by rw [cell_of_row _ _ _ _ _ _ hbx]; rfl
      have c1 := hRw.c1
      have hlk := hRw.map.look (show wfI (q : Int) by unfold wfI; omega)
      obtain ⟨u, hu⟩ : ∃ u, atU r.T (q : Int) = u := ⟨_, rfl⟩
      rw [hu] at hlk
      unfold upV at hlk
      have q1 : (q : Int) < 8 := by omega
      have hlen : pre.length < 8 := by
        have h1 := listTo_len r.T q
        rw [← hpre.out] at h1
        omega
      have hMw := hRw.lt.2
      have hk3 : ∀ o, KpT M wr (wr.alloc o) := fun o => kpT_below (below1 wr o) hMw
      cases hT : r.T (q : Int) with
      | none =>
        rw [hT] at hlk
        have HP : Hid (pre = listTo r.T (q + 1)) := Lib.hid (by rw [listTo_none hT]; exact hpre.out)
        have HK3 := Lib.hid hk3
        simp only [Option.isSome_none] at hlk
        clear hRw hbx hT hu hk3
        gi_wp2
        refine ⟨fun _ h => (by cases h), ?_⟩
        gi_wp2
        go_roundw
        case rel => exact ⟨q + 1, pre, hlt, by go_num, HP, Lib.hid (HJ.out.alloc _ hj.out), Lib.hid (kpT_t hkp.out (HK3.out _))⟩
        case measure => simp [intOf]; omega
      | some x =>
        rw [hT] at hlk
        obtain rfl : x = u := by rw [← hu]; unfold atU; rw [hT]; rfl
        have HP : Hid (pre ++ [x] = listTo r.T (q + 1)) := Lib.hid (by rw [listTo_some hT, hpre.out])
        simp only [Option.isSome_some] at hlk
        obtain ⟨W3, hW3⟩ : ∃ W3, wr.alloc (.cells #[.int .i64 x.node, .int .u32 (x.inc : Int), .int .i64 x.st] 63) = W3 := ⟨_, rfl⟩
        have hJ3 : J pre W3 := by rw [← hW3]; exact HJ.out.alloc _ hj.out
        have HK3 : Hid (KpT M wr W3) := Lib.hid (by rw [← hW3]; exact hk3 _)
        have hn := heap_alloc_new wr (.cells #[.int .i64 x.node, .int .u32 (x.inc : Int), .int .i64 x.st] 63)
        rw [hW3] at hn
        obtain ⟨d0, d1, d2⟩ := blk3 hn
        obtain ⟨fn, tmps, assign, body, hy, hRd⟩ := HY.out pre x W3 hJ3 trivial hlen
        simp only [upEncs] at hy
        have HRd := Lib.hid hRd
        clear hRw hbx hT hu hk3 hn hJ3 hRd
        gi_wp2
        refine HRd.out.mono ?_
        rintro e W4 ⟨hkf, (⟨rfl, hJ4, hk4⟩ | ⟨rfl, hJx4⟩)⟩
        · have HJ4 := Lib.hid hJ4
          have HK4 : Hid (KpT M w W4) := Lib.hid (kpT_t hkp.out (kpT_t HK3.out hk4))
          clear hJ4 hk4 hy hkf
          gi_wp2
          go_roundw
          case rel => exact ⟨q + 1, pre ++ [x], hlt, by go_num, HP, HJ4, HK4⟩
          case measure => simp [intOf]; omega
        · have HJx4 := Lib.hid hJx4
          clear hJx4 hy hkf
          gi_wp2
          refine bodyPost_ret (results_none rfl _ _ _) rfl ?_
          exact ⟨⟨_, rfl⟩, .inr ⟨pre ++ [x], trivial, HJx4.out⟩⟩
    · obtain rfl : q = 8 := by omega
      have HP : Hid (pre = listTo r.T 8) := hpre
      gi_wp2
      refine bodyPost_end (results_none rfl _ _ _) rfl ?_
      exact ⟨⟨_, rfl⟩, .inl ⟨pre, HP.out, hj.out⟩⟩
end Go.Proofs.YtaicipldjmngaaaGreatDoor.ro

namespace Go.Proofs.YtaicipldjmngaaaGreatDoor.ro
open Go.RowKit Go.Shelf Go.Rel Go.Maps
set_option linter.unusedSimpArgs false
set_option linter.unusedVariables false
attribute [local go_sem] Oper.semAt_some
def intEncs (z : Int) : Array Value := #[.int .i64 z]
def livesL (l : List Up) : List Int := (l.filter Up.lives).map Up.node
theorem livesL_yes {x : Up} (l : List Up) (h : x.lives = true) : livesL (l ++ [x]) = livesL l ++ [x.node] := by simp [livesL, h]
theorem livesL_no {x : Up} (l : List Up) (h : x.lives = false) : livesL (l ++ [x]) = livesL l := by simp [livesL, h]
theorem livesL_len (l : List Up) : (livesL l).length ≤ l.length := by
  unfold livesL
  rw [List.length_map]
  exact List.length_filter_le _ _
theorem keepsFrom_below {B : Nat} {W W' : World} (h : Below W.heap.size W W') : KeepsFrom B W W' := ⟨h.size, fun k o _ hk _ => (h.block k (block_lt hk)).trans hk⟩
theorem kpT_own {β : Type} {M : Nat} (w : World) (hM : M < w.heap.size) : OwnFrom w.heap.size (fun (_ : β) W => KpT M w W) := fun _ A C row hs hg hr =>
  kpT_t hs (kpT_grown hg (Nat.lt_of_lt_of_le hM hs.1) (fun r e => by
    obtain ⟨h1, o, ho, hc⟩ := hr r e
    refine ⟨by omega, fun cur t f h => ?_⟩
    rw [ho] at h
    cases h
    cases hc))
def upAx (mk : Up → Nat → Act) (x : Up) (a : Act) (W : World) : Prop := ∃ Bx, W.heap[Bx]? = some (.cells #[.int .i64 x.node, .int .u32 (x.inc : Int), .int .i64 x.st] 63 (0, 0)) ∧ a = mk x Bx
theorem upAx_own (B : Nat) (mk : Up → Nat → Act) (x : Up) (a : Act) : OwnFrom B (fun (_ : Unit) W => upAx mk x a W) := fun _ _ _ _ ⟨Bx, h, e⟩ hg hr =>
  ⟨Bx, (grownBy_keeps_cells hg (fun r e => (hr r e).2) h rfl).trans h, e⟩
theorem roundIn_in {F : Fence} {m : Nat} {P : Program} {l : Nat} {f : FuncId} {tmps : Array Value} {assign body : Code} {w : World} {R : Ending → World → Prop} (l2 : Nat) (h : RoundIn F m P l f tmps assign body w R) : RoundIn (F.inRound l2) m P l f tmps assign body w R := h
def liveMk (l Bn Y B : Nat) (fv : Value) (x : Up) (Bx : Nat) : Act := { tmps := #[.func (.yield l) #[] #[], .pointer (some ⟨Bn, 0, none⟩), .pointer (some ⟨Y, 0, none⟩), .pointer (some ⟨Bx, 0, none⟩), .pointer (some ⟨B, 0, none⟩), fv, .agg #[.int .i64 x.node, .int .u32 (x.inc : Int), .int .i64 x.st], undef, undef, undef, undef, undef, undef, undef, undef, undef], defers := [] }
set_option maxHeartbeats 4000000 in
set_option maxRecDepth 100000 in
theorem live_tells (k : Nat) (hk : 3 ≤ k) (Bn B M n : Nat) (r : Ro) (w : World) (hBn : w.heap[Bn]? = some (.cells #[.pointer (some ⟨B, 0, none⟩)] 31 (0, 0))) (hR : RlAt w B M r n) :
    SeqO Fence.wide k Tryz.prog 134 #[.pointer (some ⟨Bn, 0, none⟩)] intEncs (fun _ _ => True) (KpT M) (fun xs => xs = livesL (listTo r.T 8)) (fun _ => True) 8 w := fun l J Jx W hW hJ hJx hY h0 => by
  have hRW := hR.below hW
  have hBW := (hW.block _ (block_lt hBn)).trans hBn
  have hBnW := block_lt hBW
  obtain ⟨Y, hYs⟩ : ∃ Y, W.heap.size = Y := ⟨_, rfl⟩
  have b1 := below1 W (.cells #[.func (.yield l) #[] #[]] 197)
  have k1 := heap_alloc_new W (.cells #[.func (.yield l) #[] #[]] 197)
  obtain ⟨W1, hW1⟩ : ∃ W1, W.alloc (.cells #[.func (.yield l) #[] #[]] 197) = W1 := ⟨_, rfl⟩
  have s1 : W1.heap.size = Y + 1 := by rw [← hW1, ← hYs]; simp
  rw [hW1] at b1 k1
  rw [hYs] at k1
  have cb : W.cell? ⟨Bn, 0, none⟩ = some (.pointer (some ⟨B, 0, none⟩)) := by
    rw [cell_of_row _ _ _ _ _ _ hBW]; rfl
  have b2 := below1 W1 (.cells #[.pointer (some ⟨B, 0, none⟩)] 31)
  have k2 := heap_alloc_new W1 (.cells #[.pointer (some ⟨B, 0, none⟩)] 31)
  have k1' := (b2.block _ (block_lt k1)).trans k1
  have hR2 := (hRW.below b1).below b2
  obtain ⟨W2, hW2⟩ : ∃ W2, W1.alloc (.cells #[.pointer (some ⟨B, 0, none⟩)] 31) = W2 := ⟨_, rfl⟩
  have s2 : W2.heap.size = Y + 1 + 1 := by rw [← hW2]; simp [s1]
  rw [hW2] at b2 k2 k1' hR2
  rw [s1] at k2
  have hM := hR2.lt.2
  have hseq := updates_tells (k - 1) (by omega) (Y + 1) B M n r W2 k2 hR2
  have hJ2 : J [] W2 := by rw [← hW2]; exact hJ.alloc _ (by rw [← hW1]; exact hJ.alloc _ h0)
  have HU := Lib.hid (updates_any (some ⟨B, 0, none⟩) W1)
  have HY := Lib.hid hY
  have HJ := Lib.hid hJ
  have HJx := Lib.hid hJx
  have HW1 := Lib.hid hW1
  have HW2 := Lib.hid hW2
  have HYs := Lib.hid hYs
  have HS1 := Lib.hid s1
  have HS2 := Lib.hid s2
  have HK1 := Lib.hid k1'
  have HSeq := Lib.hid hseq
  have HJ2 := Lib.hid hJ2
  have HM := Lib.hid hM
  have hk1 : 1 ≤ k := by omega
  clear hR hBn hJx hY hJ h0 hW hRW hBW b1 k1 hYs hW1 s1 b2 k2 k1' hR2 hW2 s2 hseq hJ2 hM
  refine callsIn_of_wp_marks Tryz.func134 rfl trivial ?_ rfl
  simp only [Tryz.ntmps134, List.size_toArray, List.length_cons, List.length_nil, Nat.reduceAdd, Nat.reduceSub, Array.replicate_succ, Array.replicate_zero, List.push_toArray, List.append_toArray, List.nil_append, List.cons_append]
  gi_wp2_with fail
  rw [HW1.out, HYs.out]
  refine ⟨trivial, (callsIn_wide.2 HU.out).mono ?_⟩
  rintro e w' ⟨rfl, rfl⟩
  rw [HW2.out, HS1.out]
  clear cb
  gi_wp2
  refine wpIn_range_o rfl hk1 (gf := 133) (lb := #[.pointer (some ⟨Y + 1, 0, none⟩)]) (by simp [go_sem]) trivial (enters_of Tryz.func133 (by kernel_rfl) rfl) HSeq.out kpT_t (fun W o' o h => kpT_b (by have := HM.out; omega) W o' o h) (Below.refl _ _) (fun _ => rfl)
    (fun pre Wc => J (livesL pre) Wc ∧ KpT M W2 Wc)
    (fun c pre Wc => c = .ret ∧ Jx (livesL pre) Wc)
    (OwnFrom.and (ownFrom_upto (fun s A C row hs hg hr => HJ.out _ A C row hs hg hr) (by have := HS2.out; have := HYs.out; omega)) (kpT_own W2 HM.out))
    (fun c s A C row hs hg hr => ⟨hs.1, ownFrom_upto HJx.out (B' := W2.heap.size) (by have := HS2.out; have := HYs.out; omega) _ A C row hs.2 hg hr⟩)
    ⟨HJ2.out, kpT_below (Below.refl _ _) HM.out⟩
    (upAx (liveMk l Bn Y B (.func (.func 133) #[] #[.pointer (some ⟨Y + 1, 0, none⟩)])))
    (upAx_own _ _) ?assign ?body ?done ?stop
  case assign =>
    rintro l2 pre x Wc K ⟨hj, hkp⟩ _ hK
    unfold upEncs
    have hb := below1 Wc (.cells #[.int .i64 x.node, .int .u32 (x.inc : Int), .int .i64 x.st] 63)
    have hn := heap_alloc_new Wc (.cells #[.int .i64 x.node, .int .u32 (x.inc : Int), .int .i64 x.st] 63)
    have hJ3 := HJ.out.alloc (.cells #[.int .i64 x.node, .int .u32 (x.inc : Int), .int .i64 x.st] 63) hj
    have hk3 := kpT_below hb (Nat.lt_of_lt_of_le HM.out hkp.1)
    have H := Lib.hid (And.intro hb (And.intro hn (And.intro hJ3 hk3)))
    have HKP := Lib.hid hkp
    have HKK := Lib.hid hK
    clear hb hn hJ3 hk3 hkp hj hK
    gi_wp2
    exact HKK.out _ _ (keepsFrom_below H.out.1) H.out.2.2.2 ⟨H.out.2.2.1, kpT_t HKP.out H.out.2.2.2⟩ ⟨_, H.out.2.1, rfl⟩
  case body =>
    rintro l2 pre x a' Wc hl ⟨r0, hr0⟩ ⟨hj, hkp⟩ ⟨Bx, hx, rfl⟩ hlt
    have HKP := Lib.hid hkp
    have hyb := hkp.2.2 _ _ _ _ HK1.out (.inr (.inr rfl))
    obtain ⟨c0, c1, c2⟩ := blk3 hx
    obtain ⟨lv, hlv⟩ : ∃ b, x.lives = b := ⟨_, rfl⟩
    have HLv := Lib.hid (lives_any x Wc lv hlv)
    have HLV := Lib.hid hlv
    have HJc := Lib.hid hj
    have HX := Lib.hid hx
    have HYb := Lib.hid hyb
    have HLen := Lib.hid (show (livesL pre).length < 8 from Nat.lt_of_le_of_lt (livesL_len pre) hlt)
    unfold liveMk
    clear hkp hyb hlv hj hx hlt hr0
    gi_wp2_with fail
    refine ⟨trivial, (fun h => (by cases h)), (CallsIn.inRound l2 (callsIn_wide.2 HLv.out)).mono ?_⟩
    rintro e w3 ⟨rfl, hb3⟩
    have HB3 := Lib.hid hb3
    have HKF := Lib.hid (keepsFrom_below (B := W2.heap.size) hb3)
    have HK3 := Lib.hid (kpT_below hb3 (Nat.lt_of_lt_of_le HM.out HKP.out.1))
    have hj3 : J (livesL pre) w3 := HJ.out _ Wc w3 none HJc.out ⟨hb3.os, hb3.tape, hb3.output, hb3.size, fun k hk _ => hb3.block k hk⟩ (fun r e => by cases e)
    have hx3 := (hb3.block _ (block_lt HX.out)).trans HX.out
    have hy3 := (hb3.block _ (block_lt HYb.out)).trans HYb.out
    have HJ3 := Lib.hid hj3
    clear hb3 hj3 c0 c1 c2 HLv
    cases lv with
    | false =>
      clear hx3 hy3
      gi_wp2
      refine ⟨fun _ h => (by cases h), ?_⟩
      gi_wp2
      refine ⟨HKF.out, HK3.out, ?_, kpT_t HKP.out HK3.out⟩
      rw [livesL_no _ HLV.out]
      exact HJ3.out
    | true =>
      obtain ⟨c0, c1, c2⟩ := blk3 hx3
      have cy : w3.cell? ⟨Y, 0, none⟩ = some (.func (.yield l) #[] #[]) := by rw [cell_of_row _ _ _ _ _ _ hy3]; rfl
      obtain ⟨fn, tmps, assign, body, hy, hRd⟩ := HY.out (livesL pre) x.node w3 HJ3.out trivial HLen.out
      simp only [intEncs] at hy
      have HRd := Lib.hid (fun m => roundIn_in l2 (roundIn_depth (m' := m) rfl hRd))
      clear hx3 hy3 hRd
      gi_wp2
      refine ⟨(fun h => (by cases h)), (HRd.out _).mono ?_⟩
      rintro e w4 ⟨hkf4, (⟨rfl, hJ4, hk4⟩ | ⟨rfl, hJx4⟩)⟩
      · have HF := Lib.hid (HKF.out.trans (keepsFrom_upto hkf4 (B' := W2.heap.size) (by have := HS2.out; have := HYs.out; omega)))
        have H4 := Lib.hid (kpT_t HK3.out hk4)
        have HJ4 := Lib.hid hJ4
        clear hkf4 hJ4 hk4 hy
        gi_wp2
        refine ⟨HF.out, H4.out, ?_, kpT_t HKP.out H4.out⟩
        rw [livesL_yes _ HLV.out]
        exact HJ4.out
      · have HF := Lib.hid (HKF.out.trans (keepsFrom_upto hkf4 (B' := W2.heap.size) (by have := HS2.out; have := HYs.out; omega)))
        have HJ4 := Lib.hid hJx4
        clear hkf4 hJx4 hy
        gi_wp2
        refine ⟨HF.out, rfl, ?_⟩
        rw [livesL_yes _ HLV.out]
        exact HJ4.out
  case done =>
    rintro D ys Wc hD hS ⟨hj, hkp⟩ hK
    have hDl : D < Wc.heap.size := (Array.getElem?_eq_some_iff.1 hK).1
    have HJc := Lib.hid hj
    have HD := Lib.hid hD
    have HSS := Lib.hid hS
    clear hj hkp hS hD
    gi_wp2
    refine ⟨by simp, .inl ⟨_, _, rfl, run_takeDeferred hK, ?_⟩⟩
    refine ⟨_, results_none rfl _ _ _, ⟨_, rfl⟩, .inl ⟨_, rfl, ?_⟩⟩
    rw [← HSS.out]
    exact HJ.out.putObj _ HJc.out (by have := HD.out; have := HS2.out; have := HYs.out; omega) hK rfl
  case stop =>
    rintro D c pre Wc hD _ ⟨rfl, hj⟩ hK
    have hDl : D < Wc.heap.size := (Array.getElem?_eq_some_iff.1 hK).1
    have HJc := Lib.hid hj
    have HD := Lib.hid hD
    clear hj hD
    gi_wp2
    refine ⟨by simp, .inl ⟨_, _, rfl, run_takeDeferred hK, ?_⟩⟩
    refine ⟨_, results_none rfl _ _ _, ⟨_, rfl⟩, .inr ⟨livesL pre, trivial, ?_⟩⟩
    exact HJx.out.putObj _ HJc.out (by have := HD.out; have := HS2.out; have := HYs.out; omega) hK rfl
end Go.Proofs.YtaicipldjmngaaaGreatDoor.ro

namespace Go.Proofs.YtaicipldjmngaaaGreatDoor.ro
open Go.RowKit Go.Shelf Go.Rel Go.Maps
set_option linter.unusedSimpArgs false
set_option linter.unusedVariables false
attribute [local go_sem] Oper.semAt_some
theorem cell3_new (w : World) (x y z : Value) (t : TypeId) (j : Nat) (u : Value) (h : [x, y, z][j]? = some u) : (w.alloc (.cells #[x, y, z] t)).cell? ((⟨w.heap.size, 0, none⟩ : Addr).add j) = some u := by
  rw [plain_add, Nat.zero_add, cell_of_row _ w.heap.size j _ _ (0, 0) (heap_alloc_new w _)]
  simpa using h
theorem kpT_appended {M : Nat} {W w1 : World} {base X : Nat} {t e : TypeId} {size k : Nat} {v v' u : Value} {xs : List Value} {tmp : Obj} (hM : M < W.heap.size) (hMc : ∀ cur t f, W.heap[M]? ≠ some (.cells cur t f)) (hv : Boxed W X t u) (hv1 : Boxed w1 X t u) (ht : ¬ (t = 31 ∨ t = 153 ∨ t = 197)) (he : ¬ (e = 31 ∨ e = 153 ∨ e = 197))
    (hrow : W.ownsRow base e size v k xs) (hg : (W.alloc tmp).grownBy w1 v.ownBlock) : KpT M W (w1.setCell ⟨X, 0, none⟩ v') := by
  have hXM : X ≠ M := fun e => hMc _ _ _ (e ▸ hv)
  have k1 : KpT M W (W.alloc tmp) := kpT_below (below1 W tmp) hM
  have k2 : KpT M (W.alloc tmp) w1 := kpT_grown hg (by simp; omega) (fun r hr => by
    rcases hrow.2 with ⟨rfl, _⟩ | ⟨g, cap, cur, rfl, _, hh, _⟩
    · cases hr
    · have hgr : g = r := by simpa [Value.ownBlock] using hr
      subst hgr
      have hh' := (heap_alloc_old W tmp (block_lt hh)).trans hh
      refine ⟨fun e => hMc _ _ _ (e ▸ hh), fun cur2 t2 f2 h2 => ?_⟩
      rw [hh'] at h2
      cases h2
      exact he)
  have k3 : KpT M w1 (w1.setCell ⟨X, 0, none⟩ v') := kpT_grown (grownBy_setCell' w1 X v') (Nat.lt_of_lt_of_le (by simp; omega) k2.1) (fun r hr => by
    cases hr
    refine ⟨hXM, fun cur2 t2 f2 h2 => ?_⟩
    rw [show w1.heap[X]? = _ from hv1] at h2
    cases h2
    exact ht)
  exact kpT_t k1 (kpT_t k2 k3)
def listMk (B X : Nat) (fv : Value) (x : Up) (Bx : Nat) : Act := { tmps := #[.pointer (some ⟨B, 0, none⟩), undef, .slice none 0 0, .pointer (some ⟨X, 0, none⟩), .pointer (some ⟨Bx, 0, none⟩), .pointer (some ⟨B, 0, none⟩), .bool true, .bool false, .pointer (some ⟨B, 0, none⟩), fv, .agg #[.int .i64 x.node, .int .u32 (x.inc : Int), .int .i64 x.st], undef, undef, undef, undef, undef], defers := [] }
def UpsNew (w : World) (j : List Up) (e : Ending) (w' : World) : Prop := ∃ A c, e = .returned (.slice A j.length c) ∧ upRow w' w.heap.size (.slice A j.length c) j ∧ Below w.heap.size w w'
set_option maxHeartbeats 4000000 in
set_option maxRecDepth 100000 in
theorem list_new {B M n : Nat} {r : Ro} (w : World) (hR : RlAt w B M r n) :
    Calls Tryz.prog 52 #[.pointer (some ⟨B, 0, none⟩)] w (UpsNew w (listTo r.T 8)) := by
  refine (callsIn_wide (n := 4)).1 ?_
  obtain ⟨i0, hi, hz0, hz1, hz2⟩ := info_parts up_info
  have HMd := Lib.hid (made_yes w hR)
  obtain ⟨X, hX⟩ : ∃ X, w.heap.size = X := ⟨_, rfl⟩
  have b1 := below1 w (.cells #[.slice none 0 0] 43)
  have k1 := Boxed.new w 43 (.slice none 0 0)
  obtain ⟨W1, hW1⟩ : ∃ W1, w.alloc (.cells #[.slice none 0 0] 43) = W1 := ⟨_, rfl⟩
  have s1 : W1.heap.size = X + 1 := by rw [← hW1, ← hX]; simp
  rw [hW1] at b1 k1
  rw [hX] at k1
  have b2 := below1 W1 (.cells #[.pointer (some ⟨B, 0, none⟩)] 31)
  have k2 := heap_alloc_new W1 (.cells #[.pointer (some ⟨B, 0, none⟩)] 31)
  have k1' := k1.alloc (.cells #[.pointer (some ⟨B, 0, none⟩)] 31)
  have hR2 := (hR.below b1).below b2
  obtain ⟨W2, hW2⟩ : ∃ W2, W1.alloc (.cells #[.pointer (some ⟨B, 0, none⟩)] 31) = W2 := ⟨_, rfl⟩
  have s2 : W2.heap.size = X + 1 + 1 := by rw [← hW2]; simp [s1]
  rw [hW2] at b2 k2 k1' hR2
  rw [s1] at k2
  have hseq := updates_tells 3 (by omega) (X + 1) B M n r W2 k2 hR2
  have HB2 := Lib.hid (b1.trans (b2.mono b1.size))
  have HU := Lib.hid (updates_any (some ⟨B, 0, none⟩) W1)
  have HW1 := Lib.hid hW1
  have HW2 := Lib.hid hW2
  have HX := Lib.hid hX
  have HS1 := Lib.hid s1
  have HS2 := Lib.hid s2
  have HK1 := Lib.hid k1'
  have HSeq := Lib.hid hseq
  have HR2 := Lib.hid hR2
  clear hR hX b1 k1 hW1 s1 b2 k2 k1' hR2 hW2 s2 hseq
  refine callsIn_of_wp_marks Tryz.func52 rfl trivial ?_ rfl
  simp only [Tryz.ntmps52, List.size_toArray, List.length_cons, List.length_nil, Nat.reduceAdd, Nat.reduceSub, Array.replicate_succ, Array.replicate_zero, List.push_toArray, List.append_toArray, List.nil_append, List.cons_append]
  gi_wp2_with fail
  refine ⟨trivial, (callsIn_wide.2 HMd.out).mono ?_⟩
  rintro e w' ⟨rfl, rfl⟩
  clear HMd
  gi_wp2_with fail
  rw [HW1.out, HX.out]
  refine ⟨trivial, (callsIn_wide.2 HU.out).mono ?_⟩
  rintro e w' ⟨rfl, rfl⟩
  rw [HW2.out, HS1.out]
  gi_wp2
  refine wpIn_range_o rfl (by omega) (gf := 133) (lb := #[.pointer (some ⟨X + 1, 0, none⟩)]) (by simp [go_sem]) trivial (enters_of Tryz.func133 (by kernel_rfl) rfl) HSeq.out kpT_t (fun W o' o h => kpT_b (by have := HR2.out.lt.2; omega) W o' o h) (Below.refl _ _) (fun _ => rfl)
    (fun pre Wc => ((∃ v, Boxed Wc X 43 v ∧ Wc.ownsRow w.heap.size 63 3 v pre.length (upsC pre) ∧ True) ∧ KpT M W2 Wc) ∧ Below w.heap.size w Wc)
    (fun _ _ _ => False)
    (OwnFrom.and (OwnFrom.and (Own.from (holdsRow_own w.heap.size X 43 63 3 (fun pre : List Up => pre.length) (fun pre => upsC pre) (fun _ _ => True)) _) (kpT_own W2 HR2.out.lt.2)) (ownFrom_below (Nat.le_refl _) (by have := HS2.out; have := HX.out; omega)))
    (fun _ _ _ _ _ hs _ _ => hs)
    ⟨⟨⟨_, HK1.out, World.ownsRow_nil _ _ _ _, trivial⟩, kpT_below (Below.refl _ _) HR2.out.lt.2⟩, HB2.out⟩
    (upAx (listMk B X (.func (.func 133) #[] #[.pointer (some ⟨X + 1, 0, none⟩)])))
    (upAx_own _ _) ?assign ?body ?done ?stop
  case assign =>
    rintro l2 pre x Wc K ⟨⟨⟨v, hv, hrow, _⟩, hkp⟩, hB⟩ _ hK
    unfold upEncs
    have hb := below1 Wc (.cells #[.int .i64 x.node, .int .u32 (x.inc : Int), .int .i64 x.st] 63)
    have hn := heap_alloc_new Wc (.cells #[.int .i64 x.node, .int .u32 (x.inc : Int), .int .i64 x.st] 63)
    have hk3 := kpT_below hb (Nat.lt_of_lt_of_le HR2.out.lt.2 hkp.1)
    have H := Lib.hid (And.intro hb (And.intro hn hk3))
    have HKP := Lib.hid hkp
    have HKK := Lib.hid hK
    have HV := Lib.hid hv
    have HRow := Lib.hid hrow
    have HBB := Lib.hid hB
    clear hb hn hk3 hkp hK hv hrow hB
    gi_wp2
    exact HKK.out _ _ (keepsFrom_below H.out.1) H.out.2.2 ⟨⟨⟨v, HV.out.alloc _, HRow.out.alloc _, trivial⟩, kpT_t HKP.out H.out.2.2⟩, HBB.out.alloc HBB.out.size _⟩ ⟨_, H.out.2.1, rfl⟩
  case body =>
    rintro l2 pre x a' W hl ⟨r0, hr0⟩ ⟨⟨⟨v, hv, hrow, _⟩, hkp⟩, hB⟩ ⟨Bx, hx, rfl⟩ hlt
    have hcL := hv.cell
    obtain ⟨c0, c1, c2⟩ := blk3 hx
    have hBsz := hB.size
    have HRow := Lib.hid hrow
    have HV := Lib.hid hv
    have HKP := Lib.hid hkp
    have HBB := Lib.hid hB
    unfold listMk
    clear hrow hv hkp hB hr0 hx
    gi_wp2_with (gi_at_builtin; refine wpListIn_append_own _ rfl _ _ 43 rfl w.heap.size 63 i0 (.agg #[.int .i64 0, .int .u32 0, .int .i64 0]) 3 24 Tryz.underlying43 hi hz0 hz1 hz2 rfl (by decide) _ _ _ rfl (HRow.out.alloc _) ⟨W.heap.size, 0, none⟩ 1 1 [.int .i64 x.node, .int .u32 (x.inc : Int), .int .i64 x.st] rfl rfl (cell3_new _ _ _ _ _) (by simp [Value.oneCell']) (by unfold maxLen; omega) (by omega) (by simp; omega) ?_; intro v' w1 hown' hgrow _; obtain ⟨g', cap', rfl⟩ := ownsRow_succ hown'; obtain ⟨hv1, hv2, hr2, hk2, hb2⟩ := HV.out.appended (by decide) HRow.out hBsz (by have := HX.out; omega) hown' hgrow; have hc1 := hv1.cell; have hf1 := hv1.frozen; have HV1 := Lib.hid hv1; have HV2 := Lib.hid hv2; have HR2' := Lib.hid hr2; have HK2 := Lib.hid hk2; have HB2' := Lib.hid hb2; have HG := Lib.hid hgrow; clear hv1 hv2 hr2 hk2 hb2 hgrow hown')
    have hMW : M < W.heap.size := Nat.lt_of_lt_of_le HR2.out.lt.2 HKP.out.1
    have hkk : KpT M W (w1.setCell ⟨X, 0, none⟩ (.slice (some ⟨g', 0, none⟩) (pre.length + 1) cap')) := kpT_appended hMW (fun cur t f h => HR2.out.map.not_cells (by rw [← HKP.out.2.1]; exact h)) HV.out HV1.out (by decide) (by decide) HRow.out HG.out
    refine ⟨HK2.out.from _, hkk, ⟨⟨_, HV2.out, ?_, trivial⟩, kpT_t HKP.out hkk⟩, HBB.out.trans HB2'.out⟩
    have := HR2'.out
    rw [List.length_append, upsC_append]
    simpa [upsC, upC] using this
  case done =>
    rintro D ys Wc hD hS ⟨⟨⟨v, hv, hrow, _⟩, hkp⟩, hB⟩ hK
    have HSS := Lib.hid hS
    have hrow' : upRow (Wc.putObj D (.deferred none)) w.heap.size v ys := ownsRow_putObj hrow (.deferred none) hK rfl
    obtain ⟨A4, c4, rfl, hS4, hn4, hm4⟩ := SUp.of_row hrow'
    have hcL := hv.cell
    have HD : Hid (Below w.heap.size w (Wc.putObj D (.deferred none))) := Lib.hid (hB.trans (belowK_b (w := w) (Nat.le_refl _) Wc D _ _ (by have := HS2.out; have := HX.out; omega) hK rfl rfl))
    have HS4 := Lib.hid hrow'
    clear hS4 hn4 hm4 hrow' hrow hB hkp hv hS
    gi_wp2
    refine ⟨by simp, .inl ⟨_, _, rfl, run_takeDeferred hK, ?_⟩⟩
    exact ⟨_, results_tmp rfl _ _ _, A4, c4, by rw [← HSS.out]; rfl, by rw [← HSS.out]; exact HS4.out, HD.out⟩
  case stop =>
    rintro D c' pre W _ _ h _
    exact h.elim
end Go.Proofs.YtaicipldjmngaaaGreatDoor.ro
