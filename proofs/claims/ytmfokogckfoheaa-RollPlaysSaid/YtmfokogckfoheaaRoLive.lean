/-
  live$1: the iterator over those that live, over the iterator over all (layer 9).
-/
import Derived.Test.YtmfokogckfoheaaRoIter
namespace Go.Proofs.Ytmfokogckfoheaa
open Go.RowKit Go.Shelf Go.Rel Go.Maps
set_option linter.unusedSimpArgs false
set_option linter.unusedVariables false
attribute [local go_sem] Oper.semAt_some

def intEncs (z : Int) : Array Value := #[.int .i64 z]
/-- The nodes that live. -/
def livesL (l : List Up) : List Int := (l.filter Up.lives).map Up.node
theorem livesL_yes {x : Up} (l : List Up) (h : x.lives = true) : livesL (l ++ [x]) = livesL l ++ [x.node] := by simp [livesL, h]
theorem livesL_no {x : Up} (l : List Up) (h : x.lives = false) : livesL (l ++ [x]) = livesL l := by simp [livesL, h]
theorem livesL_len (l : List Up) : (livesL l).length ≤ l.length := by
  unfold livesL
  rw [List.length_map]
  exact List.length_filter_le _ _
theorem keepsFrom_below {B : Nat} {W W' : World} (h : Below W.heap.size W W') : KeepsFrom B W W' := ⟨h.size, fun k o _ hk _ => (h.block k (block_lt hk)).trans hk⟩
theorem kpT_own {β : Type} {M : Nat} (w : World) (hM : M < w.heap.size) : OwnFrom w.heap.size (fun (_ : β) W => KpT M w W) := fun _ A C row hs hg hr =>
  kpT_t hs (kpT_grown hg (Nat.lt_of_lt_of_le hM hs.1) (fun r e => by
    obtain ⟨h1, o, ho, hc⟩ := hr r e
    refine ⟨by omega, fun cur t f h => ?_⟩
    rw [ho] at h
    cases h
    cases hc))
/-- What a round's frame knows of its update. -/
def upAx (mk : Up → Nat → Act) (x : Up) (a : Act) (W : World) : Prop := ∃ Bx, W.heap[Bx]? = some (.cells #[.int .i64 x.node, .int .u32 (x.inc : Int), .int .i64 x.st] 32 (0, 0)) ∧ a = mk x Bx
theorem upAx_own (B : Nat) (mk : Up → Nat → Act) (x : Up) (a : Act) : OwnFrom B (fun (_ : Unit) W => upAx mk x a W) := fun _ _ _ _ ⟨Bx, h, e⟩ hg hr =>
  ⟨Bx, (grownBy_keeps_cells hg (fun r e => (hr r e).2) h rfl).trans h, e⟩
theorem roundIn_in {F : Fence} {m : Nat} {P : Program} {l : Nat} {f : FuncId} {tmps : Array Value} {assign body : Code} {w : World} {R : Ending → World → Prop} (l2 : Nat) (h : RoundIn F m P l f tmps assign body w R) : RoundIn (F.inRound l2) m P l f tmps assign body w R := h
def liveMk (l Bn Y B : Nat) (fv : Value) (x : Up) (Bx : Nat) : Act := { tmps := #[.func (.yield l) #[] #[], .pointer (some ⟨Bn, 0, none⟩), .pointer (some ⟨Y, 0, none⟩), .pointer (some ⟨Bx, 0, none⟩), .pointer (some ⟨B, 0, none⟩), fv, .agg #[.int .i64 x.node, .int .u32 (x.inc : Int), .int .i64 x.st], undef, undef, undef, undef, undef, undef, undef, undef, undef], defers := [] }
set_option maxHeartbeats 4000000 in
set_option maxRecDepth 100000 in
theorem live_tells (k : Nat) (hk : 3 ≤ k) (Bn B M n : Nat) (r : Ro) (w : World) (hBn : w.heap[Bn]? = some (.cells #[.pointer (some ⟨B, 0, none⟩)] 24 (0, 0))) (hR : RlAt w B M r n) :
    SeqO Fence.wide k Try.prog 41 #[.pointer (some ⟨Bn, 0, none⟩)] intEncs (fun _ _ => True) (KpT M) (fun xs => xs = livesL (listTo r.T 8)) (fun _ => True) 8 w := fun l J Jx W hW hJ hJx hY h0 => by
  have hRW := hR.below hW
  have hBW := (hW.block _ (block_lt hBn)).trans hBn
  have hBnW := block_lt hBW
  obtain ⟨Y, hYs⟩ : ∃ Y, W.heap.size = Y := ⟨_, rfl⟩
  have b1 := below1 W (.cells #[.func (.yield l) #[] #[]] 84)
  have k1 := heap_alloc_new W (.cells #[.func (.yield l) #[] #[]] 84)
  obtain ⟨W1, hW1⟩ : ∃ W1, W.alloc (.cells #[.func (.yield l) #[] #[]] 84) = W1 := ⟨_, rfl⟩
  have s1 : W1.heap.size = Y + 1 := by rw [← hW1, ← hYs]; simp
  rw [hW1] at b1 k1
  rw [hYs] at k1
  have cb : W.cell? ⟨Bn, 0, none⟩ = some (.pointer (some ⟨B, 0, none⟩)) := by
    rw [cell_of_row _ _ _ _ _ _ hBW]; rfl
  have b2 := below1 W1 (.cells #[.pointer (some ⟨B, 0, none⟩)] 24)
  have k2 := heap_alloc_new W1 (.cells #[.pointer (some ⟨B, 0, none⟩)] 24)
  have k1' := (b2.block _ (block_lt k1)).trans k1
  have hR2 := (hRW.below b1).below b2
  obtain ⟨W2, hW2⟩ : ∃ W2, W1.alloc (.cells #[.pointer (some ⟨B, 0, none⟩)] 24) = W2 := ⟨_, rfl⟩
  have s2 : W2.heap.size = Y + 1 + 1 := by rw [← hW2]; simp [s1]
  rw [hW2] at b2 k2 k1' hR2
  rw [s1] at k2
  have hM := hR2.lt.2
  have hseq := updates_tells (k - 1) (by omega) (Y + 1) B M n r W2 k2 hR2
  have hJ2 : J [] W2 := by rw [← hW2]; exact hJ.alloc _ (by rw [← hW1]; exact hJ.alloc _ h0)
  have HU := Lib.hid (updates_any (some ⟨B, 0, none⟩) W1)
  have HY := Lib.hid hY
  have HJ := Lib.hid hJ
  have HJx := Lib.hid hJx
  have HW1 := Lib.hid hW1
  have HW2 := Lib.hid hW2
  have HYs := Lib.hid hYs
  have HS1 := Lib.hid s1
  have HS2 := Lib.hid s2
  have HK1 := Lib.hid k1'
  have HSeq := Lib.hid hseq
  have HJ2 := Lib.hid hJ2
  have HM := Lib.hid hM
  have hk1 : 1 ≤ k := by omega
  clear hR hBn hJx hY hJ h0 hW hRW hBW b1 k1 hYs hW1 s1 b2 k2 k1' hR2 hW2 s2 hseq hJ2 hM
  refine callsIn_of_wp_marks Try.func41 rfl trivial ?_ rfl
  simp only [Try.ntmps41, List.size_toArray, List.length_cons, List.length_nil, Nat.reduceAdd, Nat.reduceSub, Array.replicate_succ, Array.replicate_zero, List.push_toArray, List.append_toArray, List.nil_append, List.cons_append]
  gi_wp2_with fail
  rw [HW1.out, HYs.out]
  refine ⟨trivial, (callsIn_wide.2 HU.out).mono ?_⟩
  rintro e w' ⟨rfl, rfl⟩
  rw [HW2.out, HS1.out]
  clear cb
  gi_wp2
  refine wpIn_range_o rfl hk1 (gf := 40) (lb := #[.pointer (some ⟨Y + 1, 0, none⟩)]) (by simp [go_sem]) trivial (enters_of Try.func40 (by kernel_rfl) rfl) HSeq.out kpT_t (fun W o' o h => kpT_b (by have := HM.out; omega) W o' o h) (Below.refl _ _) (fun _ => rfl)
    (fun pre Wc => J (livesL pre) Wc ∧ KpT M W2 Wc)
    (fun c pre Wc => c = .ret ∧ Jx (livesL pre) Wc)
    (OwnFrom.and (ownFrom_upto (fun s A C row hs hg hr => HJ.out _ A C row hs hg hr) (by have := HS2.out; have := HYs.out; omega)) (kpT_own W2 HM.out))
    (fun c s A C row hs hg hr => ⟨hs.1, ownFrom_upto HJx.out (B' := W2.heap.size) (by have := HS2.out; have := HYs.out; omega) _ A C row hs.2 hg hr⟩)
    ⟨HJ2.out, kpT_below (Below.refl _ _) HM.out⟩
    (upAx (liveMk l Bn Y B (.func (.func 40) #[] #[.pointer (some ⟨Y + 1, 0, none⟩)])))
    (upAx_own _ _) ?assign ?body ?done ?stop
  case assign =>
    rintro l2 pre x Wc K ⟨hj, hkp⟩ _ hK
    unfold upEncs
    have hb := below1 Wc (.cells #[.int .i64 x.node, .int .u32 (x.inc : Int), .int .i64 x.st] 32)
    have hn := heap_alloc_new Wc (.cells #[.int .i64 x.node, .int .u32 (x.inc : Int), .int .i64 x.st] 32)
    have hJ3 := HJ.out.alloc (.cells #[.int .i64 x.node, .int .u32 (x.inc : Int), .int .i64 x.st] 32) hj
    have hk3 := kpT_below hb (Nat.lt_of_lt_of_le HM.out hkp.1)
    have H := Lib.hid (And.intro hb (And.intro hn (And.intro hJ3 hk3)))
    have HKP := Lib.hid hkp
    have HKK := Lib.hid hK
    clear hb hn hJ3 hk3 hkp hj hK
    gi_wp2
    exact HKK.out _ _ (keepsFrom_below H.out.1) H.out.2.2.2 ⟨H.out.2.2.1, kpT_t HKP.out H.out.2.2.2⟩ ⟨_, H.out.2.1, rfl⟩
  case body =>
    rintro l2 pre x a' Wc hl ⟨r0, hr0⟩ ⟨hj, hkp⟩ ⟨Bx, hx, rfl⟩ hlt
    have HKP := Lib.hid hkp
    have hyb := hkp.2.2 _ _ _ _ HK1.out (.inr (.inr rfl))
    obtain ⟨c0, c1, c2⟩ := blk3 hx
    obtain ⟨lv, hlv⟩ : ∃ b, x.lives = b := ⟨_, rfl⟩
    have HLv := Lib.hid (lives_any x Wc lv hlv)
    have HLV := Lib.hid hlv
    have HJc := Lib.hid hj
    have HX := Lib.hid hx
    have HYb := Lib.hid hyb
    have HLen := Lib.hid (show (livesL pre).length < 8 from Nat.lt_of_le_of_lt (livesL_len pre) hlt)
    unfold liveMk
    clear hkp hyb hlv hj hx hlt hr0
    gi_wp2_with fail
    refine ⟨trivial, (fun h => (by cases h)), (CallsIn.inRound l2 (callsIn_wide.2 HLv.out)).mono ?_⟩
    rintro e w3 ⟨rfl, hb3⟩
    have HB3 := Lib.hid hb3
    have HKF := Lib.hid (keepsFrom_below (B := W2.heap.size) hb3)
    have HK3 := Lib.hid (kpT_below hb3 (Nat.lt_of_lt_of_le HM.out HKP.out.1))
    have hj3 : J (livesL pre) w3 := HJ.out _ Wc w3 none HJc.out ⟨hb3.os, hb3.tape, hb3.output, hb3.size, fun k hk _ => hb3.block k hk⟩ (fun r e => by cases e)
    have hx3 := (hb3.block _ (block_lt HX.out)).trans HX.out
    have hy3 := (hb3.block _ (block_lt HYb.out)).trans HYb.out
    have HJ3 := Lib.hid hj3
    clear hb3 hj3 c0 c1 c2 HLv
    cases lv with
    | false =>
      clear hx3 hy3
      gi_wp2
      refine ⟨fun _ h => (by cases h), ?_⟩
      gi_wp2
      refine ⟨HKF.out, HK3.out, ?_, kpT_t HKP.out HK3.out⟩
      rw [livesL_no _ HLV.out]
      exact HJ3.out
    | true =>
      obtain ⟨c0, c1, c2⟩ := blk3 hx3
      have cy : w3.cell? ⟨Y, 0, none⟩ = some (.func (.yield l) #[] #[]) := by rw [cell_of_row _ _ _ _ _ _ hy3]; rfl
      obtain ⟨fn, tmps, assign, body, hy, hRd⟩ := HY.out (livesL pre) x.node w3 HJ3.out trivial HLen.out
      simp only [intEncs] at hy
      have HRd := Lib.hid (fun m => roundIn_in l2 (roundIn_depth (m' := m) rfl hRd))
      clear hx3 hy3 hRd
      gi_wp2
      refine ⟨(fun h => (by cases h)), (HRd.out _).mono ?_⟩
      rintro e w4 ⟨hkf4, (⟨rfl, hJ4, hk4⟩ | ⟨rfl, hJx4⟩)⟩
      · have HF := Lib.hid (HKF.out.trans (keepsFrom_upto hkf4 (B' := W2.heap.size) (by have := HS2.out; have := HYs.out; omega)))
        have H4 := Lib.hid (kpT_t HK3.out hk4)
        have HJ4 := Lib.hid hJ4
        clear hkf4 hJ4 hk4 hy
        gi_wp2
        refine ⟨HF.out, H4.out, ?_, kpT_t HKP.out H4.out⟩
        rw [livesL_yes _ HLV.out]
        exact HJ4.out
      · have HF := Lib.hid (HKF.out.trans (keepsFrom_upto hkf4 (B' := W2.heap.size) (by have := HS2.out; have := HYs.out; omega)))
        have HJ4 := Lib.hid hJx4
        clear hkf4 hJx4 hy
        gi_wp2
        refine ⟨HF.out, rfl, ?_⟩
        rw [livesL_yes _ HLV.out]
        exact HJ4.out
  case done =>
    rintro D ys Wc hD hS ⟨hj, hkp⟩ hK
    have hDl : D < Wc.heap.size := (Array.getElem?_eq_some_iff.1 hK).1
    have HJc := Lib.hid hj
    have HD := Lib.hid hD
    have HSS := Lib.hid hS
    clear hj hkp hS hD
    gi_wp2
    refine ⟨by simp, .inl ⟨_, _, rfl, run_takeDeferred hK, ?_⟩⟩
    refine ⟨_, results_none rfl _ _ _, ⟨_, rfl⟩, .inl ⟨_, rfl, ?_⟩⟩
    rw [← HSS.out]
    exact HJ.out.putObj _ HJc.out (by have := HD.out; have := HS2.out; have := HYs.out; omega) hK rfl
  case stop =>
    rintro D c pre Wc hD _ ⟨rfl, hj⟩ hK
    have hDl : D < Wc.heap.size := (Array.getElem?_eq_some_iff.1 hK).1
    have HJc := Lib.hid hj
    have HD := Lib.hid hD
    clear hj hD
    gi_wp2
    refine ⟨by simp, .inl ⟨_, _, rfl, run_takeDeferred hK, ?_⟩⟩
    refine ⟨_, results_none rfl _ _ _, ⟨_, rfl⟩, .inr ⟨livesL pre, trivial, ?_⟩⟩
    exact HJx.out.putObj _ HJc.out (by have := HD.out; have := HS2.out; have := HYs.out; omega) hK rfl
end Go.Proofs.Ytmfokogckfoheaa
