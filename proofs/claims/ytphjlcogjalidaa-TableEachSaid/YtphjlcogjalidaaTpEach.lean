/-
  Each of the program's table: an iterator over keys and values, over the iterator over rows (layer 15).
-/
import Derived.Test.YtphjlcogjalidaaTpUnder
import Derived.Laws.EntriesVeiled
namespace Go.Proofs.Ytphjlcogjalidaa
open Go.RowKit Go.Shelf Go.Rel
set_option linter.unusedSimpArgs false
set_option linter.unusedVariables false
attribute [local go_sem] Oper.semAt_some

abbrev eachIt : Nat := 32
def kvEncs (x : Rw Int) : Array Value := #[.string x.key, .int .i64 x.val]
/-- What Each tells of: a function over a box that holds a function over a box that holds the rows. -/
structure EachIs (w w' : World) (u : Value) (l : List (Rw Int)) (Bb Bx : Nat) (A : Option Addr) (c : Nat) : Prop where
  val : u = .func (.func eachIt) #[] #[.pointer (some ⟨Bb, 0, none⟩)]
  fn : w'.heap[Bb]? = some (.cells #[.func (.func valIt) #[] #[.pointer (some ⟨Bx, 0, none⟩)]] 71 (0, 0))
  box : w'.heap[Bx]? = some (.cells #[.slice A l.length c] 39 (0, 0))
  row : SK trC 4 w' A l.length l
  new : w.heap.size ≤ Bx ∧ w.heap.size ≤ Bb
  old : ∀ k, RowsB A l.length k → k < w.heap.size
  below : Below w.heap.size w w'
theorem each_any {S : Nat → Prop} {w : World} {B : Nat} {A : Option Addr} {c : Nat} {t : Tb Int} (h : PtIs S w B A c t) (hmo : 1 ≤ t.most) :
    Calls Try.prog 18 #[.pointer (some ⟨B, 0, none⟩)] w fun e w' => ∃ u Bb Bx, e = .returned u ∧ EachIs w w' u t.l Bb Bx A c := by
  have HN := Lib.hid (now_is h hmo)
  have HO := Lib.hid h.row.rowsB
  clear h hmo
  go_enter Try.func18, Try.ntmps18
  go_wp2_with fail
  refine HN.out.mono ?_
  rintro e w1 ⟨v, Bx, rfl, hn⟩
  have hv := hn.val
  subst hv
  have HE : Hid (EachIs w (w1.alloc (.cells #[.func (.func valIt) #[] #[.pointer (some ⟨Bx, 0, none⟩)]] 71)) (.func (.func eachIt) #[] #[.pointer (some ⟨w1.heap.size, 0, none⟩)]) t.l w1.heap.size Bx A c) := Lib.hid (by
    have hb := below1 w1 #[.func (.func valIt) #[] #[.pointer (some ⟨Bx, 0, none⟩)]] 71
    refine ⟨rfl, ?_, (hb.block Bx (block_lt hn.box)).trans hn.box, hn.row.below hb, ⟨hn.new, hn.below.size⟩, HO.out, hn.below.trans (hb.mono hn.below.size)⟩
    rw [heap_alloc_new])
  clear hn HN
  go_wp2
  go_ret
  exact ⟨_, _, _, rfl, HE.out⟩
theorem keepsFrom_upto' {B B' : Nat} {X Y : World} (h : KeepsFrom B X Y) (hB : B ≤ B') : KeepsFrom B' X Y := ⟨h.size, fun k o hk => h.same k o (Nat.le_trans hB hk)⟩
theorem roundIn_in {F : Fence} {m : Nat} {P : Program} {l : Nat} {f : FuncId} {tmps : Array Value} {assign body : Code} {w : World} {R : Ending → World → Prop} (l2 : Nat) (h : RoundIn F m P l f tmps assign body w R) : RoundIn (F.inRound l2) m P l f tmps assign body w R := h
theorem kpD_own {β : Type} {D : Nat → Prop} (w : World) (B : Nat) : OwnFrom B (fun (_ : β) W => KpD D w W) := fun _ A C row hs hg hr => kpD_grown hs hg fun r e => (hr r e).2
def evMk (l Bb Y : Nat) (fv : Value) (x : Rw Int) (Bx : Nat) : Act := { tmps := #[.func (.yield l) #[] #[], .pointer (some ⟨Bb, 0, none⟩), .pointer (some ⟨Y, 0, none⟩), .pointer (some ⟨Bx, 0, none⟩), fv, .agg #[.string x.key, .int .i64 x.val, .int .u64 (x.made : Int), .int .u64 (x.ix : Int)], undef, undef, undef, undef, undef, undef, undef], defers := [] }
set_option maxHeartbeats 4000000 in
set_option maxRecDepth 100000 in
theorem each_tells (D : Nat → Prop) (k : Nat) (hk : 3 ≤ k) (Bb Bx c : Nat) (A : Option Addr) (l : List (Rw Int)) (w : World) (hl : l.length ≤ 1000) (hD : ∀ k, D k → k < w.heap.size) (hDr : ∀ k, RowsB A l.length k → ¬ D k)
    (hBb : w.heap[Bb]? = some (.cells #[.func (.func valIt) #[] #[.pointer (some ⟨Bx, 0, none⟩)]] 71 (0, 0))) (hBx : w.heap[Bx]? = some (.cells #[.slice A l.length c] 39 (0, 0))) (hR : SK trC 4 w A l.length l) :
    SeqP Fence.wide k Try.prog eachIt #[.pointer (some ⟨Bb, 0, none⟩)] kvEncs (nextIs l) (KpD D) (fun xs => xs = l) (fun pre => ∃ j, pre = l.take j) l.length w := fun lp J Jx W hW hJ hJx hY h0 => by
  have hBW := (hW.block _ (block_lt hBb)).trans hBb
  have cb : W.cell? ⟨Bb, 0, none⟩ = some (.func (.func valIt) #[] #[.pointer (some ⟨Bx, 0, none⟩)]) := by rw [cell_of_row _ _ _ _ _ _ hBW]; rfl
  obtain ⟨Y, hYs⟩ : ∃ Y, W.heap.size = Y := ⟨_, rfl⟩
  have b1 := below1 W #[.func (.yield lp) #[] #[]] 74
  have k1 := heap_alloc_new W (.cells #[.func (.yield lp) #[] #[]] 74)
  obtain ⟨W1, hW1⟩ : ∃ W1, W.alloc (.cells #[.func (.yield lp) #[] #[]] 74) = W1 := ⟨_, rfl⟩
  have s1 : W1.heap.size = Y + 1 := by rw [← hW1, ← hYs]; simp
  rw [hW1] at b1 k1
  rw [hYs] at k1
  have hb1 : Below w.heap.size w W1 := hW.trans (b1.mono hW.size)
  have hseq := values_tells D (k - 1) (by omega) Bx c A l W1 hl hDr ((hb1.block _ (block_lt hBx)).trans hBx) (hR.below hb1)
  have hJ1 : J [] W1 := by rw [← hW1]; exact hJ.alloc _ h0
  have hBbW := block_lt hBW
  have HDY : Hid (¬ D Y) := Lib.hid (fun e => by have := hD Y e; have := hW.size; omega)
  have HY := Lib.hid hY
  have HJ := Lib.hid hJ
  have HJx := Lib.hid hJx
  have HW1 := Lib.hid hW1
  have HYs := Lib.hid hYs
  have HS1 := Lib.hid s1
  have HK1 := Lib.hid k1
  have HSeq := Lib.hid hseq
  have HJ1 := Lib.hid hJ1
  have hk1 : 1 ≤ k := by omega
  clear hR hBb hBx hJx hY hJ h0 hW hBW b1 k1 hYs hW1 s1 hseq hJ1 hD hDr hb1
  refine callsIn_of_wp_marks Try.func32 rfl trivial ?_ rfl
  simp only [Try.ntmps32, List.size_toArray, List.length_cons, List.length_nil, Nat.reduceAdd, Nat.reduceSub, Array.replicate_succ, Array.replicate_zero, List.push_toArray, List.append_toArray, List.nil_append, List.cons_append]
  gi_wp2_with fail
  rw [HW1.out, HYs.out]
  clear cb hBbW
  refine wpIn_range_p rfl hk1 (gf := valIt) (lb := #[.pointer (some ⟨Bx, 0, none⟩)]) (by simp [go_sem]) trivial (enters_of Try.func43 (by kernel_rfl) rfl) HSeq.out kpD_t (fun W o' o h => kpD_b W o' o h) (Below.refl _ _) (fun _ => rfl)
    (fun pre Wc => J pre Wc ∧ KpD D W1 Wc)
    (fun c pre Wc => c = .ret ∧ Jx pre Wc)
    (OwnFrom.and (fun s A C row hs hg hr => ownFrom_uptoP HJ.out (B' := W1.heap.size) (by have := HS1.out; have := HYs.out; omega) _ A C row hs hg hr) (kpD_own W1 _))
    (fun c s A C row hs hg hr => ⟨hs.1, ownFrom_uptoP HJx.out (B' := W1.heap.size) (by have := HS1.out; have := HYs.out; omega) _ A C row hs.2 hg hr⟩)
    ⟨HJ1.out, ⟨Nat.le_refl _, fun _ _ _ h _ => h⟩⟩
    (rwAx l (evMk lp Bb Y (.func (.func valIt) #[] #[.pointer (some ⟨Bx, 0, none⟩)])))
    (rwAx_own _ _ _) ?assign ?body ?done ?stop
  case assign =>
    rintro l2 pre x Wc K ⟨hj, hkp⟩ hnx hK
    unfold rwEncs trV
    have hb := below1 Wc #[.string x.key, .int .i64 x.val, .int .u64 (x.made : Int), .int .u64 (x.ix : Int)] 32
    have hn := heap_alloc_new Wc (.cells #[.string x.key, .int .i64 x.val, .int .u64 (x.made : Int), .int .u64 (x.ix : Int)] 32)
    have hJ3 := HJ.out.alloc (.cells #[.string x.key, .int .i64 x.val, .int .u64 (x.made : Int), .int .u64 (x.ix : Int)] 32) hj
    have H := Lib.hid (And.intro hb (And.intro hn hJ3))
    have HKP := Lib.hid hkp
    have HKK := Lib.hid hK
    have HNx := Lib.hid hnx
    clear hb hn hJ3 hkp hj hK hnx
    gi_wp2
    exact HKK.out _ _ (keepsFrom_below H.out.1) (kpD_of H.out.1) ⟨H.out.2.2, kpD_t HKP.out (kpD_of H.out.1)⟩ ⟨HNx.out, _, H.out.2.1, rfl⟩
  case body =>
    rintro l2 pre x a' Wc hl2 ⟨r0, hr0⟩ ⟨hj, hkp⟩ ⟨hnx, Bx2, hx, rfl⟩ hlt
    have hyb := hkp.2 Y _ HDY.out HK1.out rfl
    obtain ⟨c0, c1, c2, c3⟩ := blk4 hx
    have cy : Wc.cell? ⟨Y, 0, none⟩ = some (.func (.yield lp) #[] #[]) := by rw [cell_of_row _ _ _ _ _ _ hyb]; rfl
    obtain ⟨fn, tmps, assign, body, hy, hRd⟩ := HY.out pre x Wc hj hnx hlt
    simp only [kvEncs] at hy
    have HRd := Lib.hid (fun m => roundIn_in l2 (roundIn_depthP (m' := m) rfl hRd))
    have HKP := Lib.hid hkp
    unfold evMk
    clear hkp hyb hj hx hlt hr0 hnx hRd
    gi_wp2
    refine ⟨(fun h => (by cases h)), (HRd.out _).mono ?_⟩
    rintro e w4 ⟨hkf4, (⟨rfl, hJ4, hk4⟩ | ⟨rfl, hJx4⟩)⟩
    · have HF := Lib.hid (keepsFrom_upto' hkf4 (B' := W1.heap.size) (by have := HS1.out; have := HYs.out; omega))
      have HK4 := Lib.hid hk4
      have HJ4 := Lib.hid hJ4
      clear hkf4 hJ4 hk4 hy c0 c1 c2 c3 cy
      gi_wp2
      exact ⟨HF.out, HK4.out, HJ4.out, kpD_t HKP.out HK4.out⟩
    · have HF := Lib.hid (keepsFrom_upto' hkf4 (B' := W1.heap.size) (by have := HS1.out; have := HYs.out; omega))
      have HJ4 := Lib.hid hJx4
      clear hkf4 hJx4 hy c0 c1 c2 c3 cy
      gi_wp2
      exact ⟨HF.out, rfl, HJ4.out⟩
  case done =>
    rintro Dd ys Wc hDd hS ⟨hj, hkp⟩ hK
    have hDl : Dd < Wc.heap.size := (Array.getElem?_eq_some_iff.1 hK).1
    have HJc := Lib.hid hj
    have HDd := Lib.hid hDd
    have HSS := Lib.hid hS
    clear hj hkp hS hDd
    gi_wp2
    refine ⟨by simp, .inl ⟨_, _, rfl, run_takeDeferred hK, ?_⟩⟩
    refine ⟨_, results_none rfl _ _ _, ⟨_, rfl⟩, .inl ⟨_, HSS.out, ?_⟩⟩
    exact HJ.out.putObj _ HJc.out (by have := HDd.out; have := HS1.out; have := HYs.out; omega) hK rfl
  case stop =>
    rintro Dd c pre Wc hDd hSp ⟨rfl, hj⟩ hK
    have hDl : Dd < Wc.heap.size := (Array.getElem?_eq_some_iff.1 hK).1
    have HJc := Lib.hid hj
    have HDd := Lib.hid hDd
    have HSp := Lib.hid hSp
    clear hj hDd hSp
    gi_wp2
    refine ⟨by simp, .inl ⟨_, _, rfl, run_takeDeferred hK, ?_⟩⟩
    refine ⟨_, results_none rfl _ _ _, ⟨_, rfl⟩, .inr ⟨pre, HSp.out, ?_⟩⟩
    exact HJx.out.putObj _ HJc.out (by have := HDd.out; have := HS1.out; have := HYs.out; omega) hK rfl
end Go.Proofs.Ytphjlcogjalidaa
