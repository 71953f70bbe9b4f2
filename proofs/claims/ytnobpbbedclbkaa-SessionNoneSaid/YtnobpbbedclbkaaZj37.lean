/-
  slices.AppendSeq and Collect at sessions; List, walked (layer 18).
-/
import Derived.Test.YtnobpbbedclbkaaZj36
namespace Go.Proofs.Ytnobpbbedclbkaa
open Go.RowKit Go.Shelf Go.Rel
attribute [local go_sem] Oper.semAt_some
set_option linter.unusedSimpArgs false
set_option linter.unusedVariables false

theorem map_flat (l : List (Rw Int)) : l.flatMap (fun r => snC (snR r)) = (l.map snR).flatMap snC := by rw [List.flatMap_map]
def apMkS (X : Nat) (fv : Value) (x : Rw Int) (Bx : Nat) : Act := { tmps := #[.slice none 0 0, fv, .pointer (some ⟨X, 0, none⟩), undef, .slice none 0 0, .pointer (some ⟨Bx, 0, none⟩), fv, .agg #[.int .u64 (x.made : Int), .int .i64 x.val, .int .u64 (x.made : Int), .int .u64 (x.ix : Int)], undef, undef, undef, undef, undef], defers := [] }
set_option maxHeartbeats 4000000 in
set_option maxRecDepth 100000 in
theorem append_seq_any (k : Nat) (hk : 2 ≤ k) (lb : Array Value) (l : List (Rw Int)) (hN : l.length ≤ 1000) (w : World) (hseq : SeqP Fence.wide (k - 1) Try.prog 43 lb snEncs (nextIs l) (KpD (fun k => w.heap.size ≤ k)) (fun xs => xs = l) (fun pre => ∃ j, pre = l.take j) l.length w) :
    CallsIn Fence.wide k Try.prog 44 #[.slice none 0 0, .func (.func 43) #[] lb] w fun e w' => ∃ v, e = .returned v ∧ snRow w' w.heap.size v (l.map snR) ∧ Below w.heap.size w w' := by
  obtain ⟨i0, hi, hz0, hz1, hz2⟩ := info_parts sn_info
  obtain ⟨X, hX⟩ : ∃ X, w.heap.size = X := ⟨_, rfl⟩
  have b1 := below1 w #[.slice none 0 0] 42
  have k1 := Boxed.new w 42 (.slice none 0 0)
  obtain ⟨W1, hW1⟩ : ∃ W1, w.alloc (.cells #[.slice none 0 0] 42) = W1 := ⟨_, rfl⟩
  have s1 : W1.heap.size = X + 1 := by rw [← hW1, ← hX]; simp
  rw [hW1] at b1 k1
  rw [hX] at k1
  have HB1 := Lib.hid b1
  have HW1 := Lib.hid hW1
  have HX := Lib.hid hX
  have HS1 := Lib.hid s1
  have HK1 := Lib.hid k1
  have HSeq := Lib.hid hseq
  have hk1 : 1 ≤ k := by omega
  clear hX b1 k1 hW1 s1 hseq
  refine callsIn_of_wp_marks Try.func44 rfl trivial ?_ rfl
  simp only [Try.ntmps44, List.size_toArray, List.length_cons, List.length_nil, Nat.reduceAdd, Nat.reduceSub, Array.replicate_succ, Array.replicate_zero, List.push_toArray, List.append_toArray, List.nil_append, List.cons_append]
  gi_wp2
  rw [HW1.out, HX.out]
  refine wpIn_range_p rfl hk1 (gf := 43) (lb := lb) (by simp [go_sem]) trivial (enters_of Try.func43 (by kernel_rfl) rfl) HSeq.out kpD_t (fun W o' o h => kpD_b W o' o h) HB1.out (fun _ => rfl)
    (fun pre Wc => (∃ v, Boxed Wc X 42 v ∧ Wc.ownsRow w.heap.size TSn 4 v pre.length (pre.flatMap fun r => snC (snR r)) ∧ True) ∧ Below w.heap.size w Wc)
    (fun _ _ _ => False)
    (OwnFrom.and (Own.from (holdsRow_own w.heap.size X 42 TSn 4 (fun pre : List (Rw Int) => pre.length) (fun pre => pre.flatMap fun r => snC (snR r)) (fun _ _ => True)) _) (ownFrom_below (Nat.le_refl _) (by have := HS1.out; have := HX.out; omega)))
    (fun _ _ _ _ _ hs _ _ => hs)
    ⟨⟨_, HK1.out, World.ownsRow_nil _ _ _ _, trivial⟩, HB1.out⟩
    (rwAx (fun x => #[.int .u64 (x.made : Int), .int .i64 x.val, .int .u64 (x.made : Int), .int .u64 (x.ix : Int)]) TSn l (apMkS X (.func (.func 43) #[] lb)))
    (rwAx_own _ _ _ _ _) ?assign ?body ?done ?stop
  case assign =>
    rintro l2 pre x Wc K ⟨⟨v, hv, hrow, _⟩, hB⟩ hnx hK
    unfold snEncs snV
    simp only [snOf]
    have hb := below1 Wc #[.int .u64 (x.made : Int), .int .i64 x.val, .int .u64 (x.made : Int), .int .u64 (x.ix : Int)] TSn
    have hn := heap_alloc_new Wc (.cells #[.int .u64 (x.made : Int), .int .i64 x.val, .int .u64 (x.made : Int), .int .u64 (x.ix : Int)] TSn)
    have hkk : KpD (fun k => w.heap.size ≤ k) Wc (Wc.alloc (.cells #[.int .u64 (x.made : Int), .int .i64 x.val, .int .u64 (x.made : Int), .int .u64 (x.ix : Int)] TSn)) := kpD_of hb
    have H := Lib.hid (And.intro hb (And.intro hn hkk))
    have HKK := Lib.hid hK
    have HV := Lib.hid hv
    have HRow := Lib.hid hrow
    have HBB := Lib.hid hB
    clear hb hn hK hv hrow hB hkk
    gi_wp2
    exact HKK.out _ _ (keepsFrom_below H.out.1) H.out.2.2 ⟨⟨v, HV.out.alloc _, HRow.out.alloc _, trivial⟩, HBB.out.alloc HBB.out.size _⟩ ⟨hnx, _, H.out.2.1, rfl⟩
  case body =>
    rintro l2 pre x a' W hl ⟨r0, hr0⟩ ⟨⟨v, hv, hrow, _⟩, hB⟩ ⟨_, Bx, hx, rfl⟩ hlt
    have hcL := hv.cell
    obtain ⟨c0, c1, c2, c3⟩ := sn_blk hx
    have hBsz := hB.size
    have HRow := Lib.hid hrow
    have HV := Lib.hid hv
    have HBB := Lib.hid hB
    unfold apMkS
    clear hrow hv hB hr0 hx
    gi_wp2_with (gi_at_builtin; refine wpListIn_append_own _ rfl _ _ 42 rfl w.heap.size TSn i0 (.agg #[.int .u64 0, .int .i64 0, .int .u64 0, .int .u64 0]) 4 32 Try.underlying42 hi hz0 hz1 hz2 rfl (by decide) _ _ _ rfl (HRow.out.alloc _) ⟨W.heap.size, 0, none⟩ 1 1 [.int .u64 (x.made : Int), .int .i64 x.val, .int .u64 (x.made : Int), .int .u64 (x.ix : Int)] rfl rfl (fun j q hq => cellN_new _ #[.int .u64 (x.made : Int), .int .i64 x.val, .int .u64 (x.made : Int), .int .u64 (x.ix : Int)] _ j q (by rw [← Array.getElem?_toList]; exact hq)) (by simp [Value.oneCell']) (by unfold maxLen; omega) (by omega) (by simp; omega) ?_; intro v' w1 hown' hgrow _; obtain ⟨g', cap', rfl⟩ := ownsRow_succ hown'; obtain ⟨hv1, hv2, hr2, hk2, hb2⟩ := HV.out.appended (by decide) HRow.out hBsz (by have := HX.out; omega) hown' hgrow; have hc1 := hv1.cell; have hf1 := hv1.frozen; have HV1 := Lib.hid hv1; have HV2 := Lib.hid hv2; have HR2' := Lib.hid hr2; have HK2 := Lib.hid hk2; have HB2' := Lib.hid hb2; have HG := Lib.hid hgrow; clear hv1 hv2 hr2 hk2 hb2 hgrow hown')
    refine ⟨HK2.out.from _, kpD_above HB2'.out, ⟨⟨_, HV2.out, ?_, trivial⟩, HBB.out.trans HB2'.out⟩⟩
    have := HR2'.out
    rw [List.length_append, List.flatMap_append]
    simpa [snC, snOf] using this
  case done =>
    rintro D ys Wc hD hS ⟨⟨v, hv, hrow, _⟩, hB⟩ hK
    have HSS := Lib.hid hS
    have hrow' : snRow (Wc.putObj D (.deferred none)) w.heap.size v (ys.map snR) := by
      have := ownsRow_putObj hrow (.deferred none) hK rfl
      rw [map_flat, ← List.length_map (f := snR)] at this
      exact this
    have hcL := hv.cell
    have HD : Hid (Below w.heap.size w (Wc.putObj D (.deferred none))) := Lib.hid (hB.trans (belowK_b (w := w) (Nat.le_refl _) Wc D _ _ (by have := HS1.out; have := HX.out; omega) hK rfl rfl))
    have HR := Lib.hid hrow'
    clear hrow' hrow hB hv hS
    gi_wp2
    refine ⟨by simp, .inl ⟨_, _, rfl, run_takeDeferred hK, ?_⟩⟩
    exact ⟨_, results_tmp rfl _ _ _, v, rfl, by rw [← HSS.out]; exact HR.out, HD.out⟩
  case stop =>
    rintro D c' pre W _ _ h _
    exact h.elim
set_option maxHeartbeats 2000000 in
theorem collect_any (k : Nat) (hk : 3 ≤ k) (lb : Array Value) (l : List (Rw Int)) (hN : l.length ≤ 1000) (w : World) (hseq : SeqP Fence.wide (k - 1 - 1) Try.prog 43 lb snEncs (nextIs l) (KpD (fun k => w.heap.size ≤ k)) (fun xs => xs = l) (fun pre => ∃ j, pre = l.take j) l.length w) :
    CallsIn Fence.wide k Try.prog 34 #[.func (.func 43) #[] lb] w fun e w' => ∃ v, e = .returned v ∧ snRow w' w.heap.size v (l.map snR) ∧ Below w.heap.size w w' := by
  have HA := Lib.hid (append_seq_any (k - 1) (by omega) lb l hN w hseq)
  have hk1 : 1 ≤ k := by omega
  clear hseq
  refine callsIn_of_wp Try.func34 rfl trivial ?_ rfl
  simp only [Try.ntmps34, List.size_toArray, List.length_cons, List.length_nil, Nat.reduceAdd, Nat.reduceSub, Array.replicate_succ, Array.replicate_zero, List.push_toArray, List.append_toArray, List.nil_append, List.cons_append]
  gi_wp2_with fail
  refine ⟨trivial, HA.out.mono ?_⟩
  rintro e w' ⟨v, rfl, hrow, hb⟩
  have H := Lib.hid (And.intro hrow hb)
  clear hrow hb
  gi_wp2
  go_ret
  exact ⟨v, rfl, H.out⟩
theorem EachIs.rowsB {w w' : World} {v : Value} {l : List (Rw Int)} {X : Nat} {A : Option Addr} {c : Nat} (h : EachIs w w' v l X A c) : ∀ k, RowsB A l.length k → k < w'.heap.size := fun k hk => h.row.rowsB k hk
theorem collect_each {w w' : World} {v : Value} {l : List (Rw Int)} {X : Nat} {A : Option Addr} {c : Nat} (h : EachIs w w' v l X A c) (hl : l.length ≤ 1000) :
    Calls Try.prog 34 #[v] w' fun e w2 => ∃ u, e = .returned u ∧ snRow w2 w'.heap.size u (l.map snR) ∧ Below w'.heap.size w' w2 := by
  rw [h.val]
  exact (callsIn_wide (n := 5)).1 (collect_any 5 (by omega) _ l hl w' (each_tells (fun k => w'.heap.size ≤ k) 3 (by omega) X c A l w' hl (fun k hk => by have := h.rowsB k hk; omega) h.box h.row))
section
variable {S : Nat → Prop} {w : World} {B Bt : Nat} {t : Sm}
theorem slist_any (h : SAt S w B Bt t) : Calls Try.prog 18 #[.pointer (some ⟨B, 0, none⟩)] w fun e w' => ∃ v, e = .returned v ∧ snRow w' w.heap.size v t.l ∧ Below w.heap.size w w' := by
  have HN : Hid (t.l.length ≤ 1000) := Lib.hid (by have := h.ok.len; have := h.ok.most.2; omega)
  have HE := Lib.hid (each_any h)
  clear h
  go_enter Try.func18, Try.ntmps18
  go_wp2_with fail
  refine HE.out.mono ?_
  rintro e w1 ⟨v, l, X, A, c, rfl, he, hl⟩
  have HC := Lib.hid (collect_each he (by rw [← List.length_map (f := snR), hl]; exact HN.out))
  have HB1 := Lib.hid he.below
  have HL := Lib.hid hl
  clear he hl HE
  go_wp2_with fail
  refine HC.out.mono ?_
  rintro e w2 ⟨u, rfl, hrow, hb⟩
  have HR := Lib.hid hrow
  have HB2 := Lib.hid (HB1.out.trans (hb.mono HB1.out.size))
  clear hrow hb HC
  go_wp2
  go_ret
  refine ⟨u, rfl, ?_, HB2.out⟩
  have := HR.out
  rw [HL.out] at this
  exact rowK.base_le this HB1.out.size
theorem slist_no {p : Option Addr} (h : NoS w p) : Calls Try.prog 18 #[.pointer p] w fun e w' => ∃ A c, e = .returned (.slice A 0 c) ∧ Below w.heap.size w w' := by
  have HE := Lib.hid (each_no h)
  clear h
  go_enter Try.func18, Try.ntmps18
  go_wp2_with fail
  refine HE.out.mono ?_
  rintro e w1 ⟨v, l, X, A, c, rfl, he, hl⟩
  have HC := Lib.hid (collect_each he (by rw [← List.length_map (f := snR), hl]; simp))
  have HB1 := Lib.hid he.below
  have HL := Lib.hid hl
  clear he hl HE
  go_wp2_with fail
  refine HC.out.mono ?_
  rintro e w2 ⟨u, rfl, hrow, hb⟩
  have HR := Lib.hid hrow
  have HB2 := Lib.hid (HB1.out.trans (hb.mono HB1.out.size))
  clear hrow hb HC
  go_wp2
  go_ret
  obtain ⟨A2, c2, rfl, h1, h2, h3, h4⟩ := SK.of_row snC_len HR.out
  rw [HL.out]
  exact ⟨A2, c2, rfl, HB2.out⟩
end
end Go.Proofs.Ytnobpbbedclbkaa
