import Derived.Test.YtilkbfmaofmjoaaGreatDoorZj25
namespace Go.Proofs.YtilkbfmaofmjoaaGreatDoor
open Go.RowKit Go.Shelf Go.Rel
attribute [local go_sem] Oper.semAt_some
set_option linter.unusedSimpArgs false
set_option linter.unusedVariables false
set_option maxHeartbeats 4000000 in
set_option maxRecDepth 100000 in
theorem run_append_seq_any {p_ : Prop} (h_ : p_ := by
  obtain ⟨i0, hi, hz0, hz1, hz2⟩ := info_parts tw_info
  obtain ⟨X, hX⟩ : ∃ X, w.heap.size = X := ⟨_, rfl⟩
  have b1 := below1 w #[.slice none 0 0] tSR
  have k1 := Boxed.new w tSR (.slice none 0 0)
  obtain ⟨W1, hW1⟩ : ∃ W1, w.alloc (.cells #[.slice none 0 0] tSR) = W1 := ⟨_, rfl⟩
  have s1 : W1.heap.size = X + 1 := by rw [← hW1, ← hX]; simp
  rw [hW1] at b1 k1
  rw [hX] at k1
  have HB1 := Lib.hid b1
  have HW1 := Lib.hid hW1
  have HX := Lib.hid hX
  have HS1 := Lib.hid s1
  have HK1 := Lib.hid k1
  have HSeq := Lib.hid hseq
  have hk1 : 1 ≤ k := by omega
  clear hX b1 k1 hW1 s1 hseq
  refine callsIn_of_wp_marks f_aseq rfl trivial ?_ rfl
  simp only [n_aseq, List.size_toArray, List.length_cons, List.length_nil, Nat.reduceAdd, Nat.reduceSub, Array.replicate_succ, Array.replicate_zero, List.push_toArray, List.append_toArray, List.nil_append, List.cons_append]
  gi_wp2
  rw [HW1.out, HX.out]
  refine wpIn_range_p rfl hk1 (gf := gIt) (lb := lb) (by simp [go_sem]) trivial (enters_of f_it (by kernel_rfl) rfl) HSeq.out kpD_t (fun W o' o h => kpD_b W o' o h) HB1.out (fun _ => rfl)
    (fun pre Wc => (∃ v, Boxed Wc X tSR v ∧ Wc.ownsRow w.heap.size tR kN v pre.length (pre.flatMap trC) ∧ True) ∧ Below w.heap.size w Wc)
    (fun _ _ _ => False)
    (OwnFrom.and (Own.from (holdsRow_own w.heap.size X tSR tR kN (fun pre : List (Rw VL) => pre.length) (fun pre => pre.flatMap trC) (fun _ _ => True)) _) (ownFrom_below (Nat.le_refl _) (by have := HS1.out; have := HX.out; omega)))
    (fun _ _ _ _ _ hs _ _ => hs)
    ⟨⟨_, HK1.out, World.ownsRow_nil _ _ _ _, trivial⟩, HB1.out⟩
    (rwAx (fun x => (trA x)) tR l (apMk X (.func (.func gIt) #[] lb)))
    (rwAx_own _ _ _ _ _) ?assign ?body ?done ?stop
  case assign =>
    rintro l2 pre x Wc K ⟨⟨v, hv, hrow, _⟩, hB⟩ hnx hK
    unfold rwEncs trV
    have hb := below1 Wc (trA x) tR
    have hn := heap_alloc_new Wc (.cells (trA x) tR)
    have hkk : KpD (fun k => w.heap.size ≤ k) Wc (Wc.alloc (.cells (trA x) tR)) := kpD_of hb
    have H := Lib.hid (And.intro hb (And.intro hn hkk))
    have HKK := Lib.hid hK
    have HV := Lib.hid hv
    have HRow := Lib.hid hrow
    have HBB := Lib.hid hB
    clear hb hn hK hv hrow hB hkk
    gi_wp2
    exact HKK.out _ _ (keepsFrom_below H.out.1) H.out.2.2 ⟨⟨v, HV.out.alloc _, HRow.out.alloc _, trivial⟩, HBB.out.alloc HBB.out.size _⟩ ⟨hnx, _, H.out.2.1, rfl⟩
  case body =>
    rintro l2 pre x a' W hl ⟨r0, hr0⟩ ⟨⟨v, hv, hrow, _⟩, hB⟩ ⟨_, Bx, hx, rfl⟩ hlt
    have hcL := hv.cell
    have c_c := blk hx
    have hBsz := hB.size
    have HRow := Lib.hid hrow
    have HV := Lib.hid hv
    have HBB := Lib.hid hB
    unfold apMk
    clear hrow hv hB hr0 hx
    gi_wp2_with (gi_at_builtin; refine wpListIn_append_own _ rfl _ _ tSR rfl w.heap.size tR i0 (.agg zA) kN kBY u_SR hi hz0 hz1 hz2 rfl (by decide) _ _ _ rfl (HRow.out.alloc _) ⟨W.heap.size, 0, none⟩ 1 1 (trC x) rfl rfl (fun j q hq => cellN_new _ (trA x) _ j q (by rw [← Array.getElem?_toList]; exact hq)) (by simp [Value.oneCell']) (by unfold maxLen; omega) (by (try simp only [kBY, kN]); omega) (by simp; omega) ?_; intro v' w1 hown' hgrow _; obtain ⟨g', cap', rfl⟩ := ownsRow_succ hown'; obtain ⟨hv1, hv2, hr2, hk2, hb2⟩ := HV.out.appended (by decide) HRow.out hBsz (by have := HX.out; omega) hown' hgrow; have hc1 := hv1.cell; have hf1 := hv1.frozen; have HV1 := Lib.hid hv1; have HV2 := Lib.hid hv2; have HR2' := Lib.hid hr2; have HK2 := Lib.hid hk2; have HB2' := Lib.hid hb2; have HG := Lib.hid hgrow; clear hv1 hv2 hr2 hk2 hb2 hgrow hown')
    refine ⟨HK2.out.from _, kpD_above HB2'.out, ⟨⟨_, HV2.out, ?_, trivial⟩, HBB.out.trans HB2'.out⟩⟩
    have := HR2'.out
    rw [List.length_append, List.flatMap_append]
    simpa [trC] using this
  case done =>
    rintro D ys Wc hD hS ⟨⟨v, hv, hrow, _⟩, hB⟩ hK
    have HSS := Lib.hid hS
    have hrow' : twRow (Wc.putObj D (.deferred none)) w.heap.size v ys := ownsRow_putObj hrow (.deferred none) hK rfl
    have hcL := hv.cell
    have HD : Hid (Below w.heap.size w (Wc.putObj D (.deferred none))) := Lib.hid (hB.trans (belowK_b (w := w) (Nat.le_refl _) Wc D _ _ (by have := HS1.out; have := HX.out; omega) hK rfl rfl))
    have HR := Lib.hid hrow'
    clear hrow' hrow hB hv hS
    gi_wp2
    refine ⟨by simp, .inl ⟨_, _, rfl, run_takeDeferred hK, ?_⟩⟩
    exact ⟨_, results_tmp rfl _ _ _, v, rfl, by rw [← HSS.out]; exact HR.out, HD.out⟩
  case stop =>
    rintro D c' pre W _ _ h _
    exact h.elim) : p_ := h_
set_option maxHeartbeats 2000000 in
theorem run_collect_any {p_ : Prop} (h_ : p_ := by
  have HA := Lib.hid (append_seq_any (k - 1) (by omega) lb l hN w hseq)
  have hk1 : 1 ≤ k := by omega
  clear hseq
  refine callsIn_of_wp f_coll rfl trivial ?_ rfl
  simp only [n_coll, List.size_toArray, List.length_cons, List.length_nil, Nat.reduceAdd, Nat.reduceSub, Array.replicate_succ, Array.replicate_zero, List.push_toArray, List.append_toArray, List.nil_append, List.cons_append]
  gi_wp2_with fail
  refine ⟨trivial, HA.out.mono ?_⟩
  rintro e w' ⟨v, rfl, hrow, hb⟩
  have H := Lib.hid (And.intro hrow hb)
  clear hrow hb
  gi_wp2
  go_ret
  exact ⟨v, rfl, H.out⟩) : p_ := h_
theorem run_collect_now {p_ : Prop} (h_ : p_ := by
  rw [h.val]
  exact (callsIn_wide (n := 5)).1 (collect_any 5 (by omega) _ l hl w' (values_tells (fun k => w'.heap.size ≤ k) 3 (by omega) Bx c A l w' hl (fun k hk => by have := h.row.rowsB k hk; omega) h.box h.row))) : p_ := h_
theorem run_list_any {p_ : Prop} (h_ : p_ := by
  have h64 : t.l.length ≤ 1000 := by have := h.1.len; have := h.1.most.2; omega
  have HN := Lib.hid (now_t h)
  have HL := Lib.hid h64
  clear h h64
  go_enter f_List, n_List
  go_wp2_with fail
  refine HN.out.mono ?_
  rintro e w1 ⟨v, Bx, A, c, rfl, hn⟩
  have HC := Lib.hid (collect_now hn HL.out)
  have HB1 := Lib.hid hn.below
  clear hn HN
  go_wp2_with fail
  refine HC.out.mono ?_
  rintro e w2 ⟨u, rfl, hrow, hb⟩
  have HR := Lib.hid hrow
  have HB2 := Lib.hid (HB1.out.trans (hb.mono HB1.out.size))
  clear hrow hb HC
  go_wp2
  go_ret
  obtain ⟨A2, c2, rfl, h1, h2, h3, h4⟩ := twRow.slice (w := w) HR.out
  exact ⟨A2, c2, rfl, h1, h2, h3, fun b off e => Nat.le_trans HB1.out.size (h4 b off e), HB2.out⟩) : p_ := h_
end Go.Proofs.YtilkbfmaofmjoaaGreatDoor
