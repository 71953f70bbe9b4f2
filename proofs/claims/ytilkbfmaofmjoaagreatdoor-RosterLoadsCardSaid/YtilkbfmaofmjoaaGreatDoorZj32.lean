import Derived.Test.YtilkbfmaofmjoaaGreatDoorZj25
import Derived.Test.YtilkbfmaofmjoaaGreatDoorZj31
namespace Go.Proofs.YtilkbfmaofmjoaaGreatDoor
open Go.RowKit Go.Shelf Go.Rel
attribute [local go_sem] Oper.semAt_some
set_option linter.unusedSimpArgs false
set_option linter.unusedVariables false
set_option maxHeartbeats 4000000 in
set_option maxRecDepth 100000 in
theorem run_under_walk {p_ : Prop} (h_ : p_ := by
  refine (callsIn_wide (n := 5)).1 ?_
  obtain ⟨i0, hi, hz0, hz1, hz2⟩ := info_parts tw_info
  obtain ⟨Pb, hPb⟩ : ∃ Pb, w.heap.size = Pb := ⟨_, rfl⟩
  have b0 := below1 w #[.string p] 9
  have k0 := heap_alloc_new w (.cells #[.string p] 9)
  obtain ⟨wp, hwp⟩ : ∃ wp, w.alloc (.cells #[.string p] 9) = wp := ⟨_, rfl⟩
  have s0 : wp.heap.size = Pb + 1 := by rw [← hwp, ← hPb]; simp
  rw [hwp] at b0 k0
  rw [hPb] at k0
  obtain ⟨X, hX⟩ : ∃ X, wp.heap.size = X := ⟨_, rfl⟩
  have b1 := below1 wp #[.slice none 0 0] tSR
  have k1 := Boxed.new wp tSR (.slice none 0 0)
  obtain ⟨W1, hW1⟩ : ∃ W1, wp.alloc (.cells #[.slice none 0 0] tSR) = W1 := ⟨_, rfl⟩
  have s1 : W1.heap.size = X + 1 := by rw [← hW1, ← hX]; simp
  rw [hW1] at b1 k1
  rw [hX] at k1
  have hb01 : Below w.heap.size w W1 := b0.trans (b1.mono b0.size)
  have HN := Lib.hid (hnow W1 hb01)
  have HUn : Hid (∀ (x : Rw VL) (_ : x ∈ l) (w1 : World), Calls Tryz.prog 99 #[.string x.key, .string p] w1 fun e w' => e = .returned (.bool (underB x.key.data.toList p.data.toList)) ∧ w1 = w') := Lib.hid fun x hx w1 => under_any x.key p w1 (hks x hx) hp
  have HB0 := Lib.hid b0
  have HB1 := Lib.hid b1
  have HK0 := Lib.hid k0
  have HK1 := Lib.hid k1
  have HWp := Lib.hid hwp
  have HW1 := Lib.hid hW1
  have HPb := Lib.hid hPb
  have HX := Lib.hid hX
  have HS0 := Lib.hid s0
  have HS1 := Lib.hid s1
  have HXp : Hid (Pb + 1 = X) := Lib.hid (s0.symm.trans hX)
  clear b0 k0 hwp hPb s0 hX b1 k1 hW1 s1 hb01 hnow hks hp
  refine callsIn_of_wp_marks f_Under rfl trivial ?_ rfl
  simp only [n_Under, List.size_toArray, List.length_cons, List.length_nil, Nat.reduceAdd, Nat.reduceSub, Array.replicate_succ, Array.replicate_zero, List.push_toArray, List.append_toArray, List.nil_append, List.cons_append]
  gi_wp2_with fail
  rw [HWp.out, HW1.out, HPb.out, HXp.out]
  refine ⟨trivial, (callsIn_wide.2 HN.out).mono ?_⟩
  rintro e w2 ⟨v, Bx, A, c, rfl, hn, hT⟩
  have hseq := values_tells (fun k => X ≤ k) 4 (by omega) Bx c A l w2 (by omega) (fun k hk => by have := hT k hk; have := HPb.out; have := HXp.out; omega) hn.box hn.row
  have hv := hn.val
  have HB2 : Hid (Below X wp w2) := Lib.hid (by rw [← HX.out]; exact HB1.out.trans (hn.below.mono HB1.out.size))
  have HSz2 : Hid (X < w2.heap.size) := Lib.hid (by have := hn.below.size; have := HS1.out; omega)
  have HKP : Hid (Boxed w2 X tSR (.slice none 0 0)) := Lib.hid ((hn.below.block X (by have := HS1.out; omega)).trans HK1.out)
  have HSeq := Lib.hid hseq
  subst hv
  clear hseq hn hT HN
  gi_wp2
  refine wpIn_range_p rfl (by omega) (gf := gIt) (lb := #[.pointer (some ⟨Bx, 0, none⟩)]) (by simp [go_sem]) trivial (enters_of f_it (by kernel_rfl) rfl) HSeq.out kpD_t (fun W o' o h => kpD_b W o' o h) (Below.refl _ _) (fun _ => rfl)
    (fun pre Wc => (∃ v, Boxed Wc X tSR v ∧ Wc.ownsRow X tR kN v (undR pre p).length ((undR pre p).flatMap trC) ∧ True) ∧ Below X wp Wc)
    (fun _ _ _ => False)
    (OwnFrom.and (Own.from (holdsRow_own X X tSR tR kN (fun pre : List (Rw VL) => (undR pre p).length) (fun pre => (undR pre p).flatMap trC) (fun _ _ => True)) _) (ownFrom_below (by have := HX.out; omega) (by have := HSz2.out; have := HX.out; omega)))
    (fun _ _ _ _ _ hs _ _ => hs)
    ⟨⟨_, HKP.out, World.ownsRow_nil _ _ _ _, trivial⟩, HB2.out⟩
    (rwAx (fun x => (trA x)) tR l (unMk (.pointer q) p Pb X (.func (.func gIt) #[] #[.pointer (some ⟨Bx, 0, none⟩)])))
    (rwAx_own _ _ _ _ _) ?assign ?body ?done ?stop
  case assign =>
    rintro l2 pre x Wc K ⟨⟨v, hv, hrow, _⟩, hB⟩ hnx hK
    unfold rwEncs trV
    have hb := below1 Wc (trA x) tR
    have hn := heap_alloc_new Wc (.cells (trA x) tR)
    have hkk : KpD (fun k => X ≤ k) Wc (Wc.alloc (.cells (trA x) tR)) := kpD_of hb
    have H := Lib.hid (And.intro hb (And.intro hn hkk))
    have HKK := Lib.hid hK
    have HV := Lib.hid hv
    have HRow := Lib.hid hrow
    have HBB := Lib.hid hB
    have HSX : Hid (X ≤ Wc.heap.size) := Lib.hid (by have := hB.size; have := HX.out; omega)
    have HNx := Lib.hid hnx
    clear hb hn hK hv hrow hB hkk hnx
    gi_wp2
    exact HKK.out _ _ (keepsFrom_below H.out.1) H.out.2.2 ⟨⟨v, HV.out.alloc _, HRow.out.alloc _, trivial⟩, HBB.out.alloc HSX.out _⟩ ⟨HNx.out, _, H.out.2.1, rfl⟩
  case body =>
    rintro l2 pre x a' W hl ⟨r0, hr0⟩ ⟨⟨v, hv, hrow, _⟩, hB⟩ ⟨hnx, Bx2, hx, rfl⟩ hlt
    have hcL := hv.cell
    have c_c := blk hx
    have HSX : Hid (X ≤ W.heap.size) := Lib.hid (by have := hB.size; have := HX.out; omega)
    have cp : W.cell? ⟨Pb, 0, none⟩ = some (.string p) := cellsN ((hB.block Pb (by have := HXp.out; omega)).trans HK0.out) 0 _ rfl
    have HU := Lib.hid (HUn.out x hnx.mem W)
    have HSn := Lib.hid (und_snoc pre x p)
    obtain ⟨ub, hub⟩ : ∃ ub, underB x.key.data.toList p.data.toList = ub := ⟨_, rfl⟩
    rw [hub] at HU HSn
    have HRow := Lib.hid hrow
    have HV := Lib.hid hv
    have HBB := Lib.hid hB
    unfold unMk
    clear hrow hv hB hr0 hx hnx hub
    gi_wp2_with fail
    refine ⟨trivial, (callsIn_wide.2 HU.out).mono ?_⟩
    rintro e w' ⟨rfl, rfl⟩
    cases ub with
    | false =>
      have he : undR (pre ++ [x]) p = undR pre p := by rw [HSn.out, if_neg (by simp), List.append_nil]
      have HE := Lib.hid he
      clear he
      gi_wp2
      refine ⟨⟨Nat.le_refl _, fun _ _ _ h _ => h⟩, ⟨Nat.le_refl _, fun _ _ _ h _ => h⟩, ⟨v, HV.out, ?_, trivial⟩, HBB.out⟩
      rw [HE.out]
      exact HRow.out
    | true =>
      have he : undR (pre ++ [x]) p = undR pre p ++ [x] := by rw [HSn.out, if_pos rfl]
      have HE := Lib.hid he
      have hle : (undR pre p).length ≤ 64 := by have := und_length pre p; omega
      clear he
      gi_wp2_with (gi_at_builtin; refine wpListIn_append_own _ rfl _ _ tSR rfl X tR i0 (.agg zA) kN kBY u_SR hi hz0 hz1 hz2 rfl (by decide) _ _ _ rfl (HRow.out.alloc _) ⟨W.heap.size, 0, none⟩ 1 1 (trC x) rfl rfl (fun j q hq => cellN_new _ (trA x) _ j q (by rw [← Array.getElem?_toList]; exact hq)) (by simp [Value.oneCell']) (by unfold maxLen; omega) (by (try simp only [kBY, kN]); omega) (by have := HSX.out; simp; omega) ?_; intro v' w1 hown' hgrow _; obtain ⟨g', cap', rfl⟩ := ownsRow_succ hown'; obtain ⟨hv1, hv2, hr2, hk2, hb2⟩ := HV.out.appended (by decide) HRow.out HSX.out (Nat.le_refl _) hown' hgrow; have hc1 := hv1.cell; have hf1 := hv1.frozen; have HV1 := Lib.hid hv1; have HV2 := Lib.hid hv2; have HR2' := Lib.hid hr2; have HK2 := Lib.hid hk2; have HB2' := Lib.hid hb2; have HG := Lib.hid hgrow; clear hv1 hv2 hr2 hk2 hb2 hgrow hown')
      refine ⟨HK2.out.from _, kpD_above HB2'.out, ⟨⟨_, HV2.out, ?_, trivial⟩, HBB.out.trans HB2'.out⟩⟩
      have := HR2'.out
      rw [HE.out, List.length_append, List.flatMap_append]
      simpa [trC] using this
  case done =>
    rintro D ys Wc hD hS ⟨⟨v, hv, hrow, _⟩, hB⟩ hK
    have hS' : ys = l := hS
    subst hS'
    have hrow' : twRow (Wc.putObj D (.deferred none)) X v (undR ys p) := ownsRow_putObj hrow (.deferred none) hK rfl
    have hcL := hv.cell
    have HD : Hid (Below w.heap.size w (Wc.putObj D (.deferred none))) := Lib.hid (HB0.out.trans (Below.mono (hB.trans (by have := belowK_b (w := wp) (Nat.le_refl _) Wc D _ (.deferred none) (by have := HSz2.out; have := HX.out; omega) hK rfl rfl; rw [HX.out] at this; exact this)) (by have := HB0.out.size; have := HX.out; omega)))
    have HR := Lib.hid hrow'
    clear hrow' hrow hB hv hS
    gi_wp2
    refine ⟨by simp, .inl ⟨_, _, rfl, run_takeDeferred hK, ?_⟩⟩
    obtain ⟨A2, c2, rfl, h1, h2, h3, h4⟩ := twRow.slice (w := w) HR.out
    exact ⟨_, results_tmp rfl _ _ _, A2, c2, rfl, h1, h2, h3, fun b off e => Nat.le_trans (by have := HPb.out; have := HXp.out; omega) (h4 b off e), HD.out⟩
  case stop =>
    rintro D c' pre W _ _ h _
    exact h.elim) : p_ := h_
theorem run_under_t {p_ : Prop} (h_ : p_ := by
  have h64 : t.l.length ≤ 64 := Nat.le_trans h.1.len h.1.most.2
  refine under_walk p w hp h.1.key h64 fun W hw => ?_
  obtain ⟨hok, A, c, h1⟩ := h
  have h2 := h1.below hw
  exact (now_is h2 hok.most.1).mono fun e w' ⟨v, Bx, a, b⟩ => ⟨v, Bx, A, c, a, b, h1.row.rowsB⟩) : p_ := h_
end Go.Proofs.YtilkbfmaofmjoaaGreatDoor
