/-
  Peers of the program's roll, walked (layer 9).
-/
import Derived.Test.YtmfokogckfoheaaRoLives
namespace Go.Proofs.Ytmfokogckfoheaa
open Go.RowKit Go.Shelf Go.Rel Go.Maps
set_option linter.unusedSimpArgs false
set_option linter.unusedVariables false
attribute [local go_sem] Oper.semAt_some

def othersL (own : Int) (l : List Int) : List Int := l.filter fun z => z != own
theorem othersL_yes {own x : Int} (l : List Int) (h : (x != own) = true) : othersL own (l ++ [x]) = othersL own l ++ [x] := by simp [othersL, h]
theorem othersL_no {own x : Int} (l : List Int) (h : (x != own) = false) : othersL own (l ++ [x]) = othersL own l := by simp [othersL, h]
theorem othersL_len (own : Int) (l : List Int) : (othersL own l).length ≤ l.length := List.length_filter_le _ _
def peersMk (Bp B X : Nat) (fv : Value) (x : Int) : Act := { tmps := #[.pointer (some ⟨B, 0, none⟩), .pointer (some ⟨Bp, 0, none⟩), .slice none 0 0, .pointer (some ⟨X, 0, none⟩), .int .i64 x, .pointer (some ⟨B, 0, none⟩), .bool true, .bool false, .pointer (some ⟨B, 0, none⟩), fv, .int .i64 x, undef, undef, undef, undef, undef, undef, undef, undef, undef, undef, undef], defers := [] }
set_option maxHeartbeats 4000000 in
set_option maxRecDepth 100000 in
theorem peers_any {B M n : Nat} {r : Ro} (w : World) (hR : RlAt w B M r n) :
    Calls Try.prog 24 #[.pointer (some ⟨B, 0, none⟩)] w (IntsPost w (othersL r.own (livesL (listTo r.T 8)))) := by
  refine (callsIn_wide (n := 5)).1 ?_
  obtain ⟨i0, hi, hz0, hz1, hz2⟩ := info_parts int_info
  obtain ⟨Y, hY⟩ : ∃ Y, w.heap.size = Y := ⟨_, rfl⟩
  have b0 := below1 w (.cells #[.pointer (some ⟨B, 0, none⟩)] 24)
  have k0 := heap_alloc_new w (.cells #[.pointer (some ⟨B, 0, none⟩)] 24)
  have hR0 := hR.below b0
  obtain ⟨W0, hW0⟩ : ∃ W0, w.alloc (.cells #[.pointer (some ⟨B, 0, none⟩)] 24) = W0 := ⟨_, rfl⟩
  have s0 : W0.heap.size = Y + 1 := by rw [← hW0, ← hY]; simp
  rw [hW0] at b0 k0 hR0
  rw [hY] at k0
  have HMd := Lib.hid (made_yes W0 hR0)
  have cY : W0.cell? ⟨Y, 0, none⟩ = some (.pointer (some ⟨B, 0, none⟩)) := by rw [cell_of_row _ _ _ _ _ _ k0]; rfl
  have hYl := block_lt k0
  obtain ⟨X, hX⟩ : ∃ X, W0.heap.size = X := ⟨_, rfl⟩
  have b1 := below1 W0 (.cells #[.slice none 0 0] 51)
  have k1 := Boxed.new W0 51 (.slice none 0 0)
  obtain ⟨W1, hW1⟩ : ∃ W1, W0.alloc (.cells #[.slice none 0 0] 51) = W1 := ⟨_, rfl⟩
  have s1 : W1.heap.size = X + 1 := by rw [← hW1, ← hX]; simp
  rw [hW1] at b1 k1
  rw [hX] at k1
  have b2 := below1 W1 (.cells #[.pointer (some ⟨B, 0, none⟩)] 24)
  have k2 := heap_alloc_new W1 (.cells #[.pointer (some ⟨B, 0, none⟩)] 24)
  have k1' := k1.alloc (.cells #[.pointer (some ⟨B, 0, none⟩)] 24)
  have hR2 := (hR0.below b1).below b2
  have kY2 := (b2.block Y (by have := b1.size; omega)).trans ((b1.block Y hYl).trans k0)
  obtain ⟨W2, hW2⟩ : ∃ W2, W1.alloc (.cells #[.pointer (some ⟨B, 0, none⟩)] 24) = W2 := ⟨_, rfl⟩
  have s2 : W2.heap.size = X + 1 + 1 := by rw [← hW2]; simp [s1]
  rw [hW2] at b2 k2 k1' hR2 kY2
  rw [s1] at k2
  have hseq := live_tells 4 (by omega) (X + 1) B M n r W2 k2 hR2
  have HB2 := Lib.hid (b0.trans ((b1.trans (b2.mono b1.size)).mono b0.size))
  have HU := Lib.hid (plive_any (some ⟨B, 0, none⟩) W1)
  have HW0 := Lib.hid hW0
  have HW1 := Lib.hid hW1
  have HW2 := Lib.hid hW2
  have HY := Lib.hid hY
  have HX := Lib.hid hX
  have HXY := Lib.hid (show X = Y + 1 by omega)
  have HS1 := Lib.hid s1
  have HS2 := Lib.hid s2
  have HK1 := Lib.hid k1'
  have HKY := Lib.hid kY2
  have HSeq := Lib.hid hseq
  have HR2 := Lib.hid hR2
  obtain ⟨own, hown⟩ : ∃ own, r.own = own := ⟨_, rfl⟩
  have HOwn := Lib.hid hown
  clear hR hY b0 k0 hR0 hW0 s0 hX b1 k1 hW1 s1 b2 k2 k1' hR2 kY2 hW2 s2 hseq hown
  refine callsIn_of_wp_marks Try.func24 rfl trivial ?_ rfl
  simp only [Try.ntmps24, List.size_toArray, List.length_cons, List.length_nil, Nat.reduceAdd, Nat.reduceSub, Array.replicate_succ, Array.replicate_zero, List.push_toArray, List.append_toArray, List.nil_append, List.cons_append]
  gi_wp2_with fail
  rw [HW0.out, HY.out]
  refine ⟨trivial, (callsIn_wide.2 HMd.out).mono ?_⟩
  rintro e w' ⟨rfl, rfl⟩
  clear HMd
  gi_wp2_with fail
  rw [HW1.out, HX.out]
  refine ⟨trivial, (callsIn_wide.2 HU.out).mono ?_⟩
  rintro e w' ⟨rfl, rfl⟩
  rw [HW2.out, HS1.out]
  clear cY hYl
  gi_wp2
  refine wpIn_range_o rfl (by omega) (gf := 41) (lb := #[.pointer (some ⟨X + 1, 0, none⟩)]) (by simp [go_sem]) trivial (enters_of Try.func41 (by kernel_rfl) rfl) HSeq.out kpT_t (fun W o' o h => kpT_b (by have := HR2.out.lt.2; omega) W o' o h) (Below.refl _ _) (fun _ => rfl)
    (fun pre Wc => ((∃ v, Boxed Wc X 51 v ∧ Wc.ownsRow w.heap.size 3 1 v (othersL own pre).length (intsC (othersL own pre)) ∧ True) ∧ KpT M W2 Wc) ∧ Below w.heap.size w Wc)
    (fun _ _ _ => False)
    (OwnFrom.and (OwnFrom.and (Own.from (holdsRow_own w.heap.size X 51 3 1 (fun pre : List Int => (othersL own pre).length) (fun pre => intsC (othersL own pre)) (fun _ _ => True)) _) (kpT_own W2 HR2.out.lt.2)) (ownFrom_below (Nat.le_refl _) (by have := HS2.out; have := HX.out; have := HY.out; have := HXY.out; omega)))
    (fun _ _ _ _ _ hs _ _ => hs)
    ⟨⟨⟨_, HK1.out, World.ownsRow_nil _ _ _ _, trivial⟩, kpT_below (Below.refl _ _) HR2.out.lt.2⟩, HB2.out⟩
    (fun x a _ => a = peersMk Y B X (.func (.func 41) #[] #[.pointer (some ⟨X + 1, 0, none⟩)]) x)
    (fun _ _ _ _ _ _ hs _ _ => hs) ?assign ?body ?done ?stop
  case assign =>
    rintro l2 pre x Wc K hI _ hK
    have HI := Lib.hid hI
    have HKK := Lib.hid hK
    unfold intEncs
    clear hI hK
    gi_wp2
    exact HKK.out _ _ (KeepsFrom.refl _ _) (kpT_below (Below.refl _ _) (Nat.lt_of_lt_of_le HR2.out.lt.2 HI.out.1.2.1)) HI.out rfl
  case body =>
    rintro l2 pre x a' W hl ⟨r0, hr0⟩ ⟨⟨⟨v, hv, hrow, _⟩, hkp⟩, hB⟩ rfl hlt
    have hcL := hv.cell
    have hBsz := hB.size
    have hRw := HR2.out.kpT hkp
    have c0 := hRw.c0
    rw [HOwn.out] at c0
    have cY : W.cell? ⟨Y, 0, none⟩ = some (.pointer (some ⟨B, 0, none⟩)) := by rw [cell_of_row _ _ _ _ _ _ (hkp.2.2 _ _ _ _ HKY.out (.inl rfl))]; rfl
    have hol := othersL_len own pre
    have HRow := Lib.hid hrow
    have HV := Lib.hid hv
    have HKP := Lib.hid hkp
    have HBB := Lib.hid hB
    unfold peersMk
    clear hrow hv hkp hB hr0 hRw
    cases hx : (x != own) with
    | false =>
      have HN := Lib.hid (othersL_no pre hx)
      gi_wp2
      refine ⟨KeepsFrom.refl _ _, kpT_below (Below.refl _ _) (Nat.lt_of_lt_of_le HR2.out.lt.2 HKP.out.1), ?_⟩
      refine ⟨⟨⟨v, HV.out, ?_, trivial⟩, HKP.out⟩, HBB.out⟩
      rw [HN.out]
      exact HRow.out
    | true =>
      have HN := Lib.hid (othersL_yes pre hx)
      obtain ⟨P, hP⟩ : ∃ P, othersL own pre = P := ⟨_, rfl⟩
      rw [hP] at HN HRow hol
      clear hP
      gi_wp2_with (gi_at_builtin; refine wpListIn_append_own _ rfl _ _ 51 rfl w.heap.size 3 i0 (.int .i64 0) 1 8 Try.underlying51 hi hz0 hz1 hz2 rfl (by decide) _ _ _ rfl (HRow.out.alloc _) ⟨W.heap.size, 0, none⟩ 1 1 [.int .i64 x] rfl rfl (cell1_new _ _ _) (by simp [Value.oneCell']) (by unfold maxLen; omega) (by omega) (by simp; omega) ?_; intro v' w1 hown' hgrow _; obtain ⟨g', cap', rfl⟩ := ownsRow_succ hown'; obtain ⟨hv1, hv2, hr2, hk2, hb2⟩ := HV.out.appended (by decide) HRow.out hBsz (by have := HX.out; have := HY.out; have := HXY.out; omega) hown' hgrow; have hc1 := hv1.cell; have hf1 := hv1.frozen; have HV1 := Lib.hid hv1; have HV2 := Lib.hid hv2; have HR2' := Lib.hid hr2; have HK2 := Lib.hid hk2; have HB2' := Lib.hid hb2; have HG := Lib.hid hgrow; clear hv1 hv2 hr2 hk2 hb2 hgrow hown')
      have hMW : M < W.heap.size := Nat.lt_of_lt_of_le HR2.out.lt.2 HKP.out.1
      have hkk : KpT M W (w1.setCell ⟨X, 0, none⟩ (.slice (some ⟨g', 0, none⟩) (P.length + 1) cap')) := kpT_appended hMW (fun cur t f h => HR2.out.map.not_cells (by rw [← HKP.out.2.1]; exact h)) HV.out HV1.out (by decide) (by decide) HRow.out HG.out
      refine ⟨HK2.out.from _, hkk, ⟨⟨_, HV2.out, ?_, trivial⟩, kpT_t HKP.out hkk⟩, HBB.out.trans HB2'.out⟩
      have := HR2'.out
      rw [HN.out, List.length_append]
      simpa [intsC, intV] using this
  case done =>
    rintro D ys Wc hD hS ⟨⟨⟨v, hv, hrow, _⟩, hkp⟩, hB⟩ hK
    have HSS : Hid (othersL own ys = othersL r.own (livesL (listTo r.T 8))) := Lib.hid (by rw [hS, HOwn.out])
    have hrow' : (Wc.putObj D (.deferred none)).ownsRow w.heap.size 3 1 v (othersL own ys).length (intsC (othersL own ys)) := ownsRow_putObj hrow (.deferred none) hK rfl
    obtain ⟨A4, c4, rfl, hS4, hn4, hm4⟩ := ints_of_row hrow'
    have hcL := hv.cell
    have HD : Hid (Below w.heap.size w (Wc.putObj D (.deferred none))) := Lib.hid (hB.trans (belowK_b (w := w) (Nat.le_refl _) Wc D _ _ (by have := HS2.out; have := HX.out; have := HY.out; have := HXY.out; omega) hK rfl rfl))
    have HS4 := Lib.hid (And.intro hS4 (And.intro hn4 hm4))
    clear hS4 hn4 hm4 hrow' hrow hB hkp hv hS
    gi_wp2
    refine ⟨by simp, .inl ⟨_, _, rfl, run_takeDeferred hK, ?_⟩⟩
    exact ⟨_, results_tmp rfl _ _ _, A4, c4, by rw [← HSS.out]; rfl, by rw [← HSS.out]; exact HS4.out.1, by rw [← HSS.out]; exact HS4.out.2.1, HS4.out.2.2, HD.out⟩
  case stop =>
    rintro D c' pre W _ _ h _
    exact h.elim
end Go.Proofs.Ytmfokogckfoheaa
