/-
  List of the program's roll, walked (layer 9).
-/
import Derived.Test.YtmfokogckfoheaaRoLive
namespace Go.Proofs.Ytmfokogckfoheaa
open Go.RowKit Go.Shelf Go.Rel Go.Maps
set_option linter.unusedSimpArgs false
set_option linter.unusedVariables false
attribute [local go_sem] Oper.semAt_some

theorem cell3_new (w : World) (x y z : Value) (t : TypeId) (j : Nat) (u : Value) (h : [x, y, z][j]? = some u) : (w.alloc (.cells #[x, y, z] t)).cell? ((⟨w.heap.size, 0, none⟩ : Addr).add j) = some u := by
  rw [plain_add, Nat.zero_add, cell_of_row _ w.heap.size j _ _ (0, 0) (heap_alloc_new w _)]
  simpa using h
/-- Behind the store of a grown row in its box: the map, the rolls and such variables are as they were. -/
theorem kpT_appended {M : Nat} {W w1 : World} {base X : Nat} {t e : TypeId} {size k : Nat} {v v' u : Value} {xs : List Value} {tmp : Obj} (hM : M < W.heap.size) (hMc : ∀ cur t f, W.heap[M]? ≠ some (.cells cur t f)) (hv : Boxed W X t u) (hv1 : Boxed w1 X t u) (ht : ¬ (t = 24 ∨ t = 63 ∨ t = 84)) (he : ¬ (e = 24 ∨ e = 63 ∨ e = 84))
    (hrow : W.ownsRow base e size v k xs) (hg : (W.alloc tmp).grownBy w1 v.ownBlock) : KpT M W (w1.setCell ⟨X, 0, none⟩ v') := by
  have hXM : X ≠ M := fun e => hMc _ _ _ (e ▸ hv)
  have k1 : KpT M W (W.alloc tmp) := kpT_below (below1 W tmp) hM
  have k2 : KpT M (W.alloc tmp) w1 := kpT_grown hg (by simp; omega) (fun r hr => by
    rcases hrow.2 with ⟨rfl, _⟩ | ⟨g, cap, cur, rfl, _, hh, _⟩
    · cases hr
    · have hgr : g = r := by simpa [Value.ownBlock] using hr
      subst hgr
      have hh' := (heap_alloc_old W tmp (block_lt hh)).trans hh
      refine ⟨fun e => hMc _ _ _ (e ▸ hh), fun cur2 t2 f2 h2 => ?_⟩
      rw [hh'] at h2
      cases h2
      exact he)
  have k3 : KpT M w1 (w1.setCell ⟨X, 0, none⟩ v') := kpT_grown (grownBy_setCell' w1 X v') (Nat.lt_of_lt_of_le (by simp; omega) k2.1) (fun r hr => by
    cases hr
    refine ⟨hXM, fun cur2 t2 f2 h2 => ?_⟩
    rw [show w1.heap[X]? = _ from hv1] at h2
    cases h2
    exact ht)
  exact kpT_t k1 (kpT_t k2 k3)
def listMk (B X : Nat) (fv : Value) (x : Up) (Bx : Nat) : Act := { tmps := #[.pointer (some ⟨B, 0, none⟩), undef, .slice none 0 0, .pointer (some ⟨X, 0, none⟩), .pointer (some ⟨Bx, 0, none⟩), .pointer (some ⟨B, 0, none⟩), .bool true, .bool false, .pointer (some ⟨B, 0, none⟩), fv, .agg #[.int .i64 x.node, .int .u32 (x.inc : Int), .int .i64 x.st], undef, undef, undef, undef, undef], defers := [] }
set_option maxHeartbeats 4000000 in
set_option maxRecDepth 100000 in
theorem list_any {B M n : Nat} {r : Ro} (w : World) (hR : RlAt w B M r n) :
    Calls Try.prog 20 #[.pointer (some ⟨B, 0, none⟩)] w (JoinPost w (listTo r.T 8)) := by
  refine (callsIn_wide (n := 4)).1 ?_
  obtain ⟨i0, hi, hz0, hz1, hz2⟩ := info_parts up_info
  have HMd := Lib.hid (made_yes w hR)
  obtain ⟨X, hX⟩ : ∃ X, w.heap.size = X := ⟨_, rfl⟩
  have b1 := below1 w (.cells #[.slice none 0 0] 44)
  have k1 := Boxed.new w 44 (.slice none 0 0)
  obtain ⟨W1, hW1⟩ : ∃ W1, w.alloc (.cells #[.slice none 0 0] 44) = W1 := ⟨_, rfl⟩
  have s1 : W1.heap.size = X + 1 := by rw [← hW1, ← hX]; simp
  rw [hW1] at b1 k1
  rw [hX] at k1
  have b2 := below1 W1 (.cells #[.pointer (some ⟨B, 0, none⟩)] 24)
  have k2 := heap_alloc_new W1 (.cells #[.pointer (some ⟨B, 0, none⟩)] 24)
  have k1' := k1.alloc (.cells #[.pointer (some ⟨B, 0, none⟩)] 24)
  have hR2 := (hR.below b1).below b2
  obtain ⟨W2, hW2⟩ : ∃ W2, W1.alloc (.cells #[.pointer (some ⟨B, 0, none⟩)] 24) = W2 := ⟨_, rfl⟩
  have s2 : W2.heap.size = X + 1 + 1 := by rw [← hW2]; simp [s1]
  rw [hW2] at b2 k2 k1' hR2
  rw [s1] at k2
  have hseq := updates_tells 3 (by omega) (X + 1) B M n r W2 k2 hR2
  have HB2 := Lib.hid (b1.trans (b2.mono b1.size))
  have HU := Lib.hid (updates_any (some ⟨B, 0, none⟩) W1)
  have HW1 := Lib.hid hW1
  have HW2 := Lib.hid hW2
  have HX := Lib.hid hX
  have HS1 := Lib.hid s1
  have HS2 := Lib.hid s2
  have HK1 := Lib.hid k1'
  have HSeq := Lib.hid hseq
  have HR2 := Lib.hid hR2
  clear hR hX b1 k1 hW1 s1 b2 k2 k1' hR2 hW2 s2 hseq
  refine callsIn_of_wp_marks Try.func20 rfl trivial ?_ rfl
  simp only [Try.ntmps20, List.size_toArray, List.length_cons, List.length_nil, Nat.reduceAdd, Nat.reduceSub, Array.replicate_succ, Array.replicate_zero, List.push_toArray, List.append_toArray, List.nil_append, List.cons_append]
  gi_wp2_with fail
  refine ⟨trivial, (callsIn_wide.2 HMd.out).mono ?_⟩
  rintro e w' ⟨rfl, rfl⟩
  clear HMd
  gi_wp2_with fail
  rw [HW1.out, HX.out]
  refine ⟨trivial, (callsIn_wide.2 HU.out).mono ?_⟩
  rintro e w' ⟨rfl, rfl⟩
  rw [HW2.out, HS1.out]
  gi_wp2
  refine wpIn_range_o rfl (by omega) (gf := 40) (lb := #[.pointer (some ⟨X + 1, 0, none⟩)]) (by simp [go_sem]) trivial (enters_of Try.func40 (by kernel_rfl) rfl) HSeq.out kpT_t (fun W o' o h => kpT_b (by have := HR2.out.lt.2; omega) W o' o h) (Below.refl _ _) (fun _ => rfl)
    (fun pre Wc => ((∃ v, Boxed Wc X 44 v ∧ Wc.ownsRow w.heap.size 32 3 v pre.length (upsC pre) ∧ True) ∧ KpT M W2 Wc) ∧ Below w.heap.size w Wc)
    (fun _ _ _ => False)
    (OwnFrom.and (OwnFrom.and (Own.from (holdsRow_own w.heap.size X 44 32 3 (fun pre : List Up => pre.length) (fun pre => upsC pre) (fun _ _ => True)) _) (kpT_own W2 HR2.out.lt.2)) (ownFrom_below (Nat.le_refl _) (by have := HS2.out; have := HX.out; omega)))
    (fun _ _ _ _ _ hs _ _ => hs)
    ⟨⟨⟨_, HK1.out, World.ownsRow_nil _ _ _ _, trivial⟩, kpT_below (Below.refl _ _) HR2.out.lt.2⟩, HB2.out⟩
    (upAx (listMk B X (.func (.func 40) #[] #[.pointer (some ⟨X + 1, 0, none⟩)])))
    (upAx_own _ _) ?assign ?body ?done ?stop
  case assign =>
    rintro l2 pre x Wc K ⟨⟨⟨v, hv, hrow, _⟩, hkp⟩, hB⟩ _ hK
    unfold upEncs
    have hb := below1 Wc (.cells #[.int .i64 x.node, .int .u32 (x.inc : Int), .int .i64 x.st] 32)
    have hn := heap_alloc_new Wc (.cells #[.int .i64 x.node, .int .u32 (x.inc : Int), .int .i64 x.st] 32)
    have hk3 := kpT_below hb (Nat.lt_of_lt_of_le HR2.out.lt.2 hkp.1)
    have H := Lib.hid (And.intro hb (And.intro hn hk3))
    have HKP := Lib.hid hkp
    have HKK := Lib.hid hK
    have HV := Lib.hid hv
    have HRow := Lib.hid hrow
    have HBB := Lib.hid hB
    clear hb hn hk3 hkp hK hv hrow hB
    gi_wp2
    exact HKK.out _ _ (keepsFrom_below H.out.1) H.out.2.2 ⟨⟨⟨v, HV.out.alloc _, HRow.out.alloc _, trivial⟩, kpT_t HKP.out H.out.2.2⟩, HBB.out.alloc HBB.out.size _⟩ ⟨_, H.out.2.1, rfl⟩
  case body =>
    rintro l2 pre x a' W hl ⟨r0, hr0⟩ ⟨⟨⟨v, hv, hrow, _⟩, hkp⟩, hB⟩ ⟨Bx, hx, rfl⟩ hlt
    have hcL := hv.cell
    obtain ⟨c0, c1, c2⟩ := blk3 hx
    have hBsz := hB.size
    have HRow := Lib.hid hrow
    have HV := Lib.hid hv
    have HKP := Lib.hid hkp
    have HBB := Lib.hid hB
    unfold listMk
    clear hrow hv hkp hB hr0 hx
    gi_wp2_with (gi_at_builtin; refine wpListIn_append_own _ rfl _ _ 44 rfl w.heap.size 32 i0 (.agg #[.int .i64 0, .int .u32 0, .int .i64 0]) 3 24 Try.underlying44 hi hz0 hz1 hz2 rfl (by decide) _ _ _ rfl (HRow.out.alloc _) ⟨W.heap.size, 0, none⟩ 1 1 [.int .i64 x.node, .int .u32 (x.inc : Int), .int .i64 x.st] rfl rfl (cell3_new _ _ _ _ _) (by simp [Value.oneCell']) (by unfold maxLen; omega) (by omega) (by simp; omega) ?_; intro v' w1 hown' hgrow _; obtain ⟨g', cap', rfl⟩ := ownsRow_succ hown'; obtain ⟨hv1, hv2, hr2, hk2, hb2⟩ := HV.out.appended (by decide) HRow.out hBsz (by have := HX.out; omega) hown' hgrow; have hc1 := hv1.cell; have hf1 := hv1.frozen; have HV1 := Lib.hid hv1; have HV2 := Lib.hid hv2; have HR2' := Lib.hid hr2; have HK2 := Lib.hid hk2; have HB2' := Lib.hid hb2; have HG := Lib.hid hgrow; clear hv1 hv2 hr2 hk2 hb2 hgrow hown')
    have hMW : M < W.heap.size := Nat.lt_of_lt_of_le HR2.out.lt.2 HKP.out.1
    have hkk : KpT M W (w1.setCell ⟨X, 0, none⟩ (.slice (some ⟨g', 0, none⟩) (pre.length + 1) cap')) := kpT_appended hMW (fun cur t f h => HR2.out.map.not_cells (by rw [← HKP.out.2.1]; exact h)) HV.out HV1.out (by decide) (by decide) HRow.out HG.out
    refine ⟨HK2.out.from _, hkk, ⟨⟨_, HV2.out, ?_, trivial⟩, kpT_t HKP.out hkk⟩, HBB.out.trans HB2'.out⟩
    have := HR2'.out
    rw [List.length_append, upsC_append]
    simpa [upsC, upC] using this
  case done =>
    rintro D ys Wc hD hS ⟨⟨⟨v, hv, hrow, _⟩, hkp⟩, hB⟩ hK
    have HSS := Lib.hid hS
    have hrow' : upRow (Wc.putObj D (.deferred none)) w.heap.size v ys := ownsRow_putObj hrow (.deferred none) hK rfl
    obtain ⟨A4, c4, rfl, hS4, hn4, hm4⟩ := SUp.of_row hrow'
    have hcL := hv.cell
    have HD : Hid (Below w.heap.size w (Wc.putObj D (.deferred none))) := Lib.hid (hB.trans (belowK_b (w := w) (Nat.le_refl _) Wc D _ _ (by have := HS2.out; have := HX.out; omega) hK rfl rfl))
    have HS4 := Lib.hid (And.intro hS4 (And.intro hn4 hm4))
    clear hS4 hn4 hm4 hrow' hrow hB hkp hv hS
    gi_wp2
    refine ⟨by simp, .inl ⟨_, _, rfl, run_takeDeferred hK, ?_⟩⟩
    exact ⟨_, results_tmp rfl _ _ _, A4, c4, by rw [← HSS.out]; rfl, by rw [← HSS.out]; exact HS4.out.1, by rw [← HSS.out]; exact HS4.out.2.1, HS4.out.2.2, HD.out⟩
  case stop =>
    rintro D c' pre W _ _ h _
    exact h.elim
end Go.Proofs.Ytmfokogckfoheaa
