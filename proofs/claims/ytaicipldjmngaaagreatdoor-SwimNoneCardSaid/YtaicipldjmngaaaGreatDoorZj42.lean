import Derived.Test.YtaicipldjmngaaaGreatDoorZj27
import Derived.Test.YtaicipldjmngaaaGreatDoorZj28
import Derived.Test.YtaicipldjmngaaaGreatDoorZj41
namespace Go.Proofs.YtaicipldjmngaaaGreatDoor.ro
open Go.RowKit Go.Shelf Go.Rel Go.Maps
set_option linter.unusedSimpArgs false
set_option linter.unusedVariables false
attribute [local go_sem] Oper.semAt_some
theorem int_info : (Tryz.prog.info? 3).map (fun i => (i.zero, i.size, i.bytes)) = some (some (.int .i64 0), 1, 8) := by kernel_rfl
def intsC (l : List Int) : List Value := l.map (intV .i64)
def IntsPost (w : World) (j : List Int) (e : Ending) (w' : World) : Prop := ∃ A c, e = .returned (.slice A j.length c) ∧ RV w' A j.length (intsC j) ∧ j.length ≤ c ∧ c ≤ maxLen ∧ Below w.heap.size w w'
theorem cell1_new (w : World) (x : Value) (t : TypeId) (j : Nat) (u : Value) (h : [x][j]? = some u) : (w.alloc (.cells #[x] t)).cell? ((⟨w.heap.size, 0, none⟩ : Addr).add j) = some u := by
  rw [plain_add, Nat.zero_add, cell_of_row _ w.heap.size j _ _ (0, 0) (heap_alloc_new w _)]
  simpa using h
theorem ints_of_row {w : World} {base : Nat} {v : Value} {l : List Int} (h : w.ownsRow base 3 1 v l.length (intsC l)) : ∃ A c, v = .slice A l.length c ∧ RV w A l.length (intsC l) ∧ l.length ≤ c ∧ c ≤ maxLen := by
  obtain ⟨A, c, h1, h2, _, h3, h4, _⟩ := RV.own h
  exact ⟨A, c, h1, h2, h3, h4⟩
def liveMk2 (B X : Nat) (fv : Value) (x : Int) : Act := { tmps := #[.pointer (some ⟨B, 0, none⟩), undef, .slice none 0 0, .pointer (some ⟨X, 0, none⟩), .int .i64 x, .pointer (some ⟨B, 0, none⟩), .bool true, .bool false, .pointer (some ⟨B, 0, none⟩), fv, .int .i64 x, undef, undef, undef, undef, undef], defers := [] }
def IntsNew (w : World) (j : List Int) (e : Ending) (w' : World) : Prop := ∃ A c, e = .returned (.slice A j.length c) ∧ w'.ownsRow w.heap.size 3 1 (.slice A j.length c) j.length (intsC j) ∧ Below w.heap.size w w'
theorem IntsNew.post {w w' : World} {j : List Int} {e : Ending} (h : IntsNew w j e w') : IntsPost w j e w' := by
  obtain ⟨A, c, rfl, h1, h2⟩ := h
  obtain ⟨A', c', e', h3, h4, h5⟩ := ints_of_row h1
  simp only [Value.slice.injEq, true_and] at e'
  obtain ⟨rfl, rfl⟩ := e'
  exact ⟨A, c, rfl, h3, h4, h5, h2⟩
set_option maxHeartbeats 4000000 in
set_option maxRecDepth 100000 in
theorem live_new {B M n : Nat} {r : Ro} (w : World) (hR : RlAt w B M r n) :
    Calls Tryz.prog 53 #[.pointer (some ⟨B, 0, none⟩)] w (IntsNew w (livesL (listTo r.T 8))) := by
  refine (callsIn_wide (n := 5)).1 ?_
  obtain ⟨i0, hi, hz0, hz1, hz2⟩ := info_parts int_info
  have HMd := Lib.hid (made_yes w hR)
  obtain ⟨X, hX⟩ : ∃ X, w.heap.size = X := ⟨_, rfl⟩
  have b1 := below1 w (.cells #[.slice none 0 0] 58)
  have k1 := Boxed.new w 58 (.slice none 0 0)
  obtain ⟨W1, hW1⟩ : ∃ W1, w.alloc (.cells #[.slice none 0 0] 58) = W1 := ⟨_, rfl⟩
  have s1 : W1.heap.size = X + 1 := by rw [← hW1, ← hX]; simp
  rw [hW1] at b1 k1
  rw [hX] at k1
  have b2 := below1 W1 (.cells #[.pointer (some ⟨B, 0, none⟩)] 31)
  have k2 := heap_alloc_new W1 (.cells #[.pointer (some ⟨B, 0, none⟩)] 31)
  have k1' := k1.alloc (.cells #[.pointer (some ⟨B, 0, none⟩)] 31)
  have hR2 := (hR.below b1).below b2
  obtain ⟨W2, hW2⟩ : ∃ W2, W1.alloc (.cells #[.pointer (some ⟨B, 0, none⟩)] 31) = W2 := ⟨_, rfl⟩
  have s2 : W2.heap.size = X + 1 + 1 := by rw [← hW2]; simp [s1]
  rw [hW2] at b2 k2 k1' hR2
  rw [s1] at k2
  have hseq := live_tells 4 (by omega) (X + 1) B M n r W2 k2 hR2
  have HB2 := Lib.hid (b1.trans (b2.mono b1.size))
  have HU := Lib.hid (plive_any (some ⟨B, 0, none⟩) W1)
  have HW1 := Lib.hid hW1
  have HW2 := Lib.hid hW2
  have HX := Lib.hid hX
  have HS1 := Lib.hid s1
  have HS2 := Lib.hid s2
  have HK1 := Lib.hid k1'
  have HSeq := Lib.hid hseq
  have HR2 := Lib.hid hR2
  clear hR hX b1 k1 hW1 s1 b2 k2 k1' hR2 hW2 s2 hseq
  refine callsIn_of_wp_marks Tryz.func53 rfl trivial ?_ rfl
  simp only [Tryz.ntmps53, List.size_toArray, List.length_cons, List.length_nil, Nat.reduceAdd, Nat.reduceSub, Array.replicate_succ, Array.replicate_zero, List.push_toArray, List.append_toArray, List.nil_append, List.cons_append]
  gi_wp2_with fail
  refine ⟨trivial, (callsIn_wide.2 HMd.out).mono ?_⟩
  rintro e w' ⟨rfl, rfl⟩
  clear HMd
  gi_wp2_with fail
  rw [HW1.out, HX.out]
  refine ⟨trivial, (callsIn_wide.2 HU.out).mono ?_⟩
  rintro e w' ⟨rfl, rfl⟩
  rw [HW2.out, HS1.out]
  gi_wp2
  refine wpIn_range_o rfl (by omega) (gf := 134) (lb := #[.pointer (some ⟨X + 1, 0, none⟩)]) (by simp [go_sem]) trivial (enters_of Tryz.func134 (by kernel_rfl) rfl) HSeq.out kpT_t (fun W o' o h => kpT_b (by have := HR2.out.lt.2; omega) W o' o h) (Below.refl _ _) (fun _ => rfl)
    (fun pre Wc => ((∃ v, Boxed Wc X 58 v ∧ Wc.ownsRow w.heap.size 3 1 v pre.length (intsC pre) ∧ True) ∧ KpT M W2 Wc) ∧ Below w.heap.size w Wc)
    (fun _ _ _ => False)
    (OwnFrom.and (OwnFrom.and (Own.from (holdsRow_own w.heap.size X 58 3 1 (fun pre : List Int => pre.length) (fun pre => intsC pre) (fun _ _ => True)) _) (kpT_own W2 HR2.out.lt.2)) (ownFrom_below (Nat.le_refl _) (by have := HS2.out; have := HX.out; omega)))
    (fun _ _ _ _ _ hs _ _ => hs)
    ⟨⟨⟨_, HK1.out, World.ownsRow_nil _ _ _ _, trivial⟩, kpT_below (Below.refl _ _) HR2.out.lt.2⟩, HB2.out⟩
    (fun x a _ => a = liveMk2 B X (.func (.func 134) #[] #[.pointer (some ⟨X + 1, 0, none⟩)]) x)
    (fun _ _ _ _ _ _ hs _ _ => hs) ?assign ?body ?done ?stop
  case assign =>
    rintro l2 pre x Wc K hI _ hK
    have HI := Lib.hid hI
    have HKK := Lib.hid hK
    unfold intEncs
    clear hI hK
    gi_wp2
    exact HKK.out _ _ (KeepsFrom.refl _ _) (kpT_below (Below.refl _ _) (Nat.lt_of_lt_of_le HR2.out.lt.2 HI.out.1.2.1)) HI.out rfl
  case body =>
    rintro l2 pre x a' W hl ⟨r0, hr0⟩ ⟨⟨⟨v, hv, hrow, _⟩, hkp⟩, hB⟩ rfl hlt
    have hcL := hv.cell
    have hBsz := hB.size
    have HRow := Lib.hid hrow
    have HV := Lib.hid hv
    have HKP := Lib.hid hkp
    have HBB := Lib.hid hB
    unfold liveMk2
    clear hrow hv hkp hB hr0
    gi_wp2_with (gi_at_builtin; refine wpListIn_append_own _ rfl _ _ 58 rfl w.heap.size 3 i0 (.int .i64 0) 1 8 Tryz.underlying58 hi hz0 hz1 hz2 rfl (by decide) _ _ _ rfl (HRow.out.alloc _) ⟨W.heap.size, 0, none⟩ 1 1 [.int .i64 x] rfl rfl (cell1_new _ _ _) (by simp [Value.oneCell']) (by unfold maxLen; omega) (by omega) (by simp; omega) ?_; intro v' w1 hown' hgrow _; obtain ⟨g', cap', rfl⟩ := ownsRow_succ hown'; obtain ⟨hv1, hv2, hr2, hk2, hb2⟩ := HV.out.appended (by decide) HRow.out hBsz (by have := HX.out; omega) hown' hgrow; have hc1 := hv1.cell; have hf1 := hv1.frozen; have HV1 := Lib.hid hv1; have HV2 := Lib.hid hv2; have HR2' := Lib.hid hr2; have HK2 := Lib.hid hk2; have HB2' := Lib.hid hb2; have HG := Lib.hid hgrow; clear hv1 hv2 hr2 hk2 hb2 hgrow hown')
    have hMW : M < W.heap.size := Nat.lt_of_lt_of_le HR2.out.lt.2 HKP.out.1
    have hkk : KpT M W (w1.setCell ⟨X, 0, none⟩ (.slice (some ⟨g', 0, none⟩) (pre.length + 1) cap')) := kpT_appended hMW (fun cur t f h => HR2.out.map.not_cells (by rw [← HKP.out.2.1]; exact h)) HV.out HV1.out (by decide) (by decide) HRow.out HG.out
    refine ⟨HK2.out.from _, hkk, ⟨⟨_, HV2.out, ?_, trivial⟩, kpT_t HKP.out hkk⟩, HBB.out.trans HB2'.out⟩
    have := HR2'.out
    rw [List.length_append]
    simpa [intsC, intV] using this
  case done =>
    rintro D ys Wc hD hS ⟨⟨⟨v, hv, hrow, _⟩, hkp⟩, hB⟩ hK
    have HSS := Lib.hid hS
    have hrow' : (Wc.putObj D (.deferred none)).ownsRow w.heap.size 3 1 v ys.length (intsC ys) := ownsRow_putObj hrow (.deferred none) hK rfl
    obtain ⟨A4, c4, rfl, hS4, hn4, hm4⟩ := ints_of_row hrow'
    have hcL := hv.cell
    have HD : Hid (Below w.heap.size w (Wc.putObj D (.deferred none))) := Lib.hid (hB.trans (belowK_b (w := w) (Nat.le_refl _) Wc D _ _ (by have := HS2.out; have := HX.out; omega) hK rfl rfl))
    have HS4 := Lib.hid hrow'
    clear hS4 hn4 hm4 hrow' hrow hB hkp hv hS
    gi_wp2
    refine ⟨by simp, .inl ⟨_, _, rfl, run_takeDeferred hK, ?_⟩⟩
    exact ⟨_, results_tmp rfl _ _ _, A4, c4, by rw [← HSS.out]; rfl, by rw [← HSS.out]; exact HS4.out, HD.out⟩
  case stop =>
    rintro D c' pre W _ _ h _
    exact h.elim
end Go.Proofs.YtaicipldjmngaaaGreatDoor.ro

namespace Go.Proofs.YtaicipldjmngaaaGreatDoor.ro
open Go.RowKit Go.Shelf Go.Rel Go.Maps
set_option linter.unusedSimpArgs false
set_option linter.unusedVariables false
attribute [local go_sem] Oper.semAt_some
end Go.Proofs.YtaicipldjmngaaaGreatDoor.ro

namespace Go.Proofs.YtaicipldjmngaaaGreatDoor.dr
end Go.Proofs.YtaicipldjmngaaaGreatDoor.dr
namespace Go.Proofs.YtaicipldjmngaaaGreatDoor.wh
end Go.Proofs.YtaicipldjmngaaaGreatDoor.wh
namespace Go.Proofs.YtaicipldjmngaaaGreatDoor.ro
end Go.Proofs.YtaicipldjmngaaaGreatDoor.ro
namespace Go.Proofs.YtaicipldjmngaaaGreatDoor.ru
end Go.Proofs.YtaicipldjmngaaaGreatDoor.ru
namespace Go.Proofs.YtaicipldjmngaaaGreatDoor.db
end Go.Proofs.YtaicipldjmngaaaGreatDoor.db
namespace Go.Proofs.YtaicipldjmngaaaGreatDoor.pr
end Go.Proofs.YtaicipldjmngaaaGreatDoor.pr
namespace Go.Proofs.YtaicipldjmngaaaGreatDoor.sp
end Go.Proofs.YtaicipldjmngaaaGreatDoor.sp
namespace Go.Proofs.YtaicipldjmngaaaGreatDoor.sw
open Go.Proofs.YtaicipldjmngaaaGreatDoor.dr Go.Proofs.YtaicipldjmngaaaGreatDoor.wh Go.Proofs.YtaicipldjmngaaaGreatDoor.ro Go.Proofs.YtaicipldjmngaaaGreatDoor.ru Go.Proofs.YtaicipldjmngaaaGreatDoor.db Go.Proofs.YtaicipldjmngaaaGreatDoor.pr Go.Proofs.YtaicipldjmngaaaGreatDoor.sp
theorem body_short {m : sp.Ms} (h : m.Ok) (hw : m.wide) (h8 : m.us.length ≤ 8) : (sp.bodyM m).length ≤ 261 := by
  obtain ⟨hq, hu⟩ := hw
  have hf := h.src
  have ht := h.tgt
  have a1 : (sp.seqB m).length ≤ 9 := by
    unfold sp.seqB
    split
    · exact numB_le (by omega)
    · simp
  have a2 := numB_le (n := m.src.toNat) (by omega)
  have a3 : (sp.tgtB m).length ≤ 9 := by
    unfold sp.tgtB
    split
    · exact numB_le (by omega)
    · simp
  have a4 : (sp.repB m).length ≤ 9 := by
    unfold sp.repB
    split
    · rw [flagB]; exact numB_le (by cases m.rep <;> simp)
    · simp
  have a5 : (sp.usB m).length ≤ 9 + 27 * 8 := by
    unfold sp.usB
    split
    · have b1 := numB_le (n := m.us.length) (by omega)
      have b2 := sp.upsB_length m.us h.each hu
      rw [List.length_append]
      omega
    · simp
  unfold sp.bodyM
  rw [List.length_append, List.length_append, List.length_append, List.length_append]
  omega
theorem Pkt.Ok.packs {p : Pkt} (h : p.Ok) : sp.errPM p.ms = 0 ∧ (encs (p.ms.map sp.frM)).length ≤ 1400 := by
  have hlen : ∀ ms : List sp.Ms, (∀ m ∈ ms, m.Ok ∧ m.wide) → (∀ m ∈ ms, m.us.length ≤ 8) → (encs (ms.map sp.frM)).length ≤ 268 * ms.length := by
    intro ms
    induction ms with
    | nil => intro _ _; simp [encs]
    | cons m ms ih =>
      intro h1 h2
      have h3 := ih (fun x hx => h1 x (by simp [hx])) (fun x hx => h2 x (by simp [hx]))
      have h4 := body_short (h1 m (by simp)).1 (h1 m (by simp)).2 (h2 m (by simp))
      rw [List.map_cons, encs_cons, List.length_append, encF_length, List.length_cons]
      have e : (sp.frM m).b = sp.bodyM m := rfl
      rw [e]
      omega
  have h1 := hlen p.ms h.each h.short
  have h2 := h.few
  have h14 : (encs (p.ms.map sp.frM)).length ≤ 1400 := by omega
  have h0 : 0 < p.ms.length := List.length_pos_iff.2 h.some_
  have he : errsF (p.ms.map sp.frM) = 0 := errsF_zero.2 (fun f hf => by
    obtain ⟨m, hm, rfl⟩ := List.mem_map.1 hf
    exact sp.frM_ok (h.each m hm).1 (h.each m hm).2)
  refine ⟨?_, h14⟩
  unfold sp.errPM
  rw [if_pos (fun m hm => (sp.Ms.right_iff m).2 (h.each m hm).1)]
  unfold errPack
  rw [if_neg (by rw [he]; simp), if_neg (by rw [List.length_map]; omega), if_neg (by omega)]
theorem live_eq (s : Sw) : ro.livesL (ro.listTo s.ro.T 8) = s.live := by
  unfold ro.livesL Sw.live livesOf
  congr 1
theorem live_len (s : Sw) : s.live.length ≤ 8 := by
  unfold Sw.live livesOf
  rw [List.length_map]
  exact Nat.le_trans (List.length_filter_le _ _) (view_len s)
end Go.Proofs.YtaicipldjmngaaaGreatDoor.sw
