/-
  The queue in the order in which it is passed on: slices.SortedFunc, sorted (layer 10).
-/
import Derived.Test.YtphkaohcfgmmkaaRuCollect
import Derived.Test.YtphkaohcfgmmkaaRuLimit
namespace Go.Proofs.Ytphkaohcfgmmkaa
open Go.RowKit Go.Maps Go.Sort
set_option linter.unusedSimpArgs false
set_option linter.unusedVariables false

abbrev cmpIt : Nat := 20
theorem wh_inj {L : List Ru} (h : (L.map (·.wh)).Nodup) {i j : Nat} (hi : i < L.length) (hj : j < L.length) (e : L[i].wh = L[j].wh) : i = j := by
  have h1 := List.pairwise_iff_getElem.1 h
  rcases Nat.lt_trichotomy i j with k | k | k
  · exact absurd (by rw [List.getElem_map, List.getElem_map]; exact e) (h1 i j (by simpa using hi) (by simpa using hj) k)
  · exact k
  · exact absurd (by rw [List.getElem_map, List.getElem_map]; exact e.symm) (h1 j i (by simpa using hj) (by simpa using hi) k)
/-- What the library's sort leaves is the one sorted list. -/
theorem sorted_is {L xs : List Ru} (hs : L.Pairwise Ru.lt) (hw : (L.map (·.wh)).Nodup) (hp : xs.Perm L) {d : Array Ru} (h1 : PermIn 0 xs.toArray.size xs.toArray d) (h2 : SortedIn (Go.Proofs.ltOf cfR) 0 xs.toArray.size d) : d = L.toArray := by
  obtain ⟨hsz, _, hpm⟩ := h1
  have e1 : (d.extract 0 xs.toArray.size).toList = d.toList := by rw [← hsz]; simp
  have e2 : (xs.toArray.extract 0 xs.toArray.size).toList = xs := by simp
  rw [e1, e2] at hpm
  have hpL := hpm.trans hp
  have hwd : (d.toList.map (·.wh)).Nodup := ((hpL.map (·.wh)).nodup_iff).2 hw
  have hsd : d.toList.Pairwise Ru.lt := by
    rw [List.pairwise_iff_getElem]
    intro i j hi hj hij
    have hi' : i < d.size := by simpa using hi
    have hj' : j < d.size := by simpa using hj
    have := h2 i j (Nat.zero_le _) hij (by rw [← hsz]; exact hj')
    rw [getElem!_pos d j hj', getElem!_pos d i hi', ltOf_cfR] at this
    have hne : d[i].wh ≠ d[j].wh := fun e => by
      have := wh_inj hwd hi hj (by simpa using e)
      omega
    rcases Ru.lt_total hne with h | h
    · simpa using h
    · rw [(Ru.ltB_iff _ _).2 h] at this
      cases this
  have := sorted_unique hsd hs hpL
  rw [← this]
set_option maxHeartbeats 2000000 in
theorem sort_func_any {base : Nat} (L xs : List Ru) (v : Value) (w : World) (hrow : wtRow w base v xs) (hp : xs.Perm L) (hs : L.Pairwise Ru.lt) (hw : (L.map (·.wh)).Nodup) (h8 : L.length ≤ 1000) :
    Calls Try.prog 26 #[v, .func (.func cmpIt) #[] #[]] w fun e w' => e = .returned (.tuple #[]) ∧ wtRow w' base v L ∧ w.grownBy w' v.ownBlock := by
  have hl := hp.length_eq
  by_cases h0 : xs = []
  · subst h0
    have : L = [] := List.eq_nil_of_length_eq_zero (by simpa using hl.symm)
    subst this
    obtain ⟨A, c, rfl, _⟩ := SK.of_row ruC_len hrow
    refine (AnyF.slices_SortFunc_none Try.laysSort A c (.func (.func cmpIt) #[] #[]) w).mono ?_
    rintro e w' ⟨rfl, rfl⟩
    exact ⟨rfl, hrow, World.grownBy.but (World.grownBy.refl _ _) _⟩
  · obtain ⟨g, cap, e, hb, hlt⟩ : ∃ g cap, v = .slice (some ⟨g, 0, none⟩) xs.length cap ∧ base ≤ g ∧ g < w.heap.size := own_form hrow (by
      cases xs with
      | nil => exact absurd rfl h0
      | cons a b => simp)
    subst e
    have hH := holdsK_of_row ruC_len hrow
    have eg : ∀ args w, (callFunc cmpIt args).run Try.prog w = .ok (.enter cmpIt args) w := enters_of Try.func20 (by kernel_rfl) rfl
    have hcmp : CmpLays Try.prog cmpIt #[] ruC 5 cfR g 0 xs.toArray.size w := fun _ _ _ _ x y => cmp_any x y _
    have hcon := AnyQ.slices_SortFunc Try.laysSort 5 Try.isAgg53 Try.sizeOf53 ruC ruC_len ruC_one cfR swo_cfR cmpIt #[] g 0 cap xs.toArray w eg hcmp hH hlt (by simp; omega)
    rw [List.size_toArray] at hcon
    refine hcon.mono ?_
    rintro e w' ⟨rfl, d, n, os, h1, h2, rfl⟩
    have e := sorted_is hs hw hp (d := d) (by simpa using h1) (by simpa using h2)
    subst e
    exact ⟨rfl, by
      have := rowK.sorted (m := n) (os := os) ruC_len (l' := L) hl.symm hrow
      exact this, grownBy_sortK _⟩
set_option maxHeartbeats 2000000 in
theorem sorted_func_any (Bm M : Nat) (L : List Ru) (w : World) (hBm : w.heap[Bm]? = some (.cells #[.map (some M)] 45 (0, 0))) (hM : QMap w M (atL L) L.length) (hd : (L.map (·.u.node)).Nodup) (hi : ∀ r ∈ L, wfI r.u.node) (hs : L.Pairwise Ru.lt) (hw : (L.map (·.wh)).Nodup) (h8 : L.length ≤ 1000) :
    Calls Try.prog 18 #[.func (.func valIt) #[] #[.pointer (some ⟨Bm, 0, none⟩)], .func (.func cmpIt) #[] #[]] w fun e w' => ∃ v, e = .returned v ∧ wtRow w' w.heap.size v L ∧ Below w.heap.size w w' := by
  have HC := Lib.hid ((callsIn_wide (n := 3)).1 (collect_any 3 (by omega) #[.pointer (some ⟨Bm, 0, none⟩)] (fun xs => xs.Perm L) L.length h8 w (values_tells 1 (by omega) Bm M L w hBm hM hd hi)))
  have HS := Lib.hid hs
  have HW := Lib.hid hw
  have H8 := Lib.hid h8
  clear hBm hM hd hi hs hw h8
  go_enter Try.func18, Try.ntmps18
  go_wp2_with fail
  refine HC.out.mono ?_
  rintro e w1 ⟨v, xs, rfl, hp, hrow, hb⟩
  have HSt := Lib.hid (sort_func_any L xs v w1 hrow hp HS.out HW.out H8.out)
  have HRow := Lib.hid hrow
  have HB := Lib.hid hb
  clear hp hrow hb HC
  go_wp2_with fail
  refine HSt.out.mono ?_
  rintro e w2 ⟨rfl, hrow2, hg⟩
  have HRow2 := Lib.hid hrow2
  have HB2 : Hid (Below w.heap.size w w2) := Lib.hid (HB.out.grown hg HB.out.size (fun r hr => (rowK.from HRow.out r hr).1))
  clear hrow2 hg HSt
  go_wp2
  go_ret
  exact ⟨v, rfl, HRow2.out, HB2.out⟩
set_option maxHeartbeats 2000000 in
theorem sorted_any {B M : Nat} {q : Qu} (w : World) (h : QuAt w B M q) :
    Calls Try.prog 16 #[.pointer (some ⟨B, 0, none⟩)] w fun e w' => ∃ v, e = .returned v ∧ wtRow w' w.heap.size v q.L ∧ Below w.heap.size w w' := by
  have c2 := h.c2
  have HV := Lib.hid (values_any (some M) w)
  obtain ⟨W1, hW1⟩ : ∃ W1, w.alloc (.cells #[.map (some M)] 45) = W1 := ⟨_, rfl⟩
  have hb1 : Below w.heap.size w W1 := by rw [← hW1]; exact below1 _ _
  have hk : W1.heap[w.heap.size]? = some (.cells #[.map (some M)] 45 (0, 0)) := by rw [← hW1]; exact heap_alloc_new _ _
  have HS := Lib.hid (sorted_func_any w.heap.size M q.L W1 hk (h.below hb1).map h.ok.nodes h.ok.wf h.ok.sorted h.ok.whs (by have := h.few; omega))
  have HW1 := Lib.hid hW1
  have HB1 := Lib.hid hb1
  clear h hW1 hb1 hk
  go_enter Try.func16, Try.ntmps16
  go_wp2_with fail
  refine HV.out.mono ?_
  rintro e w1 ⟨rfl, rfl⟩
  clear HV c2
  rw [HW1.out]
  go_wp2_with fail
  refine HS.out.mono ?_
  rintro e w2 ⟨v, rfl, hrow, hb⟩
  have HR := Lib.hid (And.intro hrow hb)
  clear hrow hb HS
  go_wp2
  go_ret
  exact ⟨v, rfl, rowK.base_le HR.out.1 HB1.out.size, HB1.out.trans (HR.out.2.mono HB1.out.size)⟩
end Go.Proofs.Ytphkaohcfgmmkaa
