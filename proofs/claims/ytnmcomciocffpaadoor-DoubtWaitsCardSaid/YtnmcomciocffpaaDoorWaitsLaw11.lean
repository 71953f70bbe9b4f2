/-
  With any numbers it lasts as long as the document says: the law sodalitylaw11.DoubtWaits, walked.
-/
import Derived.Test.YtnmcomciocffpaaDoorDbStep
namespace Go.Proofs.YtnmcomciocffpaaDoor
open Go.RowKit
set_option linter.unusedSimpArgs false
set_option linter.unusedVariables false

def waitsR (_ : Nat → Prop) (b0 : Nat) (p : Pln) (hv : Int) (n : Int) : Nat → Value → World → Prop
  | 0, v, _ => v = .pointer (some ⟨b0, 0, none⟩)
  | 1, v, _ => v = .int .i64 p.least
  | 2, v, _ => v = .pointer (some ⟨b0, 1, none⟩)
  | 3, v, _ => v = .int .i64 p.most
  | 4, v, _ => v = .pointer (some ⟨b0, 2, none⟩)
  | 5, v, _ => v = .int .i64 p.want
  | 6, v, _ => v = .int .i64 hv
  | 7, v, _ => v = .int .i64 n
  | 8, v, _ => v = .pointer (some ⟨b0, 0, none⟩)
  | 9, v, _ => v = .int .i64 p.least
  | 10, v, _ => v = .pointer (some ⟨b0, 1, none⟩)
  | 11, v, _ => v = .int .i64 p.most
  | 12, v, _ => v = .pointer (some ⟨b0, 2, none⟩)
  | 13, v, _ => v = .int .i64 p.want
  | 14, v, _ => v = .int .i64 hv
  | 15, v, _ => v = .int .i64 n
  | 16, v, _ => v = .bool true
  | 17, v, _ => v = .bool true
  | 18, v, _ => v = .bool true
  | 19, v, _ => v = .bool true
  | 20, v, _ => v = .bool true
  | _, _, _ => True
theorem waitsR_stable (S : Nat → Prop) (b0 : Nat) (p : Pln) (hv : Int) (n : Int) : ∀ i v w w', waitsR S b0 p hv n i v w → But S w w' → waitsR S b0 p hv n i v w'
  | 0, _, _, _, h, _ | 1, _, _, _, h, _ | 2, _, _, _, h, _ | 3, _, _, _, h, _ | 4, _, _, _, h, _ | 5, _, _, _, h, _ | 6, _, _, _, h, _ | 7, _, _, _, h, _ | 8, _, _, _, h, _ | 9, _, _, _, h, _ | 10, _, _, _, h, _ | 11, _, _, _, h, _ | 12, _, _, _, h, _ | 13, _, _, _, h, _ | 14, _, _, _, h, _ | 15, _, _, _, h, _ | 16, _, _, _, h, _ | 17, _, _, _, h, _ | 18, _, _, _, h, _ | 19, _, _, _, h, _ | 20, _, _, _, h, _ => h
  | _ + 21, _, _, _, h, _ => h

set_option maxHeartbeats 8000000 in
theorem waits_walk (p : Pln) (hv : Int) (w : World) (hs : ScIs w) :
    Calls Tryd.prog 3 #[.agg #[.int .i64 p.least, .int .i64 p.most, .int .i64 p.want, .int .i64 p.from_], .int .i64 hv] w fun e w' => e = .returned (.bool true) ∧ Below w.heap.size w w' := by
  obtain ⟨W0, hW0⟩ : ∃ W0, w.alloc (.cells #[.int .i64 p.least, .int .i64 p.most, .int .i64 p.want, .int .i64 p.from_] TP) = W0 := ⟨_, rfl⟩
  obtain ⟨b0, hb0⟩ : ∃ b0, w.heap.size = b0 := ⟨_, rfl⟩
  have hk : W0.heap[b0]? = some (.cells #[.int .i64 p.least, .int .i64 p.most, .int .i64 p.want, .int .i64 p.from_] TP (0, 0)) := by rw [← hW0, ← hb0]; exact heap_alloc_new w _
  have hb : Below w.heap.size w W0 := by rw [← hW0]; exact (Below.refl _ _).alloc (Nat.le_refl _) _
  have HSc := Lib.hid (hs.below hb)
  obtain ⟨n, hn⟩ : ∃ n, waitD p.least p.most p.want hv = n := ⟨_, rfl⟩
  have HW : Hid (∀ w', ScIs w' → Calls Tryd.prog 7 #[.int .i64 p.least, .int .i64 p.most, .int .i64 p.want, .int .i64 hv] w' (Quiet w' (.int .i64 n))) := Lib.hid (fun w' h => by rw [← hn]; exact wait_any _ _ _ _ w' h)
  have HR : Hid (∀ w', Calls Tryd.prog 8 #[.int .i64 p.least, .int .i64 p.most, .int .i64 p.want, .int .i64 hv] w' (RWaitPost w' n)) := Lib.hid (fun w' => by rw [← hn]; exact rwait_any _ _ _ _ w')
  have HWk := Lib.hid (fun w' h => works_any w' h)
  have HLT := Lib.hid (block_lt hk)
  have HK := Lib.hid hk
  have HB := Lib.hid hb
  have HW0 := Lib.hid hW0
  have HB0 := Lib.hid hb0
  clear hk hb hW0 hb0 hn hs
  go_enter Tryd.func3, Tryd.ntmps3
  go_wp2
  rw [HW0.out, HB0.out]
  refine Go.Rel.wp_region_states (by kernel_rfl) (by kernel_rfl) (by kernel_rfl) (by kernel_rfl) (fun _ w => ScIs w) (But NoS) (fun _ _ _ h k => h.trans k) ((But.refl _ _).drew) HSc.out (waitsR NoS b0 p hv n) (waitsR_stable NoS b0 p hv n) ?hsteps ?hend
  case hsteps =>
    refine (.cons ?_ (.cons ?_ (.cons ?_ (.cons ?_ (.cons ?_ (.cons ?_ (.cons ?_ (.cons ?_ (.cons ?_ (.cons ?_ (.cons ?_ (.cons ?_ (.cons ?_ (.cons ?_ (.cons ?_ (.cons ?_ (.cons ?_ (.cons ?_ (.cons ?_ (.cons ?_ (.cons ?_ .nil)))))))))))))))))))))
    · intro f a w' hI hf hanc hdesc hle hs' hd K hK
      have f2 : a.tmps[2]? = some (.pointer (some ⟨b0, 0, none⟩)) := hs'.2.2 2 (by kernel_rfl)
      unfold Go.Rel.stepOf
      go_simp
      exact hK _ _ (But.refl _ _) (hI) rfl
    · intro f a w' hI hf hanc hdesc hle hs' hd K hK
      obtain ⟨_, t0, rfl⟩ := hd 0 5 (by kernel_rfl)
      obtain ⟨k0, k1, k2, k3⟩ := blk4 ((hle.block b0 HLT.out (fun h => h)).trans HK.out)
      unfold Go.Rel.stepOf
      go_simp
      exact hK _ _ (But.refl _ _) (hI) rfl
    · intro f a w' hI hf hanc hdesc hle hs' hd K hK
      have f2 : a.tmps[2]? = some (.pointer (some ⟨b0, 0, none⟩)) := hs'.2.2 2 (by kernel_rfl)
      unfold Go.Rel.stepOf
      go_simp
      exact hK _ _ (But.refl _ _) (hI) rfl
    · intro f a w' hI hf hanc hdesc hle hs' hd K hK
      obtain ⟨_, t2, rfl⟩ := hd 2 7 (by kernel_rfl)
      obtain ⟨k0, k1, k2, k3⟩ := blk4 ((hle.block b0 HLT.out (fun h => h)).trans HK.out)
      unfold Go.Rel.stepOf
      go_simp
      exact hK _ _ (But.refl _ _) (hI) rfl
    · intro f a w' hI hf hanc hdesc hle hs' hd K hK
      have f2 : a.tmps[2]? = some (.pointer (some ⟨b0, 0, none⟩)) := hs'.2.2 2 (by kernel_rfl)
      unfold Go.Rel.stepOf
      go_simp
      exact hK _ _ (But.refl _ _) (hI) rfl
    · intro f a w' hI hf hanc hdesc hle hs' hd K hK
      obtain ⟨_, t4, rfl⟩ := hd 4 9 (by kernel_rfl)
      obtain ⟨k0, k1, k2, k3⟩ := blk4 ((hle.block b0 HLT.out (fun h => h)).trans HK.out)
      unfold Go.Rel.stepOf
      go_simp
      exact hK _ _ (But.refl _ _) (hI) rfl
    · intro f a w' hI hf hanc hdesc hle hs' hd K hK
      have f1 : a.tmps[1]? = some (.int .i64 hv) := hs'.2.2 1 (by kernel_rfl)
      unfold Go.Rel.stepOf
      go_simp
      exact hK _ _ (But.refl _ _) (hI) rfl
    · intro f a w' hI hf hanc hdesc hle hs' hd K hK
      obtain ⟨_, t1, rfl⟩ := hd 1 6 (by kernel_rfl)
      obtain ⟨_, t3, rfl⟩ := hd 3 8 (by kernel_rfl)
      obtain ⟨_, t5, rfl⟩ := hd 5 10 (by kernel_rfl)
      obtain ⟨_, t6, rfl⟩ := hd 6 11 (by kernel_rfl)
      unfold Go.Rel.stepOf
      go_simp
      refine (HW.out w' hI).mono ?_
      rintro e w2 ⟨rfl, hq⟩
      have hb5 := Quiet.below hq
      exact hK _ _ (But.of_below hb5) (hI.below hb5) rfl
    · intro f a w' hI hf hanc hdesc hle hs' hd K hK
      have f2 : a.tmps[2]? = some (.pointer (some ⟨b0, 0, none⟩)) := hs'.2.2 2 (by kernel_rfl)
      unfold Go.Rel.stepOf
      go_simp
      exact hK _ _ (But.refl _ _) (hI) rfl
    · intro f a w' hI hf hanc hdesc hle hs' hd K hK
      obtain ⟨_, t8, rfl⟩ := hd 8 13 (by kernel_rfl)
      obtain ⟨k0, k1, k2, k3⟩ := blk4 ((hle.block b0 HLT.out (fun h => h)).trans HK.out)
      unfold Go.Rel.stepOf
      go_simp
      exact hK _ _ (But.refl _ _) (hI) rfl
    · intro f a w' hI hf hanc hdesc hle hs' hd K hK
      have f2 : a.tmps[2]? = some (.pointer (some ⟨b0, 0, none⟩)) := hs'.2.2 2 (by kernel_rfl)
      unfold Go.Rel.stepOf
      go_simp
      exact hK _ _ (But.refl _ _) (hI) rfl
    · intro f a w' hI hf hanc hdesc hle hs' hd K hK
      obtain ⟨_, t10, rfl⟩ := hd 10 15 (by kernel_rfl)
      obtain ⟨k0, k1, k2, k3⟩ := blk4 ((hle.block b0 HLT.out (fun h => h)).trans HK.out)
      unfold Go.Rel.stepOf
      go_simp
      exact hK _ _ (But.refl _ _) (hI) rfl
    · intro f a w' hI hf hanc hdesc hle hs' hd K hK
      have f2 : a.tmps[2]? = some (.pointer (some ⟨b0, 0, none⟩)) := hs'.2.2 2 (by kernel_rfl)
      unfold Go.Rel.stepOf
      go_simp
      exact hK _ _ (But.refl _ _) (hI) rfl
    · intro f a w' hI hf hanc hdesc hle hs' hd K hK
      obtain ⟨_, t12, rfl⟩ := hd 12 17 (by kernel_rfl)
      obtain ⟨k0, k1, k2, k3⟩ := blk4 ((hle.block b0 HLT.out (fun h => h)).trans HK.out)
      unfold Go.Rel.stepOf
      go_simp
      exact hK _ _ (But.refl _ _) (hI) rfl
    · intro f a w' hI hf hanc hdesc hle hs' hd K hK
      have f1 : a.tmps[1]? = some (.int .i64 hv) := hs'.2.2 1 (by kernel_rfl)
      unfold Go.Rel.stepOf
      go_simp
      exact hK _ _ (But.refl _ _) (hI) rfl
    · intro f a w' hI hf hanc hdesc hle hs' hd K hK
      obtain ⟨_, t9, rfl⟩ := hd 9 14 (by kernel_rfl)
      obtain ⟨_, t11, rfl⟩ := hd 11 16 (by kernel_rfl)
      obtain ⟨_, t13, rfl⟩ := hd 13 18 (by kernel_rfl)
      obtain ⟨_, t14, rfl⟩ := hd 14 19 (by kernel_rfl)
      unfold Go.Rel.stepOf
      go_simp
      refine (HR.out w').mono ?_
      rintro e w2 ⟨rfl, hb5⟩
      exact hK _ _ (But.of_below hb5) (hI.below hb5) rfl
    · intro f a w' hI hf hanc hdesc hle hs' hd K hK
      obtain ⟨_, t7, rfl⟩ := hd 7 12 (by kernel_rfl)
      obtain ⟨_, t15, rfl⟩ := hd 15 20 (by kernel_rfl)
      unfold Go.Rel.stepOf
      go_simp
      exact hK _ _ (But.refl _ _) (hI) rfl
    · intro f a w' hI hf hanc hdesc hle hs' hd K hK
      obtain ⟨_, t16, rfl⟩ := hd 16 21 (by kernel_rfl)
      unfold Go.Rel.stepOf
      go_simp
      exact hK _ _ (But.refl _ _) (hI) rfl
    · intro f a w' hI hf hanc hdesc hle hs' hd K hK
      obtain ⟨_, tg, rfl⟩ := hd 17 22 (by kernel_rfl)
      unfold Go.Rel.stepOf
      go_simp
      refine (HWk.out w' hI).mono ?_
      rintro e w2 ⟨rfl, hq⟩
      have hb5 := Quiet.below hq
      exact hK _ _ (But.of_below hb5) (hI.below hb5) rfl
    · intro f a w' hI hf hanc hdesc hle hs' hd K hK
      obtain ⟨_, t17, rfl⟩ := hd 17 22 (by kernel_rfl)
      obtain ⟨_, t18, rfl⟩ := hd 18 23 (by kernel_rfl)
      unfold Go.Rel.stepOf
      go_simp
      exact hK _ _ (But.refl _ _) (hI) rfl
    · intro f a w' hI hf hanc hdesc hle hs' hd K hK
      obtain ⟨_, t19, rfl⟩ := hd 19 24 (by kernel_rfl)
      unfold Go.Rel.stepOf
      go_simp
      exact hK _ _ (But.refl _ _) (hI) rfl
  case hend =>
    intro f a w3 hall hI hle hs' hR'
    have HBF : Hid (Below w.heap.size w w3) := Lib.hid (HB.out.trans (hle.below HB.out.size (fun _ _ h => h)))
    clear hI hall hle
    obtain ⟨v5, s5, _⟩ := hR' 0 5 (by kernel_rfl)
    obtain ⟨v6, s6, _⟩ := hR' 1 6 (by kernel_rfl)
    obtain ⟨v7, s7, _⟩ := hR' 2 7 (by kernel_rfl)
    obtain ⟨v8, s8, _⟩ := hR' 3 8 (by kernel_rfl)
    obtain ⟨v9, s9, _⟩ := hR' 4 9 (by kernel_rfl)
    obtain ⟨v10, s10, _⟩ := hR' 5 10 (by kernel_rfl)
    obtain ⟨v11, s11, _⟩ := hR' 6 11 (by kernel_rfl)
    obtain ⟨v12, s12, _⟩ := hR' 7 12 (by kernel_rfl)
    obtain ⟨v13, s13, _⟩ := hR' 8 13 (by kernel_rfl)
    obtain ⟨v14, s14, _⟩ := hR' 9 14 (by kernel_rfl)
    obtain ⟨v15, s15, _⟩ := hR' 10 15 (by kernel_rfl)
    obtain ⟨v16, s16, _⟩ := hR' 11 16 (by kernel_rfl)
    obtain ⟨v17, s17, _⟩ := hR' 12 17 (by kernel_rfl)
    obtain ⟨v18, s18, _⟩ := hR' 13 18 (by kernel_rfl)
    obtain ⟨v19, s19, _⟩ := hR' 14 19 (by kernel_rfl)
    obtain ⟨v20, s20, _⟩ := hR' 15 20 (by kernel_rfl)
    obtain ⟨v21, s21, _⟩ := hR' 16 21 (by kernel_rfl)
    obtain ⟨v22, s22, _⟩ := hR' 17 22 (by kernel_rfl)
    obtain ⟨v23, s23, _⟩ := hR' 18 23 (by kernel_rfl)
    obtain ⟨v24, s24, _⟩ := hR' 19 24 (by kernel_rfl)
    obtain ⟨_, s4, rfl⟩ := hR' 20 4 (by kernel_rfl)
    have e := hs'.shape
    simp only [List.toList_toArray, List.foldl, Go.Rel.reset, Array.getD_eq_getD_getElem?, s5, s6, s7, s8, s9, s10, s11, s12, s13, s14, s15, s16, s17, s18, s19, s20, s21, s22, s23, s24, s4, Option.getD_some] at e
    simp at e
    clear hR' hs' s5 s6 s7 s8 s9 s10 s11 s12 s13 s14 s15 s16 s17 s18 s19 s20 s21 s22 s23 s24 s4
    subst e
    go_wp2
    go_ret
    exact ⟨rfl, HBF.out⟩
end Go.Proofs.YtnmcomciocffpaaDoor
