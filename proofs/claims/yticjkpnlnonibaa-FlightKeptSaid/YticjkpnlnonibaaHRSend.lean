/-
  Send of the document's flight, its row (layer 7).
-/
import Derived.Test.YticjkpnlnonibaaHAdd
namespace Go.Proofs.Yticjkpnlnonibaa
open Go.RowKit
set_option linter.unusedSimpArgs false
set_option linter.unusedVariables false

def rsendR (k : Ap) (X : Nat) : Nat → Value → World → Prop
  | 0, v, _ => v = .pointer (some ⟨k.B, 0, none⟩)
  | 1, v, _ => v = .pointer (some ⟨k.B, 0, none⟩)
  | 2, v, _ => v = .pointer (some ⟨k.B, 0, none⟩)
  | 3, v, _ => v = .pointer (some ⟨k.B, 0, none⟩)
  | 4, v, _ => v = k.v
  | 5, v, _ => v = .pointer (some ⟨k.B, 0, none⟩)
  | 6, v, _ => v = .pointer (some ⟨k.B, 0, none⟩)
  | 7, v, _ => v = .pointer (some ⟨k.B, 1, none⟩)
  | 8, v, _ => v = .int .i64 (k.id : Int)
  | 9, v, _ => v = .agg #[.int .i64 k.p.fr, .int .i64 k.p.to, .slice k.p.A k.p.body.length k.p.c]
  | 10, v, w => ∃ A c, v = .agg #[.int .i64 (k.id : Int), .int .i64 k.p.fr, .int .i64 k.p.to, .slice A k.p.body.length c] ∧ k.G A c w
  | 11, v, w => ∃ X A c, v = .slice (some ⟨X, 0, none⟩) 1 1 ∧ k.w0.heap.size ≤ X ∧ w.heap[X]? = some (.cells #[.int .i64 (k.id : Int), .int .i64 k.p.fr, .int .i64 k.p.to, .slice A k.p.body.length c] TF (0, 0)) ∧ k.G A c w
  | 12, v, w => k.R v w
  | 13, v, _ => v = .pointer (some ⟨k.B, 0, none⟩)
  | 14, v, _ => v = .pointer (some ⟨k.B, 0, none⟩)
  | 15, v, _ => v = undef
  | _, _, _ => True
theorem rsendR_stable {k : Ap} (HOK : k.ok) (X : Nat) : ∀ i v w w', rsendR k X i v w → But k.S w w' → rsendR k X i v w'
  | 0, _, _, _, h, _ | 1, _, _, _, h, _ | 2, _, _, _, h, _ | 3, _, _, _, h, _ | 4, _, _, _, h, _ | 5, _, _, _, h, _ | 6, _, _, _, h, _ | 7, _, _, _, h, _ | 8, _, _, _, h, _ | 9, _, _, _, h, _ | 13, _, _, _, h, _ | 14, _, _, _, h, _ | 15, _, _, _, h, _ => h
  | 10, _, _, _, h, g => by obtain ⟨A, c, e, hG⟩ := h; exact ⟨A, c, e, HOK.stab A c _ _ hG g⟩
  | 11, _, _, _, h, g => by obtain ⟨X, A, c, e, h0, h1, hG⟩ := h; exact ⟨X, A, c, e, h0, (g.block X (block_lt h1) (fun hs => absurd hs.2 (Nat.not_lt.2 h0))).trans h1, HOK.stab A c _ _ hG g⟩
  | 12, _, _, _, h, g => h.stable HOK g
  | _ + 16, _, _, _, h, _ => h

set_option maxHeartbeats 8000000 in
set_option maxRecDepth 100000 in
/-- Send, where it sends. -/
theorem rsend_walk (B id : Nat) (p : Pk) (w W0 : World) (A0 : Option Addr) (n c0 most : Nat) (hW0 : w.alloc (.cells #[.int .i64 p.fr, .int .i64 p.to, .slice p.A p.body.length p.c] 30) = W0)
    (hc0 : W0.cell? ⟨B, 0, none⟩ = some (.slice A0 n c0)) (hc1 : W0.cell? ⟨B, 1, none⟩ = some (.int .i64 ((id : Int) - 1))) (hc2 : W0.cell? ⟨B, 2, none⟩ = some (.int .i64 (most : Int))) (hf1 : W0.frozen? ⟨B, 1, none⟩ = false)
    (hfull : (decide (most ≤ n)) = false) (hbody : p.body.length ≤ 1400) (hid : (id : Int) ≤ 1099511627776) (hid1 : (1 : Int) ≤ (id : Int)) (Post : Value → World → Prop)
    (HK : Hid (∀ q, ∃ k : Ap, B = k.B ∧ id = k.id ∧ p = k.p ∧ (W0.drewN q).setCell ⟨k.B, 1, none⟩ (.int .i64 (k.id : Int)) = k.w0 ∧ k.ok ∧ k.cur[0]? = some k.v ∧ k.cur[1]? = some (.int .i64 (k.id : Int)) ∧ (∀ w, k.G k.p.A k.p.c w) ∧ (∀ A c w, k.G A c w → A = k.p.A ∧ c = k.p.c) ∧ ∀ v' w', k.Fin v' w' → Post v' w' ∧ w'.cell? ⟨k.B, 1, none⟩ = some (.int .i64 (k.id : Int)))) :
    Calls Try.prog 21 #[.pointer (some ⟨B, 0, none⟩), .agg #[.int .i64 p.fr, .int .i64 p.to, .slice p.A p.body.length p.c]] w fun e w' => e = .returned (.tuple #[.int .i64 (id : Int), .bool true]) ∧ ∃ v', Post v' w' := by
  obtain ⟨X, hX⟩ : ∃ X, w.heap.size = X := ⟨_, rfl⟩
  have hbx : W0.heap[X]? = some (.cells #[.int .i64 p.fr, .int .i64 p.to, .slice p.A p.body.length p.c] 30 (0, 0)) := by rw [← hW0, ← hX]; exact heap_alloc_new w _
  obtain ⟨x0, x1, x2⟩ := blk3 hbx
  have HX := Lib.hid hX
  have HW0 := Lib.hid hW0
  have HBX := Lib.hid hbx
  have z2 : decide (1400 < p.body.length) = false := by simp; exact hbody
  have hBX : B ≠ X := fun e => by
    rw [← e] at x0
    rw [hc0] at x0
    cases x0
  clear hW0 hX hbx
  go_enter Try.func21, Try.ntmps21
  go_wp2_with fail
  rw [HW0.out, HX.out]
  go_quiet (fail)
  go_wp2_with fail
  obtain ⟨k, rfl, rfl, rfl, hw, hok, hcur, hcid, hG0, hG1, hfin⟩ := HK.out nq
  rw [hw]
  have HBox : Hid (∀ w', Below k.w0.heap.size k.w0 w' → w'.heap[X]? = some (.cells #[.int .i64 k.p.fr, .int .i64 k.p.to, .slice k.p.A k.p.body.length k.p.c] 30 (0, 0))) := Lib.hid (fun w' hb => by
    have h0 : k.w0.heap[X]? = some (.cells #[.int .i64 k.p.fr, .int .i64 k.p.to, .slice k.p.A k.p.body.length k.p.c] 30 (0, 0)) := by
      rw [← hw]
      exact ((But.set (S := (· = k.B)) (W0.drewN nq) (p := ⟨k.B, 1, none⟩) rfl _).block X (block_lt HBX.out) (fun e => hBX e.symm)).trans HBX.out
    exact (hb.block _ (block_lt h0)).trans h0)
  have HCUR := Lib.hid hcur
  have HID := Lib.hid hcid
  have HG0 := Lib.hid hG0
  have HG1 := Lib.hid hG1
  have HFin := Lib.hid hfin
  have HOK := hok
  clear hw hok hcur hcid hG0 hG1 hfin hc0 hc1 hc2 hf1 x0 x1 x2 HK
  refine Go.Rel.wp_region_states (by kernel_rfl) (by kernel_rfl) (by kernel_rfl) (by kernel_rfl) (fun f w => k.I (f 12) (f 15) w) (But k.S) (fun _ _ _ h k => h.trans k) ((But.refl _ _).drew) Ap.I.start (rsendR k X) (rsendR_stable HOK X) ?hsteps ?hend
  case hsteps =>
    refine (.cons ?_ (.cons ?_ (.cons ?_ (.cons ?_ (.cons ?_ (.cons ?_ (.cons ?_ (.cons ?_ (.cons ?_ (.cons ?_ (.cons ?_ (.cons ?_ (.cons ?_ (.cons ?_ (.cons ?_ (.cons ?_ .nil))))))))))))))))
    · intro f a w' hI hf hanc hdesc hle hs' hd K hK
      have f0 : a.tmps[0]? = some (.pointer (some ⟨k.B, 0, none⟩)) := hs'.2.2 0 (by kernel_rfl)
      unfold Go.Rel.stepOf
      go_simp
      exact hK _ _ (But.refl _ _) (hI) rfl
    · intro f a w' hI hf hanc hdesc hle hs' hd K hK
      have f0 : a.tmps[0]? = some (.pointer (some ⟨k.B, 0, none⟩)) := hs'.2.2 0 (by kernel_rfl)
      unfold Go.Rel.stepOf
      go_simp
      exact hK _ _ (But.refl _ _) (hI) rfl
    · intro f a w' hI hf hanc hdesc hle hs' hd K hK
      obtain ⟨_, t1, rfl⟩ := hd 1 31 (by kernel_rfl)
      unfold Go.Rel.stepOf
      go_simp
      exact hK _ _ (But.refl _ _) (hI) rfl
    · intro f a w' hI hf hanc hdesc hle hs' hd K hK
      obtain ⟨_, t2, rfl⟩ := hd 2 32 (by kernel_rfl)
      unfold Go.Rel.stepOf
      go_simp
      exact hK _ _ (But.refl _ _) (hI) rfl
    · intro f a w' hI hf hanc hdesc hle hs' hd K hK
      obtain ⟨_, t3, rfl⟩ := hd 3 33 (by kernel_rfl)
      have hz : f 15 = false := hdesc 4 15 (by kernel_rfl)
      have ha : f 12 = false := hdesc 4 12 (by kernel_rfl)
      have hI2 := hI
      rw [hz, ha] at hI2
      have hblk := hI2.blk HOK
      have hc0 := blk_cells hblk 0 _ HCUR.out
      unfold Go.Rel.stepOf
      go_simp
      exact hK _ _ (But.refl _ _) (hI) rfl
    · intro f a w' hI hf hanc hdesc hle hs' hd K hK
      have f0 : a.tmps[0]? = some (.pointer (some ⟨k.B, 0, none⟩)) := hs'.2.2 0 (by kernel_rfl)
      unfold Go.Rel.stepOf
      go_simp
      exact hK _ _ (But.refl _ _) (hI) rfl
    · intro f a w' hI hf hanc hdesc hle hs' hd K hK
      obtain ⟨_, t5, rfl⟩ := hd 5 35 (by kernel_rfl)
      unfold Go.Rel.stepOf
      go_simp
      exact hK _ _ (But.refl _ _) (hI) rfl
    · intro f a w' hI hf hanc hdesc hle hs' hd K hK
      obtain ⟨_, t6, rfl⟩ := hd 6 36 (by kernel_rfl)
      unfold Go.Rel.stepOf
      go_simp
      exact hK _ _ (But.refl _ _) (hI) rfl
    · intro f a w' hI hf hanc hdesc hle hs' hd K hK
      obtain ⟨_, t7, rfl⟩ := hd 7 37 (by kernel_rfl)
      have hz : f 15 = false := hdesc 8 15 (by kernel_rfl)
      have ha : f 12 = false := hdesc 8 12 (by kernel_rfl)
      have hI2 := hI
      rw [hz, ha] at hI2
      have hblk := hI2.blk HOK
      have hc0 := blk_cells hblk 1 _ HID.out
      unfold Go.Rel.stepOf
      go_simp
      exact hK _ _ (But.refl _ _) (hI) rfl
    · intro f a w' hI hf hanc hdesc hle hs' hd K hK
      have f3 : a.tmps[3]? = some (.pointer (some ⟨X, 0, none⟩)) := hs'.2.2 3 (by kernel_rfl)
      have hz : f 15 = false := hdesc 9 15 (by kernel_rfl)
      have ha : f 12 = false := hdesc 9 12 (by kernel_rfl)
      have hI2 := hI
      rw [hz, ha] at hI2
      have hbx := HBox.out w' hI2.bel
      obtain ⟨x0, x1, x2⟩ := blk3 hbx
      unfold Go.Rel.stepOf
      go_simp
      exact hK _ _ (But.refl _ _) (hI) rfl
    · intro f a w' hI hf hanc hdesc hle hs' hd K hK
      obtain ⟨_, t8, rfl⟩ := hd 8 38 (by kernel_rfl)
      obtain ⟨_, t9, rfl⟩ := hd 9 39 (by kernel_rfl)
      unfold Go.Rel.stepOf
      go_simp
      exact hK _ _ (But.refl _ _) hI ⟨k.p.A, k.p.c, rfl, HG0.out _⟩
    · intro f a w' hI hf hanc hdesc hle hs' hd K hK
      obtain ⟨_, t10, A10, c10, rfl, hG10⟩ := hd 10 40 (by kernel_rfl)
      have hz : f 15 = false := hdesc 11 15 (by kernel_rfl)
      have ha : f 12 = false := hdesc 11 12 (by kernel_rfl)
      have hI2 := hI
      rw [hz, ha] at hI2
      unfold Go.Rel.stepOf
      go_simp
      have hal := (Below.refl w'.heap.size w').alloc (Nat.le_refl _) (.cells #[.int .i64 (k.id : Int), .int .i64 k.p.fr, .int .i64 k.p.to, .slice A10 k.p.body.length c10] TF)
      refine hK _ _ (But.of_below hal) ?_ ⟨w'.heap.size, A10, c10, rfl, hI2.bel.size, heap_alloc_new w' _, HOK.stab _ _ _ _ hG10 (But.of_below hal)⟩
      show k.I (f 12) (f 15) _
      rw [hz, ha]
      exact Ap.I.of_bel (hI2.bel.trans (hal.mono hI2.bel.size))
    · intro f a w' hI hf hanc hdesc hle hs' hd K hK
      obtain ⟨_, t4, rfl⟩ := hd 4 34 (by kernel_rfl)
      obtain ⟨_, t11, X, A11, c11, rfl, hx0, hx1, hG11⟩ := hd 11 41 (by kernel_rfl)
      have hz : f 15 = false := hdesc 12 15 (by kernel_rfl)
      have hI2 := hI
      rw [hz, hf] at hI2
      obtain ⟨x0, x1, x2, x3⟩ := blk4 hx1
      obtain ⟨v3, w3, hr3, hb3, hI3, hR3⟩ := hI2.append HOK 46 Try.underlying46 hG11 x0 x1 x2 x3 46
      refine stepOf_append (.tmp 34) (.tmp 41) 46 rfl rfl (by simp [Act.eval, t4]) (by simp [Act.eval, t11]) hr3 (hK _ _ hb3 ?_ hR3)
      show k.I true (f 15) _
      rw [hz]
      exact hI3
    · intro f a w' hI hf hanc hdesc hle hs' hd K hK
      obtain ⟨_, t0, rfl⟩ := hd 0 30 (by kernel_rfl)
      unfold Go.Rel.stepOf
      go_simp
      exact hK _ _ (But.refl _ _) (hI) rfl
    · intro f a w' hI hf hanc hdesc hle hs' hd K hK
      obtain ⟨_, t13, rfl⟩ := hd 13 43 (by kernel_rfl)
      unfold Go.Rel.stepOf
      go_simp
      exact hK _ _ (But.refl _ _) (hI) rfl
    · intro f a w' hI hf hanc hdesc hle hs' hd K hK
      obtain ⟨_, t14, rfl⟩ := hd 14 44 (by kernel_rfl)
      obtain ⟨_, t12, h12⟩ := hd 12 42 (by kernel_rfl)
      have ha : f 12 = true := hanc 15 12 (by kernel_rfl)
      have hI2 := hI
      rw [hf, ha] at hI2
      obtain ⟨⟨A3, n3, c3, rfl⟩, hc3, hf3, hb3, hI3⟩ := hI2.store HOK HCUR.out h12
      unfold Go.Rel.stepOf
      go_simp
      refine hK _ _ hb3 ?_ rfl
      show k.I (f 12) true _
      rw [ha]
      exact hI3
  case hend =>
    intro f a w3 hall hI hle hs' hR'
    have hz := hall 15 (by decide)
    obtain ⟨v', hF⟩ := hI.1 hz
    obtain ⟨hP, b1⟩ := HFin.out v' w3 hF
    have HP := Lib.hid hP
    clear hz hI hF hall hle hP
    obtain ⟨v30, s30, _⟩ := hR' 0 30 (by kernel_rfl)
    obtain ⟨v31, s31, _⟩ := hR' 1 31 (by kernel_rfl)
    obtain ⟨v32, s32, _⟩ := hR' 2 32 (by kernel_rfl)
    obtain ⟨v33, s33, _⟩ := hR' 3 33 (by kernel_rfl)
    obtain ⟨v34, s34, _⟩ := hR' 4 34 (by kernel_rfl)
    obtain ⟨v35, s35, _⟩ := hR' 5 35 (by kernel_rfl)
    obtain ⟨v36, s36, _⟩ := hR' 6 36 (by kernel_rfl)
    obtain ⟨v37, s37, _⟩ := hR' 7 37 (by kernel_rfl)
    obtain ⟨v38, s38, _⟩ := hR' 8 38 (by kernel_rfl)
    obtain ⟨v39, s39, _⟩ := hR' 9 39 (by kernel_rfl)
    obtain ⟨v40, s40, _⟩ := hR' 10 40 (by kernel_rfl)
    obtain ⟨v41, s41, _⟩ := hR' 11 41 (by kernel_rfl)
    obtain ⟨v42, s42, _⟩ := hR' 12 42 (by kernel_rfl)
    obtain ⟨v43, s43, _⟩ := hR' 13 43 (by kernel_rfl)
    obtain ⟨v44, s44, _⟩ := hR' 14 44 (by kernel_rfl)
    have e := hs'.shape
    simp only [List.toList_toArray, List.foldl, Go.Rel.reset, Array.getD_eq_getD_getElem?, s30, s31, s32, s33, s34, s35, s36, s37, s38, s39, s40, s41, s42, s43, s44, Option.getD_some] at e
    simp at e
    clear hR' hs' s30 s31 s32 s33 s34 s35 s36 s37 s38 s39 s40 s41 s42 s43 s44
    subst e
    go_wp2
    go_ret2
    exact ⟨rfl, v', HP.out⟩
end Go.Proofs.Yticjkpnlnonibaa
