/-
  add, fly and all of the program's packets (layer 7).
-/
import Derived.Test.YticjkpnlnonibaaHApp
namespace Go.Proofs.Yticjkpnlnonibaa
open Go.RowKit
set_option linter.unusedSimpArgs false
set_option linter.unusedVariables false

def addR (k : Ap) (X : Nat) : Nat → Value → World → Prop
  | 0, v, _ => v = .pointer (some ⟨k.B, 0, none⟩)
  | 1, v, _ => v = .pointer (some ⟨k.B, 0, none⟩)
  | 2, v, _ => v = .pointer (some ⟨k.B, 0, none⟩)
  | 3, v, _ => v = k.v
  | 4, v, _ => v = .int .i64 (k.id : Int)
  | 5, v, _ => v = .agg #[.int .i64 k.p.fr, .int .i64 k.p.to, .slice k.p.A k.p.body.length k.p.c]
  | 6, v, w => ∃ A c, v = .agg #[.int .i64 k.p.fr, .int .i64 k.p.to, .slice A k.p.body.length c] ∧ k.G A c w
  | 7, v, w => ∃ A c, v = .agg #[.int .i64 (k.id : Int), .int .i64 k.p.fr, .int .i64 k.p.to, .slice A k.p.body.length c] ∧ k.G A c w
  | 8, v, w => ∃ X A c, v = .slice (some ⟨X, 0, none⟩) 1 1 ∧ k.w0.heap.size ≤ X ∧ w.heap[X]? = some (.cells #[.int .i64 (k.id : Int), .int .i64 k.p.fr, .int .i64 k.p.to, .slice A k.p.body.length c] TF (0, 0)) ∧ k.G A c w
  | 9, v, w => k.R v w
  | 10, v, _ => v = .pointer (some ⟨k.B, 0, none⟩)
  | 11, v, _ => v = undef
  | _, _, _ => True
theorem addR_stable {k : Ap} (HOK : k.ok) (X : Nat) : ∀ i v w w', addR k X i v w → But k.S w w' → addR k X i v w'
  | 0, _, _, _, h, _ | 1, _, _, _, h, _ | 2, _, _, _, h, _ | 3, _, _, _, h, _ | 4, _, _, _, h, _ | 5, _, _, _, h, _ | 10, _, _, _, h, _ | 11, _, _, _, h, _ => h
  | 6, _, _, _, h, g => by obtain ⟨A, c, e, hG⟩ := h; exact ⟨A, c, e, HOK.stab A c _ _ hG g⟩
  | 7, _, _, _, h, g => by obtain ⟨A, c, e, hG⟩ := h; exact ⟨A, c, e, HOK.stab A c _ _ hG g⟩
  | 8, _, _, _, h, g => by obtain ⟨X, A, c, e, h0, h1, hG⟩ := h; exact ⟨X, A, c, e, h0, (g.block X (block_lt h1) (fun hs => absurd hs.2 (Nat.not_lt.2 h0))).trans h1, HOK.stab A c _ _ hG g⟩
  | 9, _, _, _, h, g => h.stable HOK g
  | _ + 12, _, _, _, h, _ => h

set_option maxHeartbeats 8000000 in
set_option maxRecDepth 100000 in
theorem add_walk (k : Ap) (HOK0 : k.ok) (HCUR : Hid (k.cur[0]? = some k.v)) (w : World) (hW : w.alloc (.cells #[.int .i64 k.p.fr, .int .i64 k.p.to, .slice k.p.A k.p.body.length k.p.c] 30) = k.w0)
    (HOwn : Hid (∀ w, Below k.w0.heap.size k.w0 w → Calls Try.prog 40 #[.agg #[.int .i64 k.p.fr, .int .i64 k.p.to, .slice k.p.A k.p.body.length k.p.c]] w fun e w' => ∃ A c, e = .returned (.agg #[.int .i64 k.p.fr, .int .i64 k.p.to, .slice A k.p.body.length c]) ∧ k.G A c w' ∧ Below w.heap.size w w')) :
    Calls Try.prog 35 #[.pointer (some ⟨k.B, 0, none⟩), .int .i64 (k.id : Int), .agg #[.int .i64 k.p.fr, .int .i64 k.p.to, .slice k.p.A k.p.body.length k.p.c]] w fun e w' => e = .returned (.tuple #[]) ∧ ∃ v', k.Fin v' w' := by
  have HBox : Hid (∀ w', Below k.w0.heap.size k.w0 w' → w'.heap[w.heap.size]? = some (.cells #[.int .i64 k.p.fr, .int .i64 k.p.to, .slice k.p.A k.p.body.length k.p.c] 30 (0, 0))) := Lib.hid (fun w' hb => by
    have h0 : k.w0.heap[w.heap.size]? = some (.cells #[.int .i64 k.p.fr, .int .i64 k.p.to, .slice k.p.A k.p.body.length k.p.c] 30 (0, 0)) := by rw [← hW]; exact heap_alloc_new w _
    exact (hb.block _ (block_lt h0)).trans h0)
  have HW := Lib.hid hW
  obtain ⟨X, hX⟩ : ∃ X, w.heap.size = X := ⟨_, rfl⟩
  have HX := Lib.hid hX
  have HOKH := Lib.hid HOK0
  clear hW hX HOK0
  go_enter Try.func35, Try.ntmps35
  go_wp2_with fail
  rw [HW.out, HX.out]
  rw [HX.out] at HBox
  have HOK := HOKH.out
  refine Go.Rel.wp_region_states (by kernel_rfl) (by kernel_rfl) (by kernel_rfl) (by kernel_rfl) (fun f w => k.I (f 9) (f 11) w) (But k.S) (fun _ _ _ h k => h.trans k) ((But.refl _ _).drew) Ap.I.start (addR k X) (addR_stable HOK X) ?hsteps ?hend
  case hsteps =>
    refine (.cons ?_ (.cons ?_ (.cons ?_ (.cons ?_ (.cons ?_ (.cons ?_ (.cons ?_ (.cons ?_ (.cons ?_ (.cons ?_ (.cons ?_ (.cons ?_ .nil))))))))))))
    · intro f a w' hI hf hanc hdesc hle hs' hd K hK
      have f0 : a.tmps[0]? = some (.pointer (some ⟨k.B, 0, none⟩)) := hs'.2.2 0 (by kernel_rfl)
      unfold Go.Rel.stepOf
      go_simp
      exact hK _ _ (But.refl _ _) (hI) rfl
    · intro f a w' hI hf hanc hdesc hle hs' hd K hK
      have f0 : a.tmps[0]? = some (.pointer (some ⟨k.B, 0, none⟩)) := hs'.2.2 0 (by kernel_rfl)
      unfold Go.Rel.stepOf
      go_simp
      exact hK _ _ (But.refl _ _) (hI) rfl
    · intro f a w' hI hf hanc hdesc hle hs' hd K hK
      obtain ⟨_, t1, rfl⟩ := hd 1 7 (by kernel_rfl)
      unfold Go.Rel.stepOf
      go_simp
      exact hK _ _ (But.refl _ _) (hI) rfl
    · intro f a w' hI hf hanc hdesc hle hs' hd K hK
      obtain ⟨_, t2, rfl⟩ := hd 2 8 (by kernel_rfl)
      have hz : f 11 = false := hdesc 3 11 (by kernel_rfl)
      have ha : f 9 = false := hdesc 3 9 (by kernel_rfl)
      have hI2 := hI
      rw [hz, ha] at hI2
      have hblk := hI2.blk HOK
      have hc0 := blk_cells hblk 0 _ HCUR.out
      unfold Go.Rel.stepOf
      go_simp
      exact hK _ _ (But.refl _ _) (hI) rfl
    · intro f a w' hI hf hanc hdesc hle hs' hd K hK
      have f1 : a.tmps[1]? = some (.int .i64 (k.id : Int)) := hs'.2.2 1 (by kernel_rfl)
      unfold Go.Rel.stepOf
      go_simp
      exact hK _ _ (But.refl _ _) (hI) rfl
    · intro f a w' hI hf hanc hdesc hle hs' hd K hK
      have f5 : a.tmps[5]? = some (.pointer (some ⟨X, 0, none⟩)) := hs'.2.2 5 (by kernel_rfl)
      have hz : f 11 = false := hdesc 5 11 (by kernel_rfl)
      have ha : f 9 = false := hdesc 5 9 (by kernel_rfl)
      have hI2 := hI
      rw [hz, ha] at hI2
      have hbx := HBox.out w' hI2.bel
      obtain ⟨x0, x1, x2⟩ := blk3 hbx
      unfold Go.Rel.stepOf
      go_simp
      exact hK _ _ (But.refl _ _) (hI) rfl
    · intro f a w' hI hf hanc hdesc hle hs' hd K hK
      obtain ⟨_, t5, rfl⟩ := hd 5 11 (by kernel_rfl)
      have hz : f 11 = false := hdesc 6 11 (by kernel_rfl)
      have ha : f 9 = false := hdesc 6 9 (by kernel_rfl)
      have hI2 := hI
      rw [hz, ha] at hI2
      unfold Go.Rel.stepOf
      go_simp
      refine (HOwn.out w' hI2.bel).mono ?_
      rintro e w2 ⟨A, c, rfl, hG, hb⟩
      refine hK _ _ (But.of_below hb) ?_ ⟨A, c, rfl, hG⟩
      show k.I (f 9) (f 11) _
      rw [hz, ha]
      exact Ap.I.of_bel (hI2.bel.trans (hb.mono hI2.bel.size))
    · intro f a w' hI hf hanc hdesc hle hs' hd K hK
      obtain ⟨_, t4, rfl⟩ := hd 4 10 (by kernel_rfl)
      obtain ⟨_, t6, A6, c6, rfl, hG6⟩ := hd 6 12 (by kernel_rfl)
      unfold Go.Rel.stepOf
      go_simp
      exact hK _ _ (But.refl _ _) hI ⟨A6, c6, rfl, hG6⟩
    · intro f a w' hI hf hanc hdesc hle hs' hd K hK
      obtain ⟨_, t7, A7, c7, rfl, hG7⟩ := hd 7 13 (by kernel_rfl)
      have hz : f 11 = false := hdesc 8 11 (by kernel_rfl)
      have ha : f 9 = false := hdesc 8 9 (by kernel_rfl)
      have hI2 := hI
      rw [hz, ha] at hI2
      unfold Go.Rel.stepOf
      go_simp
      have hal := (Below.refl w'.heap.size w').alloc (Nat.le_refl _) (.cells #[.int .i64 (k.id : Int), .int .i64 k.p.fr, .int .i64 k.p.to, .slice A7 k.p.body.length c7] TF)
      refine hK _ _ (But.of_below hal) ?_ ⟨w'.heap.size, A7, c7, rfl, hI2.bel.size, heap_alloc_new w' _, HOK.stab _ _ _ _ hG7 (But.of_below hal)⟩
      show k.I (f 9) (f 11) _
      rw [hz, ha]
      exact Ap.I.of_bel (hI2.bel.trans (hal.mono hI2.bel.size))
    · intro f a w' hI hf hanc hdesc hle hs' hd K hK
      obtain ⟨_, t3, rfl⟩ := hd 3 9 (by kernel_rfl)
      obtain ⟨_, t8, X, A8, c8, rfl, hx0, hx1, hG8⟩ := hd 8 14 (by kernel_rfl)
      have hz : f 11 = false := hdesc 9 11 (by kernel_rfl)
      have hI2 := hI
      rw [hz, hf] at hI2
      obtain ⟨x0, x1, x2, x3⟩ := blk4 hx1
      obtain ⟨v3, w3, hr3, hb3, hI3, hR3⟩ := hI2.append HOK 51 Try.underlying51 hG8 x0 x1 x2 x3 51
      refine stepOf_append (.tmp 9) (.tmp 14) 51 rfl rfl (by simp [Act.eval, t3]) (by simp [Act.eval, t8]) hr3 (hK _ _ hb3 ?_ hR3)
      show k.I true (f 11) _
      rw [hz]
      exact hI3
    · intro f a w' hI hf hanc hdesc hle hs' hd K hK
      obtain ⟨_, t0, rfl⟩ := hd 0 6 (by kernel_rfl)
      unfold Go.Rel.stepOf
      go_simp
      exact hK _ _ (But.refl _ _) (hI) rfl
    · intro f a w' hI hf hanc hdesc hle hs' hd K hK
      obtain ⟨_, t10, rfl⟩ := hd 10 16 (by kernel_rfl)
      obtain ⟨_, t9, h9⟩ := hd 9 15 (by kernel_rfl)
      have ha : f 9 = true := hanc 11 9 (by kernel_rfl)
      have hI2 := hI
      rw [hf, ha] at hI2
      obtain ⟨⟨A3, n3, c3, rfl⟩, hc3, hf3, hb3, hI3⟩ := hI2.store HOK HCUR.out h9
      unfold Go.Rel.stepOf
      go_simp
      refine hK _ _ hb3 ?_ rfl
      show k.I (f 9) true _
      rw [ha]
      exact hI3
  case hend =>
    intro f a w3 hall hI hle hs' hR'
    have hz := hall 11 (by decide)
    obtain ⟨v', hF⟩ := hI.1 hz
    have HF := Lib.hid hF
    clear hz hI hF hall hle
    obtain ⟨v6, s6, _⟩ := hR' 0 6 (by kernel_rfl)
    obtain ⟨v7, s7, _⟩ := hR' 1 7 (by kernel_rfl)
    obtain ⟨v8, s8, _⟩ := hR' 2 8 (by kernel_rfl)
    obtain ⟨v9, s9, _⟩ := hR' 3 9 (by kernel_rfl)
    obtain ⟨v10, s10, _⟩ := hR' 4 10 (by kernel_rfl)
    obtain ⟨v11, s11, _⟩ := hR' 5 11 (by kernel_rfl)
    obtain ⟨v12, s12, _⟩ := hR' 6 12 (by kernel_rfl)
    obtain ⟨v13, s13, _⟩ := hR' 7 13 (by kernel_rfl)
    obtain ⟨v14, s14, _⟩ := hR' 8 14 (by kernel_rfl)
    obtain ⟨v15, s15, _⟩ := hR' 9 15 (by kernel_rfl)
    obtain ⟨v16, s16, _⟩ := hR' 10 16 (by kernel_rfl)
    have e := hs'.shape
    simp only [List.toList_toArray, List.foldl, Go.Rel.reset, Array.getD_eq_getD_getElem?, s6, s7, s8, s9, s10, s11, s12, s13, s14, s15, s16, Option.getD_some] at e
    simp at e
    clear hR' hs' s6 s7 s8 s9 s10 s11 s12 s13 s14 s15 s16
    subst e
    go_wp2
    go_end0
    exact ⟨rfl, v', HF.out⟩
end Go.Proofs.Yticjkpnlnonibaa
