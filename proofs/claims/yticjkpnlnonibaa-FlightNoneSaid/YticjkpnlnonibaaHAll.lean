/-
  all of the program's packets: each with bytes of its own (layer 7).
-/
import Derived.Test.YticjkpnlnonibaaHSend
import Derived.Test.YticjkpnlnonibaaRelH
namespace Go.Proofs.Yticjkpnlnonibaa
open Go.RowKit
set_option linter.unusedSimpArgs false
set_option linter.unusedVariables false

def allR (k : Ap) (X : Nat) : Nat → Value → World → Prop
  | 0, v, _ => v = k.v
  | 1, v, _ => v = .pointer (some ⟨X, 0, none⟩)
  | 2, v, _ => v = .int .i64 (k.id : Int)
  | 3, v, _ => v = .pointer (some ⟨X, 1, none⟩)
  | 4, v, _ => v = .agg #[.int .i64 k.p.fr, .int .i64 k.p.to, .slice k.p.A k.p.body.length k.p.c]
  | 5, v, w => ∃ A c, v = .agg #[.int .i64 k.p.fr, .int .i64 k.p.to, .slice A k.p.body.length c] ∧ k.G A c w
  | 6, v, w => ∃ A c, v = .agg #[.int .i64 (k.id : Int), .int .i64 k.p.fr, .int .i64 k.p.to, .slice A k.p.body.length c] ∧ k.G A c w
  | 7, v, w => ∃ X A c, v = .slice (some ⟨X, 0, none⟩) 1 1 ∧ k.w0.heap.size ≤ X ∧ w.heap[X]? = some (.cells #[.int .i64 (k.id : Int), .int .i64 k.p.fr, .int .i64 k.p.to, .slice A k.p.body.length c] TF (0, 0)) ∧ k.G A c w
  | 8, v, w => k.R v w
  | 9, v, w => k.R v w
  | _, _, _ => True
theorem allR_stable {k : Ap} (HOK : k.ok) (X : Nat) : ∀ i v w w', allR k X i v w → But k.S w w' → allR k X i v w'
  | 0, _, _, _, h, _ | 1, _, _, _, h, _ | 2, _, _, _, h, _ | 3, _, _, _, h, _ | 4, _, _, _, h, _ => h
  | 5, _, _, _, h, g => by obtain ⟨A, c, e, hG⟩ := h; exact ⟨A, c, e, HOK.stab A c _ _ hG g⟩
  | 6, _, _, _, h, g => by obtain ⟨A, c, e, hG⟩ := h; exact ⟨A, c, e, HOK.stab A c _ _ hG g⟩
  | 7, _, _, _, h, g => by obtain ⟨X, A, c, e, h0, h1, hG⟩ := h; exact ⟨X, A, c, e, h0, (g.block X (block_lt h1) (fun hs => absurd hs.2 (Nat.not_lt.2 h0))).trans h1, HOK.stab A c _ _ hG g⟩
  | 8, _, _, _, h, g => h.stable HOK g
  | 9, _, _, _, h, g => h.stable HOK g
  | _ + 10, _, _, _, h, _ => h

/-- A copy of the packets l, in a row at or behind base. -/
structure Copied (base : Nat) (w : World) (v : Value) (l m : List It) : Prop where
  row : itRow w base v m
  same : m.map It.strip = l.map It.strip
  body : ∀ x ∈ m, BodyAt w x.p ∧ Typed w x.p ∧ Fresh base x.p
theorem Copied.below {base : Nat} {w w' : World} {v : Value} {l m : List It} (h : Copied base w v l m) (hb : Below w.heap.size w w') : Copied base w' v l m :=
  ⟨h.row.below hb, h.same, fun x hx => ⟨(h.body x hx).1.below hb, (h.body x hx).2.1.below hb, (h.body x hx).2.2⟩⟩
theorem Copied.len {base : Nat} {w : World} {v : Value} {l m : List It} (h : Copied base w v l m) : m.length = l.length := by
  have := congrArg List.length h.same
  simpa using this
set_option maxHeartbeats 8000000 in
set_option maxRecDepth 100000 in
theorem all_any (w : World) (B : Nat) (v : Value) (s : Fl) (h : FlAt w B v s) :
    Calls Try.prog 32 #[.pointer (some ⟨B, 0, none⟩)] w fun e w' => ∃ v' m, e = .returned v' ∧ Copied w.heap.size w' v' s.L m ∧ Below w.heap.size w w' := by
  obtain ⟨A, c, hv, hnc, hcm, hnil, hgo⟩ := h.row.form
  have hlen := h.ok.len
  have hmost := h.ok.most
  obtain ⟨c0, _, _⟩ := h.cells
  obtain ⟨n, hnn⟩ : ∃ n, s.L.length = n := ⟨_, rfl⟩
  have HRow := Lib.hid h.row
  have HH := Lib.hid h
  have HV := Lib.hid hv
  have HNN := Lib.hid hnn
  have hB := h.lt
  rw [hv, hnn] at c0
  have q1 : (n : Int) ≤ 256 := by omega
  have hn2 : n ≤ 256 := by omega
  obtain ⟨i0, hi, hz0, hz1, hz2⟩ := info_parts it_info
  clear h hv hnc hnil hgo hnn
  go_enter Try.func32, Try.ntmps32
  go_wp2_with (at_make; refine wpList_make_own _ rfl _ _ 46 rfl w.heap.size TF i0 _ 4 Try.underlying46 hi hz0 hz1 _ _ _ n rfl rfl rfl (by rw [hz2]; omega) (by unfold maxLen; omega) (Nat.le_refl _) ?_)
  intro w1 hown hg
  have hb1 : Below w.heap.size w w1 := ⟨hg.os, hg.tape, hg.output, hg.size, fun i hi => hg.block i hi (by simp)⟩
  have HC0 : Hid (Copied w.heap.size w1 (.slice (some ⟨w.heap.size, 0, none⟩) 0 n) (s.L.take 0) []) := Lib.hid ⟨hown, rfl, fun x hx => by cases hx⟩
  have HB1 := Lib.hid hb1
  have c1 := (hb1.cell (p := ⟨B, 0, none⟩) hB).trans c0
  clear hown hg hb1 c0
  go_wp2
  go_loopw [3, 15] (fun vv kv wr => ∃ (k : Nat) (m : List It), kv = .int .i64 (k : Int) ∧ k ≤ n ∧ Hid (Copied w.heap.size wr vv (s.L.take k) m) ∧ Hid (Below w.heap.size w wr)) (fun _ kv _ => n - (RowKit.intOf kv).toNat)
  case atStart => exact ⟨0, [], rfl, Nat.zero_le _, HC0, HB1⟩
  case round =>
    obtain ⟨k, m, rfl, hk, HC, HB⟩ := hrel
    by_cases hlt : k < n
    · have hkl : k < s.L.length := by rw [HNN.out]; exact hlt
      obtain ⟨g, c', e, _⟩ := HRow.out.some_ (by omega)
      rw [HV.out] at e
      simp only [Value.slice.injEq, true_and] at e
      obtain ⟨rfl, rfl⟩ := e
      have hrow := HRow.out
      rw [HV.out] at hrow
      obtain ⟨r0, r1, r2, r3⟩ := (hrow.below HB.out).at_ hkl
      have hbody := (HH.out.body _ (List.getElem_mem hkl)).1
      have htake := List.take_succ_eq_append_getElem hkl
      obtain ⟨x, hx⟩ : ∃ x, s.L[k] = x := ⟨_, rfl⟩
      rw [hx] at r0 r1 r2 r3 hbody htake
      obtain ⟨id, p⟩ := x
      simp only at r0 r1 r2 r3 hbody
      obtain ⟨W0, hW0⟩ : ∃ W0, wr.alloc (.cells #[.int .i64 (id : Int), .int .i64 p.fr, .int .i64 p.to, .slice p.A p.body.length p.c] TF) = W0 := ⟨_, rfl⟩
      have hal : Below wr.heap.size wr W0 := by rw [← hW0]; exact (Below.refl _ wr).alloc (Nat.le_refl _) _
      have hbx : W0.heap[wr.heap.size]? = some (.cells #[.int .i64 (id : Int), .int .i64 p.fr, .int .i64 p.to, .slice p.A p.body.length p.c] TF (0, 0)) := by rw [← hW0]; exact heap_alloc_new wr _
      have hbW : Below w.heap.size w W0 := HB.out.trans (hal.mono HB.out.size)
      have hC0 := HC.out.below hal
      have hbl := HH.out.blk
      obtain ⟨X, hX⟩ : ∃ X, wr.heap.size = X := ⟨_, rfl⟩
      rw [hX] at hbx
      have hml : m.length ≤ 256 := by
        have := HC.out.len
        rw [List.length_take] at this
        omega
      obtain ⟨ap, hK1, hK2, hK3, hK4, hK5, hok, hKG, hKO⟩ : ∃ ap : Ap, W0 = ap.w0 ∧ u3 = ap.v ∧ m = ap.l ∧ id = ap.id ∧ p = ap.p ∧ ap.ok ∧ (∀ A c w', ap.G A c w' = (BodyAt w' (p.at_ A c) ∧ Typed w' (p.at_ A c) ∧ Fresh W0.heap.size (p.at_ A c))) ∧ True := by
        refine ⟨⟨W0, B, _, 58, u3, m, id, p, fun A c w' => BodyAt w' (p.at_ A c) ∧ Typed w' (p.at_ A c) ∧ Fresh W0.heap.size (p.at_ A c)⟩, rfl, rfl, rfl, rfl, rfl, ⟨hC0.row.zero, (hbW.block B hB).trans hbl, by show 58 ≠ TF; decide, hml, ?_⟩, fun _ _ _ => rfl, trivial⟩
        rintro A c w3 w4 ⟨g1, g2, g3⟩ hbS
        have hout : Outs (fun i => i < W0.heap.size) (p.at_ A c) := fun b off e hn hs => by
          have h1 := g3 b off e
          omega
        have hbS' : But (fun i => i < W0.heap.size) w3 w4 := hbS.mono (fun i hi => hi.2)
        exact ⟨g1.but hbS' hout, g2.but hbS' hout, g3⟩
      subst hK1 hK2 hK3 hK4 hK5
      have HBox : Hid (∀ w', Below ap.w0.heap.size ap.w0 w' → w'.heap[X]? = some (.cells #[.int .i64 (ap.id : Int), .int .i64 ap.p.fr, .int .i64 ap.p.to, .slice ap.p.A ap.p.body.length ap.p.c] TF (0, 0))) := Lib.hid (fun w' hb => (hb.block _ (block_lt hbx)).trans hbx)
      have HOwn : Hid (∀ w, Below ap.w0.heap.size ap.w0 w → Calls Try.prog 40 #[.agg #[.int .i64 ap.p.fr, .int .i64 ap.p.to, .slice ap.p.A ap.p.body.length ap.p.c]] w fun e w' => ∃ A c, e = .returned (.agg #[.int .i64 ap.p.fr, .int .i64 ap.p.to, .slice A ap.p.body.length c]) ∧ ap.G A c w' ∧ Below w.heap.size w w') := Lib.hid (fun w3 hb3 => by
        refine (own_any w3 ap.p ((hbody.below hbW).below hb3)).mono ?_
        rintro e w4 ⟨A, c, rfl, g1, g2, g3, g4⟩
        exact ⟨A, c, rfl, by rw [hKG]; exact ⟨g1, g2, fun b off e => Nat.le_trans hb3.size (g3 b off e)⟩, g4⟩)
      have HNext : Hid (∀ v3 w3, ap.I true false w3 → ap.R v3 w3 → ∃ m', Copied w.heap.size w3 v3 (s.L.take (k + 1)) m' ∧ Below w.heap.size w w3) := Lib.hid (fun v3 w3 hI3 hR3 => by
        obtain ⟨⟨A, c, hG, hrow3⟩, hbut, hloc⟩ := Ap.I.done hok hI3 hR3
        rw [hKG] at hG
        have houts : ∀ x ∈ ap.l, Outs ap.vb x.p := fun x hx b off e hn hs => by
          obtain ⟨b', off', cur', e', hh⟩ := (hC0.body x hx).2.1 hn
          rw [e] at e'
          simp only [Option.some.injEq, Addr.mk.injEq] at e'
          obtain ⟨rfl, _⟩ := e'
          obtain ⟨cur2, hc2⟩ := hok.row.cells hs
          have := hc2.symm.trans hh
          simp at this
        refine ⟨_, ⟨itRow.base hrow3 (fun b e => ?_), ?_, fun x hx => ?_⟩, ?_⟩
        · rcases hloc b e with h1 | h1
          · exact hC0.row.ge h1
          · exact Nat.le_trans hbW.size h1
        · rw [htake, List.map_append, List.map_append, hC0.same]
          rfl
        · rcases List.mem_append.1 hx with h1 | h1
          · exact ⟨(hC0.body x h1).1.but hbut (houts x h1), (hC0.body x h1).2.1.but hbut (houts x h1), (hC0.body x h1).2.2⟩
          · obtain rfl := List.mem_singleton.1 h1
            exact ⟨hG.1, hG.2.1, fun b off e => Nat.le_trans hbW.size (hG.2.2 b off e)⟩
        · exact ((But.of_below (S := ap.vb) hbW).trans hbut).below (Nat.le_refl _) (fun i hi hs => by
            have := hC0.row.ge hs
            omega))
      have HW0 := Lib.hid hW0
      have HX := Lib.hid hX
      have HOKK := Lib.hid hok
      have q2 : (k : Int) < (n : Int) := by omega
      clear hW0 hX hok hKG hKO hal hbx hbW hC0 hbl hml hbody htake hx hrow
      go_wp2_with fail
      rw [HW0.out, HX.out]
      have HOK := HOKK.out
      refine Go.Rel.wp_region_hold (by kernel_rfl) (by kernel_rfl) (by kernel_rfl) (by kernel_rfl) (fun f w => ap.I (f 8) false w) (But ap.S) (fun _ _ _ h k => h.trans k) ((But.refl _ _).drew) Ap.I.start (allR ap X) (allR_stable HOK X) ?hsteps ?hend
      case hsteps =>
        refine (.cons ?_ (.cons ?_ (.cons ?_ (.cons ?_ (.cons ?_ (.cons ?_ (.cons ?_ (.cons ?_ (.cons ?_ (.cons ?_ .nil))))))))))
        · intro f a w' hI hf hanc hdesc hle hs' hold hd K hK
          have f3 : a.tmps[3]? = some (ap.v) := hold 3 9 (by kernel_rfl) (hdesc 12 9 (by kernel_rfl))
          unfold Go.Rel.stepOf
          go_simp
          exact hK _ _ (But.refl _ _) (hI) rfl
        · intro f a w' hI hf hanc hdesc hle hs' hold hd K hK
          have f5 : a.tmps[5]? = some (.pointer (some ⟨X, 0, none⟩)) := hs'.2.2 5 (by kernel_rfl)
          unfold Go.Rel.stepOf
          go_simp
          exact hK _ _ (But.refl _ _) (hI) rfl
        · intro f a w' hI hf hanc hdesc hle hs' hold hd K hK
          obtain ⟨_, t1, rfl⟩ := hd 1 20 (by kernel_rfl)
          have ha : f 8 = false := hdesc 12 8 (by kernel_rfl)
          have hI2 := hI
          rw [ha] at hI2
          obtain ⟨x0, x1, x2, x3⟩ := blk4 (HBox.out w' hI2.bel)
          unfold Go.Rel.stepOf
          go_simp
          exact hK _ _ (But.refl _ _) (hI) rfl
        · intro f a w' hI hf hanc hdesc hle hs' hold hd K hK
          have f5 : a.tmps[5]? = some (.pointer (some ⟨X, 0, none⟩)) := hs'.2.2 5 (by kernel_rfl)
          unfold Go.Rel.stepOf
          go_simp
          exact hK _ _ (But.refl _ _) (hI) rfl
        · intro f a w' hI hf hanc hdesc hle hs' hold hd K hK
          obtain ⟨_, t3, rfl⟩ := hd 3 22 (by kernel_rfl)
          have ha : f 8 = false := hdesc 12 8 (by kernel_rfl)
          have hI2 := hI
          rw [ha] at hI2
          obtain ⟨x0, x1, x2, x3⟩ := blk4 (HBox.out w' hI2.bel)
          unfold Go.Rel.stepOf
          go_simp
          exact hK _ _ (But.refl _ _) (hI) rfl
        · intro f a w' hI hf hanc hdesc hle hs' hold hd K hK
          obtain ⟨_, t4, rfl⟩ := hd 4 23 (by kernel_rfl)
          have ha : f 8 = false := hdesc 12 8 (by kernel_rfl)
          have hI2 := hI
          rw [ha] at hI2
          unfold Go.Rel.stepOf
          go_simp
          refine (HOwn.out w' hI2.bel).mono ?_
          rintro e w2 ⟨A, c, rfl, hG, hb⟩
          refine hK _ _ (But.of_below hb) ?_ ⟨A, c, rfl, hG⟩
          show ap.I (f 8) false _
          rw [ha]
          exact Ap.I.of_bel (hI2.bel.trans (hb.mono hI2.bel.size))
        · intro f a w' hI hf hanc hdesc hle hs' hold hd K hK
          obtain ⟨_, t2, rfl⟩ := hd 2 21 (by kernel_rfl)
          obtain ⟨_, t5, A5, c5, rfl, hG5⟩ := hd 5 24 (by kernel_rfl)
          unfold Go.Rel.stepOf
          go_simp
          exact hK _ _ (But.refl _ _) hI ⟨A5, c5, rfl, hG5⟩
        · intro f a w' hI hf hanc hdesc hle hs' hold hd K hK
          obtain ⟨_, t6, A6, c6, rfl, hG6⟩ := hd 6 25 (by kernel_rfl)
          have ha : f 8 = false := hdesc 12 8 (by kernel_rfl)
          have hI2 := hI
          rw [ha] at hI2
          unfold Go.Rel.stepOf
          go_simp
          have hal := (Below.refl w'.heap.size w').alloc (Nat.le_refl _) (.cells #[.int .i64 (ap.id : Int), .int .i64 ap.p.fr, .int .i64 ap.p.to, .slice A6 ap.p.body.length c6] TF)
          refine hK _ _ (But.of_below hal) ?_ ⟨w'.heap.size, A6, c6, rfl, hI2.bel.size, heap_alloc_new w' _, HOK.stab _ _ _ _ hG6 (But.of_below hal)⟩
          show ap.I (f 8) false _
          rw [ha]
          exact Ap.I.of_bel (hI2.bel.trans (hal.mono hI2.bel.size))
        · intro f a w' hI hf hanc hdesc hle hs' hold hd K hK
          obtain ⟨_, t0, rfl⟩ := hd 0 19 (by kernel_rfl)
          obtain ⟨_, t7, X, A7, c7, rfl, hx0, hx1, hG7⟩ := hd 7 26 (by kernel_rfl)
          have hz : True := trivial
          have hI2 := hI
          rw [hf] at hI2
          obtain ⟨x0, x1, x2, x3⟩ := blk4 hx1
          obtain ⟨v3, w3, hr3, hb3, hI3, hR3⟩ := hI2.append HOK 46 Try.underlying46 hG7 x0 x1 x2 x3 46
          refine stepOf_append (.tmp 19) (.tmp 26) 46 rfl rfl (by simp [Act.eval, t0]) (by simp [Act.eval, t7]) hr3 (hK _ _ hb3 ?_ hR3)
          exact hI3
        · intro f a w' hI hf hanc hdesc hle hs' hold hd K hK
          obtain ⟨_, t8, h8⟩ := hd 8 27 (by kernel_rfl)
          unfold Go.Rel.stepOf
          go_simp
          exact hK _ _ (But.refl _ _) hI h8
      case hend =>
        intro f a w3 hall hI hle hs' hR'
        have hz := hall 8 (by decide)
        rw [hz] at hI
        have HI := Lib.hid hI
        clear hz hI hall hle
        obtain ⟨v19, s19, _⟩ := hR' 0 19 (by kernel_rfl)
        obtain ⟨v20, s20, _⟩ := hR' 1 20 (by kernel_rfl)
        obtain ⟨v21, s21, _⟩ := hR' 2 21 (by kernel_rfl)
        obtain ⟨v22, s22, _⟩ := hR' 3 22 (by kernel_rfl)
        obtain ⟨v23, s23, _⟩ := hR' 4 23 (by kernel_rfl)
        obtain ⟨v24, s24, _⟩ := hR' 5 24 (by kernel_rfl)
        obtain ⟨v25, s25, _⟩ := hR' 6 25 (by kernel_rfl)
        obtain ⟨v26, s26, _⟩ := hR' 7 26 (by kernel_rfl)
        obtain ⟨v27, s27, _⟩ := hR' 8 27 (by kernel_rfl)
        obtain ⟨v3, s3, h9⟩ := hR' 9 3 (by kernel_rfl)
        have e := hs'.shape
        simp only [List.toList_toArray, List.foldl, Go.Rel.reset, Array.getD_eq_getD_getElem?, s19, s20, s21, s22, s23, s24, s25, s26, s27, s3, Option.getD_some] at e
        simp at e
        clear hR' hs' s19 s20 s21 s22 s23 s24 s25 s26 s27 s3
        subst e
        obtain ⟨m', hC', hB'⟩ := HNext.out _ _ HI.out h9
        have HC' := Lib.hid hC'
        have HB' := Lib.hid hB'
        clear hC' hB' h9
        go_wp2
        go_roundw
        case rel => exact ⟨k + 1, m', by go_num, by omega, HC', HB'⟩
        case measure => simp [RowKit.intOf]; omega
    · obtain rfl : k = n := by omega
      go_wp2
      go_ret
      have h := HC.out
      rw [List.take_of_length_le (by rw [HNN.out]; exact Nat.le_refl _)] at h
      exact ⟨_, m, rfl, h, HB.out⟩
end Go.Proofs.Yticjkpnlnonibaa
