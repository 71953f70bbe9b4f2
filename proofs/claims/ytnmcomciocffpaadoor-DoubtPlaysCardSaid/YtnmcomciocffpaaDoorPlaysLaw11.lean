/-
  Whoever confirms it, and whatever ticks go by, a doubt lasts, and is due, as the document says: the law sodalitylaw11.DoubtPlays, walked.
-/
import Derived.Test.YtnmcomciocffpaaDoorDbStep
namespace Go.Proofs.YtnmcomciocffpaaDoor
open Go.RowKit Go.Maps
set_option linter.unusedSimpArgs false
set_option linter.unusedVariables false

theorem RdAt.cells {w : World} {g Bw : Nat} {d : Db} (h : RdAt w g Bw d) : (∃ A c, w.cell? ⟨Bw, 3, none⟩ = some (.slice A d.from_.length c)) ∧ w.cell? ⟨Bw, 4, none⟩ = some (.int .i64 (d.gone : Int)) := by
  obtain ⟨_, _, v, hh, hr⟩ := h
  obtain ⟨A, c, rfl, _⟩ := RV.own hr
  obtain ⟨_, _, _, c3, c4⟩ := blk5 hh
  exact ⟨⟨A, c, c3⟩, c4⟩
theorem RdAt.ticked {w : World} {g Bw : Nat} {d : Db} (h : RdAt w g Bw d) : RdAt (w.setCell ⟨Bw, 4, none⟩ (.int .i64 ((d.gone : Int) + 1))) g Bw d.tick := by
  obtain ⟨h1, h2, v, hh, hr⟩ := h
  refine ⟨Db.tick_ok h1, h2, v, by rw [block_set hh 4 _]; rfl, own_but hr (But.set (S := (· = Bw)) w (p := ⟨Bw, 4, none⟩) rfl _) (fun j hj hs => ?_)⟩
  obtain ⟨_, _, cur, hc⟩ := own_cells hr hj
  exact ne_ty hh hc (by decide) hs.symm
theorem inv_drew {w : World} {B M g Bw : Nat} {d e : Db} (h : ScIs w ∧ DbAt w B M d ∧ RdAt w g Bw e) : ScIs w.drew ∧ DbAt w.drew B M d ∧ RdAt w.drew g Bw e :=
  have hb : Below w.heap.size w w.drew := (Below.refl _ _).drew
  ⟨h.1.below hb, h.2.1.below hb, h.2.2.below hb⟩
theorem RdAt.froz {w : World} {g Bw : Nat} {d : Db} (h : RdAt w g Bw d) (i : Nat) : w.frozen? ⟨Bw, i, none⟩ = false := by
  obtain ⟨_, _, v, hh, _⟩ := h
  simp [World.frozen?, hh]
def plCo (_ : Nat → Prop) (B : Nat) (Bw : Nat) (b : Nat) (off : Nat) (n1 : Nat) (c1 : Nat) (k : Nat) (x : St) (t : Bool) : Nat → Value → World → Prop
  | 0, v, _ => v = .pointer (some ⟨B, 0, none⟩)
  | 1, v, _ => v = .slice (some ⟨b, off, none⟩) n1 c1
  | 2, v, _ => v = .int .i64 (k : Int)
  | 3, v, _ => v = .pointer (some ⟨b, off + k * 2, none⟩)
  | 4, v, _ => v = .pointer (some ⟨b, off + k * 2 + 1, none⟩)
  | 5, v, _ => v = .int .i64 x.from_
  | 6, v, _ => v = .bool t
  | 7, v, _ => v = .pointer (some ⟨Bw, 0, none⟩)
  | 8, v, _ => v = .slice (some ⟨b, off, none⟩) n1 c1
  | 9, v, _ => v = .int .i64 (k : Int)
  | 10, v, _ => v = .pointer (some ⟨b, off + k * 2, none⟩)
  | 11, v, _ => v = .pointer (some ⟨b, off + k * 2 + 1, none⟩)
  | 12, v, _ => v = .int .i64 x.from_
  | 13, v, _ => v = .bool t
  | 14, v, _ => v = .bool false
  | _, _, _ => True
theorem plCo_stable (S : Nat → Prop) (B : Nat) (Bw : Nat) (b : Nat) (off : Nat) (n1 : Nat) (c1 : Nat) (k : Nat) (x : St) (t : Bool) : ∀ i v w w', plCo S B Bw b off n1 c1 k x t i v w → But S w w' → plCo S B Bw b off n1 c1 k x t i v w'
  | 0, _, _, _, h, _ | 1, _, _, _, h, _ | 2, _, _, _, h, _ | 3, _, _, _, h, _ | 4, _, _, _, h, _ | 5, _, _, _, h, _ | 6, _, _, _, h, _ | 7, _, _, _, h, _ | 8, _, _, _, h, _ | 9, _, _, _, h, _ | 10, _, _, _, h, _ | 11, _, _, _, h, _ | 12, _, _, _, h, _ | 13, _, _, _, h, _ | 14, _, _, _, h, _ => h
  | _ + 15, _, _, _, h, _ => h
def plTi (_ : Nat → Prop) (B : Nat) (Bw : Nat) (G : Nat) (n : Int) (t : Bool) : Nat → Value → World → Prop
  | 0, v, _ => v = .pointer (some ⟨B, 0, none⟩)
  | 1, v, _ => v = .bool t
  | 2, v, _ => v = .pointer (some ⟨Bw, 0, none⟩)
  | 3, v, _ => v = .pointer (some ⟨Bw, 0, none⟩)
  | 4, v, _ => v = .pointer (some ⟨Bw, 4, none⟩)
  | 5, v, _ => v = .int .i64 (G : Int)
  | 6, v, _ => v = .pointer (some ⟨Bw, 0, none⟩)
  | 7, v, _ => v = .int .i64 n
  | 8, v, _ => v = .bool t
  | 9, v, _ => v = .bool false
  | _, _, _ => True
theorem plTi_stable (S : Nat → Prop) (B : Nat) (Bw : Nat) (G : Nat) (n : Int) (t : Bool) : ∀ i v w w', plTi S B Bw G n t i v w → But S w w' → plTi S B Bw G n t i v w'
  | 0, _, _, _, h, _ | 1, _, _, _, h, _ | 2, _, _, _, h, _ | 3, _, _, _, h, _ | 4, _, _, _, h, _ | 5, _, _, _, h, _ | 6, _, _, _, h, _ | 7, _, _, _, h, _ | 8, _, _, _, h, _ | 9, _, _, _, h, _ => h
  | _ + 10, _, _, _, h, _ => h
def plLo (_ : Nat → Prop) (B : Nat) (Bw : Nat) (G : Nat) (L : Nat) (n : Int) (t : Bool) : Nat → Value → World → Prop
  | 0, v, _ => v = .pointer (some ⟨B, 0, none⟩)
  | 1, v, _ => v = .int .i64 n
  | 2, v, _ => v = .pointer (some ⟨Bw, 0, none⟩)
  | 3, v, _ => v = .int .i64 n
  | 4, v, _ => v = .bool false
  | 5, v, _ => v = .bool false
  | 6, v, _ => v = .pointer (some ⟨B, 0, none⟩)
  | 7, v, _ => v = .int .i64 (G : Int)
  | 8, v, _ => v = .pointer (some ⟨Bw, 0, none⟩)
  | 9, v, _ => v = .pointer (some ⟨Bw, 0, none⟩)
  | 10, v, _ => v = .pointer (some ⟨Bw, 4, none⟩)
  | 11, v, _ => v = .int .i64 (G : Int)
  | 12, v, _ => v = .bool false
  | 13, v, _ => v = .bool false
  | 14, v, _ => v = .bool false
  | 15, v, _ => v = .pointer (some ⟨B, 0, none⟩)
  | 16, v, _ => v = .int .i64 ((L : Int) - 1)
  | 17, v, _ => v = .pointer (some ⟨Bw, 0, none⟩)
  | 18, v, _ => v = .pointer (some ⟨Bw, 0, none⟩)
  | 19, v, _ => v = .pointer (some ⟨Bw, 3, none⟩)
  | 20, v, _ => ∃ A c, v = .slice A L c
  | 21, v, _ => v = .int .i64 (L : Int)
  | 22, v, _ => v = .int .i64 ((L : Int) - 1)
  | 23, v, _ => v = .bool false
  | 24, v, _ => v = .bool false
  | 25, v, _ => v = .bool false
  | 26, v, _ => v = .pointer (some ⟨B, 0, none⟩)
  | 27, v, _ => v = .bool t
  | 28, v, _ => v = .pointer (some ⟨Bw, 0, none⟩)
  | 29, v, _ => v = .pointer (some ⟨Bw, 0, none⟩)
  | 30, v, _ => v = .pointer (some ⟨Bw, 4, none⟩)
  | 31, v, _ => v = .int .i64 (G : Int)
  | 32, v, _ => v = .pointer (some ⟨Bw, 0, none⟩)
  | 33, v, _ => v = .int .i64 n
  | 34, v, _ => v = .bool t
  | 35, v, _ => v = .bool false
  | 36, v, _ => v = .bool false
  | _, _, _ => True
theorem plLo_stable (S : Nat → Prop) (B : Nat) (Bw : Nat) (G : Nat) (L : Nat) (n : Int) (t : Bool) : ∀ i v w w', plLo S B Bw G L n t i v w → But S w w' → plLo S B Bw G L n t i v w'
  | 0, _, _, _, h, _ | 1, _, _, _, h, _ | 2, _, _, _, h, _ | 3, _, _, _, h, _ | 4, _, _, _, h, _ | 5, _, _, _, h, _ | 6, _, _, _, h, _ | 7, _, _, _, h, _ | 8, _, _, _, h, _ | 9, _, _, _, h, _ | 10, _, _, _, h, _ | 11, _, _, _, h, _ | 12, _, _, _, h, _ | 13, _, _, _, h, _ | 14, _, _, _, h, _ | 15, _, _, _, h, _ | 16, _, _, _, h, _ | 17, _, _, _, h, _ | 18, _, _, _, h, _ | 19, _, _, _, h, _ | 20, _, _, _, h, _ | 21, _, _, _, h, _ | 22, _, _, _, h, _ | 23, _, _, _, h, _ | 24, _, _, _, h, _ | 25, _, _, _, h, _ | 26, _, _, _, h, _ | 27, _, _, _, h, _ | 28, _, _, _, h, _ | 29, _, _, _, h, _ | 30, _, _, _, h, _ | 31, _, _, _, h, _ | 32, _, _, _, h, _ | 33, _, _, _, h, _ | 34, _, _, _, h, _ | 35, _, _, _, h, _ | 36, _, _, _, h, _ => h
  | _ + 37, _, _, _, h, _ => h

set_option maxHeartbeats 4000000 in
theorem plays_no (p : Pln) (A1 : Option Addr) (n1 c1 : Nat) (w : World) (hs : ScIs w) (hok : waitOk p.least p.most p.want = false) :
    Calls Tryd.prog 4 #[.agg #[.int .i64 p.least, .int .i64 p.most, .int .i64 p.want, .int .i64 p.from_], .slice A1 n1 c1] w fun e w' => e = .returned (.bool true) ∧ Below w.heap.size w w' := by
  obtain ⟨W0, hW0⟩ : ∃ W0, w.alloc (.cells #[.int .i64 p.least, .int .i64 p.most, .int .i64 p.want, .int .i64 p.from_] TP) = W0 := ⟨_, rfl⟩
  obtain ⟨b0, hb0⟩ : ∃ b0, w.heap.size = b0 := ⟨_, rfl⟩
  have hk : W0.heap[b0]? = some (.cells #[.int .i64 p.least, .int .i64 p.most, .int .i64 p.want, .int .i64 p.from_] TP (0, 0)) := by rw [← hW0, ← hb0]; exact heap_alloc_new w _
  have hb : Below w.heap.size w W0 := by rw [← hW0]; exact (Below.refl _ _).alloc (Nat.le_refl _) _
  have HNw := Lib.hid (new_no p.least p.most p.want p.from_ W0 (hs.below hb) hok)
  have HSc : Hid (∀ m, ScIs (W0.drewN m)) := Lib.hid (fun m => (hs.below hb).below (below_drewN (Below.refl _ _) m))
  have HRw := Lib.hid (fun m => rwait_no p.least p.most p.want 0 (W0.drewN m) hok)
  have HK := Lib.hid hk
  have HB := Lib.hid hb
  have HW0 := Lib.hid hW0
  have HB0 := Lib.hid hb0
  obtain ⟨c0, c1, c2, c3⟩ := blk4 hk
  clear hk hb hW0 hb0 hs hok
  go_enter Tryd.func4, Tryd.ntmps4
  go_wp2_with fail
  rw [HW0.out, HB0.out]
  go_wp2_with fail
  refine HNw.out.mono ?_
  rintro e w1 ⟨rfl, m, rfl⟩
  go_wp2_with fail
  refine (HRw.out m).mono ?_
  rintro e w2 ⟨rfl, rfl⟩
  have HWk := Lib.hid (works_any _ (HSc.out m))
  go_wp2_with fail
  refine HWk.out.mono ?_
  rintro e w3 ⟨rfl, m2, rfl⟩
  go_wp2
  go_ret
  exact ⟨rfl, below_drewN HB.out _⟩
set_option maxHeartbeats 16000000 in
set_option maxRecDepth 100000 in
theorem plays_yes (p : Pln) (hpf : wfI p.from_) (A1 : Option Addr) (n1 c1 : Nat) (ss : List St) (w : World) (hs : ScIs w) (hS : SK stC 2 w A1 n1 ss) (hwf : ∀ x ∈ ss, wfI x.from_) (hn1 : n1 ≤ maxLen) (hok : waitOk p.least p.most p.want = true) :
    Calls Tryd.prog 4 #[.agg #[.int .i64 p.least, .int .i64 p.most, .int .i64 p.want, .int .i64 p.from_], .slice A1 n1 c1] w fun e w' => e = .returned (.bool true) ∧ Below w.heap.size w w' := by
  unfold maxLen at hn1
  obtain ⟨W0, hW0⟩ : ∃ W0, w.alloc (.cells #[.int .i64 p.least, .int .i64 p.most, .int .i64 p.want, .int .i64 p.from_] TP) = W0 := ⟨_, rfl⟩
  obtain ⟨b0, hb0⟩ : ∃ b0, w.heap.size = b0 := ⟨_, rfl⟩
  have hk : W0.heap[b0]? = some (.cells #[.int .i64 p.least, .int .i64 p.most, .int .i64 p.want, .int .i64 p.from_] TP (0, 0)) := by rw [← hW0, ← hb0]; exact heap_alloc_new w _
  have hb : Below w.heap.size w W0 := by rw [← hW0]; exact (Below.refl _ _).alloc (Nat.le_refl _) _
  obtain ⟨D0, hD0⟩ : ∃ D0, Db.new p.least p.most p.want p.from_ = D0 := ⟨_, rfl⟩
  have hnew := new_yes p.least p.most p.want p.from_ hpf W0 (hs.below hb) hok
  rw [hD0] at hnew
  have HNw := Lib.hid hnew
  have HRw := Lib.hid (fun w' => rwait_any p.least p.most p.want 0 w')
  have hpos := waitD_pos hok 0
  obtain ⟨n0, hn0⟩ : ∃ n0, waitD p.least p.most p.want 0 = n0 := ⟨_, rfl⟩
  rw [hn0] at HRw hpos
  have z0 : (n0 == 0) = false := by rw [beq_eq_false_iff_ne]; exact hpos
  have HSS := Lib.hid hS
  have HSl := Lib.hid hS.1
  have HWf := Lib.hid hwf
  have HS0 := Lib.hid hs
  have HK := Lib.hid hk
  have HB := Lib.hid hb
  have HW0 := Lib.hid hW0
  have HB0 := Lib.hid hb0
  have HD0 := Lib.hid hD0
  have HOK := Lib.hid hok
  have HPf := Lib.hid hpf
  obtain ⟨c0, c1', c2, c3⟩ := blk4 hk
  clear hk hb hW0 hb0 hs hok hnew hD0 hn0 hpos hS hwf hpf
  go_enter Tryd.func4, Tryd.ntmps4
  go_wp2_with fail
  rw [HW0.out, HB0.out]
  go_wp2_with fail
  refine HNw.out.mono ?_
  rintro e w1 ⟨B, M, rfl, hdb, hB, hM, hb1⟩
  have HDb := Lib.hid hdb
  have HBM : Hid (W0.heap.size ≤ B ∧ W0.heap.size ≤ M ∧ B < w1.heap.size ∧ M < w1.heap.size) := Lib.hid ⟨hB, hM, hdb.lt.1, hdb.lt.2⟩
  have HB1 : Hid (Below W0.heap.size W0 w1) := Lib.hid hb1
  obtain ⟨d0, d1, d2, d3⟩ := blk4 ((hb1.block b0 (block_lt HK.out)).trans HK.out)
  clear c0 c1' c2 c3 hdb hB hM hb1
  go_wp2_with fail
  refine (HRw.out w1).mono ?_
  rintro e w2 ⟨rfl, hb2⟩
  have HB2 : Hid (Below w1.heap.size w1 w2) := Lib.hid hb2
  obtain ⟨e0, e1, e2, e3⟩ := blk4 ((hb2.block b0 (Nat.lt_of_lt_of_le (block_lt HK.out) HB1.out.size)).trans ((HB1.out.block b0 (block_lt HK.out)).trans HK.out))
  obtain ⟨g, hg⟩ : ∃ g, w2.heap.size = g := ⟨_, rfl⟩
  have HGs := Lib.hid hg
  obtain ⟨W3, hW3⟩ : ∃ W3, (w2.alloc (.cells #[.int .i64 p.from_] 3)).alloc (.cells #[.int .i64 p.least, .int .i64 p.most, .int .i64 p.want, .slice (some ⟨w2.heap.size, 0, none⟩) 1 1, .int .i64 0] TR) = W3 := ⟨_, rfl⟩
  obtain ⟨Bw, hBw⟩ : ∃ Bw, w2.heap.size + 1 = Bw := ⟨_, rfl⟩
  have hs2 : (w2.alloc (.cells #[.int .i64 p.from_] 3)).heap.size = Bw := by rw [← hBw]; simp
  have hb3 : Below w2.heap.size w2 W3 := by
    rw [← hW3]
    exact ((Below.refl _ w2).alloc (Nat.le_refl _) _).alloc (by simp) _
  have k2 : W3.heap[Bw]? = some (.cells #[.int .i64 p.least, .int .i64 p.most, .int .i64 p.want, .slice (some ⟨w2.heap.size, 0, none⟩) 1 1, .int .i64 0] TR (0, 0)) := by
    rw [← hW3]
    have := heap_alloc_new (w2.alloc (.cells #[.int .i64 p.from_] 3)) (.cells #[.int .i64 p.least, .int .i64 p.most, .int .i64 p.want, .slice (some ⟨w2.heap.size, 0, none⟩) 1 1, .int .i64 0] TR)
    rw [hs2] at this
    exact this
  have k1 : W3.heap[g]? = some (.cells #[.int .i64 p.from_] 3 (0, 0)) := by
    rw [← hW3, ← hg, Below.heap_alloc _ _ _ (by simp)]
    exact heap_alloc_new w2 _
  have hRd : RdAt W3 g Bw D0 := by
    rw [← HD0.out]
    refine ⟨Db.new_ok HOK.out, ?_, _, k2, ?_⟩
    · intro f hf
      have : f = p.from_ := by simpa [Db.new] using hf
      rw [this]
      exact HPf.out
    · refine ⟨rfl, .inr ⟨g, 1, #[.int .i64 p.from_], by rw [hg]; rfl, Nat.le_refl _, k1, Nat.le_refl 1, by unfold maxLen; decide, rfl, rfl⟩⟩
  have HRd := Lib.hid hRd
  have HDb3 : Hid (DbAt W3 B M D0) := Lib.hid ((HDb.out.below hb2).below hb3)
  have HB3 : Hid (Below w.heap.size w W3) := Lib.hid (((HB.out.trans (HB1.out.mono HB.out.size)).trans (hb2.mono (Nat.le_trans HB.out.size HB1.out.size))).trans (hb3.mono (Nat.le_trans HB.out.size (Nat.le_trans HB1.out.size hb2.size))))
  have HLt : Hid (w.heap.size ≤ B ∧ w.heap.size ≤ M ∧ B < g ∧ M < g ∧ w.heap.size ≤ g ∧ g < Bw ∧ Bw < W3.heap.size ∧ 0 < w.heap.size) := Lib.hid (by
    have h1 := HBM.out
    have h2 := HB.out.size
    have h3 := hb2.size
    have h4 := block_lt k2
    have h5 := HS0.out.lt
    refine ⟨by omega, by omega, by omega, by omega, by omega, by omega, h4, h5⟩)
  obtain ⟨S, hSS⟩ : ∃ S : Nat → Prop, (fun i => i = B ∨ i = M ∨ g ≤ i) = S := ⟨_, rfl⟩
  have HT : Hid ((∀ i, i = B → S i) ∧ (∀ i, i = M → S i) ∧ (∀ i, g ≤ i → S i)) := Lib.hid (by rw [← hSS]; exact ⟨fun i h => .inl h, fun i h => .inr (.inl h), fun i h => .inr (.inr h)⟩)
  have HSold : Hid (∀ i, i < w.heap.size → ¬ S i) := Lib.hid (by
    rw [← hSS]
    have := HLt.out
    rintro i hi (h | h | h) <;> omega)
  have HSc : Hid (¬ (0 = M) ∧ ¬ (0 = B) ∧ ¬ (g ≤ 0)) := Lib.hid (by have := HLt.out; omega)
  have HNe : Hid (¬ (Bw = M) ∧ (∀ (w' : World) k, g ≤ k → k < w'.heap.size → k = M → ∀ cur, w'.heap[k]? ≠ some (.cells cur 3 (0, 0))) ∧ ¬ (Bw = B) ∧ (∀ (w' : World) k, g ≤ k → k < w'.heap.size → k = B → ∀ cur, w'.heap[k]? ≠ some (.cells cur 3 (0, 0)))) := Lib.hid (by
    have := HLt.out
    refine ⟨by omega, fun _ k h1 _ h2 => ?_, by omega, fun _ k h1 _ h2 => ?_⟩ <;> (exfalso; omega))
  have HLo : Hid (¬ (g ≤ B) ∧ ¬ (g ≤ M)) := Lib.hid (by have := HLt.out; omega)
  have HgB : Hid (g ≤ Bw) := Lib.hid (by have := HLt.out; omega)
  have HSW : Hid (ScIs W3) := Lib.hid (HS0.out.below HB3.out)
  have HWk := Lib.hid (fun w' h => works_any w' h)
  have HW3 := Lib.hid hW3
  have HBw := Lib.hid hBw
  have HG0 : Hid (D0.gone = 0) := Lib.hid (by rw [← HD0.out]; rfl)
  clear hb2 hg hW3 hBw hs2 hb3 k1 k2 hRd hSS d0 d1 d2 d3
  go_wp2_with fail
  rw [HW3.out, HBw.out]
  go_loopw [8] (fun kv wr => ∃ (k : Nat) (d : Db), k ≤ n1 ∧ k ≤ 100 ∧ kv = .int .i64 (k : Int) ∧ Hid (d.gone ≤ k) ∧ Hid (ScIs wr ∧ DbAt wr B M d ∧ RdAt wr g Bw d) ∧ Hid (But S W3 wr)) (fun kv _ => 100 - (intOf kv).toNat)
  case atStart => exact ⟨0, D0, Nat.zero_le _, by omega, rfl, Lib.hid (by rw [HG0.out]; exact Nat.le_refl _), Lib.hid ⟨HSW.out, HDb3.out, HRd.out⟩, Lib.hid (But.refl _ _)⟩
  case round =>
    obtain ⟨k, d, hk, hk100, rfl, hgo, hinv, hbut⟩ := hrel
    by_cases hlt : k < n1 ∧ k < 100
    · obtain ⟨hlt1, hlt2⟩ := hlt
      have hk' : k < ss.length := by rw [HSl.out]; exact hlt1
      obtain ⟨b, off, rfl, hbl, hat⟩ := HSS.out.2 (by omega)
      have hx := hat k hk'
      obtain ⟨x, hxx⟩ : ∃ x, ss[k] = x := ⟨_, rfl⟩
      have HXf : Hid (wfI x.from_) := Lib.hid (by rw [← hxx]; exact HWf.out _ (List.getElem_mem hk'))
      rw [hxx] at hx
      have HSt : Hid (∀ w', But S wr w' → ItAt stC w' b (off + k * 2) x) := Lib.hid (fun w' h => by
        have h1 := HB3.out.size
        exact hx.of_block (((hbut.out.trans h).block b (by omega) (HSold.out b hbl)).trans (HB3.out.block b hbl)))
      obtain ⟨s0, s1⟩ := (HSt.out wr (But.refl _ _)).st
      have HK' : Hid ((0 : Int) ≤ (k : Int) ∧ (k : Int) < (n1 : Int)) := Lib.hid ⟨by omega, by omega⟩
      have q1 := HK'.out.1
      have q2 := HK'.out.2
      have HK := HK'
      clear hat hx hxx hk'
      by_cases hkd : x.kind = 0
      · have z1 : (x.kind == 0) = true := by rw [beq_iff_eq]; exact hkd
        obtain ⟨d', hd'⟩ : ∃ d', d.confirm x.from_ = d' := ⟨_, rfl⟩
        obtain ⟨t, ht⟩ : ∃ t, d.takes x.from_ = t := ⟨_, rfl⟩
        have HGo : Hid (d'.gone ≤ k + 1) := Lib.hid (by rw [← hd', (Db.confirm_same d x.from_).2.2.2]; have := hgo.out; omega)
        have HCo : Hid (∀ w', DbAt w' B M d → Calls Tryd.prog 11 #[.pointer (some ⟨B, 0, none⟩), .int .i64 x.from_] w' fun e w2 => e = .returned (.bool t) ∧ DbAt w2 B M d' ∧ But (fun i => i = M) w' w2) := Lib.hid (fun w' h => by rw [← hd', ← ht]; exact confirm_any x.from_ HXf.out w' h)
        have HRc : Hid (∀ w', RdAt w' g Bw d → Calls Tryd.prog 12 #[.pointer (some ⟨Bw, 0, none⟩), .int .i64 x.from_] w' fun e w2 => e = .returned (.bool t) ∧ RdAt w2 g Bw d' ∧ But (fun i => g ≤ i) w' w2) := Lib.hid (fun w' h => by rw [← hd', ← ht]; exact rconfirm_any x.from_ HXf.out w' h HgB.out)
        clear hd' ht hkd
        go_wp2
        refine Go.Rel.wp_region_states (by kernel_rfl) (by kernel_rfl) (by kernel_rfl) (by kernel_rfl) (fun f w => ScIs w ∧ DbAt w B M (bif f 6 then d' else d) ∧ RdAt w g Bw (bif f 13 then d' else d)) (But S) (fun _ _ _ h k => h.trans k) ((But.refl _ _).drew) (inv_drew hinv.out) (plCo S B Bw b off n1 c1 k x t) (plCo_stable S B Bw b off n1 c1 k x t) ?hsC ?heC
        case hsC =>
          refine (.cons ?_ (.cons ?_ (.cons ?_ (.cons ?_ (.cons ?_ (.cons ?_ (.cons ?_ (.cons ?_ (.cons ?_ (.cons ?_ (.cons ?_ (.cons ?_ (.cons ?_ (.cons ?_ (.cons ?_ .nil)))))))))))))))
          · intro f a w' hI hf hanc hdesc hle hs' hd K hK
            have f5 : a.tmps[5]? = some (.pointer (some ⟨B, 0, none⟩)) := hs'.2.2 5 (by kernel_rfl)
            unfold Go.Rel.stepOf
            go_simp
            exact hK _ _ (But.refl _ _) (hI) rfl
          · intro f a w' hI hf hanc hdesc hle hs' hd K hK
            have f1 : a.tmps[1]? = some (.slice (some ⟨b, off, none⟩) n1 c1) := hs'.2.2 1 (by kernel_rfl)
            unfold Go.Rel.stepOf
            go_simp
            exact hK _ _ (But.refl _ _) (hI) rfl
          · intro f a w' hI hf hanc hdesc hle hs' hd K hK
            have f8 : a.tmps[8]? = some (.int .i64 (k : Int)) := hs'.2.2 8 (by kernel_rfl)
            unfold Go.Rel.stepOf
            go_simp
            exact hK _ _ (But.refl _ _) (hI) rfl
          · intro f a w' hI hf hanc hdesc hle hs' hd K hK
            obtain ⟨_, t1, rfl⟩ := hd 1 68 (by kernel_rfl)
            obtain ⟨_, t2, rfl⟩ := hd 2 69 (by kernel_rfl)
            have q1 := HK.out.1
            have q2 := HK.out.2
            unfold Go.Rel.stepOf
            go_simp
            exact hK _ _ (But.refl _ _) (hI) rfl
          · intro f a w' hI hf hanc hdesc hle hs' hd K hK
            obtain ⟨_, t3, rfl⟩ := hd 3 70 (by kernel_rfl)
            unfold Go.Rel.stepOf
            go_simp
            exact hK _ _ (But.refl _ _) (hI) rfl
          · intro f a w' hI hf hanc hdesc hle hs' hd K hK
            obtain ⟨_, t4, rfl⟩ := hd 4 71 (by kernel_rfl)
            obtain ⟨k0, k1⟩ := (HSt.out w' hle).st
            unfold Go.Rel.stepOf
            go_simp
            exact hK _ _ (But.refl _ _) (hI) rfl
          · intro f a w' hI hf hanc hdesc hle hs' hd K hK
            obtain ⟨_, t0, rfl⟩ := hd 0 67 (by kernel_rfl)
            obtain ⟨_, t5, rfl⟩ := hd 5 72 (by kernel_rfl)
            have hst := hI.2.1
            rw [hf] at hst
            unfold Go.Rel.stepOf
            go_simp
            refine (HCo.out w' hst).mono ?_
            rintro e w2 ⟨rfl, hr5, hb5⟩
            exact hK _ _ (hb5.mono HT.out.2.1) ⟨hI.1.but hb5 HSc.out.1, hr5, hI.2.2.but hb5 HNe.out.1 (HNe.out.2.1 w')⟩ rfl
          · intro f a w' hI hf hanc hdesc hle hs' hd K hK
            have f7 : a.tmps[7]? = some (.pointer (some ⟨Bw, 0, none⟩)) := hs'.2.2 7 (by kernel_rfl)
            unfold Go.Rel.stepOf
            go_simp
            exact hK _ _ (But.refl _ _) (hI) rfl
          · intro f a w' hI hf hanc hdesc hle hs' hd K hK
            have f1 : a.tmps[1]? = some (.slice (some ⟨b, off, none⟩) n1 c1) := hs'.2.2 1 (by kernel_rfl)
            unfold Go.Rel.stepOf
            go_simp
            exact hK _ _ (But.refl _ _) (hI) rfl
          · intro f a w' hI hf hanc hdesc hle hs' hd K hK
            have f8 : a.tmps[8]? = some (.int .i64 (k : Int)) := hs'.2.2 8 (by kernel_rfl)
            unfold Go.Rel.stepOf
            go_simp
            exact hK _ _ (But.refl _ _) (hI) rfl
          · intro f a w' hI hf hanc hdesc hle hs' hd K hK
            obtain ⟨_, t8, rfl⟩ := hd 8 75 (by kernel_rfl)
            obtain ⟨_, t9, rfl⟩ := hd 9 76 (by kernel_rfl)
            have q1 := HK.out.1
            have q2 := HK.out.2
            unfold Go.Rel.stepOf
            go_simp
            exact hK _ _ (But.refl _ _) (hI) rfl
          · intro f a w' hI hf hanc hdesc hle hs' hd K hK
            obtain ⟨_, t10, rfl⟩ := hd 10 77 (by kernel_rfl)
            unfold Go.Rel.stepOf
            go_simp
            exact hK _ _ (But.refl _ _) (hI) rfl
          · intro f a w' hI hf hanc hdesc hle hs' hd K hK
            obtain ⟨_, t11, rfl⟩ := hd 11 78 (by kernel_rfl)
            obtain ⟨k0, k1⟩ := (HSt.out w' hle).st
            unfold Go.Rel.stepOf
            go_simp
            exact hK _ _ (But.refl _ _) (hI) rfl
          · intro f a w' hI hf hanc hdesc hle hs' hd K hK
            obtain ⟨_, t7, rfl⟩ := hd 7 74 (by kernel_rfl)
            obtain ⟨_, t12, rfl⟩ := hd 12 79 (by kernel_rfl)
            have hst := hI.2.2
            rw [hf] at hst
            unfold Go.Rel.stepOf
            go_simp
            refine (HRc.out w' hst).mono ?_
            rintro e w2 ⟨rfl, hr5, hb5⟩
            exact hK _ _ (hb5.mono HT.out.2.2) ⟨hI.1.but hb5 HSc.out.2.2, hI.2.1.but hb5 HLo.out.1 HLo.out.2, hr5⟩ rfl
          · intro f a w' hI hf hanc hdesc hle hs' hd K hK
            obtain ⟨_, t6, rfl⟩ := hd 6 73 (by kernel_rfl)
            obtain ⟨_, t13, rfl⟩ := hd 13 80 (by kernel_rfl)
            unfold Go.Rel.stepOf
            go_simp
            exact hK _ _ (But.refl _ _) (hI) rfl
        case heC =>
          intro f a w3 hall hI hle hs' hR'
          have hf1 := hall 6 (by decide)
          have hf2 := hall 13 (by decide)
          have HI3 : Hid (ScIs w3 ∧ DbAt w3 B M d' ∧ RdAt w3 g Bw d') := Lib.hid (by
            have h := hI
            simp only [hf1, hf2, cond_true] at h
            exact h)
          have HB3' : Hid (But S W3 w3) := Lib.hid (hbut.out.trans hle)
          clear hI hall hf1 hf2 hle s0 s1
          obtain ⟨v67, s67, _⟩ := hR' 0 67 (by kernel_rfl)
          obtain ⟨v68, s68, _⟩ := hR' 1 68 (by kernel_rfl)
          obtain ⟨v69, s69, _⟩ := hR' 2 69 (by kernel_rfl)
          obtain ⟨v70, s70, _⟩ := hR' 3 70 (by kernel_rfl)
          obtain ⟨v71, s71, _⟩ := hR' 4 71 (by kernel_rfl)
          obtain ⟨v72, s72, _⟩ := hR' 5 72 (by kernel_rfl)
          obtain ⟨v73, s73, _⟩ := hR' 6 73 (by kernel_rfl)
          obtain ⟨v74, s74, _⟩ := hR' 7 74 (by kernel_rfl)
          obtain ⟨v75, s75, _⟩ := hR' 8 75 (by kernel_rfl)
          obtain ⟨v76, s76, _⟩ := hR' 9 76 (by kernel_rfl)
          obtain ⟨v77, s77, _⟩ := hR' 10 77 (by kernel_rfl)
          obtain ⟨v78, s78, _⟩ := hR' 11 78 (by kernel_rfl)
          obtain ⟨v79, s79, _⟩ := hR' 12 79 (by kernel_rfl)
          obtain ⟨v80, s80, _⟩ := hR' 13 80 (by kernel_rfl)
          obtain ⟨_, s81, rfl⟩ := hR' 14 81 (by kernel_rfl)
          have e := hs'.shape
          simp only [List.toList_toArray, List.foldl, Go.Rel.reset, Array.getD_eq_getD_getElem?, s67, s68, s69, s70, s71, s72, s73, s74, s75, s76, s77, s78, s79, s80, s81, Option.getD_some] at e
          simp at e
          clear hR' hs' s67 s68 s69 s70 s71 s72 s73 s74 s75 s76 s77 s78 s79 s80 s81
          subst e
          obtain ⟨G, hG⟩ : ∃ G, d'.gone = G := ⟨_, rfl⟩
          obtain ⟨L, hL⟩ : ∃ L, d'.from_.length = L := ⟨_, rfl⟩
          obtain ⟨n, hn⟩ : ∃ n, d'.wait = n := ⟨_, rfl⟩
          obtain ⟨t, ht⟩ : ∃ t, d'.due = t := ⟨_, rfl⟩
          have HDec : Hid (decide (n ≤ (G : Int)) = t) := Lib.hid (by rw [← ht, ← hn, ← hG]; rfl)
          have HL9 : Hid (L ≤ 9) := Lib.hid (by rw [← hL]; exact Db.few9 HI3.out.2.1.ok)
          have HWa : Hid (∀ w', ScIs w' → DbAt w' B M d' → Calls Tryd.prog 15 #[.pointer (some ⟨B, 0, none⟩)] w' (Quiet w' (.int .i64 n))) := Lib.hid (fun w' h1 h2 => by rw [← hn]; exact dwait_any w' h1 h2)
          have HEl : Hid (∀ w', ScIs w' → DbAt w' B M d' → Calls Tryd.prog 16 #[.pointer (some ⟨B, 0, none⟩)] w' (Quiet w' (.int .i64 (G : Int)))) := Lib.hid (fun w' h1 h2 => by rw [← hG]; exact elapsed_any w' h2)
          have HHa : Hid (∀ w', ScIs w' → DbAt w' B M d' → Calls Tryd.prog 17 #[.pointer (some ⟨B, 0, none⟩)] w' (Quiet w' (.int .i64 ((L : Int) - 1)))) := Lib.hid (fun w' h1 h2 => by rw [← hL]; exact have_any w' h2)
          have HDu : Hid (∀ w', ScIs w' → DbAt w' B M d' → Calls Tryd.prog 18 #[.pointer (some ⟨B, 0, none⟩)] w' (Quiet w' (.bool t))) := Lib.hid (fun w' h1 h2 => by rw [← ht]; exact due_any w' h1 h2)
          have HRw : Hid (∀ w', RdAt w' g Bw d' → Calls Tryd.prog 14 #[.pointer (some ⟨Bw, 0, none⟩)] w' fun e w2 => e = .returned (.int .i64 n) ∧ Below w'.heap.size w' w2) := Lib.hid (fun w' h => by rw [← hn]; exact rdwait_any w' h)
          have HG := Lib.hid hG
          have HL := Lib.hid hL
          clear hG hL hn ht
          go_wp2
          refine Go.Rel.wp_region_states (by kernel_rfl) (by kernel_rfl) (by kernel_rfl) (by kernel_rfl) (fun _ w => ScIs w ∧ DbAt w B M d' ∧ RdAt w g Bw d') (But S) (fun _ _ _ h k => h.trans k) ((But.refl _ _).drew) (inv_drew HI3.out) (plLo S B Bw G L n t) (plLo_stable S B Bw G L n t) ?hsL10 ?heL10
          case hsL10 =>
            refine (.cons ?_ (.cons ?_ (.cons ?_ (.cons ?_ (.cons ?_ (.cons ?_ (.cons ?_ (.cons ?_ (.cons ?_ (.cons ?_ (.cons ?_ (.cons ?_ (.cons ?_ (.cons ?_ (.cons ?_ (.cons ?_ (.cons ?_ (.cons ?_ (.cons ?_ (.cons ?_ (.cons ?_ (.cons ?_ (.cons ?_ (.cons ?_ (.cons ?_ (.cons ?_ (.cons ?_ (.cons ?_ (.cons ?_ (.cons ?_ (.cons ?_ (.cons ?_ (.cons ?_ (.cons ?_ (.cons ?_ (.cons ?_ (.cons ?_ .nil)))))))))))))))))))))))))))))))))))))
            · intro f a w' hI hf hanc hdesc hle hs' hd K hK
              have f5 : a.tmps[5]? = some (.pointer (some ⟨B, 0, none⟩)) := hs'.2.2 5 (by kernel_rfl)
              unfold Go.Rel.stepOf
              go_simp
              exact hK _ _ (But.refl _ _) (hI) rfl
            · intro f a w' hI hf hanc hdesc hle hs' hd K hK
              obtain ⟨_, t0, rfl⟩ := hd 0 100 (by kernel_rfl)
              unfold Go.Rel.stepOf
              go_simp
              refine (HWa.out w' hI.1 hI.2.1).mono ?_
              rintro e w2 ⟨rfl, hq⟩
              have hb5 := Quiet.below hq
              exact hK _ _ (But.of_below hb5) ⟨hI.1.below hb5, hI.2.1.below hb5, hI.2.2.below hb5⟩ rfl
            · intro f a w' hI hf hanc hdesc hle hs' hd K hK
              have f7 : a.tmps[7]? = some (.pointer (some ⟨Bw, 0, none⟩)) := hs'.2.2 7 (by kernel_rfl)
              unfold Go.Rel.stepOf
              go_simp
              exact hK _ _ (But.refl _ _) (hI) rfl
            · intro f a w' hI hf hanc hdesc hle hs' hd K hK
              obtain ⟨_, t2, rfl⟩ := hd 2 102 (by kernel_rfl)
              unfold Go.Rel.stepOf
              go_simp
              refine (HRw.out w' hI.2.2).mono ?_
              rintro e w2 ⟨rfl, hb5⟩
              exact hK _ _ (But.of_below hb5) ⟨hI.1.below hb5, hI.2.1.below hb5, hI.2.2.below hb5⟩ rfl
            · intro f a w' hI hf hanc hdesc hle hs' hd K hK
              obtain ⟨_, t1, rfl⟩ := hd 1 101 (by kernel_rfl)
              obtain ⟨_, t3, rfl⟩ := hd 3 103 (by kernel_rfl)
              unfold Go.Rel.stepOf
              go_simp
              exact hK _ _ (But.refl _ _) (hI) rfl
            · intro f a w' hI hf hanc hdesc hle hs' hd K hK
              obtain ⟨_, t4, rfl⟩ := hd 4 104 (by kernel_rfl)
              unfold Go.Rel.stepOf
              go_simp
              exact hK _ _ (But.refl _ _) (hI) rfl
            · intro f a w' hI hf hanc hdesc hle hs' hd K hK
              obtain ⟨_, tg, rfl⟩ := hd 5 105 (by kernel_rfl)
              have f5 : a.tmps[5]? = some (.pointer (some ⟨B, 0, none⟩)) := hs'.2.2 5 (by kernel_rfl)
              unfold Go.Rel.stepOf
              go_simp
              exact hK _ _ (But.refl _ _) (hI) rfl
            · intro f a w' hI hf hanc hdesc hle hs' hd K hK
              obtain ⟨_, tg, rfl⟩ := hd 5 105 (by kernel_rfl)
              obtain ⟨_, t6, rfl⟩ := hd 6 106 (by kernel_rfl)
              unfold Go.Rel.stepOf
              go_simp
              refine (HEl.out w' hI.1 hI.2.1).mono ?_
              rintro e w2 ⟨rfl, hq⟩
              have hb5 := Quiet.below hq
              exact hK _ _ (But.of_below hb5) ⟨hI.1.below hb5, hI.2.1.below hb5, hI.2.2.below hb5⟩ rfl
            · intro f a w' hI hf hanc hdesc hle hs' hd K hK
              obtain ⟨_, tg, rfl⟩ := hd 5 105 (by kernel_rfl)
              have f7 : a.tmps[7]? = some (.pointer (some ⟨Bw, 0, none⟩)) := hs'.2.2 7 (by kernel_rfl)
              unfold Go.Rel.stepOf
              go_simp
              exact hK _ _ (But.refl _ _) (hI) rfl
            · intro f a w' hI hf hanc hdesc hle hs' hd K hK
              obtain ⟨_, tg, rfl⟩ := hd 5 105 (by kernel_rfl)
              obtain ⟨_, t8, rfl⟩ := hd 8 108 (by kernel_rfl)
              unfold Go.Rel.stepOf
              go_simp
              exact hK _ _ (But.refl _ _) (hI) rfl
            · intro f a w' hI hf hanc hdesc hle hs' hd K hK
              obtain ⟨_, tg, rfl⟩ := hd 5 105 (by kernel_rfl)
              obtain ⟨_, t9, rfl⟩ := hd 9 109 (by kernel_rfl)
              unfold Go.Rel.stepOf
              go_simp
              exact hK _ _ (But.refl _ _) (hI) rfl
            · intro f a w' hI hf hanc hdesc hle hs' hd K hK
              obtain ⟨_, tg, rfl⟩ := hd 5 105 (by kernel_rfl)
              obtain ⟨_, t10, rfl⟩ := hd 10 110 (by kernel_rfl)
              obtain ⟨_, c4⟩ := hI.2.2.cells
              rw [HG.out] at c4
              unfold Go.Rel.stepOf
              go_simp
              exact hK _ _ (But.refl _ _) (hI) rfl
            · intro f a w' hI hf hanc hdesc hle hs' hd K hK
              obtain ⟨_, tg, rfl⟩ := hd 5 105 (by kernel_rfl)
              obtain ⟨_, t7, rfl⟩ := hd 7 107 (by kernel_rfl)
              obtain ⟨_, t11, rfl⟩ := hd 11 111 (by kernel_rfl)
              unfold Go.Rel.stepOf
              go_simp
              exact hK _ _ (But.refl _ _) (hI) rfl
            · intro f a w' hI hf hanc hdesc hle hs' hd K hK
              obtain ⟨_, t5, rfl⟩ := hd 5 105 (by kernel_rfl)
              obtain ⟨_, t12, rfl⟩ := hd 12 112 (by kernel_rfl)
              unfold Go.Rel.stepOf
              go_simp
              exact hK _ _ (But.refl _ _) (hI) rfl
            · intro f a w' hI hf hanc hdesc hle hs' hd K hK
              obtain ⟨_, t13, rfl⟩ := hd 13 113 (by kernel_rfl)
              unfold Go.Rel.stepOf
              go_simp
              exact hK _ _ (But.refl _ _) (hI) rfl
            · intro f a w' hI hf hanc hdesc hle hs' hd K hK
              obtain ⟨_, tg, rfl⟩ := hd 14 114 (by kernel_rfl)
              have f5 : a.tmps[5]? = some (.pointer (some ⟨B, 0, none⟩)) := hs'.2.2 5 (by kernel_rfl)
              unfold Go.Rel.stepOf
              go_simp
              exact hK _ _ (But.refl _ _) (hI) rfl
            · intro f a w' hI hf hanc hdesc hle hs' hd K hK
              obtain ⟨_, tg, rfl⟩ := hd 14 114 (by kernel_rfl)
              obtain ⟨_, t15, rfl⟩ := hd 15 115 (by kernel_rfl)
              unfold Go.Rel.stepOf
              go_simp
              refine (HHa.out w' hI.1 hI.2.1).mono ?_
              rintro e w2 ⟨rfl, hq⟩
              have hb5 := Quiet.below hq
              exact hK _ _ (But.of_below hb5) ⟨hI.1.below hb5, hI.2.1.below hb5, hI.2.2.below hb5⟩ rfl
            · intro f a w' hI hf hanc hdesc hle hs' hd K hK
              obtain ⟨_, tg, rfl⟩ := hd 14 114 (by kernel_rfl)
              have f7 : a.tmps[7]? = some (.pointer (some ⟨Bw, 0, none⟩)) := hs'.2.2 7 (by kernel_rfl)
              unfold Go.Rel.stepOf
              go_simp
              exact hK _ _ (But.refl _ _) (hI) rfl
            · intro f a w' hI hf hanc hdesc hle hs' hd K hK
              obtain ⟨_, tg, rfl⟩ := hd 14 114 (by kernel_rfl)
              obtain ⟨_, t17, rfl⟩ := hd 17 117 (by kernel_rfl)
              unfold Go.Rel.stepOf
              go_simp
              exact hK _ _ (But.refl _ _) (hI) rfl
            · intro f a w' hI hf hanc hdesc hle hs' hd K hK
              obtain ⟨_, tg, rfl⟩ := hd 14 114 (by kernel_rfl)
              obtain ⟨_, t18, rfl⟩ := hd 18 118 (by kernel_rfl)
              unfold Go.Rel.stepOf
              go_simp
              exact hK _ _ (But.refl _ _) (hI) rfl
            · intro f a w' hI hf hanc hdesc hle hs' hd K hK
              obtain ⟨_, tg, rfl⟩ := hd 14 114 (by kernel_rfl)
              obtain ⟨_, t19, rfl⟩ := hd 19 119 (by kernel_rfl)
              obtain ⟨⟨A9, c9, c3⟩, _⟩ := hI.2.2.cells
              rw [HL.out] at c3
              unfold Go.Rel.stepOf
              go_simp
              exact hK _ _ (But.refl _ _) hI ⟨_, _, rfl⟩
            · intro f a w' hI hf hanc hdesc hle hs' hd K hK
              obtain ⟨_, tg, rfl⟩ := hd 14 114 (by kernel_rfl)
              obtain ⟨_, t20, A20, c20, rfl⟩ := hd 20 120 (by kernel_rfl)
              unfold Go.Rel.stepOf
              go_simp
              exact hK _ _ (But.refl _ _) (hI) rfl
            · intro f a w' hI hf hanc hdesc hle hs' hd K hK
              obtain ⟨_, tg, rfl⟩ := hd 14 114 (by kernel_rfl)
              obtain ⟨_, t21, rfl⟩ := hd 21 121 (by kernel_rfl)
              have hwr : IntKind.i64.wrap ((L : Int) - 1) = (L : Int) - 1 := IntWalk.i64_in _ (by have := HL9.out; omega)
              unfold Go.Rel.stepOf
              go_simp
              exact hK _ _ (But.refl _ _) (hI) rfl
            · intro f a w' hI hf hanc hdesc hle hs' hd K hK
              obtain ⟨_, tg, rfl⟩ := hd 14 114 (by kernel_rfl)
              obtain ⟨_, t16, rfl⟩ := hd 16 116 (by kernel_rfl)
              obtain ⟨_, t22, rfl⟩ := hd 22 122 (by kernel_rfl)
              unfold Go.Rel.stepOf
              go_simp
              exact hK _ _ (But.refl _ _) (hI) rfl
            · intro f a w' hI hf hanc hdesc hle hs' hd K hK
              obtain ⟨_, t14, rfl⟩ := hd 14 114 (by kernel_rfl)
              obtain ⟨_, t23, rfl⟩ := hd 23 123 (by kernel_rfl)
              unfold Go.Rel.stepOf
              go_simp
              exact hK _ _ (But.refl _ _) (hI) rfl
            · intro f a w' hI hf hanc hdesc hle hs' hd K hK
              obtain ⟨_, t24, rfl⟩ := hd 24 124 (by kernel_rfl)
              unfold Go.Rel.stepOf
              go_simp
              exact hK _ _ (But.refl _ _) (hI) rfl
            · intro f a w' hI hf hanc hdesc hle hs' hd K hK
              obtain ⟨_, tg, rfl⟩ := hd 25 125 (by kernel_rfl)
              have f5 : a.tmps[5]? = some (.pointer (some ⟨B, 0, none⟩)) := hs'.2.2 5 (by kernel_rfl)
              unfold Go.Rel.stepOf
              go_simp
              exact hK _ _ (But.refl _ _) (hI) rfl
            · intro f a w' hI hf hanc hdesc hle hs' hd K hK
              obtain ⟨_, tg, rfl⟩ := hd 25 125 (by kernel_rfl)
              obtain ⟨_, t26, rfl⟩ := hd 26 126 (by kernel_rfl)
              unfold Go.Rel.stepOf
              go_simp
              refine (HDu.out w' hI.1 hI.2.1).mono ?_
              rintro e w2 ⟨rfl, hq⟩
              have hb5 := Quiet.below hq
              exact hK _ _ (But.of_below hb5) ⟨hI.1.below hb5, hI.2.1.below hb5, hI.2.2.below hb5⟩ rfl
            · intro f a w' hI hf hanc hdesc hle hs' hd K hK
              obtain ⟨_, tg, rfl⟩ := hd 25 125 (by kernel_rfl)
              have f7 : a.tmps[7]? = some (.pointer (some ⟨Bw, 0, none⟩)) := hs'.2.2 7 (by kernel_rfl)
              unfold Go.Rel.stepOf
              go_simp
              exact hK _ _ (But.refl _ _) (hI) rfl
            · intro f a w' hI hf hanc hdesc hle hs' hd K hK
              obtain ⟨_, tg, rfl⟩ := hd 25 125 (by kernel_rfl)
              obtain ⟨_, t28, rfl⟩ := hd 28 128 (by kernel_rfl)
              unfold Go.Rel.stepOf
              go_simp
              exact hK _ _ (But.refl _ _) (hI) rfl
            · intro f a w' hI hf hanc hdesc hle hs' hd K hK
              obtain ⟨_, tg, rfl⟩ := hd 25 125 (by kernel_rfl)
              obtain ⟨_, t29, rfl⟩ := hd 29 129 (by kernel_rfl)
              unfold Go.Rel.stepOf
              go_simp
              exact hK _ _ (But.refl _ _) (hI) rfl
            · intro f a w' hI hf hanc hdesc hle hs' hd K hK
              obtain ⟨_, tg, rfl⟩ := hd 25 125 (by kernel_rfl)
              obtain ⟨_, t30, rfl⟩ := hd 30 130 (by kernel_rfl)
              obtain ⟨_, c4⟩ := hI.2.2.cells
              rw [HG.out] at c4
              unfold Go.Rel.stepOf
              go_simp
              exact hK _ _ (But.refl _ _) (hI) rfl
            · intro f a w' hI hf hanc hdesc hle hs' hd K hK
              obtain ⟨_, tg, rfl⟩ := hd 25 125 (by kernel_rfl)
              have f7 : a.tmps[7]? = some (.pointer (some ⟨Bw, 0, none⟩)) := hs'.2.2 7 (by kernel_rfl)
              unfold Go.Rel.stepOf
              go_simp
              exact hK _ _ (But.refl _ _) (hI) rfl
            · intro f a w' hI hf hanc hdesc hle hs' hd K hK
              obtain ⟨_, tg, rfl⟩ := hd 25 125 (by kernel_rfl)
              obtain ⟨_, t32, rfl⟩ := hd 32 132 (by kernel_rfl)
              unfold Go.Rel.stepOf
              go_simp
              refine (HRw.out w' hI.2.2).mono ?_
              rintro e w2 ⟨rfl, hb5⟩
              exact hK _ _ (But.of_below hb5) ⟨hI.1.below hb5, hI.2.1.below hb5, hI.2.2.below hb5⟩ rfl
            · intro f a w' hI hf hanc hdesc hle hs' hd K hK
              obtain ⟨_, tg, rfl⟩ := hd 25 125 (by kernel_rfl)
              obtain ⟨_, t31, rfl⟩ := hd 31 131 (by kernel_rfl)
              obtain ⟨_, t33, rfl⟩ := hd 33 133 (by kernel_rfl)
              have hd9 := HDec.out
              unfold Go.Rel.stepOf
              go_simp
              exact hK _ _ (But.refl _ _) (hI) rfl
            · intro f a w' hI hf hanc hdesc hle hs' hd K hK
              obtain ⟨_, tg, rfl⟩ := hd 25 125 (by kernel_rfl)
              obtain ⟨_, t27, rfl⟩ := hd 27 127 (by kernel_rfl)
              obtain ⟨_, t34, rfl⟩ := hd 34 134 (by kernel_rfl)
              unfold Go.Rel.stepOf
              go_simp
              exact hK _ _ (But.refl _ _) (hI) rfl
            · intro f a w' hI hf hanc hdesc hle hs' hd K hK
              obtain ⟨_, t25, rfl⟩ := hd 25 125 (by kernel_rfl)
              obtain ⟨_, t35, rfl⟩ := hd 35 135 (by kernel_rfl)
              unfold Go.Rel.stepOf
              go_simp
              exact hK _ _ (But.refl _ _) (hI) rfl
          case heL10 =>
            intro f a w4 hall hI hle hs' hR'
            have HI4 := Lib.hid hI
            have HB4 : Hid (But S W3 w4) := Lib.hid (HB3'.out.trans hle)
            clear hI hall hle
            obtain ⟨v100, s100, _⟩ := hR' 0 100 (by kernel_rfl)
            obtain ⟨v101, s101, _⟩ := hR' 1 101 (by kernel_rfl)
            obtain ⟨v102, s102, _⟩ := hR' 2 102 (by kernel_rfl)
            obtain ⟨v103, s103, _⟩ := hR' 3 103 (by kernel_rfl)
            obtain ⟨v104, s104, _⟩ := hR' 4 104 (by kernel_rfl)
            obtain ⟨v105, s105, _⟩ := hR' 5 105 (by kernel_rfl)
            obtain ⟨v106, s106, _⟩ := hR' 6 106 (by kernel_rfl)
            obtain ⟨v107, s107, _⟩ := hR' 7 107 (by kernel_rfl)
            obtain ⟨v108, s108, _⟩ := hR' 8 108 (by kernel_rfl)
            obtain ⟨v109, s109, _⟩ := hR' 9 109 (by kernel_rfl)
            obtain ⟨v110, s110, _⟩ := hR' 10 110 (by kernel_rfl)
            obtain ⟨v111, s111, _⟩ := hR' 11 111 (by kernel_rfl)
            obtain ⟨v112, s112, _⟩ := hR' 12 112 (by kernel_rfl)
            obtain ⟨v113, s113, _⟩ := hR' 13 113 (by kernel_rfl)
            obtain ⟨v114, s114, _⟩ := hR' 14 114 (by kernel_rfl)
            obtain ⟨v115, s115, _⟩ := hR' 15 115 (by kernel_rfl)
            obtain ⟨v116, s116, _⟩ := hR' 16 116 (by kernel_rfl)
            obtain ⟨v117, s117, _⟩ := hR' 17 117 (by kernel_rfl)
            obtain ⟨v118, s118, _⟩ := hR' 18 118 (by kernel_rfl)
            obtain ⟨v119, s119, _⟩ := hR' 19 119 (by kernel_rfl)
            obtain ⟨v120, s120, _⟩ := hR' 20 120 (by kernel_rfl)
            obtain ⟨v121, s121, _⟩ := hR' 21 121 (by kernel_rfl)
            obtain ⟨v122, s122, _⟩ := hR' 22 122 (by kernel_rfl)
            obtain ⟨v123, s123, _⟩ := hR' 23 123 (by kernel_rfl)
            obtain ⟨v124, s124, _⟩ := hR' 24 124 (by kernel_rfl)
            obtain ⟨v125, s125, _⟩ := hR' 25 125 (by kernel_rfl)
            obtain ⟨v126, s126, _⟩ := hR' 26 126 (by kernel_rfl)
            obtain ⟨v127, s127, _⟩ := hR' 27 127 (by kernel_rfl)
            obtain ⟨v128, s128, _⟩ := hR' 28 128 (by kernel_rfl)
            obtain ⟨v129, s129, _⟩ := hR' 29 129 (by kernel_rfl)
            obtain ⟨v130, s130, _⟩ := hR' 30 130 (by kernel_rfl)
            obtain ⟨v131, s131, _⟩ := hR' 31 131 (by kernel_rfl)
            obtain ⟨v132, s132, _⟩ := hR' 32 132 (by kernel_rfl)
            obtain ⟨v133, s133, _⟩ := hR' 33 133 (by kernel_rfl)
            obtain ⟨v134, s134, _⟩ := hR' 34 134 (by kernel_rfl)
            obtain ⟨v135, s135, _⟩ := hR' 35 135 (by kernel_rfl)
            obtain ⟨_, s136, rfl⟩ := hR' 36 136 (by kernel_rfl)
            have e := hs'.shape
            simp only [List.toList_toArray, List.foldl, Go.Rel.reset, Array.getD_eq_getD_getElem?, s100, s101, s102, s103, s104, s105, s106, s107, s108, s109, s110, s111, s112, s113, s114, s115, s116, s117, s118, s119, s120, s121, s122, s123, s124, s125, s126, s127, s128, s129, s130, s131, s132, s133, s134, s135, s136, Option.getD_some] at e
            simp at e
            clear hR' hs' s100 s101 s102 s103 s104 s105 s106 s107 s108 s109 s110 s111 s112 s113 s114 s115 s116 s117 s118 s119 s120 s121 s122 s123 s124 s125 s126 s127 s128 s129 s130 s131 s132 s133 s134 s135 s136
            subst e
            go_wp2
            go_roundw
            case rel => exact ⟨k + 1, d', by omega, by omega, by go_num, HGo, HI4, HB4⟩
            case measure => simp [intOf]; omega
      · have z1 : (x.kind == 0) = false := by rw [beq_eq_false_iff_ne]; exact hkd
        obtain ⟨d', hd'⟩ : ∃ d', d.tick = d' := ⟨_, rfl⟩
        obtain ⟨c3, c4⟩ := hinv.out.2.2.cells
        have g4 := hinv.out.2.2.froz 4
        have hg1 := hgo.out
        have HGo : Hid (d'.gone ≤ k + 1) := Lib.hid (by rw [← hd']; show d.gone + 1 ≤ k + 1; omega)
        have hgb : ((d.gone : Nat) : Int) ≤ 100 := by omega
        have hbs : But (fun i => i = Bw) wr (wr.setCell ⟨Bw, 4, none⟩ (.int .i64 ((d.gone : Int) + 1))) := But.set (S := (· = Bw)) wr (p := ⟨Bw, 4, none⟩) rfl _
        have hrt := hinv.out.2.2.ticked
        rw [hd'] at hrt
        have HIa : Hid (ScIs (wr.setCell ⟨Bw, 4, none⟩ (.int .i64 ((d.gone : Int) + 1))) ∧ DbAt (wr.setCell ⟨Bw, 4, none⟩ (.int .i64 ((d.gone : Int) + 1))) B M d ∧ RdAt (wr.setCell ⟨Bw, 4, none⟩ (.int .i64 ((d.gone : Int) + 1))) g Bw d') := Lib.hid (by
          have := HLt.out
          exact ⟨hinv.out.1.but hbs (by omega), hinv.out.2.1.but hbs (by omega) (by omega), hrt⟩)
        have HBa : Hid (But S W3 (wr.setCell ⟨Bw, 4, none⟩ (.int .i64 ((d.gone : Int) + 1)))) := Lib.hid (hbut.out.trans (hbs.mono (fun i e => HT.out.2.2 i (by have := HgB.out; omega))))
        have HTi : Hid (∀ w', ScIs w' → DbAt w' B M d → Calls Tryd.prog 13 #[.pointer (some ⟨B, 0, none⟩)] w' fun e w2 => e = .returned (.bool d'.due) ∧ DbAt w2 B M d' ∧ But (fun i => i = B) w' w2) := Lib.hid (fun w' h1 h2 => by rw [← hd']; exact tick_any w' h1 h2 (by have := hgo.out; omega))
        obtain ⟨z, hz⟩ : ∃ z : Int, (d.gone : Int) = z := ⟨_, rfl⟩
        rw [hz] at c4 HIa HBa hgb
        have hz0 : 0 ≤ z := by omega
        obtain ⟨G, hG⟩ : ∃ G, d'.gone = G := ⟨_, rfl⟩
        obtain ⟨n, hn⟩ : ∃ n, d'.wait = n := ⟨_, rfl⟩
        obtain ⟨t, ht⟩ : ∃ t, d'.due = t := ⟨_, rfl⟩
        rw [ht] at HTi
        have HDec : Hid (decide (n ≤ (G : Int)) = t) := Lib.hid (by rw [← ht, ← hn, ← hG]; rfl)
        have HRw : Hid (∀ w', RdAt w' g Bw d' → Calls Tryd.prog 14 #[.pointer (some ⟨Bw, 0, none⟩)] w' fun e w2 => e = .returned (.int .i64 n) ∧ Below w'.heap.size w' w2) := Lib.hid (fun w' h => by rw [← hn]; exact rdwait_any w' h)
        have HG := Lib.hid hG
        clear hd' hg1 hbs hrt hz hG hn ht hkd c3
        go_wp2
        obtain ⟨wt, hwt⟩ : ∃ wt, wr.setCell ⟨Bw, 4, none⟩ (.int .i64 (z + 1)) = wt := ⟨_, rfl⟩
        rw [hwt] at HIa HBa
        rw [hwt]
        clear hwt s0 s1 c4 g4
        refine Go.Rel.wp_region_states (by kernel_rfl) (by kernel_rfl) (by kernel_rfl) (by kernel_rfl) (fun f w => ScIs w ∧ DbAt w B M (bif f 1 then d' else d) ∧ RdAt w g Bw d') (But S) (fun _ _ _ h k => h.trans k) ((But.refl _ _).drew) (inv_drew HIa.out) (plTi S B Bw G n t) (plTi_stable S B Bw G n t) ?hsT ?heT
        case hsT =>
          refine (.cons ?_ (.cons ?_ (.cons ?_ (.cons ?_ (.cons ?_ (.cons ?_ (.cons ?_ (.cons ?_ (.cons ?_ (.cons ?_ .nil))))))))))
          · intro f a w' hI hf hanc hdesc hle hs' hd K hK
            have f5 : a.tmps[5]? = some (.pointer (some ⟨B, 0, none⟩)) := hs'.2.2 5 (by kernel_rfl)
            unfold Go.Rel.stepOf
            go_simp
            exact hK _ _ (But.refl _ _) (hI) rfl
          · intro f a w' hI hf hanc hdesc hle hs' hd K hK
            obtain ⟨_, t0, rfl⟩ := hd 0 90 (by kernel_rfl)
            have hst := hI.2.1
            rw [hf] at hst
            unfold Go.Rel.stepOf
            go_simp
            refine (HTi.out w' hI.1 hst).mono ?_
            rintro e w2 ⟨rfl, hr5, hb5⟩
            exact hK _ _ (hb5.mono HT.out.1) ⟨hI.1.but hb5 HSc.out.2.1, hr5, hI.2.2.but hb5 HNe.out.2.2.1 (HNe.out.2.2.2 w')⟩ rfl
          · intro f a w' hI hf hanc hdesc hle hs' hd K hK
            have f7 : a.tmps[7]? = some (.pointer (some ⟨Bw, 0, none⟩)) := hs'.2.2 7 (by kernel_rfl)
            unfold Go.Rel.stepOf
            go_simp
            exact hK _ _ (But.refl _ _) (hI) rfl
          · intro f a w' hI hf hanc hdesc hle hs' hd K hK
            obtain ⟨_, t2, rfl⟩ := hd 2 92 (by kernel_rfl)
            unfold Go.Rel.stepOf
            go_simp
            exact hK _ _ (But.refl _ _) (hI) rfl
          · intro f a w' hI hf hanc hdesc hle hs' hd K hK
            obtain ⟨_, t3, rfl⟩ := hd 3 93 (by kernel_rfl)
            unfold Go.Rel.stepOf
            go_simp
            exact hK _ _ (But.refl _ _) (hI) rfl
          · intro f a w' hI hf hanc hdesc hle hs' hd K hK
            obtain ⟨_, t4, rfl⟩ := hd 4 94 (by kernel_rfl)
            obtain ⟨_, c4⟩ := hI.2.2.cells
            rw [HG.out] at c4
            unfold Go.Rel.stepOf
            go_simp
            exact hK _ _ (But.refl _ _) (hI) rfl
          · intro f a w' hI hf hanc hdesc hle hs' hd K hK
            have f7 : a.tmps[7]? = some (.pointer (some ⟨Bw, 0, none⟩)) := hs'.2.2 7 (by kernel_rfl)
            unfold Go.Rel.stepOf
            go_simp
            exact hK _ _ (But.refl _ _) (hI) rfl
          · intro f a w' hI hf hanc hdesc hle hs' hd K hK
            obtain ⟨_, t6, rfl⟩ := hd 6 96 (by kernel_rfl)
            unfold Go.Rel.stepOf
            go_simp
            refine (HRw.out w' hI.2.2).mono ?_
            rintro e w2 ⟨rfl, hb5⟩
            exact hK _ _ (But.of_below hb5) ⟨hI.1.below hb5, hI.2.1.below hb5, hI.2.2.below hb5⟩ rfl
          · intro f a w' hI hf hanc hdesc hle hs' hd K hK
            obtain ⟨_, t5, rfl⟩ := hd 5 95 (by kernel_rfl)
            obtain ⟨_, t7, rfl⟩ := hd 7 97 (by kernel_rfl)
            have hd9 := HDec.out
            unfold Go.Rel.stepOf
            go_simp
            exact hK _ _ (But.refl _ _) (hI) rfl
          · intro f a w' hI hf hanc hdesc hle hs' hd K hK
            obtain ⟨_, t1, rfl⟩ := hd 1 91 (by kernel_rfl)
            obtain ⟨_, t8, rfl⟩ := hd 8 98 (by kernel_rfl)
            unfold Go.Rel.stepOf
            go_simp
            exact hK _ _ (But.refl _ _) (hI) rfl
        case heT =>
          intro f a w3 hall hI hle hs' hR'
          have hf1 := hall 1 (by decide)
          have HI3 : Hid (ScIs w3 ∧ DbAt w3 B M d' ∧ RdAt w3 g Bw d') := Lib.hid (by
            have h := hI
            simp only [hf1, cond_true] at h
            exact h)
          have HB3' : Hid (But S W3 w3) := Lib.hid (HBa.out.trans hle)
          clear hI hall hf1 hle
          clear HDec HRw HG
          obtain ⟨v90, s90, _⟩ := hR' 0 90 (by kernel_rfl)
          obtain ⟨v91, s91, _⟩ := hR' 1 91 (by kernel_rfl)
          obtain ⟨v92, s92, _⟩ := hR' 2 92 (by kernel_rfl)
          obtain ⟨v93, s93, _⟩ := hR' 3 93 (by kernel_rfl)
          obtain ⟨v94, s94, _⟩ := hR' 4 94 (by kernel_rfl)
          obtain ⟨v95, s95, _⟩ := hR' 5 95 (by kernel_rfl)
          obtain ⟨v96, s96, _⟩ := hR' 6 96 (by kernel_rfl)
          obtain ⟨v97, s97, _⟩ := hR' 7 97 (by kernel_rfl)
          obtain ⟨v98, s98, _⟩ := hR' 8 98 (by kernel_rfl)
          obtain ⟨_, s99, rfl⟩ := hR' 9 99 (by kernel_rfl)
          have e := hs'.shape
          simp only [List.toList_toArray, List.foldl, Go.Rel.reset, Array.getD_eq_getD_getElem?, s90, s91, s92, s93, s94, s95, s96, s97, s98, s99, Option.getD_some] at e
          simp at e
          clear hR' hs' s90 s91 s92 s93 s94 s95 s96 s97 s98 s99
          subst e
          obtain ⟨G, hG⟩ : ∃ G, d'.gone = G := ⟨_, rfl⟩
          obtain ⟨L, hL⟩ : ∃ L, d'.from_.length = L := ⟨_, rfl⟩
          obtain ⟨n, hn⟩ : ∃ n, d'.wait = n := ⟨_, rfl⟩
          obtain ⟨t, ht⟩ : ∃ t, d'.due = t := ⟨_, rfl⟩
          have HDec : Hid (decide (n ≤ (G : Int)) = t) := Lib.hid (by rw [← ht, ← hn, ← hG]; rfl)
          have HL9 : Hid (L ≤ 9) := Lib.hid (by rw [← hL]; exact Db.few9 HI3.out.2.1.ok)
          have HWa : Hid (∀ w', ScIs w' → DbAt w' B M d' → Calls Tryd.prog 15 #[.pointer (some ⟨B, 0, none⟩)] w' (Quiet w' (.int .i64 n))) := Lib.hid (fun w' h1 h2 => by rw [← hn]; exact dwait_any w' h1 h2)
          have HEl : Hid (∀ w', ScIs w' → DbAt w' B M d' → Calls Tryd.prog 16 #[.pointer (some ⟨B, 0, none⟩)] w' (Quiet w' (.int .i64 (G : Int)))) := Lib.hid (fun w' h1 h2 => by rw [← hG]; exact elapsed_any w' h2)
          have HHa : Hid (∀ w', ScIs w' → DbAt w' B M d' → Calls Tryd.prog 17 #[.pointer (some ⟨B, 0, none⟩)] w' (Quiet w' (.int .i64 ((L : Int) - 1)))) := Lib.hid (fun w' h1 h2 => by rw [← hL]; exact have_any w' h2)
          have HDu : Hid (∀ w', ScIs w' → DbAt w' B M d' → Calls Tryd.prog 18 #[.pointer (some ⟨B, 0, none⟩)] w' (Quiet w' (.bool t))) := Lib.hid (fun w' h1 h2 => by rw [← ht]; exact due_any w' h1 h2)
          have HRw : Hid (∀ w', RdAt w' g Bw d' → Calls Tryd.prog 14 #[.pointer (some ⟨Bw, 0, none⟩)] w' fun e w2 => e = .returned (.int .i64 n) ∧ Below w'.heap.size w' w2) := Lib.hid (fun w' h => by rw [← hn]; exact rdwait_any w' h)
          have HG := Lib.hid hG
          have HL := Lib.hid hL
          clear hG hL hn ht
          go_wp2
          refine Go.Rel.wp_region_states (by kernel_rfl) (by kernel_rfl) (by kernel_rfl) (by kernel_rfl) (fun _ w => ScIs w ∧ DbAt w B M d' ∧ RdAt w g Bw d') (But S) (fun _ _ _ h k => h.trans k) ((But.refl _ _).drew) (inv_drew HI3.out) (plLo S B Bw G L n t) (plLo_stable S B Bw G L n t) ?hsL10 ?heL10
          case hsL10 =>
            refine (.cons ?_ (.cons ?_ (.cons ?_ (.cons ?_ (.cons ?_ (.cons ?_ (.cons ?_ (.cons ?_ (.cons ?_ (.cons ?_ (.cons ?_ (.cons ?_ (.cons ?_ (.cons ?_ (.cons ?_ (.cons ?_ (.cons ?_ (.cons ?_ (.cons ?_ (.cons ?_ (.cons ?_ (.cons ?_ (.cons ?_ (.cons ?_ (.cons ?_ (.cons ?_ (.cons ?_ (.cons ?_ (.cons ?_ (.cons ?_ (.cons ?_ (.cons ?_ (.cons ?_ (.cons ?_ (.cons ?_ (.cons ?_ (.cons ?_ .nil)))))))))))))))))))))))))))))))))))))
            · intro f a w' hI hf hanc hdesc hle hs' hd K hK
              have f5 : a.tmps[5]? = some (.pointer (some ⟨B, 0, none⟩)) := hs'.2.2 5 (by kernel_rfl)
              unfold Go.Rel.stepOf
              go_simp
              exact hK _ _ (But.refl _ _) (hI) rfl
            · intro f a w' hI hf hanc hdesc hle hs' hd K hK
              obtain ⟨_, t0, rfl⟩ := hd 0 100 (by kernel_rfl)
              unfold Go.Rel.stepOf
              go_simp
              refine (HWa.out w' hI.1 hI.2.1).mono ?_
              rintro e w2 ⟨rfl, hq⟩
              have hb5 := Quiet.below hq
              exact hK _ _ (But.of_below hb5) ⟨hI.1.below hb5, hI.2.1.below hb5, hI.2.2.below hb5⟩ rfl
            · intro f a w' hI hf hanc hdesc hle hs' hd K hK
              have f7 : a.tmps[7]? = some (.pointer (some ⟨Bw, 0, none⟩)) := hs'.2.2 7 (by kernel_rfl)
              unfold Go.Rel.stepOf
              go_simp
              exact hK _ _ (But.refl _ _) (hI) rfl
            · intro f a w' hI hf hanc hdesc hle hs' hd K hK
              obtain ⟨_, t2, rfl⟩ := hd 2 102 (by kernel_rfl)
              unfold Go.Rel.stepOf
              go_simp
              refine (HRw.out w' hI.2.2).mono ?_
              rintro e w2 ⟨rfl, hb5⟩
              exact hK _ _ (But.of_below hb5) ⟨hI.1.below hb5, hI.2.1.below hb5, hI.2.2.below hb5⟩ rfl
            · intro f a w' hI hf hanc hdesc hle hs' hd K hK
              obtain ⟨_, t1, rfl⟩ := hd 1 101 (by kernel_rfl)
              obtain ⟨_, t3, rfl⟩ := hd 3 103 (by kernel_rfl)
              unfold Go.Rel.stepOf
              go_simp
              exact hK _ _ (But.refl _ _) (hI) rfl
            · intro f a w' hI hf hanc hdesc hle hs' hd K hK
              obtain ⟨_, t4, rfl⟩ := hd 4 104 (by kernel_rfl)
              unfold Go.Rel.stepOf
              go_simp
              exact hK _ _ (But.refl _ _) (hI) rfl
            · intro f a w' hI hf hanc hdesc hle hs' hd K hK
              obtain ⟨_, tg, rfl⟩ := hd 5 105 (by kernel_rfl)
              have f5 : a.tmps[5]? = some (.pointer (some ⟨B, 0, none⟩)) := hs'.2.2 5 (by kernel_rfl)
              unfold Go.Rel.stepOf
              go_simp
              exact hK _ _ (But.refl _ _) (hI) rfl
            · intro f a w' hI hf hanc hdesc hle hs' hd K hK
              obtain ⟨_, tg, rfl⟩ := hd 5 105 (by kernel_rfl)
              obtain ⟨_, t6, rfl⟩ := hd 6 106 (by kernel_rfl)
              unfold Go.Rel.stepOf
              go_simp
              refine (HEl.out w' hI.1 hI.2.1).mono ?_
              rintro e w2 ⟨rfl, hq⟩
              have hb5 := Quiet.below hq
              exact hK _ _ (But.of_below hb5) ⟨hI.1.below hb5, hI.2.1.below hb5, hI.2.2.below hb5⟩ rfl
            · intro f a w' hI hf hanc hdesc hle hs' hd K hK
              obtain ⟨_, tg, rfl⟩ := hd 5 105 (by kernel_rfl)
              have f7 : a.tmps[7]? = some (.pointer (some ⟨Bw, 0, none⟩)) := hs'.2.2 7 (by kernel_rfl)
              unfold Go.Rel.stepOf
              go_simp
              exact hK _ _ (But.refl _ _) (hI) rfl
            · intro f a w' hI hf hanc hdesc hle hs' hd K hK
              obtain ⟨_, tg, rfl⟩ := hd 5 105 (by kernel_rfl)
              obtain ⟨_, t8, rfl⟩ := hd 8 108 (by kernel_rfl)
              unfold Go.Rel.stepOf
              go_simp
              exact hK _ _ (But.refl _ _) (hI) rfl
            · intro f a w' hI hf hanc hdesc hle hs' hd K hK
              obtain ⟨_, tg, rfl⟩ := hd 5 105 (by kernel_rfl)
              obtain ⟨_, t9, rfl⟩ := hd 9 109 (by kernel_rfl)
              unfold Go.Rel.stepOf
              go_simp
              exact hK _ _ (But.refl _ _) (hI) rfl
            · intro f a w' hI hf hanc hdesc hle hs' hd K hK
              obtain ⟨_, tg, rfl⟩ := hd 5 105 (by kernel_rfl)
              obtain ⟨_, t10, rfl⟩ := hd 10 110 (by kernel_rfl)
              obtain ⟨_, c4⟩ := hI.2.2.cells
              rw [HG.out] at c4
              unfold Go.Rel.stepOf
              go_simp
              exact hK _ _ (But.refl _ _) (hI) rfl
            · intro f a w' hI hf hanc hdesc hle hs' hd K hK
              obtain ⟨_, tg, rfl⟩ := hd 5 105 (by kernel_rfl)
              obtain ⟨_, t7, rfl⟩ := hd 7 107 (by kernel_rfl)
              obtain ⟨_, t11, rfl⟩ := hd 11 111 (by kernel_rfl)
              unfold Go.Rel.stepOf
              go_simp
              exact hK _ _ (But.refl _ _) (hI) rfl
            · intro f a w' hI hf hanc hdesc hle hs' hd K hK
              obtain ⟨_, t5, rfl⟩ := hd 5 105 (by kernel_rfl)
              obtain ⟨_, t12, rfl⟩ := hd 12 112 (by kernel_rfl)
              unfold Go.Rel.stepOf
              go_simp
              exact hK _ _ (But.refl _ _) (hI) rfl
            · intro f a w' hI hf hanc hdesc hle hs' hd K hK
              obtain ⟨_, t13, rfl⟩ := hd 13 113 (by kernel_rfl)
              unfold Go.Rel.stepOf
              go_simp
              exact hK _ _ (But.refl _ _) (hI) rfl
            · intro f a w' hI hf hanc hdesc hle hs' hd K hK
              obtain ⟨_, tg, rfl⟩ := hd 14 114 (by kernel_rfl)
              have f5 : a.tmps[5]? = some (.pointer (some ⟨B, 0, none⟩)) := hs'.2.2 5 (by kernel_rfl)
              unfold Go.Rel.stepOf
              go_simp
              exact hK _ _ (But.refl _ _) (hI) rfl
            · intro f a w' hI hf hanc hdesc hle hs' hd K hK
              obtain ⟨_, tg, rfl⟩ := hd 14 114 (by kernel_rfl)
              obtain ⟨_, t15, rfl⟩ := hd 15 115 (by kernel_rfl)
              unfold Go.Rel.stepOf
              go_simp
              refine (HHa.out w' hI.1 hI.2.1).mono ?_
              rintro e w2 ⟨rfl, hq⟩
              have hb5 := Quiet.below hq
              exact hK _ _ (But.of_below hb5) ⟨hI.1.below hb5, hI.2.1.below hb5, hI.2.2.below hb5⟩ rfl
            · intro f a w' hI hf hanc hdesc hle hs' hd K hK
              obtain ⟨_, tg, rfl⟩ := hd 14 114 (by kernel_rfl)
              have f7 : a.tmps[7]? = some (.pointer (some ⟨Bw, 0, none⟩)) := hs'.2.2 7 (by kernel_rfl)
              unfold Go.Rel.stepOf
              go_simp
              exact hK _ _ (But.refl _ _) (hI) rfl
            · intro f a w' hI hf hanc hdesc hle hs' hd K hK
              obtain ⟨_, tg, rfl⟩ := hd 14 114 (by kernel_rfl)
              obtain ⟨_, t17, rfl⟩ := hd 17 117 (by kernel_rfl)
              unfold Go.Rel.stepOf
              go_simp
              exact hK _ _ (But.refl _ _) (hI) rfl
            · intro f a w' hI hf hanc hdesc hle hs' hd K hK
              obtain ⟨_, tg, rfl⟩ := hd 14 114 (by kernel_rfl)
              obtain ⟨_, t18, rfl⟩ := hd 18 118 (by kernel_rfl)
              unfold Go.Rel.stepOf
              go_simp
              exact hK _ _ (But.refl _ _) (hI) rfl
            · intro f a w' hI hf hanc hdesc hle hs' hd K hK
              obtain ⟨_, tg, rfl⟩ := hd 14 114 (by kernel_rfl)
              obtain ⟨_, t19, rfl⟩ := hd 19 119 (by kernel_rfl)
              obtain ⟨⟨A9, c9, c3⟩, _⟩ := hI.2.2.cells
              rw [HL.out] at c3
              unfold Go.Rel.stepOf
              go_simp
              exact hK _ _ (But.refl _ _) hI ⟨_, _, rfl⟩
            · intro f a w' hI hf hanc hdesc hle hs' hd K hK
              obtain ⟨_, tg, rfl⟩ := hd 14 114 (by kernel_rfl)
              obtain ⟨_, t20, A20, c20, rfl⟩ := hd 20 120 (by kernel_rfl)
              unfold Go.Rel.stepOf
              go_simp
              exact hK _ _ (But.refl _ _) (hI) rfl
            · intro f a w' hI hf hanc hdesc hle hs' hd K hK
              obtain ⟨_, tg, rfl⟩ := hd 14 114 (by kernel_rfl)
              obtain ⟨_, t21, rfl⟩ := hd 21 121 (by kernel_rfl)
              have hwr : IntKind.i64.wrap ((L : Int) - 1) = (L : Int) - 1 := IntWalk.i64_in _ (by have := HL9.out; omega)
              unfold Go.Rel.stepOf
              go_simp
              exact hK _ _ (But.refl _ _) (hI) rfl
            · intro f a w' hI hf hanc hdesc hle hs' hd K hK
              obtain ⟨_, tg, rfl⟩ := hd 14 114 (by kernel_rfl)
              obtain ⟨_, t16, rfl⟩ := hd 16 116 (by kernel_rfl)
              obtain ⟨_, t22, rfl⟩ := hd 22 122 (by kernel_rfl)
              unfold Go.Rel.stepOf
              go_simp
              exact hK _ _ (But.refl _ _) (hI) rfl
            · intro f a w' hI hf hanc hdesc hle hs' hd K hK
              obtain ⟨_, t14, rfl⟩ := hd 14 114 (by kernel_rfl)
              obtain ⟨_, t23, rfl⟩ := hd 23 123 (by kernel_rfl)
              unfold Go.Rel.stepOf
              go_simp
              exact hK _ _ (But.refl _ _) (hI) rfl
            · intro f a w' hI hf hanc hdesc hle hs' hd K hK
              obtain ⟨_, t24, rfl⟩ := hd 24 124 (by kernel_rfl)
              unfold Go.Rel.stepOf
              go_simp
              exact hK _ _ (But.refl _ _) (hI) rfl
            · intro f a w' hI hf hanc hdesc hle hs' hd K hK
              obtain ⟨_, tg, rfl⟩ := hd 25 125 (by kernel_rfl)
              have f5 : a.tmps[5]? = some (.pointer (some ⟨B, 0, none⟩)) := hs'.2.2 5 (by kernel_rfl)
              unfold Go.Rel.stepOf
              go_simp
              exact hK _ _ (But.refl _ _) (hI) rfl
            · intro f a w' hI hf hanc hdesc hle hs' hd K hK
              obtain ⟨_, tg, rfl⟩ := hd 25 125 (by kernel_rfl)
              obtain ⟨_, t26, rfl⟩ := hd 26 126 (by kernel_rfl)
              unfold Go.Rel.stepOf
              go_simp
              refine (HDu.out w' hI.1 hI.2.1).mono ?_
              rintro e w2 ⟨rfl, hq⟩
              have hb5 := Quiet.below hq
              exact hK _ _ (But.of_below hb5) ⟨hI.1.below hb5, hI.2.1.below hb5, hI.2.2.below hb5⟩ rfl
            · intro f a w' hI hf hanc hdesc hle hs' hd K hK
              obtain ⟨_, tg, rfl⟩ := hd 25 125 (by kernel_rfl)
              have f7 : a.tmps[7]? = some (.pointer (some ⟨Bw, 0, none⟩)) := hs'.2.2 7 (by kernel_rfl)
              unfold Go.Rel.stepOf
              go_simp
              exact hK _ _ (But.refl _ _) (hI) rfl
            · intro f a w' hI hf hanc hdesc hle hs' hd K hK
              obtain ⟨_, tg, rfl⟩ := hd 25 125 (by kernel_rfl)
              obtain ⟨_, t28, rfl⟩ := hd 28 128 (by kernel_rfl)
              unfold Go.Rel.stepOf
              go_simp
              exact hK _ _ (But.refl _ _) (hI) rfl
            · intro f a w' hI hf hanc hdesc hle hs' hd K hK
              obtain ⟨_, tg, rfl⟩ := hd 25 125 (by kernel_rfl)
              obtain ⟨_, t29, rfl⟩ := hd 29 129 (by kernel_rfl)
              unfold Go.Rel.stepOf
              go_simp
              exact hK _ _ (But.refl _ _) (hI) rfl
            · intro f a w' hI hf hanc hdesc hle hs' hd K hK
              obtain ⟨_, tg, rfl⟩ := hd 25 125 (by kernel_rfl)
              obtain ⟨_, t30, rfl⟩ := hd 30 130 (by kernel_rfl)
              obtain ⟨_, c4⟩ := hI.2.2.cells
              rw [HG.out] at c4
              unfold Go.Rel.stepOf
              go_simp
              exact hK _ _ (But.refl _ _) (hI) rfl
            · intro f a w' hI hf hanc hdesc hle hs' hd K hK
              obtain ⟨_, tg, rfl⟩ := hd 25 125 (by kernel_rfl)
              have f7 : a.tmps[7]? = some (.pointer (some ⟨Bw, 0, none⟩)) := hs'.2.2 7 (by kernel_rfl)
              unfold Go.Rel.stepOf
              go_simp
              exact hK _ _ (But.refl _ _) (hI) rfl
            · intro f a w' hI hf hanc hdesc hle hs' hd K hK
              obtain ⟨_, tg, rfl⟩ := hd 25 125 (by kernel_rfl)
              obtain ⟨_, t32, rfl⟩ := hd 32 132 (by kernel_rfl)
              unfold Go.Rel.stepOf
              go_simp
              refine (HRw.out w' hI.2.2).mono ?_
              rintro e w2 ⟨rfl, hb5⟩
              exact hK _ _ (But.of_below hb5) ⟨hI.1.below hb5, hI.2.1.below hb5, hI.2.2.below hb5⟩ rfl
            · intro f a w' hI hf hanc hdesc hle hs' hd K hK
              obtain ⟨_, tg, rfl⟩ := hd 25 125 (by kernel_rfl)
              obtain ⟨_, t31, rfl⟩ := hd 31 131 (by kernel_rfl)
              obtain ⟨_, t33, rfl⟩ := hd 33 133 (by kernel_rfl)
              have hd9 := HDec.out
              unfold Go.Rel.stepOf
              go_simp
              exact hK _ _ (But.refl _ _) (hI) rfl
            · intro f a w' hI hf hanc hdesc hle hs' hd K hK
              obtain ⟨_, tg, rfl⟩ := hd 25 125 (by kernel_rfl)
              obtain ⟨_, t27, rfl⟩ := hd 27 127 (by kernel_rfl)
              obtain ⟨_, t34, rfl⟩ := hd 34 134 (by kernel_rfl)
              unfold Go.Rel.stepOf
              go_simp
              exact hK _ _ (But.refl _ _) (hI) rfl
            · intro f a w' hI hf hanc hdesc hle hs' hd K hK
              obtain ⟨_, t25, rfl⟩ := hd 25 125 (by kernel_rfl)
              obtain ⟨_, t35, rfl⟩ := hd 35 135 (by kernel_rfl)
              unfold Go.Rel.stepOf
              go_simp
              exact hK _ _ (But.refl _ _) (hI) rfl
          case heL10 =>
            intro f a w4 hall hI hle hs' hR'
            have HI4 := Lib.hid hI
            have HB4 : Hid (But S W3 w4) := Lib.hid (HB3'.out.trans hle)
            clear hI hall hle
            obtain ⟨v100, s100, _⟩ := hR' 0 100 (by kernel_rfl)
            obtain ⟨v101, s101, _⟩ := hR' 1 101 (by kernel_rfl)
            obtain ⟨v102, s102, _⟩ := hR' 2 102 (by kernel_rfl)
            obtain ⟨v103, s103, _⟩ := hR' 3 103 (by kernel_rfl)
            obtain ⟨v104, s104, _⟩ := hR' 4 104 (by kernel_rfl)
            obtain ⟨v105, s105, _⟩ := hR' 5 105 (by kernel_rfl)
            obtain ⟨v106, s106, _⟩ := hR' 6 106 (by kernel_rfl)
            obtain ⟨v107, s107, _⟩ := hR' 7 107 (by kernel_rfl)
            obtain ⟨v108, s108, _⟩ := hR' 8 108 (by kernel_rfl)
            obtain ⟨v109, s109, _⟩ := hR' 9 109 (by kernel_rfl)
            obtain ⟨v110, s110, _⟩ := hR' 10 110 (by kernel_rfl)
            obtain ⟨v111, s111, _⟩ := hR' 11 111 (by kernel_rfl)
            obtain ⟨v112, s112, _⟩ := hR' 12 112 (by kernel_rfl)
            obtain ⟨v113, s113, _⟩ := hR' 13 113 (by kernel_rfl)
            obtain ⟨v114, s114, _⟩ := hR' 14 114 (by kernel_rfl)
            obtain ⟨v115, s115, _⟩ := hR' 15 115 (by kernel_rfl)
            obtain ⟨v116, s116, _⟩ := hR' 16 116 (by kernel_rfl)
            obtain ⟨v117, s117, _⟩ := hR' 17 117 (by kernel_rfl)
            obtain ⟨v118, s118, _⟩ := hR' 18 118 (by kernel_rfl)
            obtain ⟨v119, s119, _⟩ := hR' 19 119 (by kernel_rfl)
            obtain ⟨v120, s120, _⟩ := hR' 20 120 (by kernel_rfl)
            obtain ⟨v121, s121, _⟩ := hR' 21 121 (by kernel_rfl)
            obtain ⟨v122, s122, _⟩ := hR' 22 122 (by kernel_rfl)
            obtain ⟨v123, s123, _⟩ := hR' 23 123 (by kernel_rfl)
            obtain ⟨v124, s124, _⟩ := hR' 24 124 (by kernel_rfl)
            obtain ⟨v125, s125, _⟩ := hR' 25 125 (by kernel_rfl)
            obtain ⟨v126, s126, _⟩ := hR' 26 126 (by kernel_rfl)
            obtain ⟨v127, s127, _⟩ := hR' 27 127 (by kernel_rfl)
            obtain ⟨v128, s128, _⟩ := hR' 28 128 (by kernel_rfl)
            obtain ⟨v129, s129, _⟩ := hR' 29 129 (by kernel_rfl)
            obtain ⟨v130, s130, _⟩ := hR' 30 130 (by kernel_rfl)
            obtain ⟨v131, s131, _⟩ := hR' 31 131 (by kernel_rfl)
            obtain ⟨v132, s132, _⟩ := hR' 32 132 (by kernel_rfl)
            obtain ⟨v133, s133, _⟩ := hR' 33 133 (by kernel_rfl)
            obtain ⟨v134, s134, _⟩ := hR' 34 134 (by kernel_rfl)
            obtain ⟨v135, s135, _⟩ := hR' 35 135 (by kernel_rfl)
            obtain ⟨_, s136, rfl⟩ := hR' 36 136 (by kernel_rfl)
            have e := hs'.shape
            simp only [List.toList_toArray, List.foldl, Go.Rel.reset, Array.getD_eq_getD_getElem?, s100, s101, s102, s103, s104, s105, s106, s107, s108, s109, s110, s111, s112, s113, s114, s115, s116, s117, s118, s119, s120, s121, s122, s123, s124, s125, s126, s127, s128, s129, s130, s131, s132, s133, s134, s135, s136, Option.getD_some] at e
            simp at e
            clear hR' hs' s100 s101 s102 s103 s104 s105 s106 s107 s108 s109 s110 s111 s112 s113 s114 s115 s116 s117 s118 s119 s120 s121 s122 s123 s124 s125 s126 s127 s128 s129 s130 s131 s132 s133 s134 s135 s136
            subst e
            go_wp2
            go_roundw
            case rel => exact ⟨k + 1, d', by omega, by omega, by go_num, HGo, HI4, HB4⟩
            case measure => simp [intOf]; omega
    · have hge : ¬ ((k : Int) < (n1 : Int)) ∨ ((k : Int) < (n1 : Int) ∧ ¬ ((k : Int) < 100)) := by omega
      have HBF : Hid (Below w.heap.size w wr) := Lib.hid (HB3.out.trans (hbut.out.below HB3.out.size HSold.out))
      obtain ⟨n, hn⟩ : ∃ n, d.wait = n := ⟨_, rfl⟩
      have hwa := dwait_any wr hinv.out.1 hinv.out.2.1
      rw [hn] at hwa
      have HWa := Lib.hid hwa
      have HRw : Hid (∀ w', RdAt w' g Bw d → Calls Tryd.prog 14 #[.pointer (some ⟨Bw, 0, none⟩)] w' fun e w2 => e = .returned (.int .i64 n) ∧ Below w'.heap.size w' w2) := Lib.hid (fun w' h => by rw [← hn]; exact rdwait_any w' h)
      clear hlt hn hwa
      rcases hge with q1 | ⟨q1, q2⟩
      all_goals
        go_wp2_with fail
        refine HWa.out.mono ?_
        rintro e w4 ⟨rfl, hq⟩
        have HB4 := Lib.hid (Quiet.below hq)
        have HR4 := Lib.hid (HRw.out w4 (hinv.out.2.2.below HB4.out))
        clear hq
        go_wp2_with fail
        refine HR4.out.mono ?_
        rintro e w5 ⟨rfl, hb5⟩
        have HB5 := Lib.hid hb5
        have HK5 := Lib.hid (HWk.out w5 ((hinv.out.1.below HB4.out).below hb5))
        clear hb5
        go_wp2_with fail
        refine HK5.out.mono ?_
        rintro e w6 ⟨rfl, hq⟩
        have HB6 := Lib.hid (Quiet.below hq)
        clear hq
        go_wp2
        go_ret
        have h1 := HBF.out.size
        have h2 := HB4.out.size
        have h3 := HB5.out.size
        exact ⟨rfl, ((HBF.out.trans (HB4.out.mono h1)).trans (HB5.out.mono (by omega))).trans (HB6.out.mono (by omega))⟩
theorem plays_walk (p : Pln) (hpf : wfI p.from_) (A1 : Option Addr) (n1 c1 : Nat) (ss : List St) (w : World) (hs : ScIs w) (hS : SK stC 2 w A1 n1 ss) (hwf : ∀ x ∈ ss, wfI x.from_) (hn1 : n1 ≤ maxLen) :
    Calls Tryd.prog 4 #[.agg #[.int .i64 p.least, .int .i64 p.most, .int .i64 p.want, .int .i64 p.from_], .slice A1 n1 c1] w fun e w' => e = .returned (.bool true) ∧ Below w.heap.size w w' := by
  cases h : waitOk p.least p.most p.want with
  | false => exact plays_no p A1 n1 c1 w hs h
  | true => exact plays_yes p hpf A1 n1 c1 ss w hs hS hwf hn1 h
end Go.Proofs.YtnmcomciocffpaaDoor
