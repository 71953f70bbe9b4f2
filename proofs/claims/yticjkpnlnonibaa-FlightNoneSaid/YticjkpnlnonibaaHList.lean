/-
  works and list of the law, walked (layer 7).
-/
import Derived.Test.YticjkpnlnonibaaHPair
namespace Go.Proofs.Yticjkpnlnonibaa
open Go.RowKit
set_option linter.unusedSimpArgs false
set_option linter.unusedVariables false

def listA (B : Nat) (B2 : Nat) (A5 : Option Addr) (c5 : Nat) (A2 : Option Addr) (c2 : Nat) (n : Nat) (sn : Nat) : Nat → Value → World → Prop
  | 0, v, _ => v = .slice A5 n c5
  | 1, v, _ => v = .int .i64 (n : Int)
  | 2, v, _ => v = .pointer (some ⟨B2, 0, none⟩)
  | 3, v, _ => v = .pointer (some ⟨B2, 0, none⟩)
  | 4, v, _ => v = .pointer (some ⟨B2, 0, none⟩)
  | 5, v, _ => v = .slice A2 n c2
  | 6, v, _ => v = .int .i64 (n : Int)
  | 7, v, _ => v = .bool false
  | 8, v, _ => v = .bool false
  | 9, v, _ => v = .pointer (some ⟨B, 0, none⟩)
  | 10, v, _ => v = .int .i64 (n : Int)
  | 11, v, _ => v = .pointer (some ⟨B2, 0, none⟩)
  | 12, v, _ => v = .pointer (some ⟨B2, 0, none⟩)
  | 13, v, _ => v = .pointer (some ⟨B2, 0, none⟩)
  | 14, v, _ => v = .slice A2 n c2
  | 15, v, _ => v = .int .i64 (n : Int)
  | 16, v, _ => v = .bool false
  | 17, v, _ => v = .bool false
  | 18, v, _ => v = .bool false
  | 19, v, _ => v = .pointer (some ⟨B, 0, none⟩)
  | 20, v, _ => v = .int .i64 (sn : Int)
  | 21, v, _ => v = .pointer (some ⟨B2, 0, none⟩)
  | 22, v, _ => v = .pointer (some ⟨B2, 0, none⟩)
  | 23, v, _ => v = .pointer (some ⟨B2, 1, none⟩)
  | 24, v, _ => v = .int .i64 (sn : Int)
  | 25, v, _ => v = .bool false
  | 26, v, _ => v = .bool false
  | _, _, _ => True
theorem listA_stable (B : Nat) (B2 : Nat) (A5 : Option Addr) (c5 : Nat) (A2 : Option Addr) (c2 : Nat) (n : Nat) (sn : Nat) : ∀ i v w w', listA B B2 A5 c5 A2 c2 n sn i v w → Go.Rel.Grew w w' → listA B B2 A5 c5 A2 c2 n sn i v w'
  | 0, _, _, _, h, _ | 1, _, _, _, h, _ | 2, _, _, _, h, _ | 3, _, _, _, h, _ | 4, _, _, _, h, _ | 5, _, _, _, h, _ | 6, _, _, _, h, _ | 7, _, _, _, h, _ | 8, _, _, _, h, _ | 9, _, _, _, h, _ | 10, _, _, _, h, _ | 11, _, _, _, h, _ | 12, _, _, _, h, _ | 13, _, _, _, h, _ | 14, _, _, _, h, _ | 15, _, _, _, h, _ | 16, _, _, _, h, _ | 17, _, _, _, h, _ | 18, _, _, _, h, _ | 19, _, _, _, h, _ | 20, _, _, _, h, _ | 21, _, _, _, h, _ | 22, _, _, _, h, _ | 23, _, _, _, h, _ | 24, _, _, _, h, _ | 25, _, _, _, h, _ | 26, _, _, _, h, _ => h
  | _ + 27, _, _, _, h, _ => h
def listB (B2 : Nat) (g5 : Nat) (c5 : Nat) (g2 : Nat) (c2 : Nat) (n : Nat) (k : Nat) (id : Nat) (p : Pk) (q : Pk) : Nat → Value → World → Prop
  | 0, v, _ => v = .slice (some ⟨g5, 0, none⟩) n c5
  | 1, v, _ => v = .int .i64 (k : Int)
  | 2, v, _ => v = .pointer (some ⟨g5, k * 4, none⟩)
  | 3, v, _ => v = .pointer (some ⟨g5, k * 4, none⟩)
  | 4, v, _ => v = .int .i64 (id : Int)
  | 5, v, _ => v = .pointer (some ⟨B2, 0, none⟩)
  | 6, v, _ => v = .pointer (some ⟨B2, 0, none⟩)
  | 7, v, _ => v = .pointer (some ⟨B2, 0, none⟩)
  | 8, v, _ => v = .slice (some ⟨g2, 0, none⟩) n c2
  | 9, v, _ => v = .int .i64 (k : Int)
  | 10, v, _ => v = .pointer (some ⟨g2, k * 4, none⟩)
  | 11, v, _ => v = .pointer (some ⟨g2, k * 4, none⟩)
  | 12, v, _ => v = .int .i64 (id : Int)
  | 13, v, _ => v = .bool false
  | 14, v, _ => v = .bool false
  | 15, v, _ => v = .slice (some ⟨g5, 0, none⟩) n c5
  | 16, v, _ => v = .int .i64 (k : Int)
  | 17, v, _ => v = .pointer (some ⟨g5, k * 4, none⟩)
  | 18, v, _ => v = .pointer (some ⟨g5, k * 4 + 1, none⟩)
  | 19, v, _ => v = .agg #[.int .i64 p.fr, .int .i64 p.to, .slice p.A p.body.length p.c]
  | 20, v, _ => v = .pointer (some ⟨B2, 0, none⟩)
  | 21, v, _ => v = .pointer (some ⟨B2, 0, none⟩)
  | 22, v, _ => v = .pointer (some ⟨B2, 0, none⟩)
  | 23, v, _ => v = .slice (some ⟨g2, 0, none⟩) n c2
  | 24, v, _ => v = .int .i64 (k : Int)
  | 25, v, _ => v = .pointer (some ⟨g2, k * 4, none⟩)
  | 26, v, _ => v = .pointer (some ⟨g2, k * 4 + 1, none⟩)
  | 27, v, _ => v = .agg #[.int .i64 q.fr, .int .i64 q.to, .slice q.A q.body.length q.c]
  | 28, v, _ => v = .bool true
  | 29, v, _ => v = .bool false
  | 30, v, _ => v = .bool false
  | _, _, _ => True
theorem listB_stable (B2 : Nat) (g5 : Nat) (c5 : Nat) (g2 : Nat) (c2 : Nat) (n : Nat) (k : Nat) (id : Nat) (p : Pk) (q : Pk) : ∀ i v w w', listB B2 g5 c5 g2 c2 n k id p q i v w → Go.Rel.Grew w w' → listB B2 g5 c5 g2 c2 n k id p q i v w'
  | 0, _, _, _, h, _ | 1, _, _, _, h, _ | 2, _, _, _, h, _ | 3, _, _, _, h, _ | 4, _, _, _, h, _ | 5, _, _, _, h, _ | 6, _, _, _, h, _ | 7, _, _, _, h, _ | 8, _, _, _, h, _ | 9, _, _, _, h, _ | 10, _, _, _, h, _ | 11, _, _, _, h, _ | 12, _, _, _, h, _ | 13, _, _, _, h, _ | 14, _, _, _, h, _ | 15, _, _, _, h, _ | 16, _, _, _, h, _ | 17, _, _, _, h, _ | 18, _, _, _, h, _ | 19, _, _, _, h, _ | 20, _, _, _, h, _ | 21, _, _, _, h, _ | 22, _, _, _, h, _ | 23, _, _, _, h, _ | 24, _, _, _, h, _ | 25, _, _, _, h, _ | 26, _, _, _, h, _ | 27, _, _, _, h, _ | 28, _, _, _, h, _ | 29, _, _, _, h, _ | 30, _, _, _, h, _ => h
  | _ + 31, _, _, _, h, _ => h

theorem FlAt.new (w : World) (m : Int) : FlAt (w.alloc (.cells #[.slice none 0 0, .int .i64 (capOf m : Int), .int .i64 0] 58)) w.heap.size (.slice none 0 0) (Fl.new m) :=
  ⟨heap_alloc_new w _, itRow.nil _ _, (fun x h => by cases h), Fl.ok.new m⟩
theorem RfAt.new (base : Nat) (w : World) (m : Int) (hb : base ≤ w.heap.size) : RfAt base (w.alloc (.cells #[.slice none 0 0, .int .i64 0, .int .i64 (capOf m : Int)] 62)) w.heap.size (.slice none 0 0) (Fl.new m) :=
  ⟨heap_alloc_new w _, itRow.nil _ _, (fun x h => by cases h), hb, Fl.ok.new m⟩
set_option maxHeartbeats 4000000 in
theorem works_any (w : World) : Calls Try.prog 11 #[] w fun e w' => e = .returned (.bool true) ∧ Below w.heap.size w w' := by
  have HN := Lib.hid (new_any 3 w)
  have hf0 := FlAt.new w 3
  obtain ⟨B, hB⟩ : ∃ B, w.heap.size = B := ⟨_, rfl⟩
  obtain ⟨W0, hW0⟩ : ∃ W0, w.alloc (.cells #[.slice none 0 0, .int .i64 (capOf 3 : Int), .int .i64 0] 58) = W0 := ⟨_, rfl⟩
  have hal0 : Below w.heap.size w W0 := by rw [← hW0]; exact (Below.refl _ w).alloc (Nat.le_refl _) _
  have hs0 : W0.heap.size = w.heap.size + 1 := by rw [← hW0]; simp
  rw [hB, hW0] at HN
  rw [hB, hW0] at hf0
  obtain ⟨W1, hW1⟩ : ∃ W1, W0.alloc (.cells #[.int .u8 7] 5) = W1 := ⟨_, rfl⟩
  have hal1 : Below W0.heap.size W0 W1 := by rw [← hW1]; exact (Below.refl _ W0).alloc (Nat.le_refl _) _
  have hbk : W1.heap[W0.heap.size]? = some (.cells #[.int .u8 7] 5 (0, 0)) := by rw [← hW1]; exact heap_alloc_new W0 _
  have hp : BodyAt W1 ⟨0, 2, [7], some ⟨W0.heap.size, 0, none⟩, 1⟩ := by
    refine ⟨⟨rfl, fun _ => ⟨_, 0, rfl, block_lt hbk, fun j hj => ?_⟩⟩, Nat.le_refl _, (fun e => by cases e), by simp⟩
    have hj0 : j = 0 := by simpa using hj
    subst hj0
    exact blk_cells hbk 0 _ rfl
  have hbW : Below w.heap.size w W1 := hal0.trans (hal1.mono hal0.size)
  have hsend := send_any W1 B (.slice none 0 0) (Fl.new 3) ⟨0, 2, [7], some ⟨W0.heap.size, 0, none⟩, 1⟩ (hf0.below hal1) hp (fun b off e hn hs => by
    simp only [Option.some.injEq, Addr.mk.injEq] at e
    rcases hs with h | h
    · omega
    · cases h) (by decide) true (by simp [Fl.may, Fl.full, Fl.new, capOf])
  have HS := Lib.hid hsend
  have HW1 := Lib.hid hW1
  have HW0 := Lib.hid hW0
  have HB := Lib.hid hB
  have HBW := Lib.hid hbW
  have HS0 := Lib.hid hs0
  obtain ⟨Y, hY⟩ : ∃ Y, W0.heap.size = Y := ⟨_, rfl⟩
  have HY := Lib.hid hY
  rw [hY] at HS
  clear hW0 hW1 hal0 hal1 hf0 hbk hp hbW hsend hs0 hB hY
  go_enter Try.func11, Try.ntmps11
  go_wp2_with fail
  refine HN.out.mono ?_
  rintro e w' ⟨rfl, hw'⟩
  rw [hw']
  clear hw' HN
  go_wp2_with fail
  rw [HW1.out, HY.out]
  refine HS.out.mono ?_
  clear HS
  rintro e w2 ⟨hyes, _⟩
  obtain ⟨rfl, A, c, v', hf, _, hb2, hloc⟩ := hyes trivial
  have hb3 : Below w.heap.size w w2 := ((But.of_below (S := fun k => w.heap.size ≤ k) HBW.out).trans (hb2.mono (fun k hk => by
    have := HB.out
    rcases hk with rfl | hk
    · show w.heap.size ≤ k; omega
    · cases hk))).below (Nat.le_refl _) (fun k hk hs => absurd hs (Nat.not_le.2 hk))
  have hbody := (hf.body _ (List.mem_append_right _ (List.mem_singleton.2 rfl))).1
  have hout := hf.outs (List.mem_append_right _ (List.mem_singleton.2 rfl))
  have HD : Hid (Calls Try.prog 14 #[.pointer (some ⟨B, 0, none⟩), .int .i64 5] w2 fun e w' => e = .returned (.tuple #[.agg #[.int .i64 0, .int .i64 2, .slice A 1 c], .bool true]) ∧ But (Sof B v') w2 w' ∧ BodyAt w' ⟨0, 2, [7], A, c⟩) :=
    Lib.hid ((deliver_some w2 B v' _ hf 5 (by show 0 < 1; decide) (by show pickOf 1 5 < 1; decide)).mono (fun e w' ⟨he, hg⟩ => ⟨he.trans (congrArg (fun y : It => Ending.returned (.tuple #[pkV y.p, .bool true])) (List.getElem_singleton (a := (⟨1, ⟨0, 2, [7], A, c⟩⟩ : It)) _)), hg.2, hbody.but hg.2 hout⟩))
  have HB3 := Lib.hid hb3
  have HB2 := Lib.hid hb2
  have HSV : Hid (∀ k, Sof B v' k → w.heap.size ≤ k) := Lib.hid (fun k hk => by
    have hB := HB.out
    rcases hk with rfl | hk
    · omega
    · rcases hloc k hk with h | h
      · cases h
      · have := HBW.out.size; omega)
  clear hb3 hf hb2 hyes hbody hout hloc
  go_wp2_with fail
  refine HD.out.mono ?_
  clear HD
  rintro e w3 ⟨rfl, hb4, hbody⟩
  have hal : Below w3.heap.size w3 (w3.alloc (.cells #[.int .i64 0, .int .i64 2, .slice A 1 c] 30)) := (Below.refl _ w3).alloc (Nat.le_refl _) _
  have k1 := own_conv (hbody.below hal)
  simp only [List.length_singleton] at k1
  have HB4 : Hid (Below w.heap.size w (w3.alloc (.cells #[.int .i64 0, .int .i64 2, .slice A 1 c] 30))) := Lib.hid
    (((But.of_below (S := fun k => w.heap.size ≤ k) HB3.out).trans ((hb4.mono HSV.out).trans (But.of_below (S := fun k => w.heap.size ≤ k) hal))).below (Nat.le_refl _) (fun k hk hs => absurd hs (Nat.not_le.2 hk)))
  clear hb4 hbody hal
  go_wp2
  go_ret
  refine ⟨?_, HB4.out⟩
  rfl
set_option maxHeartbeats 8000000 in
set_option maxRecDepth 100000 in
theorem list_walk (base : Nat) (w : World) (B B2 : Nat) (v v2 : Value) (s t : Fl) (h : Pair base w B v s B2 v2 t) (hst : s.same t) (hsent : s.sent ≤ 1099511627776) :
    Calls Try.prog 10 #[.pointer (some ⟨B, 0, none⟩), .pointer (some ⟨B2, 0, none⟩)] w fun e w' => e = .returned (.bool true) ∧ Below w.heap.size w w' := by
  have HL := Lib.hid (list_any w B v s h.fl)
  have hmost := h.fl.ok.most
  have hlen := h.fl.ok.len
  obtain ⟨A2, c2, hv2, _⟩ := h.rf.row.form
  have HPair := Lib.hid h
  have HST := Lib.hid hst
  have hB2w := h.rf.lt
  obtain ⟨n, hn⟩ : ∃ n, t.L.length = n := ⟨_, rfl⟩
  have hsn : s.L.length = n := by rw [hst.len, hn]
  obtain ⟨sn, hsnt⟩ : ∃ sn, t.sent = sn := ⟨_, rfl⟩
  obtain ⟨c0, c1, _⟩ := h.rf.cells
  rw [hv2, hn] at c0
  rw [hsnt] at c1
  have HV2 := Lib.hid hv2
  have HN := Lib.hid hn
  have HSN := Lib.hid hsn
  have HSNT := Lib.hid hsnt
  have HSS : Hid (s.sent = sn) := Lib.hid (by rw [hst.sent, hsnt])
  have HSE := Lib.hid hsent
  have q0 : (n : Int) ≤ 256 := by omega
  have hn2 : n ≤ 256 := by omega
  clear h hst hv2 hn hsn hsnt hsent
  go_enter Try.func10, Try.ntmps10
  go_wp2_with fail
  refine HL.out.mono ?_
  clear HL
  rintro e w1 ⟨v5, m5, rfl, hC, hb1⟩
  have hm5 : m5.length = n := by rw [hC.len, HSN.out]
  obtain ⟨A5, c5, rfl, _⟩ := hC.row.form
  rw [hm5]
  have hB2 : B2 < w1.heap.size := Nat.lt_of_lt_of_le hB2w hb1.size
  have C0 : Hid (w1.cell? ⟨B2, 0, none⟩ = some (.slice A2 n c2)) := Lib.hid ((hb1.cell (p := ⟨B2, 0, none⟩) hB2w).trans c0)
  have C1 : Hid (w1.cell? ⟨B2, 1, none⟩ = some (.int .i64 (sn : Int))) := Lib.hid ((hb1.cell (p := ⟨B2, 1, none⟩) hB2w).trans c1)
  have HPair1 := Lib.hid (HPair.out.below hb1)
  have HCount : Hid (∀ w', Go.Rel.Grew w1 w' → Calls Try.prog 19 #[.pointer (some ⟨B, 0, none⟩)] w' fun e w2 => e = .returned (.int .i64 (n : Int)) ∧ w2 = w') := Lib.hid (fun w' hb => by
    have := count_any w' B v s (HPair1.out.fl.below hb)
    rw [HSN.out] at this
    exact this)
  have HSent : Hid (∀ w', Go.Rel.Grew w1 w' → Calls Try.prog 13 #[.pointer (some ⟨B, 0, none⟩)] w' fun e w2 => e = .returned (.int .i64 (sn : Int)) ∧ w2 = w') := Lib.hid (fun w' hb => by
    have := sent_any w' B v s (HPair1.out.fl.below hb) HSE.out
    rw [HSS.out] at this
    exact this)
  have HC := Lib.hid hC
  have HM5 := Lib.hid hm5
  have HB1 := Lib.hid hb1
  clear hC hb1 hm5 c0 c1
  go_wp2_with fail
  refine Go.Rel.wp_region_grew (by kernel_rfl) (by kernel_rfl) (by kernel_rfl) (by kernel_rfl) (listA B B2 A5 c5 A2 c2 n sn) (listA_stable B B2 A5 c5 A2 c2 n sn) ?hsteps ?hend
  case hsteps =>
    refine (.cons ?_ (.cons ?_ (.cons ?_ (.cons ?_ (.cons ?_ (.cons ?_ (.cons ?_ (.cons ?_ (.cons ?_ (.cons ?_ (.cons ?_ (.cons ?_ (.cons ?_ (.cons ?_ (.cons ?_ (.cons ?_ (.cons ?_ (.cons ?_ (.cons ?_ (.cons ?_ (.cons ?_ (.cons ?_ (.cons ?_ (.cons ?_ (.cons ?_ (.cons ?_ (.cons ?_ .nil)))))))))))))))))))))))))))
    · intro a w' hle hs' hd K hK
      have f5 : a.tmps[5]? = some (.slice A5 n c5) := hs'.2.2 5 (by kernel_rfl)
      unfold Go.Rel.stepOf
      go_simp
      exact hK _ _ (Go.Rel.Grew.refl _) rfl
    · intro a w' hle hs' hd K hK
      obtain ⟨_, t0, rfl⟩ := hd 0 9 (by kernel_rfl)
      unfold Go.Rel.stepOf
      go_simp
      exact hK _ _ (Go.Rel.Grew.refl _) rfl
    · intro a w' hle hs' hd K hK
      have f1 : a.tmps[1]? = some (.pointer (some ⟨B2, 0, none⟩)) := hs'.2.2 1 (by kernel_rfl)
      unfold Go.Rel.stepOf
      go_simp
      exact hK _ _ (Go.Rel.Grew.refl _) rfl
    · intro a w' hle hs' hd K hK
      obtain ⟨_, t2, rfl⟩ := hd 2 11 (by kernel_rfl)
      unfold Go.Rel.stepOf
      go_simp
      exact hK _ _ (Go.Rel.Grew.refl _) rfl
    · intro a w' hle hs' hd K hK
      obtain ⟨_, t3, rfl⟩ := hd 3 12 (by kernel_rfl)
      unfold Go.Rel.stepOf
      go_simp
      exact hK _ _ (Go.Rel.Grew.refl _) rfl
    · intro a w' hle hs' hd K hK
      obtain ⟨_, t4, rfl⟩ := hd 4 13 (by kernel_rfl)
      have cc := (hle.cell (p := ⟨B2, 0, none⟩) hB2).trans C0.out
      unfold Go.Rel.stepOf
      go_simp
      exact hK _ _ (Go.Rel.Grew.refl _) rfl
    · intro a w' hle hs' hd K hK
      obtain ⟨_, t5, rfl⟩ := hd 5 14 (by kernel_rfl)
      unfold Go.Rel.stepOf
      go_simp
      exact hK _ _ (Go.Rel.Grew.refl _) rfl
    · intro a w' hle hs' hd K hK
      obtain ⟨_, t1, rfl⟩ := hd 1 10 (by kernel_rfl)
      obtain ⟨_, t6, rfl⟩ := hd 6 15 (by kernel_rfl)
      unfold Go.Rel.stepOf
      go_simp
      exact hK _ _ (Go.Rel.Grew.refl _) rfl
    · intro a w' hle hs' hd K hK
      obtain ⟨_, t7, rfl⟩ := hd 7 16 (by kernel_rfl)
      unfold Go.Rel.stepOf
      go_simp
      exact hK _ _ (Go.Rel.Grew.refl _) rfl
    · intro a w' hle hs' hd K hK
      obtain ⟨_, tg, rfl⟩ := hd 8 17 (by kernel_rfl)
      have f0 : a.tmps[0]? = some (.pointer (some ⟨B, 0, none⟩)) := hs'.2.2 0 (by kernel_rfl)
      unfold Go.Rel.stepOf
      go_simp
      exact hK _ _ (Go.Rel.Grew.refl _) rfl
    · intro a w' hle hs' hd K hK
      obtain ⟨_, tg, rfl⟩ := hd 8 17 (by kernel_rfl)
      obtain ⟨_, t9, rfl⟩ := hd 9 18 (by kernel_rfl)
      unfold Go.Rel.stepOf
      go_simp
      refine (HCount.out w' hle).mono ?_
      rintro e w2 ⟨rfl, hw⟩
      rw [hw]
      exact hK _ _ (Go.Rel.Grew.refl _) rfl
    · intro a w' hle hs' hd K hK
      obtain ⟨_, tg, rfl⟩ := hd 8 17 (by kernel_rfl)
      have f1 : a.tmps[1]? = some (.pointer (some ⟨B2, 0, none⟩)) := hs'.2.2 1 (by kernel_rfl)
      unfold Go.Rel.stepOf
      go_simp
      exact hK _ _ (Go.Rel.Grew.refl _) rfl
    · intro a w' hle hs' hd K hK
      obtain ⟨_, tg, rfl⟩ := hd 8 17 (by kernel_rfl)
      obtain ⟨_, t11, rfl⟩ := hd 11 20 (by kernel_rfl)
      unfold Go.Rel.stepOf
      go_simp
      exact hK _ _ (Go.Rel.Grew.refl _) rfl
    · intro a w' hle hs' hd K hK
      obtain ⟨_, tg, rfl⟩ := hd 8 17 (by kernel_rfl)
      obtain ⟨_, t12, rfl⟩ := hd 12 21 (by kernel_rfl)
      unfold Go.Rel.stepOf
      go_simp
      exact hK _ _ (Go.Rel.Grew.refl _) rfl
    · intro a w' hle hs' hd K hK
      obtain ⟨_, tg, rfl⟩ := hd 8 17 (by kernel_rfl)
      obtain ⟨_, t13, rfl⟩ := hd 13 22 (by kernel_rfl)
      have cc := (hle.cell (p := ⟨B2, 0, none⟩) hB2).trans C0.out
      unfold Go.Rel.stepOf
      go_simp
      exact hK _ _ (Go.Rel.Grew.refl _) rfl
    · intro a w' hle hs' hd K hK
      obtain ⟨_, tg, rfl⟩ := hd 8 17 (by kernel_rfl)
      obtain ⟨_, t14, rfl⟩ := hd 14 23 (by kernel_rfl)
      unfold Go.Rel.stepOf
      go_simp
      exact hK _ _ (Go.Rel.Grew.refl _) rfl
    · intro a w' hle hs' hd K hK
      obtain ⟨_, tg, rfl⟩ := hd 8 17 (by kernel_rfl)
      obtain ⟨_, t10, rfl⟩ := hd 10 19 (by kernel_rfl)
      obtain ⟨_, t15, rfl⟩ := hd 15 24 (by kernel_rfl)
      unfold Go.Rel.stepOf
      go_simp
      exact hK _ _ (Go.Rel.Grew.refl _) rfl
    · intro a w' hle hs' hd K hK
      obtain ⟨_, t8, rfl⟩ := hd 8 17 (by kernel_rfl)
      obtain ⟨_, t16, rfl⟩ := hd 16 25 (by kernel_rfl)
      unfold Go.Rel.stepOf
      go_simp
      exact hK _ _ (Go.Rel.Grew.refl _) rfl
    · intro a w' hle hs' hd K hK
      obtain ⟨_, t17, rfl⟩ := hd 17 26 (by kernel_rfl)
      unfold Go.Rel.stepOf
      go_simp
      exact hK _ _ (Go.Rel.Grew.refl _) rfl
    · intro a w' hle hs' hd K hK
      obtain ⟨_, tg, rfl⟩ := hd 18 27 (by kernel_rfl)
      have f0 : a.tmps[0]? = some (.pointer (some ⟨B, 0, none⟩)) := hs'.2.2 0 (by kernel_rfl)
      unfold Go.Rel.stepOf
      go_simp
      exact hK _ _ (Go.Rel.Grew.refl _) rfl
    · intro a w' hle hs' hd K hK
      obtain ⟨_, tg, rfl⟩ := hd 18 27 (by kernel_rfl)
      obtain ⟨_, t19, rfl⟩ := hd 19 28 (by kernel_rfl)
      unfold Go.Rel.stepOf
      go_simp
      refine (HSent.out w' hle).mono ?_
      rintro e w2 ⟨rfl, hw⟩
      rw [hw]
      exact hK _ _ (Go.Rel.Grew.refl _) rfl
    · intro a w' hle hs' hd K hK
      obtain ⟨_, tg, rfl⟩ := hd 18 27 (by kernel_rfl)
      have f1 : a.tmps[1]? = some (.pointer (some ⟨B2, 0, none⟩)) := hs'.2.2 1 (by kernel_rfl)
      unfold Go.Rel.stepOf
      go_simp
      exact hK _ _ (Go.Rel.Grew.refl _) rfl
    · intro a w' hle hs' hd K hK
      obtain ⟨_, tg, rfl⟩ := hd 18 27 (by kernel_rfl)
      obtain ⟨_, t21, rfl⟩ := hd 21 30 (by kernel_rfl)
      unfold Go.Rel.stepOf
      go_simp
      exact hK _ _ (Go.Rel.Grew.refl _) rfl
    · intro a w' hle hs' hd K hK
      obtain ⟨_, tg, rfl⟩ := hd 18 27 (by kernel_rfl)
      obtain ⟨_, t22, rfl⟩ := hd 22 31 (by kernel_rfl)
      unfold Go.Rel.stepOf
      go_simp
      exact hK _ _ (Go.Rel.Grew.refl _) rfl
    · intro a w' hle hs' hd K hK
      obtain ⟨_, tg, rfl⟩ := hd 18 27 (by kernel_rfl)
      obtain ⟨_, t23, rfl⟩ := hd 23 32 (by kernel_rfl)
      have cc := (hle.cell (p := ⟨B2, 1, none⟩) hB2).trans C1.out
      unfold Go.Rel.stepOf
      go_simp
      exact hK _ _ (Go.Rel.Grew.refl _) rfl
    · intro a w' hle hs' hd K hK
      obtain ⟨_, tg, rfl⟩ := hd 18 27 (by kernel_rfl)
      obtain ⟨_, t20, rfl⟩ := hd 20 29 (by kernel_rfl)
      obtain ⟨_, t24, rfl⟩ := hd 24 33 (by kernel_rfl)
      unfold Go.Rel.stepOf
      go_simp
      exact hK _ _ (Go.Rel.Grew.refl _) rfl
    · intro a w' hle hs' hd K hK
      obtain ⟨_, t18, rfl⟩ := hd 18 27 (by kernel_rfl)
      obtain ⟨_, t25, rfl⟩ := hd 25 34 (by kernel_rfl)
      unfold Go.Rel.stepOf
      go_simp
      exact hK _ _ (Go.Rel.Grew.refl _) rfl
  case hend =>
    intro a w2 hle hs' hR'
    have HLe := Lib.hid hle
    clear hle
    obtain ⟨v9, s9, _⟩ := hR' 0 9 (by kernel_rfl)
    obtain ⟨v10, s10, _⟩ := hR' 1 10 (by kernel_rfl)
    obtain ⟨v11, s11, _⟩ := hR' 2 11 (by kernel_rfl)
    obtain ⟨v12, s12, _⟩ := hR' 3 12 (by kernel_rfl)
    obtain ⟨v13, s13, _⟩ := hR' 4 13 (by kernel_rfl)
    obtain ⟨v14, s14, _⟩ := hR' 5 14 (by kernel_rfl)
    obtain ⟨v15, s15, _⟩ := hR' 6 15 (by kernel_rfl)
    obtain ⟨v16, s16, _⟩ := hR' 7 16 (by kernel_rfl)
    obtain ⟨v17, s17, _⟩ := hR' 8 17 (by kernel_rfl)
    obtain ⟨v18, s18, _⟩ := hR' 9 18 (by kernel_rfl)
    obtain ⟨v19, s19, _⟩ := hR' 10 19 (by kernel_rfl)
    obtain ⟨v20, s20, _⟩ := hR' 11 20 (by kernel_rfl)
    obtain ⟨v21, s21, _⟩ := hR' 12 21 (by kernel_rfl)
    obtain ⟨v22, s22, _⟩ := hR' 13 22 (by kernel_rfl)
    obtain ⟨v23, s23, _⟩ := hR' 14 23 (by kernel_rfl)
    obtain ⟨v24, s24, _⟩ := hR' 15 24 (by kernel_rfl)
    obtain ⟨v25, s25, _⟩ := hR' 16 25 (by kernel_rfl)
    obtain ⟨v26, s26, _⟩ := hR' 17 26 (by kernel_rfl)
    obtain ⟨v27, s27, _⟩ := hR' 18 27 (by kernel_rfl)
    obtain ⟨v28, s28, _⟩ := hR' 19 28 (by kernel_rfl)
    obtain ⟨v29, s29, _⟩ := hR' 20 29 (by kernel_rfl)
    obtain ⟨v30, s30, _⟩ := hR' 21 30 (by kernel_rfl)
    obtain ⟨v31, s31, _⟩ := hR' 22 31 (by kernel_rfl)
    obtain ⟨v32, s32, _⟩ := hR' 23 32 (by kernel_rfl)
    obtain ⟨v33, s33, _⟩ := hR' 24 33 (by kernel_rfl)
    obtain ⟨v34, s34, _⟩ := hR' 25 34 (by kernel_rfl)
    obtain ⟨_, s35, rfl⟩ := hR' 26 35 (by kernel_rfl)
    have e := hs'.shape
    simp only [List.toList_toArray, List.foldl, Go.Rel.reset, Array.getD_eq_getD_getElem?, s9, s10, s11, s12, s13, s14, s15, s16, s17, s18, s19, s20, s21, s22, s23, s24, s25, s26, s27, s28, s29, s30, s31, s32, s33, s34, s35, Option.getD_some] at e
    simp at e
    clear hR' hs' s9 s10 s11 s12 s13 s14 s15 s16 s17 s18 s19 s20 s21 s22 s23 s24 s25 s26 s27 s28 s29 s30 s31 s32 s33 s34 s35
    subst e
    go_wp2
    go_loopw [6] (fun kv wr => ∃ k : Nat, kv = .int .i64 (k : Int) ∧ k ≤ n ∧ Hid (Go.Rel.Grew w1 wr)) (fun kv _ => n - (RowKit.intOf kv).toNat)
    case atStart => exact ⟨0, rfl, Nat.zero_le _, HLe⟩
    case round =>
      obtain ⟨k, rfl, hk, HG⟩ := hrel
      by_cases hlt : k < n
      · have hkm : k < m5.length := by rw [HM5.out]; exact hlt
        have hkt : k < t.L.length := by rw [HN.out]; exact hlt
        have hks : k < s.L.length := by rw [HSN.out]; exact hlt
        have hpair := HPair1.out.below HG.out
        obtain ⟨g2, c2', e2, _⟩ := hpair.rf.row.some_ (by omega)
        rw [HV2.out, HN.out] at e2
        simp only [Value.slice.injEq, true_and] at e2
        obtain ⟨rfl, rfl⟩ := e2
        have hCk := HC.out.below HG.out
        obtain ⟨g5, c5', e5, _⟩ := hCk.row.some_ (by omega)
        rw [HM5.out] at e5
        simp only [Value.slice.injEq, true_and] at e5
        obtain ⟨rfl, rfl⟩ := e5
        have hrow2 := hpair.rf.row
        rw [HV2.out] at hrow2
        have hx4 := hCk.row.at_ hkm
        have hy4 := hrow2.at_ hkt
        have hbx := (hCk.body _ (List.getElem_mem hkm)).1
        have hby := (hpair.rf.body _ (List.getElem_mem hkt)).1
        have hstrip : m5[k].strip = t.L[k].strip := by
          have h1 : (m5.map It.strip)[k]'(by simpa using hkm) = (t.L.map It.strip)[k]'(by simpa using hkt) := by simp only [HC.out.same, HST.out.L]
          simpa using h1
        obtain ⟨x, hx⟩ : ∃ x, m5[k] = x := ⟨_, rfl⟩
        obtain ⟨y, hy⟩ : ∃ y, t.L[k] = y := ⟨_, rfl⟩
        rw [hx] at hx4 hbx hstrip
        rw [hy] at hy4 hby hstrip
        obtain ⟨id, p⟩ := x
        obtain ⟨id2, q⟩ := y
        obtain ⟨rfl, hpq⟩ : id = id2 ∧ p.strip = q.strip := by
          unfold It.strip at hstrip
          simp only [Prod.mk.injEq] at hstrip
          exact ⟨hstrip.1, hstrip.2⟩
        have HSame : Hid (∀ w', Go.Rel.Grew wr w' → Calls Try.prog 15 #[.agg #[.int .i64 p.fr, .int .i64 p.to, .slice p.A p.body.length p.c], .agg #[.int .i64 q.fr, .int .i64 q.to, .slice q.A q.body.length q.c]] w' fun e w2 => e = .returned (.bool true) ∧ Below w'.heap.size w' w2) := Lib.hid (fun w' hb => same_any w' p q (hbx.below hb) (hby.below hb) true (decide_eq_true hpq))
        have HX : Hid (∀ w', Go.Rel.Grew wr w' → w'.cell? ⟨g5, k * 4, none⟩ = some (.int .i64 (id : Int)) ∧ w'.cell? ⟨g5, k * 4 + 1, none⟩ = some (.int .i64 p.fr) ∧ w'.cell? ⟨g5, k * 4 + 2, none⟩ = some (.int .i64 p.to) ∧ w'.cell? ⟨g5, k * 4 + 3, none⟩ = some (.slice p.A p.body.length p.c)) := Lib.hid (fun w' hb =>
          ⟨(hb.cell (p := ⟨g5, k * 4, none⟩) (bcell_lt hx4.1)).trans hx4.1, (hb.cell (p := ⟨g5, k * 4 + 1, none⟩) (bcell_lt hx4.2.1)).trans hx4.2.1, (hb.cell (p := ⟨g5, k * 4 + 2, none⟩) (bcell_lt hx4.2.2.1)).trans hx4.2.2.1, (hb.cell (p := ⟨g5, k * 4 + 3, none⟩) (bcell_lt hx4.2.2.2)).trans hx4.2.2.2⟩)
        have HY : Hid (∀ w', Go.Rel.Grew wr w' → w'.cell? ⟨g2, k * 4, none⟩ = some (.int .i64 (id : Int)) ∧ w'.cell? ⟨g2, k * 4 + 1, none⟩ = some (.int .i64 q.fr) ∧ w'.cell? ⟨g2, k * 4 + 2, none⟩ = some (.int .i64 q.to) ∧ w'.cell? ⟨g2, k * 4 + 3, none⟩ = some (.slice q.A q.body.length q.c)) := Lib.hid (fun w' hb =>
          ⟨(hb.cell (p := ⟨g2, k * 4, none⟩) (bcell_lt hy4.1)).trans hy4.1, (hb.cell (p := ⟨g2, k * 4 + 1, none⟩) (bcell_lt hy4.2.1)).trans hy4.2.1, (hb.cell (p := ⟨g2, k * 4 + 2, none⟩) (bcell_lt hy4.2.2.1)).trans hy4.2.2.1, (hb.cell (p := ⟨g2, k * 4 + 3, none⟩) (bcell_lt hy4.2.2.2)).trans hy4.2.2.2⟩)
        have C0' := Lib.hid ((HG.out.cell (p := ⟨B2, 0, none⟩) hB2).trans C0.out)
        have hB2' : B2 < wr.heap.size := Nat.lt_of_lt_of_le hB2 HG.out.size
        have HK : Hid ((0 : Int) ≤ (k : Int) ∧ (k : Int) < (n : Int)) := Lib.hid ⟨by omega, by omega⟩
        have q3 : (k : Int) < (n : Int) := by omega
        clear hpair hCk hrow2 hx4 hy4 hbx hby hstrip hx hy hpq
        go_wp2_with fail
        have C0 := C0'
        have hB2 := hB2'
        refine Go.Rel.wp_region_grew (by kernel_rfl) (by kernel_rfl) (by kernel_rfl) (by kernel_rfl) (listB B2 g5 c5 g2 c2 n k id p q) (listB_stable B2 g5 c5 g2 c2 n k id p q) ?hsteps ?hend
        case hsteps =>
          refine (.cons ?_ (.cons ?_ (.cons ?_ (.cons ?_ (.cons ?_ (.cons ?_ (.cons ?_ (.cons ?_ (.cons ?_ (.cons ?_ (.cons ?_ (.cons ?_ (.cons ?_ (.cons ?_ (.cons ?_ (.cons ?_ (.cons ?_ (.cons ?_ (.cons ?_ (.cons ?_ (.cons ?_ (.cons ?_ (.cons ?_ (.cons ?_ (.cons ?_ (.cons ?_ (.cons ?_ (.cons ?_ (.cons ?_ (.cons ?_ (.cons ?_ .nil)))))))))))))))))))))))))))))))
          · intro a w' hle hs' hd K hK
            have f5 : a.tmps[5]? = some (.slice (some ⟨g5, 0, none⟩) n c5) := hs'.2.2 5 (by kernel_rfl)
            unfold Go.Rel.stepOf
            go_simp
            exact hK _ _ (Go.Rel.Grew.refl _) rfl
          · intro a w' hle hs' hd K hK
            have f6 : a.tmps[6]? = some (.int .i64 (k : Int)) := hs'.2.2 6 (by kernel_rfl)
            unfold Go.Rel.stepOf
            go_simp
            exact hK _ _ (Go.Rel.Grew.refl _) rfl
          · intro a w' hle hs' hd K hK
            obtain ⟨_, t0, rfl⟩ := hd 0 42 (by kernel_rfl)
            obtain ⟨_, t1, rfl⟩ := hd 1 43 (by kernel_rfl)
            have q1 := HK.out.1
            have q2 := HK.out.2
            unfold Go.Rel.stepOf
            go_simp
            exact hK _ _ (Go.Rel.Grew.refl _) rfl
          · intro a w' hle hs' hd K hK
            obtain ⟨_, t2, rfl⟩ := hd 2 44 (by kernel_rfl)
            unfold Go.Rel.stepOf
            go_simp
            exact hK _ _ (Go.Rel.Grew.refl _) rfl
          · intro a w' hle hs' hd K hK
            obtain ⟨_, t3, rfl⟩ := hd 3 45 (by kernel_rfl)
            obtain ⟨x0, x1, x2, x3⟩ := HX.out w' hle
            unfold Go.Rel.stepOf
            go_simp
            exact hK _ _ (Go.Rel.Grew.refl _) rfl
          · intro a w' hle hs' hd K hK
            have f1 : a.tmps[1]? = some (.pointer (some ⟨B2, 0, none⟩)) := hs'.2.2 1 (by kernel_rfl)
            unfold Go.Rel.stepOf
            go_simp
            exact hK _ _ (Go.Rel.Grew.refl _) rfl
          · intro a w' hle hs' hd K hK
            obtain ⟨_, t5, rfl⟩ := hd 5 47 (by kernel_rfl)
            unfold Go.Rel.stepOf
            go_simp
            exact hK _ _ (Go.Rel.Grew.refl _) rfl
          · intro a w' hle hs' hd K hK
            obtain ⟨_, t6, rfl⟩ := hd 6 48 (by kernel_rfl)
            unfold Go.Rel.stepOf
            go_simp
            exact hK _ _ (Go.Rel.Grew.refl _) rfl
          · intro a w' hle hs' hd K hK
            obtain ⟨_, t7, rfl⟩ := hd 7 49 (by kernel_rfl)
            have cc := (hle.cell (p := ⟨B2, 0, none⟩) hB2).trans C0.out
            unfold Go.Rel.stepOf
            go_simp
            exact hK _ _ (Go.Rel.Grew.refl _) rfl
          · intro a w' hle hs' hd K hK
            have f6 : a.tmps[6]? = some (.int .i64 (k : Int)) := hs'.2.2 6 (by kernel_rfl)
            unfold Go.Rel.stepOf
            go_simp
            exact hK _ _ (Go.Rel.Grew.refl _) rfl
          · intro a w' hle hs' hd K hK
            obtain ⟨_, t8, rfl⟩ := hd 8 50 (by kernel_rfl)
            obtain ⟨_, t9, rfl⟩ := hd 9 51 (by kernel_rfl)
            have q1 := HK.out.1
            have q2 := HK.out.2
            unfold Go.Rel.stepOf
            go_simp
            exact hK _ _ (Go.Rel.Grew.refl _) rfl
          · intro a w' hle hs' hd K hK
            obtain ⟨_, t10, rfl⟩ := hd 10 52 (by kernel_rfl)
            unfold Go.Rel.stepOf
            go_simp
            exact hK _ _ (Go.Rel.Grew.refl _) rfl
          · intro a w' hle hs' hd K hK
            obtain ⟨_, t11, rfl⟩ := hd 11 53 (by kernel_rfl)
            obtain ⟨x0, x1, x2, x3⟩ := HY.out w' hle
            unfold Go.Rel.stepOf
            go_simp
            exact hK _ _ (Go.Rel.Grew.refl _) rfl
          · intro a w' hle hs' hd K hK
            obtain ⟨_, t4, rfl⟩ := hd 4 46 (by kernel_rfl)
            obtain ⟨_, t12, rfl⟩ := hd 12 54 (by kernel_rfl)
            unfold Go.Rel.stepOf
            go_simp
            exact hK _ _ (Go.Rel.Grew.refl _) rfl
          · intro a w' hle hs' hd K hK
            obtain ⟨_, t13, rfl⟩ := hd 13 55 (by kernel_rfl)
            unfold Go.Rel.stepOf
            go_simp
            exact hK _ _ (Go.Rel.Grew.refl _) rfl
          · intro a w' hle hs' hd K hK
            obtain ⟨_, tg, rfl⟩ := hd 14 56 (by kernel_rfl)
            have f5 : a.tmps[5]? = some (.slice (some ⟨g5, 0, none⟩) n c5) := hs'.2.2 5 (by kernel_rfl)
            unfold Go.Rel.stepOf
            go_simp
            exact hK _ _ (Go.Rel.Grew.refl _) rfl
          · intro a w' hle hs' hd K hK
            obtain ⟨_, tg, rfl⟩ := hd 14 56 (by kernel_rfl)
            have f6 : a.tmps[6]? = some (.int .i64 (k : Int)) := hs'.2.2 6 (by kernel_rfl)
            unfold Go.Rel.stepOf
            go_simp
            exact hK _ _ (Go.Rel.Grew.refl _) rfl
          · intro a w' hle hs' hd K hK
            obtain ⟨_, tg, rfl⟩ := hd 14 56 (by kernel_rfl)
            obtain ⟨_, t15, rfl⟩ := hd 15 57 (by kernel_rfl)
            obtain ⟨_, t16, rfl⟩ := hd 16 58 (by kernel_rfl)
            have q1 := HK.out.1
            have q2 := HK.out.2
            unfold Go.Rel.stepOf
            go_simp
            exact hK _ _ (Go.Rel.Grew.refl _) rfl
          · intro a w' hle hs' hd K hK
            obtain ⟨_, tg, rfl⟩ := hd 14 56 (by kernel_rfl)
            obtain ⟨_, t17, rfl⟩ := hd 17 59 (by kernel_rfl)
            unfold Go.Rel.stepOf
            go_simp
            exact hK _ _ (Go.Rel.Grew.refl _) rfl
          · intro a w' hle hs' hd K hK
            obtain ⟨_, tg, rfl⟩ := hd 14 56 (by kernel_rfl)
            obtain ⟨_, t18, rfl⟩ := hd 18 60 (by kernel_rfl)
            obtain ⟨x0, x1, x2, x3⟩ := HX.out w' hle
            unfold Go.Rel.stepOf
            go_simp
            exact hK _ _ (Go.Rel.Grew.refl _) rfl
          · intro a w' hle hs' hd K hK
            obtain ⟨_, tg, rfl⟩ := hd 14 56 (by kernel_rfl)
            have f1 : a.tmps[1]? = some (.pointer (some ⟨B2, 0, none⟩)) := hs'.2.2 1 (by kernel_rfl)
            unfold Go.Rel.stepOf
            go_simp
            exact hK _ _ (Go.Rel.Grew.refl _) rfl
          · intro a w' hle hs' hd K hK
            obtain ⟨_, tg, rfl⟩ := hd 14 56 (by kernel_rfl)
            obtain ⟨_, t20, rfl⟩ := hd 20 62 (by kernel_rfl)
            unfold Go.Rel.stepOf
            go_simp
            exact hK _ _ (Go.Rel.Grew.refl _) rfl
          · intro a w' hle hs' hd K hK
            obtain ⟨_, tg, rfl⟩ := hd 14 56 (by kernel_rfl)
            obtain ⟨_, t21, rfl⟩ := hd 21 63 (by kernel_rfl)
            unfold Go.Rel.stepOf
            go_simp
            exact hK _ _ (Go.Rel.Grew.refl _) rfl
          · intro a w' hle hs' hd K hK
            obtain ⟨_, tg, rfl⟩ := hd 14 56 (by kernel_rfl)
            obtain ⟨_, t22, rfl⟩ := hd 22 64 (by kernel_rfl)
            have cc := (hle.cell (p := ⟨B2, 0, none⟩) hB2).trans C0.out
            unfold Go.Rel.stepOf
            go_simp
            exact hK _ _ (Go.Rel.Grew.refl _) rfl
          · intro a w' hle hs' hd K hK
            obtain ⟨_, tg, rfl⟩ := hd 14 56 (by kernel_rfl)
            have f6 : a.tmps[6]? = some (.int .i64 (k : Int)) := hs'.2.2 6 (by kernel_rfl)
            unfold Go.Rel.stepOf
            go_simp
            exact hK _ _ (Go.Rel.Grew.refl _) rfl
          · intro a w' hle hs' hd K hK
            obtain ⟨_, tg, rfl⟩ := hd 14 56 (by kernel_rfl)
            obtain ⟨_, t23, rfl⟩ := hd 23 65 (by kernel_rfl)
            obtain ⟨_, t24, rfl⟩ := hd 24 66 (by kernel_rfl)
            have q1 := HK.out.1
            have q2 := HK.out.2
            unfold Go.Rel.stepOf
            go_simp
            exact hK _ _ (Go.Rel.Grew.refl _) rfl
          · intro a w' hle hs' hd K hK
            obtain ⟨_, tg, rfl⟩ := hd 14 56 (by kernel_rfl)
            obtain ⟨_, t25, rfl⟩ := hd 25 67 (by kernel_rfl)
            unfold Go.Rel.stepOf
            go_simp
            exact hK _ _ (Go.Rel.Grew.refl _) rfl
          · intro a w' hle hs' hd K hK
            obtain ⟨_, tg, rfl⟩ := hd 14 56 (by kernel_rfl)
            obtain ⟨_, t26, rfl⟩ := hd 26 68 (by kernel_rfl)
            obtain ⟨x0, x1, x2, x3⟩ := HY.out w' hle
            unfold Go.Rel.stepOf
            go_simp
            exact hK _ _ (Go.Rel.Grew.refl _) rfl
          · intro a w' hle hs' hd K hK
            obtain ⟨_, tg, rfl⟩ := hd 14 56 (by kernel_rfl)
            obtain ⟨_, t19, rfl⟩ := hd 19 61 (by kernel_rfl)
            obtain ⟨_, t27, rfl⟩ := hd 27 69 (by kernel_rfl)
            unfold Go.Rel.stepOf
            go_simp
            refine (HSame.out w' hle).mono ?_
            rintro e w2 ⟨rfl, hb⟩
            exact hK _ _ hb rfl
          · intro a w' hle hs' hd K hK
            obtain ⟨_, tg, rfl⟩ := hd 14 56 (by kernel_rfl)
            obtain ⟨_, t28, rfl⟩ := hd 28 70 (by kernel_rfl)
            unfold Go.Rel.stepOf
            go_simp
            exact hK _ _ (Go.Rel.Grew.refl _) rfl
          · intro a w' hle hs' hd K hK
            obtain ⟨_, t14, rfl⟩ := hd 14 56 (by kernel_rfl)
            obtain ⟨_, t29, rfl⟩ := hd 29 71 (by kernel_rfl)
            unfold Go.Rel.stepOf
            go_simp
            exact hK _ _ (Go.Rel.Grew.refl _) rfl
        case hend =>
          intro a w3 hle hs' hR'
          have HG3 := Lib.hid (Go.Rel.Grew.trans HG.out hle)
          clear hle
          obtain ⟨v42, s42, _⟩ := hR' 0 42 (by kernel_rfl)
          obtain ⟨v43, s43, _⟩ := hR' 1 43 (by kernel_rfl)
          obtain ⟨v44, s44, _⟩ := hR' 2 44 (by kernel_rfl)
          obtain ⟨v45, s45, _⟩ := hR' 3 45 (by kernel_rfl)
          obtain ⟨v46, s46, _⟩ := hR' 4 46 (by kernel_rfl)
          obtain ⟨v47, s47, _⟩ := hR' 5 47 (by kernel_rfl)
          obtain ⟨v48, s48, _⟩ := hR' 6 48 (by kernel_rfl)
          obtain ⟨v49, s49, _⟩ := hR' 7 49 (by kernel_rfl)
          obtain ⟨v50, s50, _⟩ := hR' 8 50 (by kernel_rfl)
          obtain ⟨v51, s51, _⟩ := hR' 9 51 (by kernel_rfl)
          obtain ⟨v52, s52, _⟩ := hR' 10 52 (by kernel_rfl)
          obtain ⟨v53, s53, _⟩ := hR' 11 53 (by kernel_rfl)
          obtain ⟨v54, s54, _⟩ := hR' 12 54 (by kernel_rfl)
          obtain ⟨v55, s55, _⟩ := hR' 13 55 (by kernel_rfl)
          obtain ⟨v56, s56, _⟩ := hR' 14 56 (by kernel_rfl)
          obtain ⟨v57, s57, _⟩ := hR' 15 57 (by kernel_rfl)
          obtain ⟨v58, s58, _⟩ := hR' 16 58 (by kernel_rfl)
          obtain ⟨v59, s59, _⟩ := hR' 17 59 (by kernel_rfl)
          obtain ⟨v60, s60, _⟩ := hR' 18 60 (by kernel_rfl)
          obtain ⟨v61, s61, _⟩ := hR' 19 61 (by kernel_rfl)
          obtain ⟨v62, s62, _⟩ := hR' 20 62 (by kernel_rfl)
          obtain ⟨v63, s63, _⟩ := hR' 21 63 (by kernel_rfl)
          obtain ⟨v64, s64, _⟩ := hR' 22 64 (by kernel_rfl)
          obtain ⟨v65, s65, _⟩ := hR' 23 65 (by kernel_rfl)
          obtain ⟨v66, s66, _⟩ := hR' 24 66 (by kernel_rfl)
          obtain ⟨v67, s67, _⟩ := hR' 25 67 (by kernel_rfl)
          obtain ⟨v68, s68, _⟩ := hR' 26 68 (by kernel_rfl)
          obtain ⟨v69, s69, _⟩ := hR' 27 69 (by kernel_rfl)
          obtain ⟨v70, s70, _⟩ := hR' 28 70 (by kernel_rfl)
          obtain ⟨v71, s71, _⟩ := hR' 29 71 (by kernel_rfl)
          obtain ⟨_, s72, rfl⟩ := hR' 30 72 (by kernel_rfl)
          have e := hs'.shape
          simp only [List.toList_toArray, List.foldl, Go.Rel.reset, Array.getD_eq_getD_getElem?, s42, s43, s44, s45, s46, s47, s48, s49, s50, s51, s52, s53, s54, s55, s56, s57, s58, s59, s60, s61, s62, s63, s64, s65, s66, s67, s68, s69, s70, s71, s72, Option.getD_some] at e
          simp at e
          clear hR' hs' s42 s43 s44 s45 s46 s47 s48 s49 s50 s51 s52 s53 s54 s55 s56 s57 s58 s59 s60 s61 s62 s63 s64 s65 s66 s67 s68 s69 s70 s71 s72
          subst e
          go_wp2
          go_roundw
          case rel => exact ⟨k + 1, by go_num, by omega, HG3⟩
          case measure => simp [RowKit.intOf]; omega
      · obtain rfl : k = n := by omega
        go_wp2
        go_ret
        exact ⟨rfl, HB1.out.trans (HG.out.mono HB1.out.size)⟩
end Go.Proofs.Yticjkpnlnonibaa
