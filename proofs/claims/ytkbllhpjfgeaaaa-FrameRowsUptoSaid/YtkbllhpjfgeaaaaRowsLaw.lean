/-
  Of any bytes all frames are told with which they begin, where they end, and why: the law sodalitylaw03.FrameRows over the contracts (for bytes whose frames fit a slice).
-/
import Derived.Test.YtkbllhpjfgeaaaaFRefA
import Derived.Test.YtkbllhpjfgeaaaaRelIn
import Derived.Outline
namespace Go.Proofs.Ytkbllhpjfgeaaaa
open Go.RowKit Go.Shelf Go.Rel
set_option linter.unusedSimpArgs false
set_option linter.unusedVariables false
attribute [local go_sem] Oper.semAt_some

set_option maxHeartbeats 1000000 in
theorem each_any (A : Option Addr) (n c : Nat) (xs : List UInt8) (w : World) (hR : RB w A n xs) (hnil : A = none → c = 0) (hn : n ≤ 140737488351232) :
    Calls Try.prog 20 #[.slice A n c] w fun e w' => ∃ Bn A' c', e = .returned (.func (.func 47) #[] #[.pointer (some ⟨Bn, 0, none⟩)]) ∧ w.heap.size ≤ Bn ∧ Bn < w'.heap.size ∧ w'.cell? ⟨Bn, 0, none⟩ = some (.slice A' n c') ∧ RB w' A' n xs ∧ n ≤ c' ∧ (∀ b off, A' = some ⟨b, off, none⟩ → 0 < n → w.heap.size ≤ b) ∧ Below w.heap.size w w' := by
  obtain ⟨i0, hi, hz0, hz1, hz2⟩ := info_parts u8_info
  have HR := Lib.hid hR
  have HN := Lib.hid hnil
  clear hR hnil
  go_enter Try.func20, Try.ntmps20
  go_wp2_with (at_builtin; refine wpList_append_rbh rfl (.const (.slice none 0 0)) (.tmp 3) 22 rfl w.heap.size i0 Try.underlying22 hi hz0 hz1 hz2 _ 0 [] rfl (World.ownsRow_nil _ _ _ _) A n c xs rfl HN.out HR.out ?c1 ?c2 ?c3 ?_)
  case c1 => unfold maxLen; omega
  case c2 => omega
  case c3 => exact Nat.le_refl _
  refine Lib.hid ?_
  intro v1 w1 hown1 hg1
  have hown2 : w1.ownsRow w.heap.size 5 1 v1 n (xs.map byteV) := by simpa using hown1
  obtain ⟨A1, c1, rfl, hr1, hn1, hc1, _⟩ := RB.own hown2
  have HBase : Hid (∀ b off, A1 = some ⟨b, off, none⟩ → 0 < n → w.heap.size ≤ b) := Lib.hid (fun b off e h => by subst e; exact (hown2.lt b (by simp [Value.ownBlock])).1)
  have hb1 : Below w.heap.size w w1 := (Below.refl _ w).grown hg1 (Nat.le_refl _) (fun j hj => by simp [Value.ownBlock] at hj)
  have HB1 := Lib.hid hb1
  have HR1 := Lib.hid hr1
  clear hown1 hown2 hg1 hr1 hn1 hb1
  go_wp2_with fail
  refine (walk_any A1 n c1 w1).mono ?_
  rintro e w2 ⟨rfl, rfl⟩
  have hsz := HB1.out.size
  go_wp2
  go_ret
  refine ⟨w1.heap.size, A1, c1, rfl, hsz, by simp, ?_, HR1.out.alloc _, hc1, HBase.out, HB1.out.alloc hsz _⟩
  rw [cell_of_row _ w1.heap.size 0 _ _ (0, 0) (heap_alloc_new w1 _)]; rfl

theorem not_told {fs : List Fr} {pre : List Item} {x : Item} (h : pre.length < fs.length) (hne : x.p ≠ placeOf fs pre.length ∨ x.f ≠ fs[pre.length]) : ¬ ItP fs (pre ++ [x]) := by
  rintro ⟨k, hk, hm⟩
  have hl : pre.length + 1 = k := by
    have := congrArg List.length hm
    rw [List.length_map, told_length, List.length_append] at this
    simpa using this
  subst hl
  rw [List.map_append, told_succ fs h] at hm
  have h2 := (List.append_inj' hm rfl).2
  simp only [List.map_cons, List.map_nil, List.cons.injEq, and_true, Item.key, Prod.mk.injEq] at h2
  rcases hne with h3 | h3
  · exact h3 h2.1
  · exact h3 h2.2

def rowsR_a (SW SP SX SF : Value) (k N p pl b1 o1 b2 o2 Bx : Nat) (kx kf : Int) (st1 st3 : ByteArray) : Nat → Value → Prop
  | 0, v => v = .int .i64 (k : Int)
  | 1, v => v = SW
  | 2, v => v = .int .i64 (N : Int)
  | 3, v => v = .bool false
  | 4, v => v = .bool false
  | 5, v => v = .int .i64 (p : Int)
  | 6, v => v = SP
  | 7, v => v = .int .i64 (k : Int)
  | 8, v => v = .pointer (some ⟨b2, o2 + k, none⟩)
  | 9, v => v = .int .i64 (pl : Int)
  | 10, v => v = .bool true
  | 11, v => v = .bool true
  | 12, v => v = .bool true
  | 21, v => v = .bool true
  | 22, v => v = .bool true
  | 33, v => v = .bool true
  | _, _ => True
def rowsR_b (SW SP SX SF : Value) (k N p pl b1 o1 b2 o2 Bx : Nat) (kx kf : Int) (st1 st3 : ByteArray) : Nat → Value → Prop
  | 0, v => v = .int .i64 (k : Int)
  | 1, v => v = SW
  | 2, v => v = .int .i64 (N : Int)
  | 3, v => v = .bool false
  | 4, v => v = .bool false
  | 5, v => v = .int .i64 (p : Int)
  | 6, v => v = SP
  | 7, v => v = .int .i64 (k : Int)
  | 8, v => v = .pointer (some ⟨b2, o2 + k, none⟩)
  | 9, v => v = .int .i64 (pl : Int)
  | 10, v => v = .bool false
  | 11, v => v = .bool false
  | 12, v => v = .bool false
  | 13, v => v = .pointer (some ⟨Bx, 0, none⟩)
  | 14, v => v = .int .u8 kx
  | 15, v => v = SW
  | 16, v => v = .int .i64 (k : Int)
  | 17, v => v = .pointer (some ⟨b1, o1 + k * 2, none⟩)
  | 18, v => v = .pointer (some ⟨b1, o1 + k * 2, none⟩)
  | 19, v => v = .int .u8 kf
  | 20, v => v = .bool true
  | 21, v => v = .bool true
  | 22, v => v = .bool true
  | 33, v => v = .bool true
  | _, _ => True
def rowsR_c (SW SP SX SF : Value) (k N p pl b1 o1 b2 o2 Bx : Nat) (kx kf : Int) (st1 st3 : ByteArray) : Nat → Value → Prop
  | 0, v => v = .int .i64 (k : Int)
  | 1, v => v = SW
  | 2, v => v = .int .i64 (N : Int)
  | 3, v => v = .bool false
  | 4, v => v = .bool false
  | 5, v => v = .int .i64 (p : Int)
  | 6, v => v = SP
  | 7, v => v = .int .i64 (k : Int)
  | 8, v => v = .pointer (some ⟨b2, o2 + k, none⟩)
  | 9, v => v = .int .i64 (pl : Int)
  | 10, v => v = .bool false
  | 11, v => v = .bool false
  | 12, v => v = .bool false
  | 13, v => v = .pointer (some ⟨Bx, 0, none⟩)
  | 14, v => v = .int .u8 kx
  | 15, v => v = SW
  | 16, v => v = .int .i64 (k : Int)
  | 17, v => v = .pointer (some ⟨b1, o1 + k * 2, none⟩)
  | 18, v => v = .pointer (some ⟨b1, o1 + k * 2, none⟩)
  | 19, v => v = .int .u8 kf
  | 20, v => v = .bool false
  | 21, v => v = .bool false
  | 22, v => v = .bool false
  | 23, v => v = .pointer (some ⟨Bx, 1, none⟩)
  | 24, v => v = SX
  | 25, v => v = .string st1
  | 26, v => v = SW
  | 27, v => v = .int .i64 (k : Int)
  | 28, v => v = .pointer (some ⟨b1, o1 + k * 2, none⟩)
  | 29, v => v = .pointer (some ⟨b1, o1 + k * 2 + 1, none⟩)
  | 30, v => v = SF
  | 31, v => v = .string st3
  | 32, v => v = .bool true
  | 33, v => v = .bool true
  | _, _ => True
def rowsR_d (SW SP SX SF : Value) (k N p pl b1 o1 b2 o2 Bx : Nat) (kx kf : Int) (st1 st3 : ByteArray) : Nat → Value → Prop
  | 0, v => v = .int .i64 (k : Int)
  | 1, v => v = SW
  | 2, v => v = .int .i64 (N : Int)
  | 3, v => v = .bool false
  | 4, v => v = .bool false
  | 5, v => v = .int .i64 (p : Int)
  | 6, v => v = SP
  | 7, v => v = .int .i64 (k : Int)
  | 8, v => v = .pointer (some ⟨b2, o2 + k, none⟩)
  | 9, v => v = .int .i64 (pl : Int)
  | 10, v => v = .bool false
  | 11, v => v = .bool false
  | 12, v => v = .bool false
  | 13, v => v = .pointer (some ⟨Bx, 0, none⟩)
  | 14, v => v = .int .u8 kx
  | 15, v => v = SW
  | 16, v => v = .int .i64 (k : Int)
  | 17, v => v = .pointer (some ⟨b1, o1 + k * 2, none⟩)
  | 18, v => v = .pointer (some ⟨b1, o1 + k * 2, none⟩)
  | 19, v => v = .int .u8 kf
  | 20, v => v = .bool false
  | 21, v => v = .bool false
  | 22, v => v = .bool false
  | 23, v => v = .pointer (some ⟨Bx, 1, none⟩)
  | 24, v => v = SX
  | 25, v => v = .string st1
  | 26, v => v = SW
  | 27, v => v = .int .i64 (k : Int)
  | 28, v => v = .pointer (some ⟨b1, o1 + k * 2, none⟩)
  | 29, v => v = .pointer (some ⟨b1, o1 + k * 2 + 1, none⟩)
  | 30, v => v = SF
  | 31, v => v = .string st3
  | 32, v => v = .bool false
  | 33, v => v = .bool false
  | _, _ => True
theorem keeps_of {B : Nat} {W W' : World} (h : Below W.heap.size W W') : KeepsFrom B W W' := ⟨h.size, fun k _ _ h0 _ => (h.block k (Array.getElem?_eq_some_iff.1 h0).1).trans h0⟩

set_option maxHeartbeats 8000000 in
set_option maxRecDepth 100000 in
theorem rows_walk (A : Option Addr) (n c : Nat) (xs : List UInt8) (w : World) (hR : RB w A n xs) (hnil : A = none → c = 0) (hnc : n ≤ c) (hn : n ≤ 1048576) :
    Calls Try.prog 5 #[.slice A n c] w fun e w' => e = .returned (.bool true) ∧ Below w.heap.size w w' := by
  refine (callsIn_wide (n := 3)).1 ?_
  obtain ⟨fs, r, hcut⟩ := cut_all xs
  have hfl : fs.length * 7 ≤ 1048576 := by
    have h1 := encs_length_le fs
    have h2 := hcut.2.1
    have h3 := hR.1
    rw [h2, List.length_append] at h3
    omega
  have HR := Lib.hid hR
  have HCut := Lib.hid hcut
  have S2 := Lib.hid (fun (w1 : World) (hb : Below w.heap.size w w1) => rall_any A n c xs fs r hcut w1 (hR.below hb) hnc (by omega) (by omega))
  have S3 := Lib.hid (fun (w1 : World) (hb : Below w.heap.size w w1) => end_any A n c xs fs r hcut w1 (hR.below hb) hnc (by omega))
  have S4 := Lib.hid (fun (w1 : World) (hb : Below w.heap.size w w1) => each_any A n c xs w1 (hR.below hb) hnil (by omega))
  obtain ⟨N, hN⟩ : ∃ N, fs.length = N := ⟨_, rfl⟩
  obtain ⟨PL, hPL⟩ : ∃ v, placeOf fs fs.length = v := ⟨_, rfl⟩
  obtain ⟨ER, hER⟩ : ∃ v, errE r = v := ⟨_, rfl⟩
  unfold AllPost at S2
  rw [hPL, hER] at S2 S3
  rw [hN] at S2
  have HNN := Lib.hid hN
  obtain ⟨W0, hW0⟩ : ∃ W0, w.alloc (.cells #[.bool false] 4) = W0 := ⟨_, rfl⟩
  have hb0 : Below w.heap.size w W0 := by rw [← hW0]; exact (Below.refl _ w).alloc (Nat.le_refl _) _
  have bR : Boxed W0 w.heap.size 4 (.bool false) := by rw [← hW0]; exact Boxed.new w 4 (.bool false)
  have HB0 := Lib.hid hb0
  have HbR := Lib.hid bR
  have HW0 := Lib.hid hW0
  clear hR hcut hnil hN hPL hER hW0 hb0 bR
  refine callsIn_of_wp_marks Try.func5 rfl trivial ?_ rfl
  simp only [Try.ntmps5, List.size_toArray, List.length_cons, List.length_nil, Nat.reduceAdd, Nat.reduceSub, Array.replicate_succ, Array.replicate_zero, List.push_toArray, List.append_toArray, List.nil_append, List.cons_append]
  gi_wp2_with fail
  rw [HW0.out]
  refine ⟨trivial, (callsIn_wide.2 (works_any W0)).mono ?_⟩
  rintro e w1 ⟨rfl, hb1⟩
  have HB1 : Hid (Below w.heap.size w w1) := Lib.hid (HB0.out.trans (hb1.mono HB0.out.size))
  have HBx1 := Lib.hid hb1
  clear hb1
  gi_wp2_with fail
  refine ⟨trivial, (callsIn_wide.2 (S2.out w1 HB1.out)).mono ?_⟩
  rintro e w2 ⟨hb2, A1, c1, A2, c2, rfl, hF, hP⟩
  have HB2 : Hid (Below w.heap.size w w2) := Lib.hid (HB1.out.trans (hb2.mono HB1.out.size))
  have HBx2 : Hid (Below W0.heap.size W0 w2) := Lib.hid (HBx1.out.trans (hb2.mono HBx1.out.size))
  have HF := Lib.hid hF
  have HP := Lib.hid hP
  clear hb2 hF hP
  obtain ⟨W3, hW3⟩ : ∃ W3, (w2.alloc (.cells #[.slice A1 N c1] 38)).alloc (.cells #[.slice A2 N c2] 39) = W3 := ⟨_, rfl⟩
  have hb23 : Below w2.heap.size w2 W3 := by rw [← hW3]; exact ((Below.refl _ _).alloc (Nat.le_refl _) _).alloc (by simp) _
  have bW : Boxed W3 w2.heap.size 38 (.slice A1 N c1) := by rw [← hW3]; exact (Boxed.new w2 _ _).alloc _
  have bP : Boxed W3 (w2.heap.size + 1) 39 (.slice A2 N c2) := by
    have := Boxed.new (w2.alloc (.cells #[.slice A1 N c1] 38)) 39 (.slice A2 N c2)
    rwa [World.size_alloc, hW3] at this
  have hs3 : W3.heap.size = w2.heap.size + 2 := by rw [← hW3]; simp
  have HB3 : Hid (Below w.heap.size w W3) := Lib.hid (HB2.out.trans (hb23.mono HB2.out.size))
  have HBx3 : Hid (Below W0.heap.size W0 W3) := Lib.hid (HBx2.out.trans (hb23.mono HBx2.out.size))
  have HF3 := Lib.hid (HF.out.below hb23)
  have HP3 := Lib.hid (HP.out.below hb23)
  have HbW := Lib.hid bW
  have HbP := Lib.hid bP
  have HW3 := Lib.hid hW3
  have HS3 := Lib.hid hs3
  clear hb23 bW bP hW3 hs3
  gi_wp2_with fail
  rw [HW3.out]
  refine ⟨trivial, (callsIn_wide.2 (S3.out W3 HB3.out)).mono ?_⟩
  rintro e w4 ⟨rfl, hb4⟩
  have HB4 : Hid (Below w.heap.size w w4) := Lib.hid (HB3.out.trans (hb4.mono HB3.out.size))
  have HBx4 : Hid (Below W3.heap.size W3 w4) := Lib.hid hb4
  clear hb4
  gi_wp2_with fail
  obtain ⟨W5, hW5⟩ : ∃ W5, w4.alloc (.cells #[.int .i64 0] 3) = W5 := ⟨_, rfl⟩
  have hb45 : Below w4.heap.size w4 W5 := by rw [← hW5]; exact (Below.refl _ _).alloc (Nat.le_refl _) _
  have bK : Boxed W5 w4.heap.size 3 (.int .i64 0) := by rw [← hW5]; exact Boxed.new w4 _ _
  have HB5 : Hid (Below w.heap.size w W5) := Lib.hid (HB4.out.trans (hb45.mono HB4.out.size))
  have HB45 := Lib.hid hb45
  have HbK := Lib.hid bK
  have hz5 : w4.heap.size < W5.heap.size := by rw [← hW5]; simp
  rw [hW5]
  clear hb45 bK hW5
  refine ⟨trivial, (callsIn_wide.2 (S4.out W5 HB5.out)).mono ?_⟩
  rintro e w6 ⟨Bn, A', c', rfl, hBn1, hBn2, hcB, hRB, hnc', hbase, hb6⟩
  have HSlt : Hid (∀ k, (k = Bn ∨ (0 < n ∧ ∃ off, A' = some ⟨k, off, none⟩)) → k < w6.heap.size) := Lib.hid (fun k hk => by
      rcases hk with rfl | ⟨h, off, e⟩
      · exact hBn2
      · obtain ⟨b', o', e', hlt, _⟩ := hRB.2 h
        rw [e] at e'; cases e'; exact hlt)
  have HSge : Hid (∀ k, (k = Bn ∨ (0 < n ∧ ∃ off, A' = some ⟨k, off, none⟩)) → W5.heap.size ≤ k) := Lib.hid (fun k hk => by
      rcases hk with rfl | ⟨h, off, e⟩
      · exact hBn1
      · exact hbase k off e h)
  have HSeq := Lib.hid (walk_tellsS (fun k => k = Bn ∨ (0 < n ∧ ∃ off, A' = some ⟨k, off, none⟩)) (3 - 1) (by omega) Bn n c' A' xs fs r HCut.out w6 (.inl rfl) (fun b off e h => .inr ⟨h, off, e⟩)
    HSlt.out hcB hRB hnc' (by omega))
  have hz65 := hb6.size
  have HB6 : Hid (Below w4.heap.size w4 w6) := Lib.hid (HB45.out.trans (hb6.mono (by omega)))
  have HK6 : Hid (Boxed w6 w4.heap.size 3 (.int .i64 0)) := Lib.hid ((hb6.block w4.heap.size hz5).trans HbK.out)
  have HF4 := Lib.hid (HF3.out.below HBx4.out)
  have HP4 := Lib.hid (HP3.out.below HBx4.out)
  have hz34 := HBx4.out.size
  have hs3 := HS3.out
  have hz03 := HBx3.out.size
  have hzw0 := HB0.out.size
  have HBW4 : Hid (Boxed w4 w2.heap.size 38 (.slice A1 N c1)) := Lib.hid ((HBx4.out.block w2.heap.size (by omega)).trans HbW.out)
  have HBP4 : Hid (Boxed w4 (w2.heap.size + 1) 39 (.slice A2 N c2)) := Lib.hid ((HBx4.out.block (w2.heap.size + 1) (by omega)).trans HbP.out)
  have hW0s : w.heap.size < W0.heap.size := (Array.getElem?_eq_some_iff.1 HbR.out).1
  have HBR4 : Hid (Boxed w4 w.heap.size 4 (.bool false)) := Lib.hid ((HBx4.out.block w.heap.size (by omega)).trans ((HBx3.out.block w.heap.size hW0s).trans HbR.out))
  have HBas := Lib.hid hbase
  have HBw4 := HB4
  clear hb6 hcB hRB hnc' hbase
  gi_wp2
  refine wpIn_range_tells rfl (by omega) (gf := 47) (lb := #[.pointer (some ⟨Bn, 0, none⟩)]) (by simp [go_sem]) trivial (enters_of Try.func47 (by kernel_rfl) rfl) HSeq.out kpS_t (kpS_b HSlt.out) (Below.refl _ _) (fun _ => rfl)
    (fun pre W => Boxed W w4.heap.size 3 (.int .i64 ((pre.length : Nat) : Int)) ∧ Below w4.heap.size w4 W ∧ w6.heap.size ≤ W.heap.size)
    (fun _ pre _ => ¬ ItP fs pre)
    (OwnFrom.and (Own.from (boxed_own w4.heap.size 3 (fun pre : List Item => .int .i64 ((pre.length : Nat) : Int))) _) (OwnFrom.and (ownFrom_below (Nat.le_refl _) (by omega)) (ownFrom_size _ _)))
    (fun _ _ _ _ _ hs _ _ => hs)
    ⟨HK6.out, HB6.out, Nat.le_refl _⟩
    (itemAx (fun x Bx => { tmps := #[.slice A n c, undef, .pointer (some ⟨w.heap.size, 0, none⟩), .pointer (some ⟨w2.heap.size, 0, none⟩), .pointer (some ⟨w2.heap.size + 1, 0, none⟩), .int .i64 (PL : Int), .int .i64 (ER : Int), .int .i64 (PL : Int), .int .i64 (ER : Int), .pointer (some ⟨w4.heap.size, 0, none⟩), .int .i64 (x.p : Int), .pointer (some ⟨Bx, 0, none⟩), .bool true, .bool false, .tuple #[.slice A1 N c1, .slice A2 N c2, .int .i64 (PL : Int), .int .i64 (ER : Int)], .slice A n c, .tuple #[.slice A1 N c1, .slice A2 N c2, .int .i64 (PL : Int), .int .i64 (ER : Int)], .slice A1 N c1, .slice A2 N c2, .int .i64 (PL : Int), .int .i64 (ER : Int), .tuple #[.int .i64 (PL : Int), .int .i64 (ER : Int)], .slice A n c, .tuple #[.int .i64 (PL : Int), .int .i64 (ER : Int)], .int .i64 (PL : Int), .int .i64 (ER : Int), .int .i64 (PL : Int), .int .i64 (PL : Int), .bool false, .bool false, .int .i64 (ER : Int), .int .i64 (ER : Int), .bool false, .bool false, .slice A n c, .func (.func 47) #[] #[.pointer (some ⟨Bn, 0, none⟩)], .int .i64 (x.p : Int), frV x.f x.A x.c, undef, undef, undef, undef, undef, undef, undef, undef, undef, undef, undef, undef, undef, undef, undef, undef, undef, undef, undef, undef, undef, undef, undef, undef, undef, undef, undef, undef, undef, undef, undef, undef, undef, undef, undef, undef, undef, undef, undef, undef], defers := [] }))
    (itemAx_own _ _) ?assign ?body ?done ?stop
  case assign =>
    rintro l pre x W K ⟨hb, hB, hz⟩ hR' hK
    unfold itemEncs frV
    gi_wp2
    have hbx : Below W.heap.size W (W.alloc (.cells #[.int .u8 (x.f.k.toNat : Int), .slice x.A x.f.b.length x.c] 24)) := (Below.refl _ W).alloc (Nat.le_refl _) _
    obtain ⟨e0, e1, _, _⟩ := box2 (Below.refl (W.heap.size + 1) (W.alloc (.cells #[.int .u8 (x.f.k.toNat : Int), .slice x.A x.f.b.length x.c] 24)))
    exact hK _ _ ((KeepsOthers.alloc _ _).from _) (kpS_of hbx (fun k hk => Nat.lt_of_lt_of_le (HSlt.out k hk) hz)) ⟨hb.alloc _, hB.alloc (by omega) _, by simp; omega⟩ ⟨W.heap.size, e0, e1, ⟨⟨hR'.1.1.below hbx, hR'.1.2.grown (grown_of hbx none) (fun r e => by cases e)⟩, hR'.2⟩, rfl⟩
  case body =>
    rintro l pre x a' W hl ⟨r0, hr0⟩ ⟨hb, hB, hz⟩ ⟨Bx, e0, e1, ⟨⟨⟨hRx, hx2⟩, hty⟩, hxl, hxp⟩, rfl⟩ hlt
    obtain ⟨k, hk⟩ : ∃ k, pre.length = k := ⟨_, rfl⟩
    rw [hk] at hb
    have hkN : k < N := by rw [← hk, ← HNN.out]; exact hlt
    have hkf : k < fs.length := by rw [HNN.out]; exact hkN
    have hFW := HF4.out.below hB
    have hPW := HP4.out.below hB
    obtain ⟨b1, o1, hA1, hbb1, hat⟩ := hFW.2 (by omega)
    obtain ⟨b2, o2, hA2, hbb2, hpl⟩ := hPW (by omega)
    subst hA1 hA2
    obtain ⟨f, hf⟩ : ∃ f, fs[k] = f := ⟨_, rfl⟩
    have hfr := hat k hkf
    rw [hf] at hfr
    obtain ⟨_, x0, A3, c3, x1, y1⟩ := hfr
    have z0 := hpl k hkN
    obtain ⟨pl, hplv⟩ : ∃ v, placeOf fs k = v := ⟨_, rfl⟩
    rw [hplv] at z0
    have cW := ((show Boxed W w2.heap.size 38 (.slice (some ⟨b1, o1, none⟩) N c1) from (hB.block w2.heap.size (by omega)).trans HBW4.out)).cell
    have cP := ((show Boxed W (w2.heap.size + 1) 39 (.slice (some ⟨b2, o2, none⟩) N c2) from (hB.block (w2.heap.size + 1) (by omega)).trans HBP4.out)).cell
    have bRW : Boxed W w.heap.size 4 (.bool false) := (hB.block w.heap.size (by omega)).trans HBR4.out
    have cR := bRW.cell
    have fR := bRW.frozen
    have cK := hb.cell
    have fK := hb.frozen
    have HB := Lib.hid hB
    have HbK := Lib.hid hb
    have HHK := Lib.hid hk
    obtain ⟨p, hp⟩ : ∃ p, x.p = p := ⟨_, rfl⟩
    obtain ⟨kx, hkx⟩ : ∃ v : Int, (x.f.k.toNat : Int) = v := ⟨_, rfl⟩
    obtain ⟨kf, hkf'⟩ : ∃ v : Int, (f.k.toNat : Int) = v := ⟨_, rfl⟩
    obtain ⟨l1, hl1⟩ : ∃ v : Nat, x.f.b.length = v := ⟨_, rfl⟩
    obtain ⟨l3, hl3⟩ : ∃ v : Nat, f.b.length = v := ⟨_, rfl⟩
    obtain ⟨st1, hst1⟩ : ∃ st : ByteArray, (⟨x.f.b.toArray⟩ : ByteArray) = st := ⟨_, rfl⟩
    obtain ⟨st3, hst3⟩ : ∃ st : ByteArray, (⟨f.b.toArray⟩ : ByteArray) = st := ⟨_, rfl⟩
    have y1' := y1.1
    rw [hl1] at hRx e1
    rw [hl3] at y1' x1
    rw [hkx] at e0
    rw [hkf'] at x0
    have HRX := Lib.hid hRx
    have HY1 := Lib.hid y1'
    have HS1 := Lib.hid hst1
    have HS3' := Lib.hid hst3
    have g0 : (0 : Int) ≤ (k : Int) := by omega
    have g1 : (k : Int) < (N : Int) := by omega
    have HNe : Hid ((p ≠ pl ∨ x.f ≠ f) → ¬ ItP fs (pre ++ [x])) := Lib.hid (fun h => not_told hlt (by
      have e2 : placeOf fs pre.length = pl := by rw [hk, hplv]
      have e3 : fs[pre.length] = f := by simp only [hk]; exact hf
      rw [e2, e3, hp]
      exact h))
    unfold frV
    dsimp only
    rw [hp, hkx, hl1]
    by_cases qp : p = pl
    · by_cases qk : kx = kf
      · by_cases qs : st1.toList = st3.toList
        · have u1 : (st1.toList == st3.toList) = true := by rw [beq_iff_eq]; exact qs
          have u1' : (st1.toList != st3.toList) = false := by simp [bne, u1]
          subst qp qk
          clear qs hlt hat hpl hr0 hty hRx hx2 hxl hxp y1 y1' hf hplv hst1 hst3 hl1 hl3 hkx hkf' hp hk hFW hPW bRW
          gi_wp2
          refine Go.Rel.wpIn_region_grew (by kernel_rfl) (by kernel_rfl) (by kernel_rfl) (by kernel_rfl) (fun i v _ => rowsR_d (.slice (some ⟨b1, o1, none⟩) N c1) (.slice (some ⟨b2, o2, none⟩) N c2) (.slice x.A l1 x.c) (.slice A3 l3 c3) k N p p b1 o1 b2 o2 Bx kx kx st1 st3 i v) (fun _ _ _ _ h _ => h) ?hsteps ?hend
          case hsteps =>
            refine .cons ?_ (.cons ?_ (.cons ?_ (.cons ?_ (.cons ?_ (.cons ?_ (.cons ?_ (.cons ?_ (.cons ?_ (.cons ?_ (.cons ?_ (.cons ?_ (.cons ?_ (.cons ?_ (.cons ?_ (.cons ?_ (.cons ?_ (.cons ?_ (.cons ?_ (.cons ?_ (.cons ?_ (.cons ?_ (.cons ?_ (.cons ?_ (.cons ?_ (.cons ?_ (.cons ?_ (.cons ?_ (.cons ?_ (.cons ?_ (.cons ?_ (.cons ?_ (.cons ?_ (.cons ?_ (.nil))))))))))))))))))))))))))))))))))
            · intro a w' hle hs' hd K hK
              have s0 : a.tmps[9]? = some (.pointer (some ⟨w4.heap.size, 0, none⟩)) := hs'.2.2 9 (by kernel_rfl)
              have q := (hle.cell (p := ⟨w4.heap.size, 0, none⟩) (bcell_lt cK)).trans cK
              unfold Go.Rel.stepIn
              go_simp
              exact hK _ _ (Go.Rel.Grew.refl _) rfl
            · intro a w' hle hs' hd K hK
              have s0 : a.tmps[3]? = some (.pointer (some ⟨w2.heap.size, 0, none⟩)) := hs'.2.2 3 (by kernel_rfl)
              have q := (hle.cell (p := ⟨w2.heap.size, 0, none⟩) (bcell_lt cW)).trans cW
              unfold Go.Rel.stepIn
              go_simp
              exact hK _ _ (Go.Rel.Grew.refl _) rfl
            · intro a w' hle hs' hd K hK
              obtain ⟨_, t0, rfl⟩ := hd 1 39 (by kernel_rfl)
              have hge : decide ((N : Int) ≤ (k : Int)) = false := by simp; omega
              have hge' : decide (N ≤ k) = false := by simp; omega
              unfold Go.Rel.stepIn
              go_simp
              exact hK _ _ (Go.Rel.Grew.refl _) rfl
            · intro a w' hle hs' hd K hK
              obtain ⟨_, t0, rfl⟩ := hd 0 38 (by kernel_rfl)
              obtain ⟨_, t1, rfl⟩ := hd 2 40 (by kernel_rfl)
              have hge : decide ((N : Int) ≤ (k : Int)) = false := by simp; omega
              have hge' : decide (N ≤ k) = false := by simp; omega
              unfold Go.Rel.stepIn
              go_simp
              exact hK _ _ (Go.Rel.Grew.refl _) rfl
            · intro a w' hle hs' hd K hK
              obtain ⟨_, t0, rfl⟩ := hd 3 41 (by kernel_rfl)
              unfold Go.Rel.stepIn
              go_simp
              exact hK _ _ (Go.Rel.Grew.refl _) rfl
            · intro a w' hle hs' hd K hK
              obtain ⟨_, t0, rfl⟩ := hd 4 42 (by kernel_rfl)
              have s0 : a.tmps[10]? = some (.int .i64 (p : Int)) := hs'.2.2 10 (by kernel_rfl)
              unfold Go.Rel.stepIn
              go_simp
              exact hK _ _ (Go.Rel.Grew.refl _) rfl
            · intro a w' hle hs' hd K hK
              obtain ⟨_, t0, rfl⟩ := hd 4 42 (by kernel_rfl)
              have s0 : a.tmps[4]? = some (.pointer (some ⟨w2.heap.size + 1, 0, none⟩)) := hs'.2.2 4 (by kernel_rfl)
              have q := (hle.cell (p := ⟨w2.heap.size + 1, 0, none⟩) (bcell_lt cP)).trans cP
              unfold Go.Rel.stepIn
              go_simp
              exact hK _ _ (Go.Rel.Grew.refl _) rfl
            · intro a w' hle hs' hd K hK
              obtain ⟨_, t0, rfl⟩ := hd 4 42 (by kernel_rfl)
              have s0 : a.tmps[9]? = some (.pointer (some ⟨w4.heap.size, 0, none⟩)) := hs'.2.2 9 (by kernel_rfl)
              have q := (hle.cell (p := ⟨w4.heap.size, 0, none⟩) (bcell_lt cK)).trans cK
              unfold Go.Rel.stepIn
              go_simp
              exact hK _ _ (Go.Rel.Grew.refl _) rfl
            · intro a w' hle hs' hd K hK
              obtain ⟨_, t0, rfl⟩ := hd 4 42 (by kernel_rfl)
              obtain ⟨_, t1, rfl⟩ := hd 6 44 (by kernel_rfl)
              obtain ⟨_, t2, rfl⟩ := hd 7 45 (by kernel_rfl)
              unfold Go.Rel.stepIn
              go_simp
              exact hK _ _ (Go.Rel.Grew.refl _) rfl
            · intro a w' hle hs' hd K hK
              obtain ⟨_, t0, rfl⟩ := hd 4 42 (by kernel_rfl)
              obtain ⟨_, t1, rfl⟩ := hd 8 46 (by kernel_rfl)
              have q := (hle.cell (p := ⟨b2, o2 + k, none⟩) (bcell_lt z0)).trans z0
              unfold Go.Rel.stepIn
              go_simp
              exact hK _ _ (Go.Rel.Grew.refl _) rfl
            · intro a w' hle hs' hd K hK
              obtain ⟨_, t0, rfl⟩ := hd 4 42 (by kernel_rfl)
              obtain ⟨_, t1, rfl⟩ := hd 5 43 (by kernel_rfl)
              obtain ⟨_, t2, rfl⟩ := hd 9 47 (by kernel_rfl)
              unfold Go.Rel.stepIn
              go_simp
              exact hK _ _ (Go.Rel.Grew.refl _) (by first | rfl | exact congrArg Value.bool (by first | exact u1' | exact u2' | simp [u1]))
            · intro a w' hle hs' hd K hK
              obtain ⟨_, t0, rfl⟩ := hd 4 42 (by kernel_rfl)
              obtain ⟨_, t1, rfl⟩ := hd 10 48 (by kernel_rfl)
              unfold Go.Rel.stepIn
              go_simp
              exact hK _ _ (Go.Rel.Grew.refl _) rfl
            · intro a w' hle hs' hd K hK
              obtain ⟨_, t0, rfl⟩ := hd 11 49 (by kernel_rfl)
              unfold Go.Rel.stepIn
              go_simp
              exact hK _ _ (Go.Rel.Grew.refl _) rfl
            · intro a w' hle hs' hd K hK
              obtain ⟨_, t0, rfl⟩ := hd 12 50 (by kernel_rfl)
              have s0 : a.tmps[11]? = some (.pointer (some ⟨Bx, 0, none⟩)) := hs'.2.2 11 (by kernel_rfl)
              unfold Go.Rel.stepIn
              go_simp
              exact hK _ _ (Go.Rel.Grew.refl _) rfl
            · intro a w' hle hs' hd K hK
              obtain ⟨_, t0, rfl⟩ := hd 12 50 (by kernel_rfl)
              obtain ⟨_, t1, rfl⟩ := hd 13 51 (by kernel_rfl)
              have q := (hle.cell (p := ⟨Bx, 0, none⟩) (bcell_lt e0)).trans e0
              unfold Go.Rel.stepIn
              go_simp
              exact hK _ _ (Go.Rel.Grew.refl _) rfl
            · intro a w' hle hs' hd K hK
              obtain ⟨_, t0, rfl⟩ := hd 12 50 (by kernel_rfl)
              have s0 : a.tmps[3]? = some (.pointer (some ⟨w2.heap.size, 0, none⟩)) := hs'.2.2 3 (by kernel_rfl)
              have q := (hle.cell (p := ⟨w2.heap.size, 0, none⟩) (bcell_lt cW)).trans cW
              unfold Go.Rel.stepIn
              go_simp
              exact hK _ _ (Go.Rel.Grew.refl _) rfl
            · intro a w' hle hs' hd K hK
              obtain ⟨_, t0, rfl⟩ := hd 12 50 (by kernel_rfl)
              have s0 : a.tmps[9]? = some (.pointer (some ⟨w4.heap.size, 0, none⟩)) := hs'.2.2 9 (by kernel_rfl)
              have q := (hle.cell (p := ⟨w4.heap.size, 0, none⟩) (bcell_lt cK)).trans cK
              unfold Go.Rel.stepIn
              go_simp
              exact hK _ _ (Go.Rel.Grew.refl _) rfl
            · intro a w' hle hs' hd K hK
              obtain ⟨_, t0, rfl⟩ := hd 12 50 (by kernel_rfl)
              obtain ⟨_, t1, rfl⟩ := hd 15 53 (by kernel_rfl)
              obtain ⟨_, t2, rfl⟩ := hd 16 54 (by kernel_rfl)
              unfold Go.Rel.stepIn
              go_simp
              exact hK _ _ (Go.Rel.Grew.refl _) rfl
            · intro a w' hle hs' hd K hK
              obtain ⟨_, t0, rfl⟩ := hd 12 50 (by kernel_rfl)
              obtain ⟨_, t1, rfl⟩ := hd 17 55 (by kernel_rfl)
              unfold Go.Rel.stepIn
              go_simp
              exact hK _ _ (Go.Rel.Grew.refl _) rfl
            · intro a w' hle hs' hd K hK
              obtain ⟨_, t0, rfl⟩ := hd 12 50 (by kernel_rfl)
              obtain ⟨_, t1, rfl⟩ := hd 18 56 (by kernel_rfl)
              have q := (hle.cell (p := ⟨b1, o1 + k * 2, none⟩) (bcell_lt x0)).trans x0
              unfold Go.Rel.stepIn
              go_simp
              exact hK _ _ (Go.Rel.Grew.refl _) rfl
            · intro a w' hle hs' hd K hK
              obtain ⟨_, t0, rfl⟩ := hd 12 50 (by kernel_rfl)
              obtain ⟨_, t1, rfl⟩ := hd 14 52 (by kernel_rfl)
              obtain ⟨_, t2, rfl⟩ := hd 19 57 (by kernel_rfl)
              unfold Go.Rel.stepIn
              go_simp
              exact hK _ _ (Go.Rel.Grew.refl _) (by first | rfl | exact congrArg Value.bool (by first | exact u1' | exact u2' | simp [u1]))
            · intro a w' hle hs' hd K hK
              obtain ⟨_, t0, rfl⟩ := hd 12 50 (by kernel_rfl)
              obtain ⟨_, t1, rfl⟩ := hd 20 58 (by kernel_rfl)
              unfold Go.Rel.stepIn
              go_simp
              exact hK _ _ (Go.Rel.Grew.refl _) rfl
            · intro a w' hle hs' hd K hK
              obtain ⟨_, t0, rfl⟩ := hd 21 59 (by kernel_rfl)
              unfold Go.Rel.stepIn
              go_simp
              exact hK _ _ (Go.Rel.Grew.refl _) rfl
            · intro a w' hle hs' hd K hK
              obtain ⟨_, t0, rfl⟩ := hd 22 60 (by kernel_rfl)
              have s0 : a.tmps[11]? = some (.pointer (some ⟨Bx, 0, none⟩)) := hs'.2.2 11 (by kernel_rfl)
              unfold Go.Rel.stepIn
              go_simp
              exact hK _ _ (Go.Rel.Grew.refl _) rfl
            · intro a w' hle hs' hd K hK
              obtain ⟨_, t0, rfl⟩ := hd 22 60 (by kernel_rfl)
              obtain ⟨_, t1, rfl⟩ := hd 23 61 (by kernel_rfl)
              have q := (hle.cell (p := ⟨Bx, 1, none⟩) (bcell_lt e1)).trans e1
              unfold Go.Rel.stepIn
              go_simp
              exact hK _ _ (Go.Rel.Grew.refl _) rfl
            · intro a w' hle hs' hd K hK
              obtain ⟨_, t0, rfl⟩ := hd 22 60 (by kernel_rfl)
              obtain ⟨_, t1, rfl⟩ := hd 24 62 (by kernel_rfl)
              have q := own_conv (HRX.out.below hle) x.c
              rw [HS1.out] at q
              unfold Go.Rel.stepIn
              go_simp
              exact hK _ _ (Go.Rel.Grew.refl _) rfl
            · intro a w' hle hs' hd K hK
              obtain ⟨_, t0, rfl⟩ := hd 22 60 (by kernel_rfl)
              have s0 : a.tmps[3]? = some (.pointer (some ⟨w2.heap.size, 0, none⟩)) := hs'.2.2 3 (by kernel_rfl)
              have q := (hle.cell (p := ⟨w2.heap.size, 0, none⟩) (bcell_lt cW)).trans cW
              unfold Go.Rel.stepIn
              go_simp
              exact hK _ _ (Go.Rel.Grew.refl _) rfl
            · intro a w' hle hs' hd K hK
              obtain ⟨_, t0, rfl⟩ := hd 22 60 (by kernel_rfl)
              have s0 : a.tmps[9]? = some (.pointer (some ⟨w4.heap.size, 0, none⟩)) := hs'.2.2 9 (by kernel_rfl)
              have q := (hle.cell (p := ⟨w4.heap.size, 0, none⟩) (bcell_lt cK)).trans cK
              unfold Go.Rel.stepIn
              go_simp
              exact hK _ _ (Go.Rel.Grew.refl _) rfl
            · intro a w' hle hs' hd K hK
              obtain ⟨_, t0, rfl⟩ := hd 22 60 (by kernel_rfl)
              obtain ⟨_, t1, rfl⟩ := hd 26 64 (by kernel_rfl)
              obtain ⟨_, t2, rfl⟩ := hd 27 65 (by kernel_rfl)
              unfold Go.Rel.stepIn
              go_simp
              exact hK _ _ (Go.Rel.Grew.refl _) rfl
            · intro a w' hle hs' hd K hK
              obtain ⟨_, t0, rfl⟩ := hd 22 60 (by kernel_rfl)
              obtain ⟨_, t1, rfl⟩ := hd 28 66 (by kernel_rfl)
              unfold Go.Rel.stepIn
              go_simp
              exact hK _ _ (Go.Rel.Grew.refl _) rfl
            · intro a w' hle hs' hd K hK
              obtain ⟨_, t0, rfl⟩ := hd 22 60 (by kernel_rfl)
              obtain ⟨_, t1, rfl⟩ := hd 29 67 (by kernel_rfl)
              have q := (hle.cell (p := ⟨b1, o1 + k * 2 + 1, none⟩) (bcell_lt x1)).trans x1
              unfold Go.Rel.stepIn
              go_simp
              exact hK _ _ (Go.Rel.Grew.refl _) rfl
            · intro a w' hle hs' hd K hK
              obtain ⟨_, t0, rfl⟩ := hd 22 60 (by kernel_rfl)
              obtain ⟨_, t1, rfl⟩ := hd 30 68 (by kernel_rfl)
              have q := own_conv (HY1.out.below hle) c3
              rw [HS3'.out] at q
              unfold Go.Rel.stepIn
              go_simp
              exact hK _ _ (Go.Rel.Grew.refl _) rfl
            · intro a w' hle hs' hd K hK
              obtain ⟨_, t0, rfl⟩ := hd 22 60 (by kernel_rfl)
              obtain ⟨_, t1, rfl⟩ := hd 25 63 (by kernel_rfl)
              obtain ⟨_, t2, rfl⟩ := hd 31 69 (by kernel_rfl)
              have uu := u1
              unfold Go.Rel.stepIn
              go_simp
              exact hK _ _ (Go.Rel.Grew.refl _) (by first | rfl | exact congrArg Value.bool (by first | exact u1' | exact u2' | simp [u1]))
            · intro a w' hle hs' hd K hK
              obtain ⟨_, t0, rfl⟩ := hd 22 60 (by kernel_rfl)
              obtain ⟨_, t1, rfl⟩ := hd 32 70 (by kernel_rfl)
              unfold Go.Rel.stepIn
              go_simp
              exact hK _ _ (Go.Rel.Grew.refl _) rfl
          case hend =>
            intro a w' hle hs' hR2
            obtain ⟨_, s38, rfl⟩ := hR2 0 38 (by kernel_rfl)
            obtain ⟨_, s39, rfl⟩ := hR2 1 39 (by kernel_rfl)
            obtain ⟨_, s40, rfl⟩ := hR2 2 40 (by kernel_rfl)
            obtain ⟨_, s41, rfl⟩ := hR2 3 41 (by kernel_rfl)
            obtain ⟨_, s42, rfl⟩ := hR2 4 42 (by kernel_rfl)
            obtain ⟨_, s43, rfl⟩ := hR2 5 43 (by kernel_rfl)
            obtain ⟨_, s44, rfl⟩ := hR2 6 44 (by kernel_rfl)
            obtain ⟨_, s45, rfl⟩ := hR2 7 45 (by kernel_rfl)
            obtain ⟨_, s46, rfl⟩ := hR2 8 46 (by kernel_rfl)
            obtain ⟨_, s47, rfl⟩ := hR2 9 47 (by kernel_rfl)
            obtain ⟨_, s48, rfl⟩ := hR2 10 48 (by kernel_rfl)
            obtain ⟨_, s49, rfl⟩ := hR2 11 49 (by kernel_rfl)
            obtain ⟨_, s50, rfl⟩ := hR2 12 50 (by kernel_rfl)
            obtain ⟨_, s51, rfl⟩ := hR2 13 51 (by kernel_rfl)
            obtain ⟨_, s52, rfl⟩ := hR2 14 52 (by kernel_rfl)
            obtain ⟨_, s53, rfl⟩ := hR2 15 53 (by kernel_rfl)
            obtain ⟨_, s54, rfl⟩ := hR2 16 54 (by kernel_rfl)
            obtain ⟨_, s55, rfl⟩ := hR2 17 55 (by kernel_rfl)
            obtain ⟨_, s56, rfl⟩ := hR2 18 56 (by kernel_rfl)
            obtain ⟨_, s57, rfl⟩ := hR2 19 57 (by kernel_rfl)
            obtain ⟨_, s58, rfl⟩ := hR2 20 58 (by kernel_rfl)
            obtain ⟨_, s59, rfl⟩ := hR2 21 59 (by kernel_rfl)
            obtain ⟨_, s60, rfl⟩ := hR2 22 60 (by kernel_rfl)
            obtain ⟨_, s61, rfl⟩ := hR2 23 61 (by kernel_rfl)
            obtain ⟨_, s62, rfl⟩ := hR2 24 62 (by kernel_rfl)
            obtain ⟨_, s63, rfl⟩ := hR2 25 63 (by kernel_rfl)
            obtain ⟨_, s64, rfl⟩ := hR2 26 64 (by kernel_rfl)
            obtain ⟨_, s65, rfl⟩ := hR2 27 65 (by kernel_rfl)
            obtain ⟨_, s66, rfl⟩ := hR2 28 66 (by kernel_rfl)
            obtain ⟨_, s67, rfl⟩ := hR2 29 67 (by kernel_rfl)
            obtain ⟨_, s68, rfl⟩ := hR2 30 68 (by kernel_rfl)
            obtain ⟨_, s69, rfl⟩ := hR2 31 69 (by kernel_rfl)
            obtain ⟨_, s70, rfl⟩ := hR2 32 70 (by kernel_rfl)
            obtain ⟨_, s71, rfl⟩ := hR2 33 71 (by kernel_rfl)
            have e := hs'.shape
            simp only [List.toList_toArray, List.foldl, Go.Rel.reset, Array.getD_eq_getD_getElem?, s38, s39, s40, s41, s42, s43, s44, s45, s46, s47, s48, s49, s50, s51, s52, s53, s54, s55, s56, s57, s58, s59, s60, s61, s62, s63, s64, s65, s66, s67, s68, s69, s70, s71, Option.getD_some] at e
            simp at e
            have q0 := (hle.cell (p := ⟨w4.heap.size, 0, none⟩) (bcell_lt cK)).trans cK
            have q1 := (hle.frozen (p := ⟨w4.heap.size, 0, none⟩) (bcell_lt cK)).trans fK
            have HLE := Lib.hid hle
            clear hR2 hs' hle s38 s39 s40 s41 s42 s43 s44 s45 s46 s47 s48 s49 s50 s51 s52 s53 s54 s55 s56 s57 s58 s59 s60 s61 s62 s63 s64 s65 s66 s67 s68 s69 s70 s71
            subst e
            gi_wp2
            have hWs := HLE.out.size
            have hbk := (HLE.out.block w4.heap.size (Array.getElem?_eq_some_iff.1 HbK.out).1).trans HbK.out
            refine ⟨(keeps_of HLE.out).trans ((KeepsOthers.setCell _ _ _).from _), ⟨?_, fun q hq => ?_⟩, ?_, ?_, ?_⟩
            · exact Nat.le_trans hWs (grown_set w' w4.heap.size 0 _).size
            · have h1 := HSge.out q hq
              have h2 := HSlt.out q hq
              exact ((grown_set w' w4.heap.size 0 _).block q (by omega) (by simp; omega)).trans (HLE.out.block q (by omega))
            · have := Boxed.set (.int .i64 ((k : Int) + 1)) hbk
              rw [List.length_append, HHK.out]
              simpa using this
            · exact (HB.out.trans (HLE.out.mono (by omega))).setCell (p := ⟨w4.heap.size, 0, none⟩) (Nat.le_refl _) _
            · exact Nat.le_trans (Nat.le_trans hz hWs) (grown_set w' w4.heap.size 0 _).size
        · have HX := Lib.hid (HNe.out (.inr (fun e => qs (by rw [← hst1, ← hst3, e]))))
          have u1 : (st1.toList == st3.toList) = false := by rw [beq_eq_false_iff_ne]; exact qs
          have u1' : (st1.toList != st3.toList) = true := by simp [bne, u1]
          subst qp qk
          clear qs hlt hat hpl hr0 hty hRx hx2 hxl hxp y1 y1' hf hplv hst1 hst3 hl1 hl3 hkx hkf' hp hk hFW hPW bRW
          gi_wp2
          refine Go.Rel.wpIn_region_grew (by kernel_rfl) (by kernel_rfl) (by kernel_rfl) (by kernel_rfl) (fun i v _ => rowsR_c (.slice (some ⟨b1, o1, none⟩) N c1) (.slice (some ⟨b2, o2, none⟩) N c2) (.slice x.A l1 x.c) (.slice A3 l3 c3) k N p p b1 o1 b2 o2 Bx kx kx st1 st3 i v) (fun _ _ _ _ h _ => h) ?hsteps ?hend
          case hsteps =>
            refine .cons ?_ (.cons ?_ (.cons ?_ (.cons ?_ (.cons ?_ (.cons ?_ (.cons ?_ (.cons ?_ (.cons ?_ (.cons ?_ (.cons ?_ (.cons ?_ (.cons ?_ (.cons ?_ (.cons ?_ (.cons ?_ (.cons ?_ (.cons ?_ (.cons ?_ (.cons ?_ (.cons ?_ (.cons ?_ (.cons ?_ (.cons ?_ (.cons ?_ (.cons ?_ (.cons ?_ (.cons ?_ (.cons ?_ (.cons ?_ (.cons ?_ (.cons ?_ (.cons ?_ (.cons ?_ (.nil))))))))))))))))))))))))))))))))))
            · intro a w' hle hs' hd K hK
              have s0 : a.tmps[9]? = some (.pointer (some ⟨w4.heap.size, 0, none⟩)) := hs'.2.2 9 (by kernel_rfl)
              have q := (hle.cell (p := ⟨w4.heap.size, 0, none⟩) (bcell_lt cK)).trans cK
              unfold Go.Rel.stepIn
              go_simp
              exact hK _ _ (Go.Rel.Grew.refl _) rfl
            · intro a w' hle hs' hd K hK
              have s0 : a.tmps[3]? = some (.pointer (some ⟨w2.heap.size, 0, none⟩)) := hs'.2.2 3 (by kernel_rfl)
              have q := (hle.cell (p := ⟨w2.heap.size, 0, none⟩) (bcell_lt cW)).trans cW
              unfold Go.Rel.stepIn
              go_simp
              exact hK _ _ (Go.Rel.Grew.refl _) rfl
            · intro a w' hle hs' hd K hK
              obtain ⟨_, t0, rfl⟩ := hd 1 39 (by kernel_rfl)
              have hge : decide ((N : Int) ≤ (k : Int)) = false := by simp; omega
              have hge' : decide (N ≤ k) = false := by simp; omega
              unfold Go.Rel.stepIn
              go_simp
              exact hK _ _ (Go.Rel.Grew.refl _) rfl
            · intro a w' hle hs' hd K hK
              obtain ⟨_, t0, rfl⟩ := hd 0 38 (by kernel_rfl)
              obtain ⟨_, t1, rfl⟩ := hd 2 40 (by kernel_rfl)
              have hge : decide ((N : Int) ≤ (k : Int)) = false := by simp; omega
              have hge' : decide (N ≤ k) = false := by simp; omega
              unfold Go.Rel.stepIn
              go_simp
              exact hK _ _ (Go.Rel.Grew.refl _) rfl
            · intro a w' hle hs' hd K hK
              obtain ⟨_, t0, rfl⟩ := hd 3 41 (by kernel_rfl)
              unfold Go.Rel.stepIn
              go_simp
              exact hK _ _ (Go.Rel.Grew.refl _) rfl
            · intro a w' hle hs' hd K hK
              obtain ⟨_, t0, rfl⟩ := hd 4 42 (by kernel_rfl)
              have s0 : a.tmps[10]? = some (.int .i64 (p : Int)) := hs'.2.2 10 (by kernel_rfl)
              unfold Go.Rel.stepIn
              go_simp
              exact hK _ _ (Go.Rel.Grew.refl _) rfl
            · intro a w' hle hs' hd K hK
              obtain ⟨_, t0, rfl⟩ := hd 4 42 (by kernel_rfl)
              have s0 : a.tmps[4]? = some (.pointer (some ⟨w2.heap.size + 1, 0, none⟩)) := hs'.2.2 4 (by kernel_rfl)
              have q := (hle.cell (p := ⟨w2.heap.size + 1, 0, none⟩) (bcell_lt cP)).trans cP
              unfold Go.Rel.stepIn
              go_simp
              exact hK _ _ (Go.Rel.Grew.refl _) rfl
            · intro a w' hle hs' hd K hK
              obtain ⟨_, t0, rfl⟩ := hd 4 42 (by kernel_rfl)
              have s0 : a.tmps[9]? = some (.pointer (some ⟨w4.heap.size, 0, none⟩)) := hs'.2.2 9 (by kernel_rfl)
              have q := (hle.cell (p := ⟨w4.heap.size, 0, none⟩) (bcell_lt cK)).trans cK
              unfold Go.Rel.stepIn
              go_simp
              exact hK _ _ (Go.Rel.Grew.refl _) rfl
            · intro a w' hle hs' hd K hK
              obtain ⟨_, t0, rfl⟩ := hd 4 42 (by kernel_rfl)
              obtain ⟨_, t1, rfl⟩ := hd 6 44 (by kernel_rfl)
              obtain ⟨_, t2, rfl⟩ := hd 7 45 (by kernel_rfl)
              unfold Go.Rel.stepIn
              go_simp
              exact hK _ _ (Go.Rel.Grew.refl _) rfl
            · intro a w' hle hs' hd K hK
              obtain ⟨_, t0, rfl⟩ := hd 4 42 (by kernel_rfl)
              obtain ⟨_, t1, rfl⟩ := hd 8 46 (by kernel_rfl)
              have q := (hle.cell (p := ⟨b2, o2 + k, none⟩) (bcell_lt z0)).trans z0
              unfold Go.Rel.stepIn
              go_simp
              exact hK _ _ (Go.Rel.Grew.refl _) rfl
            · intro a w' hle hs' hd K hK
              obtain ⟨_, t0, rfl⟩ := hd 4 42 (by kernel_rfl)
              obtain ⟨_, t1, rfl⟩ := hd 5 43 (by kernel_rfl)
              obtain ⟨_, t2, rfl⟩ := hd 9 47 (by kernel_rfl)
              unfold Go.Rel.stepIn
              go_simp
              exact hK _ _ (Go.Rel.Grew.refl _) (by first | rfl | exact congrArg Value.bool (by first | exact u1' | exact u2' | simp [u1]))
            · intro a w' hle hs' hd K hK
              obtain ⟨_, t0, rfl⟩ := hd 4 42 (by kernel_rfl)
              obtain ⟨_, t1, rfl⟩ := hd 10 48 (by kernel_rfl)
              unfold Go.Rel.stepIn
              go_simp
              exact hK _ _ (Go.Rel.Grew.refl _) rfl
            · intro a w' hle hs' hd K hK
              obtain ⟨_, t0, rfl⟩ := hd 11 49 (by kernel_rfl)
              unfold Go.Rel.stepIn
              go_simp
              exact hK _ _ (Go.Rel.Grew.refl _) rfl
            · intro a w' hle hs' hd K hK
              obtain ⟨_, t0, rfl⟩ := hd 12 50 (by kernel_rfl)
              have s0 : a.tmps[11]? = some (.pointer (some ⟨Bx, 0, none⟩)) := hs'.2.2 11 (by kernel_rfl)
              unfold Go.Rel.stepIn
              go_simp
              exact hK _ _ (Go.Rel.Grew.refl _) rfl
            · intro a w' hle hs' hd K hK
              obtain ⟨_, t0, rfl⟩ := hd 12 50 (by kernel_rfl)
              obtain ⟨_, t1, rfl⟩ := hd 13 51 (by kernel_rfl)
              have q := (hle.cell (p := ⟨Bx, 0, none⟩) (bcell_lt e0)).trans e0
              unfold Go.Rel.stepIn
              go_simp
              exact hK _ _ (Go.Rel.Grew.refl _) rfl
            · intro a w' hle hs' hd K hK
              obtain ⟨_, t0, rfl⟩ := hd 12 50 (by kernel_rfl)
              have s0 : a.tmps[3]? = some (.pointer (some ⟨w2.heap.size, 0, none⟩)) := hs'.2.2 3 (by kernel_rfl)
              have q := (hle.cell (p := ⟨w2.heap.size, 0, none⟩) (bcell_lt cW)).trans cW
              unfold Go.Rel.stepIn
              go_simp
              exact hK _ _ (Go.Rel.Grew.refl _) rfl
            · intro a w' hle hs' hd K hK
              obtain ⟨_, t0, rfl⟩ := hd 12 50 (by kernel_rfl)
              have s0 : a.tmps[9]? = some (.pointer (some ⟨w4.heap.size, 0, none⟩)) := hs'.2.2 9 (by kernel_rfl)
              have q := (hle.cell (p := ⟨w4.heap.size, 0, none⟩) (bcell_lt cK)).trans cK
              unfold Go.Rel.stepIn
              go_simp
              exact hK _ _ (Go.Rel.Grew.refl _) rfl
            · intro a w' hle hs' hd K hK
              obtain ⟨_, t0, rfl⟩ := hd 12 50 (by kernel_rfl)
              obtain ⟨_, t1, rfl⟩ := hd 15 53 (by kernel_rfl)
              obtain ⟨_, t2, rfl⟩ := hd 16 54 (by kernel_rfl)
              unfold Go.Rel.stepIn
              go_simp
              exact hK _ _ (Go.Rel.Grew.refl _) rfl
            · intro a w' hle hs' hd K hK
              obtain ⟨_, t0, rfl⟩ := hd 12 50 (by kernel_rfl)
              obtain ⟨_, t1, rfl⟩ := hd 17 55 (by kernel_rfl)
              unfold Go.Rel.stepIn
              go_simp
              exact hK _ _ (Go.Rel.Grew.refl _) rfl
            · intro a w' hle hs' hd K hK
              obtain ⟨_, t0, rfl⟩ := hd 12 50 (by kernel_rfl)
              obtain ⟨_, t1, rfl⟩ := hd 18 56 (by kernel_rfl)
              have q := (hle.cell (p := ⟨b1, o1 + k * 2, none⟩) (bcell_lt x0)).trans x0
              unfold Go.Rel.stepIn
              go_simp
              exact hK _ _ (Go.Rel.Grew.refl _) rfl
            · intro a w' hle hs' hd K hK
              obtain ⟨_, t0, rfl⟩ := hd 12 50 (by kernel_rfl)
              obtain ⟨_, t1, rfl⟩ := hd 14 52 (by kernel_rfl)
              obtain ⟨_, t2, rfl⟩ := hd 19 57 (by kernel_rfl)
              unfold Go.Rel.stepIn
              go_simp
              exact hK _ _ (Go.Rel.Grew.refl _) (by first | rfl | exact congrArg Value.bool (by first | exact u1' | exact u2' | simp [u1]))
            · intro a w' hle hs' hd K hK
              obtain ⟨_, t0, rfl⟩ := hd 12 50 (by kernel_rfl)
              obtain ⟨_, t1, rfl⟩ := hd 20 58 (by kernel_rfl)
              unfold Go.Rel.stepIn
              go_simp
              exact hK _ _ (Go.Rel.Grew.refl _) rfl
            · intro a w' hle hs' hd K hK
              obtain ⟨_, t0, rfl⟩ := hd 21 59 (by kernel_rfl)
              unfold Go.Rel.stepIn
              go_simp
              exact hK _ _ (Go.Rel.Grew.refl _) rfl
            · intro a w' hle hs' hd K hK
              obtain ⟨_, t0, rfl⟩ := hd 22 60 (by kernel_rfl)
              have s0 : a.tmps[11]? = some (.pointer (some ⟨Bx, 0, none⟩)) := hs'.2.2 11 (by kernel_rfl)
              unfold Go.Rel.stepIn
              go_simp
              exact hK _ _ (Go.Rel.Grew.refl _) rfl
            · intro a w' hle hs' hd K hK
              obtain ⟨_, t0, rfl⟩ := hd 22 60 (by kernel_rfl)
              obtain ⟨_, t1, rfl⟩ := hd 23 61 (by kernel_rfl)
              have q := (hle.cell (p := ⟨Bx, 1, none⟩) (bcell_lt e1)).trans e1
              unfold Go.Rel.stepIn
              go_simp
              exact hK _ _ (Go.Rel.Grew.refl _) rfl
            · intro a w' hle hs' hd K hK
              obtain ⟨_, t0, rfl⟩ := hd 22 60 (by kernel_rfl)
              obtain ⟨_, t1, rfl⟩ := hd 24 62 (by kernel_rfl)
              have q := own_conv (HRX.out.below hle) x.c
              rw [HS1.out] at q
              unfold Go.Rel.stepIn
              go_simp
              exact hK _ _ (Go.Rel.Grew.refl _) rfl
            · intro a w' hle hs' hd K hK
              obtain ⟨_, t0, rfl⟩ := hd 22 60 (by kernel_rfl)
              have s0 : a.tmps[3]? = some (.pointer (some ⟨w2.heap.size, 0, none⟩)) := hs'.2.2 3 (by kernel_rfl)
              have q := (hle.cell (p := ⟨w2.heap.size, 0, none⟩) (bcell_lt cW)).trans cW
              unfold Go.Rel.stepIn
              go_simp
              exact hK _ _ (Go.Rel.Grew.refl _) rfl
            · intro a w' hle hs' hd K hK
              obtain ⟨_, t0, rfl⟩ := hd 22 60 (by kernel_rfl)
              have s0 : a.tmps[9]? = some (.pointer (some ⟨w4.heap.size, 0, none⟩)) := hs'.2.2 9 (by kernel_rfl)
              have q := (hle.cell (p := ⟨w4.heap.size, 0, none⟩) (bcell_lt cK)).trans cK
              unfold Go.Rel.stepIn
              go_simp
              exact hK _ _ (Go.Rel.Grew.refl _) rfl
            · intro a w' hle hs' hd K hK
              obtain ⟨_, t0, rfl⟩ := hd 22 60 (by kernel_rfl)
              obtain ⟨_, t1, rfl⟩ := hd 26 64 (by kernel_rfl)
              obtain ⟨_, t2, rfl⟩ := hd 27 65 (by kernel_rfl)
              unfold Go.Rel.stepIn
              go_simp
              exact hK _ _ (Go.Rel.Grew.refl _) rfl
            · intro a w' hle hs' hd K hK
              obtain ⟨_, t0, rfl⟩ := hd 22 60 (by kernel_rfl)
              obtain ⟨_, t1, rfl⟩ := hd 28 66 (by kernel_rfl)
              unfold Go.Rel.stepIn
              go_simp
              exact hK _ _ (Go.Rel.Grew.refl _) rfl
            · intro a w' hle hs' hd K hK
              obtain ⟨_, t0, rfl⟩ := hd 22 60 (by kernel_rfl)
              obtain ⟨_, t1, rfl⟩ := hd 29 67 (by kernel_rfl)
              have q := (hle.cell (p := ⟨b1, o1 + k * 2 + 1, none⟩) (bcell_lt x1)).trans x1
              unfold Go.Rel.stepIn
              go_simp
              exact hK _ _ (Go.Rel.Grew.refl _) rfl
            · intro a w' hle hs' hd K hK
              obtain ⟨_, t0, rfl⟩ := hd 22 60 (by kernel_rfl)
              obtain ⟨_, t1, rfl⟩ := hd 30 68 (by kernel_rfl)
              have q := own_conv (HY1.out.below hle) c3
              rw [HS3'.out] at q
              unfold Go.Rel.stepIn
              go_simp
              exact hK _ _ (Go.Rel.Grew.refl _) rfl
            · intro a w' hle hs' hd K hK
              obtain ⟨_, t0, rfl⟩ := hd 22 60 (by kernel_rfl)
              obtain ⟨_, t1, rfl⟩ := hd 25 63 (by kernel_rfl)
              obtain ⟨_, t2, rfl⟩ := hd 31 69 (by kernel_rfl)
              have uu := u1
              unfold Go.Rel.stepIn
              go_simp
              exact hK _ _ (Go.Rel.Grew.refl _) (by first | rfl | exact congrArg Value.bool (by first | exact u1' | exact u2' | simp [u1]))
            · intro a w' hle hs' hd K hK
              obtain ⟨_, t0, rfl⟩ := hd 22 60 (by kernel_rfl)
              obtain ⟨_, t1, rfl⟩ := hd 32 70 (by kernel_rfl)
              unfold Go.Rel.stepIn
              go_simp
              exact hK _ _ (Go.Rel.Grew.refl _) rfl
          case hend =>
            intro a w' hle hs' hR2
            obtain ⟨_, s38, rfl⟩ := hR2 0 38 (by kernel_rfl)
            obtain ⟨_, s39, rfl⟩ := hR2 1 39 (by kernel_rfl)
            obtain ⟨_, s40, rfl⟩ := hR2 2 40 (by kernel_rfl)
            obtain ⟨_, s41, rfl⟩ := hR2 3 41 (by kernel_rfl)
            obtain ⟨_, s42, rfl⟩ := hR2 4 42 (by kernel_rfl)
            obtain ⟨_, s43, rfl⟩ := hR2 5 43 (by kernel_rfl)
            obtain ⟨_, s44, rfl⟩ := hR2 6 44 (by kernel_rfl)
            obtain ⟨_, s45, rfl⟩ := hR2 7 45 (by kernel_rfl)
            obtain ⟨_, s46, rfl⟩ := hR2 8 46 (by kernel_rfl)
            obtain ⟨_, s47, rfl⟩ := hR2 9 47 (by kernel_rfl)
            obtain ⟨_, s48, rfl⟩ := hR2 10 48 (by kernel_rfl)
            obtain ⟨_, s49, rfl⟩ := hR2 11 49 (by kernel_rfl)
            obtain ⟨_, s50, rfl⟩ := hR2 12 50 (by kernel_rfl)
            obtain ⟨_, s51, rfl⟩ := hR2 13 51 (by kernel_rfl)
            obtain ⟨_, s52, rfl⟩ := hR2 14 52 (by kernel_rfl)
            obtain ⟨_, s53, rfl⟩ := hR2 15 53 (by kernel_rfl)
            obtain ⟨_, s54, rfl⟩ := hR2 16 54 (by kernel_rfl)
            obtain ⟨_, s55, rfl⟩ := hR2 17 55 (by kernel_rfl)
            obtain ⟨_, s56, rfl⟩ := hR2 18 56 (by kernel_rfl)
            obtain ⟨_, s57, rfl⟩ := hR2 19 57 (by kernel_rfl)
            obtain ⟨_, s58, rfl⟩ := hR2 20 58 (by kernel_rfl)
            obtain ⟨_, s59, rfl⟩ := hR2 21 59 (by kernel_rfl)
            obtain ⟨_, s60, rfl⟩ := hR2 22 60 (by kernel_rfl)
            obtain ⟨_, s61, rfl⟩ := hR2 23 61 (by kernel_rfl)
            obtain ⟨_, s62, rfl⟩ := hR2 24 62 (by kernel_rfl)
            obtain ⟨_, s63, rfl⟩ := hR2 25 63 (by kernel_rfl)
            obtain ⟨_, s64, rfl⟩ := hR2 26 64 (by kernel_rfl)
            obtain ⟨_, s65, rfl⟩ := hR2 27 65 (by kernel_rfl)
            obtain ⟨_, s66, rfl⟩ := hR2 28 66 (by kernel_rfl)
            obtain ⟨_, s67, rfl⟩ := hR2 29 67 (by kernel_rfl)
            obtain ⟨_, s68, rfl⟩ := hR2 30 68 (by kernel_rfl)
            obtain ⟨_, s69, rfl⟩ := hR2 31 69 (by kernel_rfl)
            obtain ⟨_, s70, rfl⟩ := hR2 32 70 (by kernel_rfl)
            obtain ⟨_, s71, rfl⟩ := hR2 33 71 (by kernel_rfl)
            have e := hs'.shape
            simp only [List.toList_toArray, List.foldl, Go.Rel.reset, Array.getD_eq_getD_getElem?, s38, s39, s40, s41, s42, s43, s44, s45, s46, s47, s48, s49, s50, s51, s52, s53, s54, s55, s56, s57, s58, s59, s60, s61, s62, s63, s64, s65, s66, s67, s68, s69, s70, s71, Option.getD_some] at e
            simp at e
            have q0 := (hle.cell (p := ⟨w.heap.size, 0, none⟩) (bcell_lt cR)).trans cR
            have q1 := (hle.frozen (p := ⟨w.heap.size, 0, none⟩) (bcell_lt cR)).trans fR
            have HLE := Lib.hid hle
            clear hR2 hs' hle s38 s39 s40 s41 s42 s43 s44 s45 s46 s47 s48 s49 s50 s51 s52 s53 s54 s55 s56 s57 s58 s59 s60 s61 s62 s63 s64 s65 s66 s67 s68 s69 s70 s71
            subst e
            gi_wp2
            exact ⟨(keeps_of HLE.out).trans ((KeepsOthers.setCell _ _ _).from _), HX.out⟩
      · have HX := Lib.hid (HNe.out (.inr (fun e => qk (by rw [← hkx, ← hkf', e]))))
        have u1 : (kx == kf) = false := by rw [beq_eq_false_iff_ne]; exact qk
        have u1' : (kx != kf) = true := by simp [bne, u1]
        subst qp
        clear qk hlt hat hpl hr0 hty hRx hx2 hxl hxp y1 y1' hf hplv hst1 hst3 hl1 hl3 hkx hkf' hp hk hFW hPW bRW
        gi_wp2
        refine Go.Rel.wpIn_region_grew (by kernel_rfl) (by kernel_rfl) (by kernel_rfl) (by kernel_rfl) (fun i v _ => rowsR_b (.slice (some ⟨b1, o1, none⟩) N c1) (.slice (some ⟨b2, o2, none⟩) N c2) (.slice x.A l1 x.c) (.slice A3 l3 c3) k N p p b1 o1 b2 o2 Bx kx kf st1 st3 i v) (fun _ _ _ _ h _ => h) ?hsteps ?hend
        case hsteps =>
          refine .cons ?_ (.cons ?_ (.cons ?_ (.cons ?_ (.cons ?_ (.cons ?_ (.cons ?_ (.cons ?_ (.cons ?_ (.cons ?_ (.cons ?_ (.cons ?_ (.cons ?_ (.cons ?_ (.cons ?_ (.cons ?_ (.cons ?_ (.cons ?_ (.cons ?_ (.cons ?_ (.cons ?_ (.cons ?_ (.cons ?_ (.cons ?_ (.cons ?_ (.cons ?_ (.cons ?_ (.cons ?_ (.cons ?_ (.cons ?_ (.cons ?_ (.cons ?_ (.cons ?_ (.cons ?_ (.nil))))))))))))))))))))))))))))))))))
          · intro a w' hle hs' hd K hK
            have s0 : a.tmps[9]? = some (.pointer (some ⟨w4.heap.size, 0, none⟩)) := hs'.2.2 9 (by kernel_rfl)
            have q := (hle.cell (p := ⟨w4.heap.size, 0, none⟩) (bcell_lt cK)).trans cK
            unfold Go.Rel.stepIn
            go_simp
            exact hK _ _ (Go.Rel.Grew.refl _) rfl
          · intro a w' hle hs' hd K hK
            have s0 : a.tmps[3]? = some (.pointer (some ⟨w2.heap.size, 0, none⟩)) := hs'.2.2 3 (by kernel_rfl)
            have q := (hle.cell (p := ⟨w2.heap.size, 0, none⟩) (bcell_lt cW)).trans cW
            unfold Go.Rel.stepIn
            go_simp
            exact hK _ _ (Go.Rel.Grew.refl _) rfl
          · intro a w' hle hs' hd K hK
            obtain ⟨_, t0, rfl⟩ := hd 1 39 (by kernel_rfl)
            have hge : decide ((N : Int) ≤ (k : Int)) = false := by simp; omega
            have hge' : decide (N ≤ k) = false := by simp; omega
            unfold Go.Rel.stepIn
            go_simp
            exact hK _ _ (Go.Rel.Grew.refl _) rfl
          · intro a w' hle hs' hd K hK
            obtain ⟨_, t0, rfl⟩ := hd 0 38 (by kernel_rfl)
            obtain ⟨_, t1, rfl⟩ := hd 2 40 (by kernel_rfl)
            have hge : decide ((N : Int) ≤ (k : Int)) = false := by simp; omega
            have hge' : decide (N ≤ k) = false := by simp; omega
            unfold Go.Rel.stepIn
            go_simp
            exact hK _ _ (Go.Rel.Grew.refl _) rfl
          · intro a w' hle hs' hd K hK
            obtain ⟨_, t0, rfl⟩ := hd 3 41 (by kernel_rfl)
            unfold Go.Rel.stepIn
            go_simp
            exact hK _ _ (Go.Rel.Grew.refl _) rfl
          · intro a w' hle hs' hd K hK
            obtain ⟨_, t0, rfl⟩ := hd 4 42 (by kernel_rfl)
            have s0 : a.tmps[10]? = some (.int .i64 (p : Int)) := hs'.2.2 10 (by kernel_rfl)
            unfold Go.Rel.stepIn
            go_simp
            exact hK _ _ (Go.Rel.Grew.refl _) rfl
          · intro a w' hle hs' hd K hK
            obtain ⟨_, t0, rfl⟩ := hd 4 42 (by kernel_rfl)
            have s0 : a.tmps[4]? = some (.pointer (some ⟨w2.heap.size + 1, 0, none⟩)) := hs'.2.2 4 (by kernel_rfl)
            have q := (hle.cell (p := ⟨w2.heap.size + 1, 0, none⟩) (bcell_lt cP)).trans cP
            unfold Go.Rel.stepIn
            go_simp
            exact hK _ _ (Go.Rel.Grew.refl _) rfl
          · intro a w' hle hs' hd K hK
            obtain ⟨_, t0, rfl⟩ := hd 4 42 (by kernel_rfl)
            have s0 : a.tmps[9]? = some (.pointer (some ⟨w4.heap.size, 0, none⟩)) := hs'.2.2 9 (by kernel_rfl)
            have q := (hle.cell (p := ⟨w4.heap.size, 0, none⟩) (bcell_lt cK)).trans cK
            unfold Go.Rel.stepIn
            go_simp
            exact hK _ _ (Go.Rel.Grew.refl _) rfl
          · intro a w' hle hs' hd K hK
            obtain ⟨_, t0, rfl⟩ := hd 4 42 (by kernel_rfl)
            obtain ⟨_, t1, rfl⟩ := hd 6 44 (by kernel_rfl)
            obtain ⟨_, t2, rfl⟩ := hd 7 45 (by kernel_rfl)
            unfold Go.Rel.stepIn
            go_simp
            exact hK _ _ (Go.Rel.Grew.refl _) rfl
          · intro a w' hle hs' hd K hK
            obtain ⟨_, t0, rfl⟩ := hd 4 42 (by kernel_rfl)
            obtain ⟨_, t1, rfl⟩ := hd 8 46 (by kernel_rfl)
            have q := (hle.cell (p := ⟨b2, o2 + k, none⟩) (bcell_lt z0)).trans z0
            unfold Go.Rel.stepIn
            go_simp
            exact hK _ _ (Go.Rel.Grew.refl _) rfl
          · intro a w' hle hs' hd K hK
            obtain ⟨_, t0, rfl⟩ := hd 4 42 (by kernel_rfl)
            obtain ⟨_, t1, rfl⟩ := hd 5 43 (by kernel_rfl)
            obtain ⟨_, t2, rfl⟩ := hd 9 47 (by kernel_rfl)
            unfold Go.Rel.stepIn
            go_simp
            exact hK _ _ (Go.Rel.Grew.refl _) (by first | rfl | exact congrArg Value.bool (by first | exact u1' | exact u2' | simp [u1]))
          · intro a w' hle hs' hd K hK
            obtain ⟨_, t0, rfl⟩ := hd 4 42 (by kernel_rfl)
            obtain ⟨_, t1, rfl⟩ := hd 10 48 (by kernel_rfl)
            unfold Go.Rel.stepIn
            go_simp
            exact hK _ _ (Go.Rel.Grew.refl _) rfl
          · intro a w' hle hs' hd K hK
            obtain ⟨_, t0, rfl⟩ := hd 11 49 (by kernel_rfl)
            unfold Go.Rel.stepIn
            go_simp
            exact hK _ _ (Go.Rel.Grew.refl _) rfl
          · intro a w' hle hs' hd K hK
            obtain ⟨_, t0, rfl⟩ := hd 12 50 (by kernel_rfl)
            have s0 : a.tmps[11]? = some (.pointer (some ⟨Bx, 0, none⟩)) := hs'.2.2 11 (by kernel_rfl)
            unfold Go.Rel.stepIn
            go_simp
            exact hK _ _ (Go.Rel.Grew.refl _) rfl
          · intro a w' hle hs' hd K hK
            obtain ⟨_, t0, rfl⟩ := hd 12 50 (by kernel_rfl)
            obtain ⟨_, t1, rfl⟩ := hd 13 51 (by kernel_rfl)
            have q := (hle.cell (p := ⟨Bx, 0, none⟩) (bcell_lt e0)).trans e0
            unfold Go.Rel.stepIn
            go_simp
            exact hK _ _ (Go.Rel.Grew.refl _) rfl
          · intro a w' hle hs' hd K hK
            obtain ⟨_, t0, rfl⟩ := hd 12 50 (by kernel_rfl)
            have s0 : a.tmps[3]? = some (.pointer (some ⟨w2.heap.size, 0, none⟩)) := hs'.2.2 3 (by kernel_rfl)
            have q := (hle.cell (p := ⟨w2.heap.size, 0, none⟩) (bcell_lt cW)).trans cW
            unfold Go.Rel.stepIn
            go_simp
            exact hK _ _ (Go.Rel.Grew.refl _) rfl
          · intro a w' hle hs' hd K hK
            obtain ⟨_, t0, rfl⟩ := hd 12 50 (by kernel_rfl)
            have s0 : a.tmps[9]? = some (.pointer (some ⟨w4.heap.size, 0, none⟩)) := hs'.2.2 9 (by kernel_rfl)
            have q := (hle.cell (p := ⟨w4.heap.size, 0, none⟩) (bcell_lt cK)).trans cK
            unfold Go.Rel.stepIn
            go_simp
            exact hK _ _ (Go.Rel.Grew.refl _) rfl
          · intro a w' hle hs' hd K hK
            obtain ⟨_, t0, rfl⟩ := hd 12 50 (by kernel_rfl)
            obtain ⟨_, t1, rfl⟩ := hd 15 53 (by kernel_rfl)
            obtain ⟨_, t2, rfl⟩ := hd 16 54 (by kernel_rfl)
            unfold Go.Rel.stepIn
            go_simp
            exact hK _ _ (Go.Rel.Grew.refl _) rfl
          · intro a w' hle hs' hd K hK
            obtain ⟨_, t0, rfl⟩ := hd 12 50 (by kernel_rfl)
            obtain ⟨_, t1, rfl⟩ := hd 17 55 (by kernel_rfl)
            unfold Go.Rel.stepIn
            go_simp
            exact hK _ _ (Go.Rel.Grew.refl _) rfl
          · intro a w' hle hs' hd K hK
            obtain ⟨_, t0, rfl⟩ := hd 12 50 (by kernel_rfl)
            obtain ⟨_, t1, rfl⟩ := hd 18 56 (by kernel_rfl)
            have q := (hle.cell (p := ⟨b1, o1 + k * 2, none⟩) (bcell_lt x0)).trans x0
            unfold Go.Rel.stepIn
            go_simp
            exact hK _ _ (Go.Rel.Grew.refl _) rfl
          · intro a w' hle hs' hd K hK
            obtain ⟨_, t0, rfl⟩ := hd 12 50 (by kernel_rfl)
            obtain ⟨_, t1, rfl⟩ := hd 14 52 (by kernel_rfl)
            obtain ⟨_, t2, rfl⟩ := hd 19 57 (by kernel_rfl)
            unfold Go.Rel.stepIn
            go_simp
            exact hK _ _ (Go.Rel.Grew.refl _) (by first | rfl | exact congrArg Value.bool (by first | exact u1' | exact u2' | simp [u1]))
          · intro a w' hle hs' hd K hK
            obtain ⟨_, t0, rfl⟩ := hd 12 50 (by kernel_rfl)
            obtain ⟨_, t1, rfl⟩ := hd 20 58 (by kernel_rfl)
            unfold Go.Rel.stepIn
            go_simp
            exact hK _ _ (Go.Rel.Grew.refl _) rfl
          · intro a w' hle hs' hd K hK
            obtain ⟨_, t0, rfl⟩ := hd 21 59 (by kernel_rfl)
            unfold Go.Rel.stepIn
            go_simp
            exact hK _ _ (Go.Rel.Grew.refl _) rfl
          · intro a w' hle hs' hd K hK
            obtain ⟨_, t0, rfl⟩ := hd 22 60 (by kernel_rfl)
            unfold Go.Rel.stepIn
            go_simp
            exact hK _ _ (Go.Rel.Grew.refl _) trivial
          · intro a w' hle hs' hd K hK
            obtain ⟨_, t0, rfl⟩ := hd 22 60 (by kernel_rfl)
            unfold Go.Rel.stepIn
            go_simp
            exact hK _ _ (Go.Rel.Grew.refl _) trivial
          · intro a w' hle hs' hd K hK
            obtain ⟨_, t0, rfl⟩ := hd 22 60 (by kernel_rfl)
            unfold Go.Rel.stepIn
            go_simp
            exact hK _ _ (Go.Rel.Grew.refl _) trivial
          · intro a w' hle hs' hd K hK
            obtain ⟨_, t0, rfl⟩ := hd 22 60 (by kernel_rfl)
            unfold Go.Rel.stepIn
            go_simp
            exact hK _ _ (Go.Rel.Grew.refl _) trivial
          · intro a w' hle hs' hd K hK
            obtain ⟨_, t0, rfl⟩ := hd 22 60 (by kernel_rfl)
            unfold Go.Rel.stepIn
            go_simp
            exact hK _ _ (Go.Rel.Grew.refl _) trivial
          · intro a w' hle hs' hd K hK
            obtain ⟨_, t0, rfl⟩ := hd 22 60 (by kernel_rfl)
            unfold Go.Rel.stepIn
            go_simp
            exact hK _ _ (Go.Rel.Grew.refl _) trivial
          · intro a w' hle hs' hd K hK
            obtain ⟨_, t0, rfl⟩ := hd 22 60 (by kernel_rfl)
            unfold Go.Rel.stepIn
            go_simp
            exact hK _ _ (Go.Rel.Grew.refl _) trivial
          · intro a w' hle hs' hd K hK
            obtain ⟨_, t0, rfl⟩ := hd 22 60 (by kernel_rfl)
            unfold Go.Rel.stepIn
            go_simp
            exact hK _ _ (Go.Rel.Grew.refl _) trivial
          · intro a w' hle hs' hd K hK
            obtain ⟨_, t0, rfl⟩ := hd 22 60 (by kernel_rfl)
            unfold Go.Rel.stepIn
            go_simp
            exact hK _ _ (Go.Rel.Grew.refl _) trivial
          · intro a w' hle hs' hd K hK
            obtain ⟨_, t0, rfl⟩ := hd 22 60 (by kernel_rfl)
            unfold Go.Rel.stepIn
            go_simp
            exact hK _ _ (Go.Rel.Grew.refl _) trivial
          · intro a w' hle hs' hd K hK
            obtain ⟨_, t0, rfl⟩ := hd 22 60 (by kernel_rfl)
            unfold Go.Rel.stepIn
            go_simp
            exact hK _ _ (Go.Rel.Grew.refl _) rfl
        case hend =>
          intro a w' hle hs' hR2
          obtain ⟨_, s38, rfl⟩ := hR2 0 38 (by kernel_rfl)
          obtain ⟨_, s39, rfl⟩ := hR2 1 39 (by kernel_rfl)
          obtain ⟨_, s40, rfl⟩ := hR2 2 40 (by kernel_rfl)
          obtain ⟨_, s41, rfl⟩ := hR2 3 41 (by kernel_rfl)
          obtain ⟨_, s42, rfl⟩ := hR2 4 42 (by kernel_rfl)
          obtain ⟨_, s43, rfl⟩ := hR2 5 43 (by kernel_rfl)
          obtain ⟨_, s44, rfl⟩ := hR2 6 44 (by kernel_rfl)
          obtain ⟨_, s45, rfl⟩ := hR2 7 45 (by kernel_rfl)
          obtain ⟨_, s46, rfl⟩ := hR2 8 46 (by kernel_rfl)
          obtain ⟨_, s47, rfl⟩ := hR2 9 47 (by kernel_rfl)
          obtain ⟨_, s48, rfl⟩ := hR2 10 48 (by kernel_rfl)
          obtain ⟨_, s49, rfl⟩ := hR2 11 49 (by kernel_rfl)
          obtain ⟨_, s50, rfl⟩ := hR2 12 50 (by kernel_rfl)
          obtain ⟨_, s51, rfl⟩ := hR2 13 51 (by kernel_rfl)
          obtain ⟨_, s52, rfl⟩ := hR2 14 52 (by kernel_rfl)
          obtain ⟨_, s53, rfl⟩ := hR2 15 53 (by kernel_rfl)
          obtain ⟨_, s54, rfl⟩ := hR2 16 54 (by kernel_rfl)
          obtain ⟨_, s55, rfl⟩ := hR2 17 55 (by kernel_rfl)
          obtain ⟨_, s56, rfl⟩ := hR2 18 56 (by kernel_rfl)
          obtain ⟨_, s57, rfl⟩ := hR2 19 57 (by kernel_rfl)
          obtain ⟨_, s58, rfl⟩ := hR2 20 58 (by kernel_rfl)
          obtain ⟨_, s59, rfl⟩ := hR2 21 59 (by kernel_rfl)
          obtain ⟨_, s60, rfl⟩ := hR2 22 60 (by kernel_rfl)
          obtain ⟨u61, s61, _⟩ := hR2 23 61 (by kernel_rfl)
          obtain ⟨u62, s62, _⟩ := hR2 24 62 (by kernel_rfl)
          obtain ⟨u63, s63, _⟩ := hR2 25 63 (by kernel_rfl)
          obtain ⟨u64, s64, _⟩ := hR2 26 64 (by kernel_rfl)
          obtain ⟨u65, s65, _⟩ := hR2 27 65 (by kernel_rfl)
          obtain ⟨u66, s66, _⟩ := hR2 28 66 (by kernel_rfl)
          obtain ⟨u67, s67, _⟩ := hR2 29 67 (by kernel_rfl)
          obtain ⟨u68, s68, _⟩ := hR2 30 68 (by kernel_rfl)
          obtain ⟨u69, s69, _⟩ := hR2 31 69 (by kernel_rfl)
          obtain ⟨u70, s70, _⟩ := hR2 32 70 (by kernel_rfl)
          obtain ⟨_, s71, rfl⟩ := hR2 33 71 (by kernel_rfl)
          have e := hs'.shape
          simp only [List.toList_toArray, List.foldl, Go.Rel.reset, Array.getD_eq_getD_getElem?, s38, s39, s40, s41, s42, s43, s44, s45, s46, s47, s48, s49, s50, s51, s52, s53, s54, s55, s56, s57, s58, s59, s60, s61, s62, s63, s64, s65, s66, s67, s68, s69, s70, s71, Option.getD_some] at e
          simp at e
          have q0 := (hle.cell (p := ⟨w.heap.size, 0, none⟩) (bcell_lt cR)).trans cR
          have q1 := (hle.frozen (p := ⟨w.heap.size, 0, none⟩) (bcell_lt cR)).trans fR
          have HLE := Lib.hid hle
          clear hR2 hs' hle s38 s39 s40 s41 s42 s43 s44 s45 s46 s47 s48 s49 s50 s51 s52 s53 s54 s55 s56 s57 s58 s59 s60 s61 s62 s63 s64 s65 s66 s67 s68 s69 s70 s71
          subst e
          gi_wp2
          exact ⟨(keeps_of HLE.out).trans ((KeepsOthers.setCell _ _ _).from _), HX.out⟩
    · have HX := Lib.hid (HNe.out (.inl qp))
      have u1 : ((p : Int) == (pl : Int)) = false := by rw [beq_eq_false_iff_ne]; omega
      have u1' : ((p : Int) != (pl : Int)) = true := by simp [bne, u1]
      have u2 : (p == pl) = false := by rw [beq_eq_false_iff_ne]; exact qp
      have u2' : (p != pl) = true := by simp [bne, u2]
      clear qp hlt hat hpl hr0 hty hRx hx2 hxl hxp y1 y1' hf hplv hst1 hst3 hl1 hl3 hkx hkf' hp hk hFW hPW bRW
      gi_wp2
      refine Go.Rel.wpIn_region_grew (by kernel_rfl) (by kernel_rfl) (by kernel_rfl) (by kernel_rfl) (fun i v _ => rowsR_a (.slice (some ⟨b1, o1, none⟩) N c1) (.slice (some ⟨b2, o2, none⟩) N c2) (.slice x.A l1 x.c) (.slice A3 l3 c3) k N p pl b1 o1 b2 o2 Bx kx kf st1 st3 i v) (fun _ _ _ _ h _ => h) ?hsteps ?hend
      case hsteps =>
        refine .cons ?_ (.cons ?_ (.cons ?_ (.cons ?_ (.cons ?_ (.cons ?_ (.cons ?_ (.cons ?_ (.cons ?_ (.cons ?_ (.cons ?_ (.cons ?_ (.cons ?_ (.cons ?_ (.cons ?_ (.cons ?_ (.cons ?_ (.cons ?_ (.cons ?_ (.cons ?_ (.cons ?_ (.cons ?_ (.cons ?_ (.cons ?_ (.cons ?_ (.cons ?_ (.cons ?_ (.cons ?_ (.cons ?_ (.cons ?_ (.cons ?_ (.cons ?_ (.cons ?_ (.cons ?_ (.nil))))))))))))))))))))))))))))))))))
        · intro a w' hle hs' hd K hK
          have s0 : a.tmps[9]? = some (.pointer (some ⟨w4.heap.size, 0, none⟩)) := hs'.2.2 9 (by kernel_rfl)
          have q := (hle.cell (p := ⟨w4.heap.size, 0, none⟩) (bcell_lt cK)).trans cK
          unfold Go.Rel.stepIn
          go_simp
          exact hK _ _ (Go.Rel.Grew.refl _) rfl
        · intro a w' hle hs' hd K hK
          have s0 : a.tmps[3]? = some (.pointer (some ⟨w2.heap.size, 0, none⟩)) := hs'.2.2 3 (by kernel_rfl)
          have q := (hle.cell (p := ⟨w2.heap.size, 0, none⟩) (bcell_lt cW)).trans cW
          unfold Go.Rel.stepIn
          go_simp
          exact hK _ _ (Go.Rel.Grew.refl _) rfl
        · intro a w' hle hs' hd K hK
          obtain ⟨_, t0, rfl⟩ := hd 1 39 (by kernel_rfl)
          have hge : decide ((N : Int) ≤ (k : Int)) = false := by simp; omega
          have hge' : decide (N ≤ k) = false := by simp; omega
          unfold Go.Rel.stepIn
          go_simp
          exact hK _ _ (Go.Rel.Grew.refl _) rfl
        · intro a w' hle hs' hd K hK
          obtain ⟨_, t0, rfl⟩ := hd 0 38 (by kernel_rfl)
          obtain ⟨_, t1, rfl⟩ := hd 2 40 (by kernel_rfl)
          have hge : decide ((N : Int) ≤ (k : Int)) = false := by simp; omega
          have hge' : decide (N ≤ k) = false := by simp; omega
          unfold Go.Rel.stepIn
          go_simp
          exact hK _ _ (Go.Rel.Grew.refl _) rfl
        · intro a w' hle hs' hd K hK
          obtain ⟨_, t0, rfl⟩ := hd 3 41 (by kernel_rfl)
          unfold Go.Rel.stepIn
          go_simp
          exact hK _ _ (Go.Rel.Grew.refl _) rfl
        · intro a w' hle hs' hd K hK
          obtain ⟨_, t0, rfl⟩ := hd 4 42 (by kernel_rfl)
          have s0 : a.tmps[10]? = some (.int .i64 (p : Int)) := hs'.2.2 10 (by kernel_rfl)
          unfold Go.Rel.stepIn
          go_simp
          exact hK _ _ (Go.Rel.Grew.refl _) rfl
        · intro a w' hle hs' hd K hK
          obtain ⟨_, t0, rfl⟩ := hd 4 42 (by kernel_rfl)
          have s0 : a.tmps[4]? = some (.pointer (some ⟨w2.heap.size + 1, 0, none⟩)) := hs'.2.2 4 (by kernel_rfl)
          have q := (hle.cell (p := ⟨w2.heap.size + 1, 0, none⟩) (bcell_lt cP)).trans cP
          unfold Go.Rel.stepIn
          go_simp
          exact hK _ _ (Go.Rel.Grew.refl _) rfl
        · intro a w' hle hs' hd K hK
          obtain ⟨_, t0, rfl⟩ := hd 4 42 (by kernel_rfl)
          have s0 : a.tmps[9]? = some (.pointer (some ⟨w4.heap.size, 0, none⟩)) := hs'.2.2 9 (by kernel_rfl)
          have q := (hle.cell (p := ⟨w4.heap.size, 0, none⟩) (bcell_lt cK)).trans cK
          unfold Go.Rel.stepIn
          go_simp
          exact hK _ _ (Go.Rel.Grew.refl _) rfl
        · intro a w' hle hs' hd K hK
          obtain ⟨_, t0, rfl⟩ := hd 4 42 (by kernel_rfl)
          obtain ⟨_, t1, rfl⟩ := hd 6 44 (by kernel_rfl)
          obtain ⟨_, t2, rfl⟩ := hd 7 45 (by kernel_rfl)
          unfold Go.Rel.stepIn
          go_simp
          exact hK _ _ (Go.Rel.Grew.refl _) rfl
        · intro a w' hle hs' hd K hK
          obtain ⟨_, t0, rfl⟩ := hd 4 42 (by kernel_rfl)
          obtain ⟨_, t1, rfl⟩ := hd 8 46 (by kernel_rfl)
          have q := (hle.cell (p := ⟨b2, o2 + k, none⟩) (bcell_lt z0)).trans z0
          unfold Go.Rel.stepIn
          go_simp
          exact hK _ _ (Go.Rel.Grew.refl _) rfl
        · intro a w' hle hs' hd K hK
          obtain ⟨_, t0, rfl⟩ := hd 4 42 (by kernel_rfl)
          obtain ⟨_, t1, rfl⟩ := hd 5 43 (by kernel_rfl)
          obtain ⟨_, t2, rfl⟩ := hd 9 47 (by kernel_rfl)
          unfold Go.Rel.stepIn
          go_simp
          exact hK _ _ (Go.Rel.Grew.refl _) (by first | rfl | exact congrArg Value.bool (by first | exact u1' | exact u2' | simp [u1]))
        · intro a w' hle hs' hd K hK
          obtain ⟨_, t0, rfl⟩ := hd 4 42 (by kernel_rfl)
          obtain ⟨_, t1, rfl⟩ := hd 10 48 (by kernel_rfl)
          unfold Go.Rel.stepIn
          go_simp
          exact hK _ _ (Go.Rel.Grew.refl _) rfl
        · intro a w' hle hs' hd K hK
          obtain ⟨_, t0, rfl⟩ := hd 11 49 (by kernel_rfl)
          unfold Go.Rel.stepIn
          go_simp
          exact hK _ _ (Go.Rel.Grew.refl _) rfl
        · intro a w' hle hs' hd K hK
          obtain ⟨_, t0, rfl⟩ := hd 12 50 (by kernel_rfl)
          unfold Go.Rel.stepIn
          go_simp
          exact hK _ _ (Go.Rel.Grew.refl _) trivial
        · intro a w' hle hs' hd K hK
          obtain ⟨_, t0, rfl⟩ := hd 12 50 (by kernel_rfl)
          unfold Go.Rel.stepIn
          go_simp
          exact hK _ _ (Go.Rel.Grew.refl _) trivial
        · intro a w' hle hs' hd K hK
          obtain ⟨_, t0, rfl⟩ := hd 12 50 (by kernel_rfl)
          unfold Go.Rel.stepIn
          go_simp
          exact hK _ _ (Go.Rel.Grew.refl _) trivial
        · intro a w' hle hs' hd K hK
          obtain ⟨_, t0, rfl⟩ := hd 12 50 (by kernel_rfl)
          unfold Go.Rel.stepIn
          go_simp
          exact hK _ _ (Go.Rel.Grew.refl _) trivial
        · intro a w' hle hs' hd K hK
          obtain ⟨_, t0, rfl⟩ := hd 12 50 (by kernel_rfl)
          unfold Go.Rel.stepIn
          go_simp
          exact hK _ _ (Go.Rel.Grew.refl _) trivial
        · intro a w' hle hs' hd K hK
          obtain ⟨_, t0, rfl⟩ := hd 12 50 (by kernel_rfl)
          unfold Go.Rel.stepIn
          go_simp
          exact hK _ _ (Go.Rel.Grew.refl _) trivial
        · intro a w' hle hs' hd K hK
          obtain ⟨_, t0, rfl⟩ := hd 12 50 (by kernel_rfl)
          unfold Go.Rel.stepIn
          go_simp
          exact hK _ _ (Go.Rel.Grew.refl _) trivial
        · intro a w' hle hs' hd K hK
          obtain ⟨_, t0, rfl⟩ := hd 12 50 (by kernel_rfl)
          unfold Go.Rel.stepIn
          go_simp
          exact hK _ _ (Go.Rel.Grew.refl _) trivial
        · intro a w' hle hs' hd K hK
          obtain ⟨_, t0, rfl⟩ := hd 12 50 (by kernel_rfl)
          unfold Go.Rel.stepIn
          go_simp
          exact hK _ _ (Go.Rel.Grew.refl _) rfl
        · intro a w' hle hs' hd K hK
          obtain ⟨_, t0, rfl⟩ := hd 21 59 (by kernel_rfl)
          unfold Go.Rel.stepIn
          go_simp
          exact hK _ _ (Go.Rel.Grew.refl _) rfl
        · intro a w' hle hs' hd K hK
          obtain ⟨_, t0, rfl⟩ := hd 22 60 (by kernel_rfl)
          unfold Go.Rel.stepIn
          go_simp
          exact hK _ _ (Go.Rel.Grew.refl _) trivial
        · intro a w' hle hs' hd K hK
          obtain ⟨_, t0, rfl⟩ := hd 22 60 (by kernel_rfl)
          unfold Go.Rel.stepIn
          go_simp
          exact hK _ _ (Go.Rel.Grew.refl _) trivial
        · intro a w' hle hs' hd K hK
          obtain ⟨_, t0, rfl⟩ := hd 22 60 (by kernel_rfl)
          unfold Go.Rel.stepIn
          go_simp
          exact hK _ _ (Go.Rel.Grew.refl _) trivial
        · intro a w' hle hs' hd K hK
          obtain ⟨_, t0, rfl⟩ := hd 22 60 (by kernel_rfl)
          unfold Go.Rel.stepIn
          go_simp
          exact hK _ _ (Go.Rel.Grew.refl _) trivial
        · intro a w' hle hs' hd K hK
          obtain ⟨_, t0, rfl⟩ := hd 22 60 (by kernel_rfl)
          unfold Go.Rel.stepIn
          go_simp
          exact hK _ _ (Go.Rel.Grew.refl _) trivial
        · intro a w' hle hs' hd K hK
          obtain ⟨_, t0, rfl⟩ := hd 22 60 (by kernel_rfl)
          unfold Go.Rel.stepIn
          go_simp
          exact hK _ _ (Go.Rel.Grew.refl _) trivial
        · intro a w' hle hs' hd K hK
          obtain ⟨_, t0, rfl⟩ := hd 22 60 (by kernel_rfl)
          unfold Go.Rel.stepIn
          go_simp
          exact hK _ _ (Go.Rel.Grew.refl _) trivial
        · intro a w' hle hs' hd K hK
          obtain ⟨_, t0, rfl⟩ := hd 22 60 (by kernel_rfl)
          unfold Go.Rel.stepIn
          go_simp
          exact hK _ _ (Go.Rel.Grew.refl _) trivial
        · intro a w' hle hs' hd K hK
          obtain ⟨_, t0, rfl⟩ := hd 22 60 (by kernel_rfl)
          unfold Go.Rel.stepIn
          go_simp
          exact hK _ _ (Go.Rel.Grew.refl _) trivial
        · intro a w' hle hs' hd K hK
          obtain ⟨_, t0, rfl⟩ := hd 22 60 (by kernel_rfl)
          unfold Go.Rel.stepIn
          go_simp
          exact hK _ _ (Go.Rel.Grew.refl _) trivial
        · intro a w' hle hs' hd K hK
          obtain ⟨_, t0, rfl⟩ := hd 22 60 (by kernel_rfl)
          unfold Go.Rel.stepIn
          go_simp
          exact hK _ _ (Go.Rel.Grew.refl _) rfl
      case hend =>
        intro a w' hle hs' hR2
        obtain ⟨_, s38, rfl⟩ := hR2 0 38 (by kernel_rfl)
        obtain ⟨_, s39, rfl⟩ := hR2 1 39 (by kernel_rfl)
        obtain ⟨_, s40, rfl⟩ := hR2 2 40 (by kernel_rfl)
        obtain ⟨_, s41, rfl⟩ := hR2 3 41 (by kernel_rfl)
        obtain ⟨_, s42, rfl⟩ := hR2 4 42 (by kernel_rfl)
        obtain ⟨_, s43, rfl⟩ := hR2 5 43 (by kernel_rfl)
        obtain ⟨_, s44, rfl⟩ := hR2 6 44 (by kernel_rfl)
        obtain ⟨_, s45, rfl⟩ := hR2 7 45 (by kernel_rfl)
        obtain ⟨_, s46, rfl⟩ := hR2 8 46 (by kernel_rfl)
        obtain ⟨_, s47, rfl⟩ := hR2 9 47 (by kernel_rfl)
        obtain ⟨_, s48, rfl⟩ := hR2 10 48 (by kernel_rfl)
        obtain ⟨_, s49, rfl⟩ := hR2 11 49 (by kernel_rfl)
        obtain ⟨_, s50, rfl⟩ := hR2 12 50 (by kernel_rfl)
        obtain ⟨u51, s51, _⟩ := hR2 13 51 (by kernel_rfl)
        obtain ⟨u52, s52, _⟩ := hR2 14 52 (by kernel_rfl)
        obtain ⟨u53, s53, _⟩ := hR2 15 53 (by kernel_rfl)
        obtain ⟨u54, s54, _⟩ := hR2 16 54 (by kernel_rfl)
        obtain ⟨u55, s55, _⟩ := hR2 17 55 (by kernel_rfl)
        obtain ⟨u56, s56, _⟩ := hR2 18 56 (by kernel_rfl)
        obtain ⟨u57, s57, _⟩ := hR2 19 57 (by kernel_rfl)
        obtain ⟨u58, s58, _⟩ := hR2 20 58 (by kernel_rfl)
        obtain ⟨_, s59, rfl⟩ := hR2 21 59 (by kernel_rfl)
        obtain ⟨_, s60, rfl⟩ := hR2 22 60 (by kernel_rfl)
        obtain ⟨u61, s61, _⟩ := hR2 23 61 (by kernel_rfl)
        obtain ⟨u62, s62, _⟩ := hR2 24 62 (by kernel_rfl)
        obtain ⟨u63, s63, _⟩ := hR2 25 63 (by kernel_rfl)
        obtain ⟨u64, s64, _⟩ := hR2 26 64 (by kernel_rfl)
        obtain ⟨u65, s65, _⟩ := hR2 27 65 (by kernel_rfl)
        obtain ⟨u66, s66, _⟩ := hR2 28 66 (by kernel_rfl)
        obtain ⟨u67, s67, _⟩ := hR2 29 67 (by kernel_rfl)
        obtain ⟨u68, s68, _⟩ := hR2 30 68 (by kernel_rfl)
        obtain ⟨u69, s69, _⟩ := hR2 31 69 (by kernel_rfl)
        obtain ⟨u70, s70, _⟩ := hR2 32 70 (by kernel_rfl)
        obtain ⟨_, s71, rfl⟩ := hR2 33 71 (by kernel_rfl)
        have e := hs'.shape
        simp only [List.toList_toArray, List.foldl, Go.Rel.reset, Array.getD_eq_getD_getElem?, s38, s39, s40, s41, s42, s43, s44, s45, s46, s47, s48, s49, s50, s51, s52, s53, s54, s55, s56, s57, s58, s59, s60, s61, s62, s63, s64, s65, s66, s67, s68, s69, s70, s71, Option.getD_some] at e
        simp at e
        have q0 := (hle.cell (p := ⟨w.heap.size, 0, none⟩) (bcell_lt cR)).trans cR
        have q1 := (hle.frozen (p := ⟨w.heap.size, 0, none⟩) (bcell_lt cR)).trans fR
        have HLE := Lib.hid hle
        clear hR2 hs' hle s38 s39 s40 s41 s42 s43 s44 s45 s46 s47 s48 s49 s50 s51 s52 s53 s54 s55 s56 s57 s58 s59 s60 s61 s62 s63 s64 s65 s66 s67 s68 s69 s70 s71
        subst e
        gi_wp2
        exact ⟨(keeps_of HLE.out).trans ((KeepsOthers.setCell _ _ _).from _), HX.out⟩
  case done =>
    rintro D ys W hD hS ⟨hb, hB, hz⟩ hK
    have hlen : ys.length = N := (keys_f hS).2.trans HNN.out
    rw [hlen] at hb
    have cK := hb.cell
    have cW := ((show Boxed W w2.heap.size 38 (.slice A1 N c1) from (hB.block w2.heap.size (by omega)).trans HBW4.out)).cell
    have bRW : Boxed W w.heap.size 4 (.bool false) := (hB.block w.heap.size (by omega)).trans HBR4.out
    have cR := bRW.cell
    have fR := bRW.frozen
    have hK2 := (KeepsOthers.setCell W ⟨w.heap.size, 0, none⟩ (.bool true)).same D _ hK rfl
    have cR2 : ((W.setCell ⟨w.heap.size, 0, none⟩ (.bool true)).putObj D (.deferred none)).cell? ⟨w.heap.size, 0, none⟩ = some (.bool true) :=
      cell_kept (World.cell?_setCell_same' _ _ _ (by rw [cR]; rfl)) (grownBy_putObj' _ D (.deferred none)) (fun r e => by cases e; exact ⟨_, hK2, rfl⟩)
    have hBf : Below w.heap.size w ((W.setCell ⟨w.heap.size, 0, none⟩ (.bool true)).putObj D (.deferred none)) :=
      ((HBw4.out.trans (hB.mono (by omega))).setCell (p := ⟨w.heap.size, 0, none⟩) (Nat.le_refl _) _).trans (belowK_b (w := w) (Nat.le_refl _) _ D _ _ (by omega) hK2 rfl rfl)
    have HBf := Lib.hid hBf
    have CR2 := Lib.hid cR2
    clear hBf cR2 hb hB bRW hlen hS
    gi_wp2
    refine ⟨by simp, .inl ⟨_, _, rfl, run_takeDeferred hK2, ?_⟩⟩
    exact ⟨.bool true, by simp [results, Try.results5, go_sem, CR2.out], rfl, HBf.out⟩
  case stop =>
    rintro D c' pre W _ hSp h _
    exact absurd hSp h
end Go.Proofs.Ytkbllhpjfgeaaaa
