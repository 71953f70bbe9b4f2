/-
  Changes compared; works and ints of layer 9's law.
-/
import Derived.Test.YtmfokogckfoheaaRoRLive
namespace Go.Proofs.Ytmfokogckfoheaa
open Go.RowKit Go.Maps
set_option linter.unusedSimpArgs false
set_option linter.unusedVariables false

theorem ch_fields : Try.prog.underlying 38 = some (.struct (Try.prog.fieldsOf 38)) := by kernel_rfl
theorem ch_stood : Try.prog.stoodInHeld 38 = false := by kernel_rfl
theorem ch_flds : (Try.prog.fieldsOf 38).toList.map (fun f => (f.name, f.type, f.offset)) = [("Kind", 3, 0), ("Old", 32, 1), ("New", 32, 4)] := by kernel_rfl
theorem ch_guard : Try.prog.eqGuardType Try.prog.depth 38 = false := by kernel_rfl
/-- Two changes compared. -/
theorem ch_eq (k k2 : Int) (a b a2 b2 : Up) (w : World) : (Op.equalIn 10000 38 (.agg #[.int .i64 k, .int .i64 a.node, .int .u32 (a.inc : Int), .int .i64 a.st, .int .i64 b.node, .int .u32 (b.inc : Int), .int .i64 b.st]) (.agg #[.int .i64 k2, .int .i64 a2.node, .int .u32 (a2.inc : Int), .int .i64 a2.st, .int .i64 b2.node, .int .u32 (b2.inc : Int), .int .i64 b2.st])).run Try.prog w = .ok (decide (k = k2 ∧ a = a2 ∧ b = b2)) w := by
  rw [run_equalIn_struct w 9999 _ _ _ ch_fields ch_stood]
  have h' := ch_flds
  generalize (Try.prog.fieldsOf 38).toList = fs at h'
  have hl := congrArg List.length h'
  rw [List.length_map] at hl
  obtain ⟨f0, f1, f2, rfl⟩ := list3 hl
  simp only [List.map_cons, List.map_nil, List.cons.injEq, Prod.mk.injEq, and_true] at h'
  obtain ⟨⟨h0, h1, h2⟩, ⟨h3, h4, h5⟩, h6, h7, h8⟩ := h'
  simp only [Op.eqFields, h0, h1, h2, h3, h4, h5, h6, h7, h8]
  have e := up_eq_at 9997 a a2
  have e2 := up_eq_at 9997 b b2
  have p0 : ∀ (w : World) (q x0 x1 x2 x3 x4 x5 : Value), (part 32 #[q, x0, x1, x2, x3, x4, x5] 1).run Try.prog w = .ok (.agg #[x0, x1, x2]) w := fun w q x0 x1 x2 x3 x4 x5 => by kernel_rfl
  have p1 : ∀ (w : World) (q x0 x1 x2 x3 x4 x5 : Value), (part 32 #[q, x0, x1, x2, x3, x4, x5] 4).run Try.prog w = .ok (.agg #[x3, x4, x5]) w := fun w q x0 x1 x2 x3 x4 x5 => by kernel_rfl
  have e' : ∀ w, (Op.equalIn 9999 32 (.agg #[.int .i64 a.node, .int .u32 (a.inc : Int), .int .i64 a.st]) (.agg #[.int .i64 a2.node, .int .u32 (a2.inc : Int), .int .i64 a2.st])).run Try.prog w = .ok (decide (a = a2)) w := fun w => e w
  have e2' : ∀ w, (Op.equalIn 9999 32 (.agg #[.int .i64 b.node, .int .u32 (b.inc : Int), .int .i64 b.st]) (.agg #[.int .i64 b2.node, .int .u32 (b2.inc : Int), .int .i64 b2.st])).run Try.prog w = .ok (decide (b = b2)) w := fun w => e2 w
  clear e e2
  by_cases hk : k = k2
  · by_cases ha : a = a2
    · by_cases hb : b = b2
      · rw [decide_eq_true ⟨hk, ha, hb⟩]
        rw [decide_eq_true ha] at e'
        rw [decide_eq_true hb] at e2'
        simp [go_sem, p0, p1, e', e2', hk]
      · rw [decide_eq_false (fun h => hb h.2.2)]
        rw [decide_eq_true ha] at e'
        rw [decide_eq_false hb] at e2'
        simp [go_sem, p0, p1, e', e2', hk]
    · rw [decide_eq_false (fun h => ha h.2.1)]
      rw [decide_eq_false ha] at e'
      simp [go_sem, p0, p1, e', hk]
  · rw [decide_eq_false (fun h => hk h.1)]
    simp [go_sem, p0, p1, hk]
theorem works_apply : (Ro.new 2 5).apply ⟨1, 3, 0⟩ = (1, zU, ⟨1, 3, 0⟩, ⟨2, put (Ro.new 2 5).T ⟨1, 3, 0⟩⟩) := by
  unfold Ro.apply
  rw [if_neg (by decide), if_neg (by decide)]
  rfl
set_option maxHeartbeats 8000000 in
theorem works_any (w : World) : Calls Try.prog 10 #[] w fun e w' => e = .returned (.bool true) ∧ Below w.heap.size w w' := by
  have HNew := Lib.hid (pnew_yes 2 5 w (by decide))
  obtain ⟨o, ho⟩ : ∃ o, o = zU := ⟨_, rfl⟩
  have HAp : Hid (∀ w B M, RlAt w B M (Ro.new 2 5) 1 → Calls Try.prog 13 #[.pointer (some ⟨B, 0, none⟩), .agg #[.int .i64 1, .int .u32 3, .int .i64 0]] w (ApPost w B M 1 1 o ⟨1, 3, 0⟩ ⟨2, put (Ro.new 2 5).T ⟨1, 3, 0⟩⟩)) := Lib.hid (fun w B M h => apply_any ⟨1, 3, 0⟩ w h (by omega) (Ro.small.new (by omega)) (by simp) _ _ _ _ (by rw [ho]; exact works_apply))
  have HSf : Hid (∀ w B M, RlAt w B M ⟨2, put (Ro.new 2 5).T ⟨1, 3, 0⟩⟩ (1 + 1) → Calls Try.prog 17 #[.pointer (some ⟨B, 0, none⟩)] w fun e w' => e = .returned (.agg #[.int .i64 2, .int .u32 5, .int .i64 0]) ∧ Below w.heap.size w w') := Lib.hid (fun w B M h => self_any w h)
  clear ho
  go_enter Try.func10, Try.ntmps10
  go_wp2_with fail
  refine HNew.out.mono ?_
  rintro e w1 ⟨B, M, rfl, hR, hB, hM, hb1⟩
  have HR := Lib.hid hR
  have HM := Lib.hid hM
  have HB := Lib.hid hB
  have HB1 := Lib.hid hb1
  clear hR hM hB hb1
  go_wp2_with fail
  refine (HAp.out w1 B M HR.out).mono ?_
  rintro e w2 ⟨rfl, hR2, hb2⟩
  have HR2 := Lib.hid hR2
  have HB2 := Lib.hid (show Below w.heap.size w w2 from HB1.out.trans (hb2.below HB1.out.size (fun k hk e => by have := HM.out; omega)))
  have hk := heap_alloc_new w2 (.cells #[.int .i64 1, .int .i64 o.node, .int .u32 (o.inc : Int), .int .i64 o.st, .int .i64 1, .int .u32 3, .int .i64 0] 38)
  have hb3 := below1 w2 (.cells #[.int .i64 1, .int .i64 o.node, .int .u32 (o.inc : Int), .int .i64 o.st, .int .i64 1, .int .u32 3, .int .i64 0] 38)
  obtain ⟨Y, hY⟩ : ∃ Y, w2.heap.size = Y := ⟨_, rfl⟩
  obtain ⟨w3, hw3⟩ : ∃ w3, w2.alloc (.cells #[.int .i64 1, .int .i64 o.node, .int .u32 (o.inc : Int), .int .i64 o.st, .int .i64 1, .int .u32 3, .int .i64 0] 38) = w3 := ⟨_, rfl⟩
  rw [hw3] at hk hb3
  rw [hY] at hk
  obtain ⟨c0, c1, c2, c3, c4, c5, c6⟩ := blk7 hk
  have HS3 := Lib.hid (HSf.out w3 B M (hR2.below hb3))
  have HB3 := Lib.hid (HB2.out.trans (hb3.mono HB2.out.size))
  have HY := Lib.hid hY
  have HW3 := Lib.hid hw3
  have ug := up_guard
  have ue : ∀ w, (Op.equalIn 10000 32 (.agg #[.int .i64 1, .int .u32 3, .int .i64 0]) (.agg #[.int .i64 1, .int .u32 3, .int .i64 0])).run Try.prog w = .ok true w := fun w => by have := up_eq ⟨1, 3, 0⟩ ⟨1, 3, 0⟩ w; rw [decide_eq_true rfl] at this; exact this
  have ue2 : ∀ w, (Op.equalIn 10000 32 (.agg #[.int .i64 2, .int .u32 5, .int .i64 0]) (.agg #[.int .i64 2, .int .u32 5, .int .i64 0])).run Try.prog w = .ok true w := fun w => by have := up_eq ⟨2, 5, 0⟩ ⟨2, 5, 0⟩ w; rw [decide_eq_true rfl] at this; exact this
  clear hR2 hb2 hk hb3 hY hw3
  go_wp2_with fail
  rw [HW3.out]
  refine HS3.out.mono ?_
  rintro e w4 ⟨rfl, hb4⟩
  have HB4 := Lib.hid (HB3.out.trans (hb4.mono HB3.out.size))
  clear hb4 c0 c1 c2 c3 c4 c5 c6
  go_wp2
  go_ret
  exact ⟨by simp, HB4.out⟩
set_option maxHeartbeats 8000000 in
theorem ints_yes (A : Option Addr) (n c : Nat) (A2 : Option Addr) (n2 c2 : Nat) (l l2 : List Int) (w : World) (he : l = l2) (hn : l.length = n) (hn2 : l2.length = n2) (hS : RV w A n (intsC l)) (hS2 : RV w A2 n2 (intsC l2)) (hnc : n ≤ c) (hm : c ≤ maxLen) :
    Calls Try.prog 21 #[.slice A n c, .slice A2 n2 c2] w fun e w' => e = .returned (.bool true) ∧ Below w.heap.size w w' := by
  subst he
  obtain rfl : n = n2 := by omega
  have HL := Lib.hid hn
  have HS := Lib.hid hS
  have HS2 := Lib.hid hS2
  have hm' : (n : Int) ≤ 9223372036854775807 := by unfold maxLen at hm; omega
  have zz2 : (n != n) = false := by simp
  clear hS hS2 hm hnc hn hn2
  go_enter Try.func21, Try.ntmps21
  go_wp2
  go_loopw [5] (fun i wr => ∃ k : Nat, k ≤ n ∧ i = .int .i64 (k : Int) ∧ Hid (Below w.heap.size w wr)) (fun i _ => n - (intOf i).toNat)
  case atStart => exact ⟨0, Nat.zero_le _, rfl, Lib.hid (Below.refl _ _)⟩
  case round =>
    obtain ⟨k, hk, rfl, hb⟩ := hrel
    by_cases hlt : k < n
    · have hkl : k < l.length := by have := HL.out; omega
      obtain ⟨b, off, rfl, hbl, hc0⟩ := (HS.out.below hb.out).at_ hlt
      obtain ⟨b2, off2, rfl, hbl2, hd0⟩ := (HS2.out.below hb.out).at_ hlt
      have ex : (intsC l)[k]'(by unfold intsC; rw [List.length_map]; exact hkl) = .int .i64 l[k] := by unfold intsC; rw [List.getElem_map]; rfl
      rw [ex] at hc0 hd0
      obtain ⟨x, hx⟩ : ∃ x, l[k] = x := ⟨_, rfl⟩
      rw [hx] at hc0 hd0
      have q1 : (k : Int) < (n : Int) := by omega
      have q0 : (0 : Int) ≤ (k : Int) := by omega
      have zx : (x != x) = false := by simp
      clear hx ex
      go_wp2
      go_quiet (fail)
      go_wp2
      go_roundw
      case rel => exact ⟨k + 1, by omega, by go_num, Lib.hid (below_drewN hb.out nq)⟩
      case measure => simp [intOf]; omega
    · go_wp2
      go_ret
      exact ⟨rfl, hb.out⟩
end Go.Proofs.Ytmfokogckfoheaa
