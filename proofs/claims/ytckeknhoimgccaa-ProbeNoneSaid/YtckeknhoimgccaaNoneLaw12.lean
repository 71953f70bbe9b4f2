/-
  A ring that is not there, and one that no call made, asks nobody: the law sodalitylaw12.ProbeNone, walked.
-/
import Derived.Test.YtckeknhoimgccaaPrSt
namespace Go.Proofs.Ytckeknhoimgccaa
open Go.RowKit
set_option linter.unusedSimpArgs false
set_option linter.unusedVariables false

def noR (S : Nat → Prop) (X0 : Nat) (b1 : Nat) (bd : Nat) (k : Nat) (vr : Value) (s : St) : Nat → Value → World → Prop
  | 0, v, _ => v = .slice (some ⟨b1, 0, none⟩) 2 2
  | 1, v, _ => v = .int .i64 (k : Int)
  | 2, v, _ => v = .pointer (some ⟨b1, k, none⟩)
  | 3, v, w => v = vr
  | 4, v, _ => v = .pointer (some ⟨X0, 3, none⟩)
  | 5, v, _ => v = .slice s.live.A s.live.l.length s.live.c
  | 6, v, _ => v = .pointer (some ⟨bd, 0, none⟩)
  | 7, v, _ => v = .tuple #[.int .i64 0, .bool false]
  | 8, v, _ => v = .tuple #[.int .i64 0, .bool false]
  | 9, v, _ => v = .int .i64 0
  | 10, v, _ => v = .bool false
  | 11, v, _ => v = .int .i64 0
  | 12, v, _ => v = .bool false
  | _, _, _ => True
theorem noR_stable (S : Nat → Prop) (X0 : Nat) (b1 : Nat) (bd : Nat) (k : Nat) (vr : Value) (s : St) : ∀ i v w w', noR S X0 b1 bd k vr s i v w → But S w w' → noR S X0 b1 bd k vr s i v w'
  | 0, _, _, _, h, _ | 1, _, _, _, h, _ | 2, _, _, _, h, _ | 4, _, _, _, h, _ | 5, _, _, _, h, _ | 6, _, _, _, h, _ | 7, _, _, _, h, _ | 8, _, _, _, h, _ | 9, _, _, _, h, _ | 10, _, _, _, h, _ | 11, _, _, _, h, _ | 12, _, _, _, h, _ => h
  | 3, _, _, _, h, g => h
  | _ + 13, _, _, _, h, _ => h

set_option maxHeartbeats 16000000 in
set_option maxRecDepth 100000 in
theorem none_walk (s : St) (w : World) (hs : Liv w s.live) :
    Calls Try.prog 7 #[.agg #[.int .i64 s.kind, .int .i64 s.node, .int .i64 s.many, .slice s.live.A s.live.l.length s.live.c]] w fun e w' => e = .returned (.bool true) ∧ Below w.heap.size w w' := by
  obtain ⟨X0, hX0⟩ : ∃ X0, w.heap.size = X0 := ⟨_, rfl⟩
  obtain ⟨W1, hW1⟩ : ∃ W1, w.alloc (.cells #[.int .i64 s.kind, .int .i64 s.node, .int .i64 s.many, .slice s.live.A s.live.l.length s.live.c] TS) = W1 := ⟨_, rfl⟩
  obtain ⟨W2, hW2⟩ : ∃ W2, W1.alloc (.cells #[.bool false, .slice none 0 0, .int .i64 0] TG) = W2 := ⟨_, rfl⟩
  obtain ⟨b0, hb0⟩ : ∃ b0, X0 + 1 = b0 := ⟨_, rfl⟩
  obtain ⟨b1, hb1'⟩ : ∃ b1, b0 + 1 = b1 := ⟨_, rfl⟩
  obtain ⟨bx, hbx⟩ : ∃ bx, b1 + 1 = bx := ⟨_, rfl⟩
  obtain ⟨W3, hW3⟩ : ∃ W3, W2.alloc (.cells #[.pointer none, .pointer (some ⟨b0, 0, none⟩)] 24) = W3 := ⟨_, rfl⟩
  obtain ⟨W4, hW4⟩ : ∃ W4, W3.alloc (.cells #[.int .u32 5, .int .u32 6, .int .u32 7] 61) = W4 := ⟨_, rfl⟩
  have hb1 : Below w.heap.size w W1 := by rw [← hW1]; exact (Below.refl _ _).alloc (Nat.le_refl _) _
  have hb2 : Below W1.heap.size W1 W2 := by rw [← hW2]; exact (Below.refl _ _).alloc (Nat.le_refl _) _
  have hb3 : Below W2.heap.size W2 W3 := by rw [← hW3]; exact (Below.refl _ _).alloc (Nat.le_refl _) _
  have hb4 : Below W3.heap.size W3 W4 := by rw [← hW4]; exact (Below.refl _ _).alloc (Nat.le_refl _) _
  have k1 : W1.heap[X0]? = some (.cells #[.int .i64 s.kind, .int .i64 s.node, .int .i64 s.many, .slice s.live.A s.live.l.length s.live.c] TS (0, 0)) := by rw [← hW1, ← hX0]; exact heap_alloc_new w _
  have k2 : W2.heap[W1.heap.size]? = some (.cells #[.bool false, .slice none 0 0, .int .i64 0] TG (0, 0)) := by rw [← hW2]; exact heap_alloc_new W1 _
  have k3 : W3.heap[W2.heap.size]? = some (.cells #[.pointer none, .pointer (some ⟨b0, 0, none⟩)] 24 (0, 0)) := by rw [← hW3]; exact heap_alloc_new W2 _
  have k4 : W4.heap[W3.heap.size]? = some (.cells #[.int .u32 5, .int .u32 6, .int .u32 7] 61 (0, 0)) := by rw [← hW4]; exact heap_alloc_new W3 _
  have j3 : W4.heap[W2.heap.size]? = _ := (hb4.block _ (block_lt k3)).trans k3
  have j2 : W4.heap[W1.heap.size]? = _ := ((hb3.trans (hb4.mono hb3.size)).block _ (block_lt k2)).trans k2
  have j1 : W4.heap[X0]? = _ := ((hb2.trans ((hb3.trans (hb4.mono hb3.size)).mono hb2.size)).block _ (block_lt k1)).trans k1
  have z1 : W1.heap.size = b0 := by rw [← hW1, ← hb0, ← hX0]; simp
  have z2 : W2.heap.size = b1 := by rw [← hW2, ← hb1', ← z1]; simp
  have z3 : W3.heap.size = bx := by rw [← hW3, ← hbx, ← z2]; simp
  have hbw : Below w.heap.size w W4 := ((hb1.trans (hb2.mono hb1.size)).trans (hb3.mono (Nat.le_trans hb1.size hb2.size))).trans (hb4.mono (Nat.le_trans hb1.size (Nat.le_trans hb2.size hb3.size)))
  rw [z2] at j3
  rw [z1] at j2
  rw [z3] at k4
  have hnd := new_any (some ⟨bx, 0, none⟩) 3 3 [5, 6, 7] W4 ⟨rfl, fun _ => ⟨bx, 0, rfl, block_lt k4, fun j hj => by
    have hj3 : j = 0 ∨ j = 1 ∨ j = 2 := by
      have : j < 3 := by simpa using hj
      omega
    rcases hj3 with rfl | rfl | rfl <;> (rw [cell_of_row _ _ _ _ _ _ k4]; rfl)⟩⟩ (fun e => by cases e) (Nat.le_refl _) (by omega) (by simp)
  have HND := Lib.hid hnd
  have HJ1 := Lib.hid j1
  have HJ2 := Lib.hid j2
  have HJ3 := Lib.hid j3
  have HBw := Lib.hid hbw
  have HX0 := Lib.hid hX0
  have HW1 := Lib.hid hW1
  have HW2 := Lib.hid hW2
  have HW3 := Lib.hid hW3
  have HW4 := Lib.hid hW4
  have HB0 := Lib.hid hb0
  have HB1 := Lib.hid hb1'
  have HBX := Lib.hid hbx
  clear hs hX0 hW1 hW2 hW3 hW4 hb1 hb2 hb3 hb4 k1 k2 k3 k4 j1 j2 j3 hb0 hb1' hbx hbw hnd z1 z2 z3
  go_enter Try.func7, Try.ntmps7
  go_wp2_with fail
  rw [HX0.out, HW1.out, HW2.out, HB0.out, HB1.out, HW3.out, HBX.out, HW4.out]
  refine HND.out.mono ?_
  rintro e w5 ⟨bd, rfl, hbd, hbd2, hd5, hb5⟩
  have HD5 := Lib.hid hd5
  have HB5 := Lib.hid hb5
  clear hd5 hb5 hbd hbd2
  go_wp2
  go_loopw [6] (fun kv wr => ∃ k : Nat, k ≤ 2 ∧ kv = .int .i64 (k : Int) ∧ Hid (Below w5.heap.size w5 wr)) (fun kv _ => 2 - (intOf kv).toNat)
  case atStart => exact ⟨0, by omega, rfl, Lib.hid (Below.refl _ _)⟩
  case round =>
    obtain ⟨k, hk, rfl, hq⟩ := hrel
    by_cases hlt : k < 2
    · obtain ⟨v, hv⟩ : ∃ v : Value, (if k = 0 then .pointer none else .pointer (some ⟨b0, 0, none⟩)) = v := ⟨_, rfl⟩
      have HC : Hid (∀ w', Below wr.heap.size wr w' → w'.cell? ⟨b1, k, none⟩ = some v) := Lib.hid (fun w' h => by
        have h0 := HB5.out.trans ((hq.out.trans (h.mono hq.out.size)).mono HB5.out.size)
        have h1 : w'.heap[b1]? = some (.cells #[.pointer none, .pointer (some ⟨b0, 0, none⟩)] 24 (0, 0)) := (h0.block _ (block_lt HJ3.out)).trans HJ3.out
        rw [cell_of_row _ _ _ _ _ _ h1, ← hv]
        have hk01 : k = 0 ∨ k = 1 := by omega
        rcases hk01 with rfl | rfl <;> rfl)
      have HS : Hid (∀ w', Below wr.heap.size wr w' → w'.cell? ⟨X0, 0, none⟩ = some (.int .i64 s.kind) ∧ w'.cell? ⟨X0, 1, none⟩ = some (.int .i64 s.node) ∧ w'.cell? ⟨X0, 2, none⟩ = some (.int .i64 s.many) ∧ w'.cell? ⟨X0, 3, none⟩ = some (.slice s.live.A s.live.l.length s.live.c)) := Lib.hid (fun w' h => by
        have h0 := HB5.out.trans ((hq.out.trans (h.mono hq.out.size)).mono HB5.out.size)
        exact blk4 ((h0.block _ (block_lt HJ1.out)).trans HJ1.out))
      have HNo : Hid (∀ w', Below wr.heap.size wr w' → NoRg w' v) := Lib.hid (fun w' h => by
        have h0 := HB5.out.trans ((hq.out.trans (h.mono hq.out.size)).mono HB5.out.size)
        rw [← hv]
        by_cases hk0 : k = 0
        · rw [if_pos hk0]; exact .inl rfl
        · rw [if_neg hk0]; exact .inr ⟨b0, rfl, (h0.block _ (block_lt HJ2.out)).trans HJ2.out⟩)
      have HK : Hid ((0 : Int) ≤ (k : Int) ∧ (k : Int) < 2) := Lib.hid ⟨by omega, by omega⟩
      have q1 : (0 : Int) ≤ (k : Int) := by omega
      have q2 : (k : Int) < 2 := by omega
      clear hv
      go_wp2
      refine Go.Rel.wp_region_states (by kernel_rfl) (by kernel_rfl) (by kernel_rfl) (by kernel_rfl) (fun _ w' => Below wr.heap.size wr w') (But NoS) (fun _ _ _ h k => h.trans k) ((But.refl _ _).drew) (Below.refl _ wr).drew (noR NoS X0 b1 bd k v s) (noR_stable NoS X0 b1 bd k v s) ?hs1 ?he1
      case hs1 =>
        refine (.cons ?_ (.cons ?_ (.cons ?_ (.cons ?_ (.cons ?_ (.cons ?_ (.cons ?_ (.cons ?_ (.cons ?_ (.cons ?_ (.cons ?_ (.cons ?_ (.cons ?_ .nil)))))))))))))
        · intro f a w' hI hf hanc hdesc hle hs' hd K hK
          have f4 : a.tmps[4]? = some (.slice (some ⟨b1, 0, none⟩) 2 2) := hs'.2.2 4 (by kernel_rfl)
          unfold Go.Rel.stepOf
          go_simp
          exact hK _ _ (But.refl _ _) (hI) rfl
        · intro f a w' hI hf hanc hdesc hle hs' hd K hK
          have f6 : a.tmps[6]? = some (.int .i64 (k : Int)) := hs'.2.2 6 (by kernel_rfl)
          unfold Go.Rel.stepOf
          go_simp
          exact hK _ _ (But.refl _ _) (hI) rfl
        · intro f a w' hI hf hanc hdesc hle hs' hd K hK
          obtain ⟨_, t0, rfl⟩ := hd 0 22 (by kernel_rfl)
          obtain ⟨_, t1, rfl⟩ := hd 1 23 (by kernel_rfl)
          have q1 := HK.out.1
          have q2 := HK.out.2
          unfold Go.Rel.stepOf
          go_simp
          exact hK _ _ (But.refl _ _) (hI) rfl
        · intro f a w' hI hf hanc hdesc hle hs' hd K hK
          obtain ⟨_, t2, rfl⟩ := hd 2 24 (by kernel_rfl)
          have cv := HC.out w' hI
          unfold Go.Rel.stepOf
          go_simp
          exact hK _ _ (But.refl _ _) (hI) rfl
        · intro f a w' hI hf hanc hdesc hle hs' hd K hK
          have f1 : a.tmps[1]? = some (.pointer (some ⟨X0, 0, none⟩)) := hs'.2.2 1 (by kernel_rfl)
          unfold Go.Rel.stepOf
          go_simp
          exact hK _ _ (But.refl _ _) (hI) rfl
        · intro f a w' hI hf hanc hdesc hle hs' hd K hK
          obtain ⟨_, t4, rfl⟩ := hd 4 26 (by kernel_rfl)
          obtain ⟨_, _, _, cs⟩ := HS.out w' hI
          unfold Go.Rel.stepOf
          go_simp
          exact hK _ _ (But.refl _ _) (hI) rfl
        · intro f a w' hI hf hanc hdesc hle hs' hd K hK
          have f5 : a.tmps[5]? = some (.pointer (some ⟨bd, 0, none⟩)) := hs'.2.2 5 (by kernel_rfl)
          unfold Go.Rel.stepOf
          go_simp
          exact hK _ _ (But.refl _ _) (hI) rfl
        · intro f a w' hI hf hanc hdesc hle hs' hd K hK
          obtain ⟨_, t3, e3⟩ := hd 3 25 (by kernel_rfl)
          obtain ⟨_, t5, rfl⟩ := hd 5 27 (by kernel_rfl)
          obtain ⟨_, t6, rfl⟩ := hd 6 28 (by kernel_rfl)
          rw [e3] at t3
          unfold Go.Rel.stepOf
          go_simp
          refine (nextno_ring v (.pointer (some ⟨bd, 0, none⟩)) s.live.A s.live.l.length s.live.c w' (HNo.out w' hI)).mono ?_
          rintro e w2 ⟨rfl, hb5⟩
          exact hK _ _ (But.of_below hb5) (hI.trans (hb5.mono hI.size)) rfl
        · intro f a w' hI hf hanc hdesc hle hs' hd K hK
          obtain ⟨_, t7, rfl⟩ := hd 7 29 (by kernel_rfl)
          unfold Go.Rel.stepOf
          go_simp
          exact hK _ _ (But.refl _ _) (hI) rfl
        · intro f a w' hI hf hanc hdesc hle hs' hd K hK
          obtain ⟨_, t8, rfl⟩ := hd 8 21 (by kernel_rfl)
          unfold Go.Rel.stepOf
          go_simp
          exact hK _ _ (But.refl _ _) (hI) rfl
        · intro f a w' hI hf hanc hdesc hle hs' hd K hK
          obtain ⟨_, t8, rfl⟩ := hd 8 21 (by kernel_rfl)
          unfold Go.Rel.stepOf
          go_simp
          exact hK _ _ (But.refl _ _) (hI) rfl
        · intro f a w' hI hf hanc hdesc hle hs' hd K hK
          obtain ⟨_, t9, rfl⟩ := hd 9 30 (by kernel_rfl)
          unfold Go.Rel.stepOf
          go_simp
          exact hK _ _ (But.refl _ _) (hI) rfl
        · intro f a w' hI hf hanc hdesc hle hs' hd K hK
          obtain ⟨_, t10, rfl⟩ := hd 10 31 (by kernel_rfl)
          unfold Go.Rel.stepOf
          go_simp
          exact hK _ _ (But.refl _ _) (hI) rfl
      case he1 =>
        intro f a w6 hall hI hle hs' hR'
        have hc6 := HC.out w6 hI
        obtain ⟨_, s1, s2, s3⟩ := HS.out w6 hI
        have HN4 : Hid (∀ q, NoRg (w6.drewN q) v) := Lib.hid (fun q => HNo.out _ (below_drewN hI q))
        have HD4 := Lib.hid (fun q => (HD5.out.below (hq.out.trans (hI.mono hq.out.size))).below (below_drewN (Below.refl _ w6) q))
        have HI6 : Hid (∀ q, Below w5.heap.size w5 (w6.drewN q)) := Lib.hid (fun q => below_drewN (hq.out.trans (hI.mono hq.out.size)) q)
        clear hI hall hle
        obtain ⟨_, s22, rfl⟩ := hR' 0 22 (by kernel_rfl)
        obtain ⟨v23, s23, _⟩ := hR' 1 23 (by kernel_rfl)
        obtain ⟨v24, s24, _⟩ := hR' 2 24 (by kernel_rfl)
        obtain ⟨v25, s25, _⟩ := hR' 3 25 (by kernel_rfl)
        obtain ⟨v26, s26, _⟩ := hR' 4 26 (by kernel_rfl)
        obtain ⟨v27, s27, _⟩ := hR' 5 27 (by kernel_rfl)
        obtain ⟨v28, s28, _⟩ := hR' 6 28 (by kernel_rfl)
        obtain ⟨v29, s29, _⟩ := hR' 7 29 (by kernel_rfl)
        obtain ⟨v21, s21, _⟩ := hR' 8 21 (by kernel_rfl)
        obtain ⟨v30, s30, _⟩ := hR' 9 30 (by kernel_rfl)
        obtain ⟨v31, s31, _⟩ := hR' 10 31 (by kernel_rfl)
        obtain ⟨_, s7, rfl⟩ := hR' 11 7 (by kernel_rfl)
        obtain ⟨_, s8, rfl⟩ := hR' 12 8 (by kernel_rfl)
        have e := hs'.shape
        simp only [List.toList_toArray, List.foldl, Go.Rel.reset, Array.getD_eq_getD_getElem?, s22, s23, s24, s25, s26, s27, s28, s29, s21, s30, s31, s7, s8, Option.getD_some] at e
        simp at e
        clear hR' hs' s22 s23 s24 s25 s26 s27 s28 s29 s21 s30 s31 s7 s8
        subst e
        go_wp2
        go_quiet ((first | (go_at_call 11; exact Calls.quiet_of_same ((addno_ring v (.pointer (some ⟨bd, 0, none⟩)) s.node _ (HN4.out _)).mono fun _ _ ⟨h1, h2⟩ => ⟨h1, h2.symm⟩)) | (go_at_call 13; exact Calls.quiet_of_same ((removeno_ring v s.node _ (HN4.out _)).mono fun _ _ ⟨h1, h2⟩ => ⟨h1, h2.symm⟩)) | (go_at_call 18; exact Calls.quiet_of_same ((othersno_ring v (.pointer (some ⟨bd, 0, none⟩)) s.live.A s.live.l.length s.live.c s.node s.many _ (HN4.out _)).mono fun _ _ ⟨h1, h2⟩ => ⟨h1, h2.symm⟩)) | (go_at_call 20; exact Calls.quiet_of_same ((list_no v _ (HN4.out _)).mono fun _ _ ⟨h1, h2⟩ => ⟨h1, h2.symm⟩)) | (go_at_call 21; exact Calls.quiet_of_same ((at_no v _ (HN4.out _)).mono fun _ _ ⟨h1, h2⟩ => ⟨h1, h2.symm⟩)) | (go_at_call 22; exact Calls.quiet_of_same ((taken_any _ _ _ _ (HD4.out _)).mono fun _ _ ⟨h1, h2⟩ => ⟨h1, h2.symm⟩))))
        go_wp2
        go_roundw
        case rel => exact ⟨k + 1, by omega, by go_num, Lib.hid (HI6.out _)⟩
        case measure => simp [intOf]; omega
    · obtain rfl : k = 2 := by omega
      have HWk := Lib.hid (works_any wr)
      have HF : Hid (Below w.heap.size w wr) := Lib.hid (HBw.out.trans ((HB5.out.trans (hq.out.mono HB5.out.size)).mono HBw.out.size))
      go_wp2_with fail
      refine HWk.out.mono ?_
      rintro e w7 ⟨rfl, hb7⟩
      have HB7 := Lib.hid hb7
      clear hb7
      go_wp2
      go_ret
      exact ⟨rfl, HF.out.trans (HB7.out.mono HF.out.size)⟩
end Go.Proofs.Ytckeknhoimgccaa
