/-
  Pieces of a list of rows (two-index slices), and Get, walked.
-/
import Derived.Test.YtnobpbbedclbkaaZj14
import Derived.Test.YtnobpbbedclbkaaZj15
namespace Go.Proofs.Ytnobpbbedclbkaa.Sx
open Go.RowKit
set_option linter.unusedSimpArgs false
set_option linter.unusedVariables false

theorem tw_size (w : World) : (sizeOf (Try.prog.elem 78)).run Try.prog w = .ok 4 w := by kernel_rfl
theorem run_tail {A : Option Addr} {L c lo : Nat} (w : World) (h1 : lo ≤ L) (h2 : L ≤ c) : (Instr.sliceAt 78 (.slice A L c) (some (.int .i64 (lo : Int))) none none).run Try.prog w = .ok (.slice (tailA 4 A lo c) (L - lo) (c - lo)) w := by
  rw [run_sliceAt_slice (P := Try.prog) (h := by kernel_rfl), run_slice_l (P := Try.prog) (ht := by kernel_rfl) (h0 := by omega) (h1 := by omega), tw_size]
  simp only [Result.andThen_ok, sliced, Int.toNat_natCast]
  rfl
theorem run_head {A : Option Addr} {L c i : Nat} (w : World) (h : A = none ∨ ∃ g, A = some ⟨g, 0, none⟩) (h2 : i ≤ c) : (Instr.sliceAt 78 (.slice A L c) none (some (.int .i64 (i : Int))) none).run Try.prog w = .ok (.slice A i c) w := by
  rw [run_sliceAt_slice (P := Try.prog) (h := by kernel_rfl), run_slice_h (P := Try.prog) (ht := by kernel_rfl) (h0 := by omega) (h2 := by omega), tw_size]
  simp only [Result.andThen_ok, sliced, Int.toNat_natCast]
  have e : (if c = 0 then A else A.map (·.add (0 * 4))) = A := by
    split
    · rfl
    · rcases h with rfl | ⟨g, rfl⟩
      · rfl
      · simp [plain_add]
  rw [e]
  rfl
/-- A row of no key. -/
def noRw : Rw Int := ⟨⟨#[]⟩, 0, 0, 0⟩
/-- The row with a key, or the row of none. -/
def gotR (o : Option (Rw Int)) : Value := .tuple #[trV (o.getD noRw), .bool o.isSome]
section
variable {S : Nat → Prop} {w : World} {B : Nat} {t : Tb Int}
set_option maxHeartbeats 2000000 in
theorem get_any (key : ByteArray) (h : TAt S w B t) :
    Calls Try.prog 27 #[.pointer (some ⟨B, 0, none⟩), .string key] w fun e w' => e = .returned (gotR (getR t.l key)) ∧ Below w.heap.size w w' := by
  obtain ⟨X, hX⟩ : ∃ X, w.heap.size = X := ⟨_, rfl⟩
  obtain ⟨W, hW⟩ : ∃ W, w.alloc (.cells #[.string ⟨#[]⟩, .int .i64 0, .int .u64 0, .int .u64 0] 65) = W := ⟨_, rfl⟩
  have hb0 : Below w.heap.size w W := by rw [← hW]; exact below1 _ _ _
  have k0 : W.heap[X]? = some (.cells #[.string ⟨#[]⟩, .int .i64 0, .int .u64 0, .int .u64 0] 65 (0, 0)) := by rw [← hW, ← hX]; exact heap_alloc_new w _
  have h0 := h.below hb0
  have HMd := Lib.hid (made_yes h0)
  have HF := Lib.hid (find_any key h0)
  have HB0 := Lib.hid hb0
  have HK0 := Lib.hid k0
  have HW := Lib.hid hW
  have HX := Lib.hid hX
  obtain ⟨hok, A, c, h1⟩ := h0
  have HT := Lib.hid h1
  have HR := Lib.hid hok.rise
  obtain ⟨L, hL⟩ : ∃ L, t.l.length = L := ⟨_, rfl⟩
  have hm : L ≤ 9223372036854775807 := by have := h1.le; have := h1.max; unfold maxLen at this; omega
  have HL := Lib.hid hL
  obtain ⟨o, ho⟩ : ∃ o, getR t.l key = o := ⟨_, rfl⟩
  obtain ⟨pl, hpl⟩ : ∃ pl, plc t.l key = pl := ⟨_, rfl⟩
  obtain ⟨hv, hhv⟩ : ∃ hv, hasB t.l key = hv := ⟨_, rfl⟩
  rw [hpl, hhv] at HF
  rw [ho]
  have HO := Lib.hid ho
  have HPl := Lib.hid hpl
  have HHv := Lib.hid hhv
  clear h hX hL ho hW hb0 k0 hok h1 hpl hhv
  go_enter Try.func27, Try.ntmps27
  go_wp2_with fail
  rw [HW.out, HX.out]
  refine HMd.out.mono ?_
  rintro e w' ⟨rfl, rfl⟩
  go_wp2_with fail
  refine HF.out.mono ?_
  rintro e w1 ⟨rfl, hb1⟩
  have hj0 := (hb1.block X (block_lt HK0.out)).trans HK0.out
  obtain ⟨d0, d1, d2, d3⟩ := blk hj0
  have z0 := blk_froz hj0 0
  have z1 := blk_froz hj0 1
  have z2 := blk_froz hj0 2
  have z3 := blk_froz hj0 3
  have HB1 : Hid (Below X w w1) := Lib.hid (by rw [← HX.out]; exact HB0.out.trans (hb1.mono HB0.out.size))
  have hXl := block_lt hj0
  have HXw : Hid (X ≤ w.heap.size) := Lib.hid (by rw [HX.out]; exact Nat.le_refl _)
  cases hv with
  | false =>
    obtain rfl : none = o := (hasB_none HHv.out).symm.trans HO.out
    have HQ := Lib.hid (setL_all hj0 [.string ⟨#[]⟩, .int .i64 0, .int .u64 0, .int .u64 0] rfl)
    clear hj0 hb1
    go_wp2
    obtain ⟨q0, q1, q2, q3⟩ := blk HQ.out
    simp only [setL] at q0 q1 q2 q3
    refine bodyPost_ret (v := .tuple #[trV noRw, .bool false]) (by simp [results, Try.results27, go_sem, q0, q1, q2, q3, trV, noRw]) rfl ⟨rfl, ?_⟩
    rw [HX.out]
    exact below_setL HB1.out HXw.out [.string ⟨#[]⟩, .int .i64 0, .int .u64 0, .int .u64 0] 0
  | true =>
    have ht := HT.out.below hb1
    obtain ⟨hpL, -, hg⟩ := hasB_lt HR.out HHv.out
    rw [HO.out] at hg
    obtain ⟨r, hr⟩ : ∃ r, t.l[plc t.l key] = r := ⟨_, rfl⟩
    rw [hr] at hg
    subst hg
    have hpL' : pl < L := by rw [← HL.out, ← HPl.out]; exact hpL
    have c2 : w1.cell? ⟨B, 2, none⟩ = some (.slice A L c) := by have := ht.c2; rw [HL.out] at this; exact this
    obtain ⟨b, off, rfl, hbl, hit⟩ := ht.row.at_ hpL hpL
    rw [hr, HPl.out] at hit
    obtain ⟨e0, e1, e2, e3⟩ := tr_cells hit
    have HQ := Lib.hid (setL_all hj0 [.string r.key, .int .i64 r.val, .int .u64 (r.made : Int), .int .u64 (r.ix : Int)] rfl)
    clear hj0 hb1 ht hpL hr hit
    go_wp2
    obtain ⟨q0, q1, q2, q3⟩ := blk HQ.out
    simp only [setL] at q0 q1 q2 q3
    refine bodyPost_ret (v := .tuple #[trV r, .bool true]) (by simp [results, Try.results27, go_sem, q0, q1, q2, q3, trV]) rfl ⟨rfl, ?_⟩
    rw [HX.out]
    exact below_setL HB1.out HXw.out [.string r.key, .int .i64 r.val, .int .u64 (r.made : Int), .int .u64 (r.ix : Int)] 0
theorem get_no {q : Option Addr} (key : ByteArray) (h : NoTp 80 w q) : Calls Try.prog 27 #[.pointer q, .string key] w fun e w' => e = .returned (gotR none) ∧ Below w.heap.size w w' := by
  obtain ⟨X, hX⟩ : ∃ X, w.heap.size = X := ⟨_, rfl⟩
  obtain ⟨W, hW⟩ : ∃ W, w.alloc (.cells #[.string ⟨#[]⟩, .int .i64 0, .int .u64 0, .int .u64 0] 65) = W := ⟨_, rfl⟩
  have hb0 : Below w.heap.size w W := by rw [← hW]; exact below1 _ _ _
  have k0 : W.heap[X]? = some (.cells #[.string ⟨#[]⟩, .int .i64 0, .int .u64 0, .int .u64 0] 65 (0, 0)) := by rw [← hW, ← hX]; exact heap_alloc_new w _
  have HMd := Lib.hid (made_no (h.below hb0))
  have HQ := Lib.hid (setL_all k0 [.string ⟨#[]⟩, .int .i64 0, .int .u64 0, .int .u64 0] rfl)
  have HB1 : Hid (Below X w (setL X 0 [.string ⟨#[]⟩, .int .i64 0, .int .u64 0, .int .u64 0] W)) := Lib.hid (below_setL (hX ▸ hb0) (by omega) [.string ⟨#[]⟩, .int .i64 0, .int .u64 0, .int .u64 0] 0)
  have HW := Lib.hid hW
  have HX := Lib.hid hX
  obtain ⟨d0, d1, d2, d3⟩ := blk k0
  have z0 := blk_froz k0 0
  have z1 := blk_froz k0 1
  have z2 := blk_froz k0 2
  have z3 := blk_froz k0 3
  have hXl := block_lt k0
  clear h hX hW hb0 k0
  go_enter Try.func27, Try.ntmps27
  go_wp2_with fail
  rw [HW.out, HX.out]
  refine HMd.out.mono ?_
  rintro e w' ⟨rfl, rfl⟩
  go_wp2
  obtain ⟨q0, q1, q2, q3⟩ := blk HQ.out
  simp only [setL] at q0 q1 q2 q3
  refine bodyPost_ret (v := .tuple #[trV noRw, .bool false]) (by simp [results, Try.results27, go_sem, q0, q1, q2, q3, trV, noRw]) rfl ⟨rfl, ?_⟩
  rw [HX.out]
  exact HB1.out
end
end Go.Proofs.Ytnobpbbedclbkaa.Sx
