/-
  Pieces of a list of rows (two-index slices), and Get, walked (layer 15).
-/
import Derived.Test.YtphjlcogjalidaaTpFind
import Derived.Test.YtphjlcogjalidaaTpCat
import Derived.Test.YtphjlcogjalidaaTbRefD
namespace Go.Proofs.Ytphjlcogjalidaa
open Go.RowKit
set_option linter.unusedSimpArgs false
set_option linter.unusedVariables false

/-- Where what lies behind a place begins. -/
def tailA (A : Option Addr) (lo c : Nat) : Option Addr := if c = lo then A else A.map (·.add (lo * 4))
theorem tw_size (w : World) : (sizeOf (Try.prog.elem 39)).run Try.prog w = .ok 4 w := by kernel_rfl
theorem run_tail {A : Option Addr} {L c lo : Nat} (w : World) (h1 : lo ≤ L) (h2 : L ≤ c) : (Instr.sliceAt 39 (.slice A L c) (some (.int .i64 (lo : Int))) none none).run Try.prog w = .ok (.slice (tailA A lo c) (L - lo) (c - lo)) w := by
  rw [run_sliceAt_slice (P := Try.prog) (h := by kernel_rfl), run_slice_l (P := Try.prog) (ht := by kernel_rfl) (h0 := by omega) (h1 := by omega), tw_size]
  simp only [Result.andThen_ok, sliced, Int.toNat_natCast]
  rfl
theorem run_head {A : Option Addr} {L c i : Nat} (w : World) (h : A = none ∨ ∃ g, A = some ⟨g, 0, none⟩) (h2 : i ≤ c) : (Instr.sliceAt 39 (.slice A L c) none (some (.int .i64 (i : Int))) none).run Try.prog w = .ok (.slice A i c) w := by
  rw [run_sliceAt_slice (P := Try.prog) (h := by kernel_rfl), run_slice_h (P := Try.prog) (ht := by kernel_rfl) (h0 := by omega) (h2 := by omega), tw_size]
  simp only [Result.andThen_ok, sliced, Int.toNat_natCast]
  have e : (if c = 0 then A else A.map (·.add (0 * 4))) = A := by
    split
    · rfl
    · rcases h with rfl | ⟨g, rfl⟩
      · rfl
      · simp [plain_add]
  rw [e]
  rfl
section
variable {S : Nat → Prop} {w : World} {B : Nat} {A : Option Addr} {c : Nat} {t : Tb Int}
theorem PtIs.or (h : PtIs S w B A c t) : A = none ∨ ∃ g, A = some ⟨g, 0, none⟩ := h.at0.imp (·.1) id
theorem PtIs.head (h : PtIs S w B A c t) {i : Nat} (hi : i ≤ t.l.length) : (⟨A, c, t.l.take i⟩ : Pc).Ok w := by
  have e : (t.l.take i).length = i := by rw [List.length_take]; omega
  refine ⟨?_, fun e2 => ?_⟩
  · have := h.row.take hi
    show SK trC 4 w A (t.l.take i).length (t.l.take i)
    rw [e]; exact this
  · rcases h.at0 with ⟨_, e3⟩ | ⟨g, e3⟩
    · exact e3
    · have e2' : A = none := e2
      rw [e2'] at e3; cases e3
theorem PtIs.tail (h : PtIs S w B A c t) {i : Nat} (hi : i ≤ t.l.length) : (⟨tailA A i c, c - i, t.l.drop i⟩ : Pc).Ok w := by
  have hle := h.le
  refine ⟨⟨rfl, fun hn => ?_⟩, fun e2 => ?_⟩
  · have hn' : i < t.l.length := by have : 0 < (t.l.drop i).length := hn; rw [List.length_drop] at this; omega
    obtain ⟨b, off, e, hb, hit⟩ := h.row.2 (by omega)
    rcases h.at0 with ⟨e3, _⟩ | ⟨g, e3⟩
    · rw [e] at e3; cases e3
    · rw [e3] at e
      cases e
      refine ⟨b, i * 4, ?_, hb, fun j hj => ?_⟩
      · show tailA A i c = _
        unfold tailA
        rw [if_neg (by omega), e3]
        simp [plain_add]
      · have hj' : i + j < t.l.length := by have : j < (t.l.drop i).length := hj; rw [List.length_drop] at this; omega
        have := hit (i + j) hj'
        rw [List.getElem_drop]
        rw [Nat.zero_add, Nat.add_mul] at this
        exact this
  · have e2' : tailA A i c = none := e2
    unfold tailA at e2'
    rcases h.at0 with ⟨_, e3⟩ | ⟨g, e3⟩
    · show c - i = 0
      omega
    · rw [e3] at e2'
      split at e2'
      · cases e2'
      · cases e2'
set_option maxHeartbeats 2000000 in
theorem get_any (key : ByteArray) (h : PtAt S w B t) :
    Calls Try.prog 10 #[.pointer (some ⟨B, 0, none⟩), .string key] w fun e w' => e = .returned (gotR (getR t.l key)) ∧ Below w.heap.size w w' := by
  obtain ⟨X, hX⟩ : ∃ X, w.heap.size = X := ⟨_, rfl⟩
  obtain ⟨W, hW⟩ : ∃ W, w.alloc (.cells #[.string ⟨#[]⟩, .int .i64 0, .int .u64 0, .int .u64 0] 32) = W := ⟨_, rfl⟩
  have hb0 : Below w.heap.size w W := by rw [← hW]; exact below1 _ _ _
  have hs0 : W.heap.size = X + 1 := by rw [← hW, ← hX]; simp
  have k0 : W.heap[X]? = some (.cells #[.string ⟨#[]⟩, .int .i64 0, .int .u64 0, .int .u64 0] 32 (0, 0)) := by rw [← hW, ← hX]; exact heap_alloc_new w _
  have h0 := h.below hb0
  have HMd := Lib.hid (made_yes h0)
  have HF := Lib.hid (find_any key h0)
  have HB0 := Lib.hid hb0
  have HK0 := Lib.hid k0
  have HW := Lib.hid hW
  have HX := Lib.hid hX
  have HS0 := Lib.hid hs0
  obtain ⟨hok, A, c, h1⟩ := h0
  have HT := Lib.hid h1
  have HR := Lib.hid hok.rise
  obtain ⟨L, hL⟩ : ∃ L, t.l.length = L := ⟨_, rfl⟩
  have hm : L ≤ 9223372036854775807 := by have := h1.le; have := h1.max; unfold maxLen at this; omega
  have HL := Lib.hid hL
  obtain ⟨o, ho⟩ : ∃ o, getR t.l key = o := ⟨_, rfl⟩
  obtain ⟨pl, hpl⟩ : ∃ pl, plc t.l key = pl := ⟨_, rfl⟩
  obtain ⟨hv, hhv⟩ : ∃ hv, hasB t.l key = hv := ⟨_, rfl⟩
  rw [hpl, hhv] at HF
  rw [ho]
  have HO := Lib.hid ho
  have HPl := Lib.hid hpl
  have HHv := Lib.hid hhv
  clear h hX hL ho hW hb0 hs0 k0 hok h1 hpl hhv
  go_enter Try.func10, Try.ntmps10
  go_wp2_with fail
  rw [HW.out, HX.out]
  refine HMd.out.mono ?_
  rintro e w' ⟨rfl, rfl⟩
  go_wp2_with fail
  refine HF.out.mono ?_
  rintro e w1 ⟨rfl, hb1⟩
  have hj0 := (hb1.block X (block_lt HK0.out)).trans HK0.out
  have HJ := Lib.hid hj0
  obtain ⟨d0, d1, d2, d3⟩ := blk4 hj0
  have z0 := blk_froz hj0 0
  have z1 := blk_froz hj0 1
  have z2 := blk_froz hj0 2
  have z3 := blk_froz hj0 3
  have HB1 : Hid (Below X w w1) := Lib.hid (by rw [← HX.out]; exact HB0.out.trans (hb1.mono HB0.out.size))
  have hXl := block_lt hj0
  cases hv with
  | false =>
    obtain rfl : none = o := by
      have := HHv.out
      unfold hasB at this
      rw [HO.out] at this
      cases o
      · rfl
      · cases this
    have HQ := Lib.hid (set4_blk hj0 (.string ⟨#[]⟩) (.int .i64 0) (.int .u64 0) (.int .u64 0))
    clear hj0 hb1
    go_wp2
    obtain ⟨q0, q1, q2, q3⟩ := blk4 HQ.out
    refine bodyPost_ret (v := .tuple #[trV noRw, .bool false]) (by simp [results, Try.results10, go_sem, q0, q1, q2, q3, trV, noRw]) rfl ⟨rfl, ?_⟩
    rw [HX.out]
    exact below_set4 HB1.out _ _ _ _
  | true =>
    have ht := HT.out.below hb1
    have hq := HHv.out
    have hpL : pl < t.l.length := by
      rw [← HPl.out]
      rcases Nat.lt_or_ge (plc t.l key) t.l.length with e | e
      · exact e
      · rw [hasB_end HR.out (by omega)] at hq; cases hq
    have hpL' : pl < L := by rw [← HL.out]; exact hpL
    have ho : o = some (t.l[pl]'hpL) := by
      have hp := HPl.out
      subst hp
      rw [← HO.out]
      refine get_some HR.out ⟨hpL, ?_⟩
      rw [hasB_at HR.out hpL] at hq
      exact text_same.1 hq
    have c2 : w1.cell? ⟨B, 2, none⟩ = some (.slice A L c) := by have := ht.c2; rw [HL.out] at this; exact this
    obtain ⟨b, off, rfl, hbl, hit⟩ := ht.row.at_ hpL hpL
    obtain ⟨r, hr⟩ : ∃ r, t.l[pl]'hpL = r := ⟨_, rfl⟩
    rw [hr] at hit ho
    subst ho
    obtain ⟨e0, e1, e2, e3⟩ := tr_cells hit
    have HQ := Lib.hid (set4_blk hj0 (.string r.key) (.int .i64 r.val) (.int .u64 (r.made : Int)) (.int .u64 (r.ix : Int)))
    clear hj0 hb1 ht hq hpL hr hit
    go_wp2
    obtain ⟨q0, q1, q2, q3⟩ := blk4 HQ.out
    refine bodyPost_ret (v := .tuple #[trV r, .bool true]) (by simp [results, Try.results10, go_sem, q0, q1, q2, q3, trV]) rfl ⟨rfl, ?_⟩
    rw [HX.out]
    exact below_set4 HB1.out _ _ _ _
end
end Go.Proofs.Ytphjlcogjalidaa
