/-
  Push of the program's queue: the walk (layer 10).
-/
import Derived.Test.YtphkaohcfgmmkaaRuPush
namespace Go.Proofs.Ytphkaohcfgmmkaa
open Go.RowKit Go.Maps
set_option linter.unusedSimpArgs false
set_option linter.unusedVariables false

set_option maxHeartbeats 8000000 in
theorem push_any {B M : Nat} {q : Qu} (u : Up) (w : World) (h : QuAt w B M q) (hsm : q.clock ≤ 1000000) :
    Calls Try.prog 9 #[.pointer (some ⟨B, 0, none⟩), .agg #[.int .i64 u.node, .int .u32 (u.inc : Int), .int .i64 u.st]] w (PushPost w B M q u) := by
  have h1 := h.below (below1 w (.cells #[.int .i64 u.node, .int .u32 (u.inc : Int), .int .i64 u.st] 29))
  have k0 := heap_alloc_new w (.cells #[.int .i64 u.node, .int .u32 (u.inc : Int), .int .i64 u.st] 29)
  have hb := below1 w (.cells #[.int .i64 u.node, .int .u32 (u.inc : Int), .int .i64 u.st] 29)
  obtain ⟨X, hX⟩ : ∃ X, w.heap.size = X := ⟨_, rfl⟩
  obtain ⟨W, hW⟩ : ∃ W, w.alloc (.cells #[.int .i64 u.node, .int .u32 (u.inc : Int), .int .i64 u.st] 29) = W := ⟨_, rfl⟩
  rw [hW] at h1 k0 hb
  rw [hX] at k0
  have HM := Lib.hid (made_yes W h1)
  have HB := Lib.hid hb
  have HW := Lib.hid hW
  have HX := Lib.hid hX
  have HK := Lib.hid k0
  have HQ := Lib.hid h1
  have hlt := block_lt k0
  obtain ⟨d0, d1, d2⟩ := blk3 k0
  have HSm := Lib.hid hsm
  clear h h1 hW hX hb k0 hsm
  cases hr : u.right with
  | false =>
    have HR := Lib.hid (pright_any u W false hr)
    have hT : q.takes u = false := Qu.takes_wrong q hr
    have HT := Lib.hid hT
    clear hr hT
    go_enter Try.func9, Try.ntmps9
    go_wp2_with fail
    rw [HW.out, HX.out]
    refine HM.out.mono ?_
    rintro e w' ⟨rfl, rfl⟩
    clear HM
    go_wp2_with fail
    refine HR.out.mono ?_
    rintro e w2 ⟨rfl, hb2⟩
    have HB2 := Lib.hid hb2
    clear hb2 d0 d1 d2 HR
    go_wp2
    go_ret
    refine ⟨by rw [HT.out]; rfl, ?_, But.of_below (HB.out.trans (HB2.out.mono HB.out.size))⟩
    have e : q.push u = q := by unfold Qu.push; rw [if_neg (by rw [HT.out]; simp)]
    rw [e]
    exact HQ.out.below HB2.out
  | true =>
    have HR := Lib.hid (pright_any u W true hr)
    have HRt := Lib.hid hr
    clear hr
    go_enter Try.func9, Try.ntmps9
    go_wp2_with fail
    rw [HW.out, HX.out]
    refine HM.out.mono ?_
    rintro e w' ⟨rfl, rfl⟩
    clear HM
    go_wp2_with fail
    refine HR.out.mono ?_
    rintro e w2 ⟨rfl, hb2⟩
    have HB2 := Lib.hid (HB.out.trans (hb2.mono HB.out.size))
    have h2 := HQ.out.below hb2
    have HK2 := Lib.hid ((hb2.block X hlt).trans HK.out)
    have HQ2 := Lib.hid h2
    have hlk := (show QuAt w2.drew B M q from h2.keep rfl rfl).map.look (right_wf HRt.out)
    have hlk2 := (show QuAt (w2.alloc (.cells #[.int .i64 0, .int .u32 0, .int .i64 0, .int .i64 0, .int .i64 0] 53)).drew B M q from (h2.below (below1 w2 _)).keep rfl rfl).map.look (right_wf HRt.out)
    obtain ⟨r, hr⟩ : ∃ r, atR (atL q.L) u.node = r := ⟨_, rfl⟩
    obtain ⟨is, his⟩ : ∃ b, (atL q.L u.node).isSome = b := ⟨_, rfl⟩
    rw [hr, his] at hlk hlk2
    unfold ruV at hlk hlk2
    obtain ⟨W5, hW5⟩ : ∃ W5, (w2.alloc (.cells #[.int .i64 r.u.node, .int .u32 (r.u.inc : Int), .int .i64 r.u.st, .int .i64 (r.sent : Int), .int .i64 (r.wh : Int)] 53)).drew = W5 := ⟨_, rfl⟩
    obtain ⟨Y, hY⟩ : ∃ Y, w2.heap.size = Y := ⟨_, rfl⟩
    have k5 : W5.heap[Y]? = some (.cells #[.int .i64 r.u.node, .int .u32 (r.u.inc : Int), .int .i64 r.u.st, .int .i64 (r.sent : Int), .int .i64 (r.wh : Int)] 53 (0, 0)) := by rw [← hW5, ← hY]; exact heap_alloc_new w2 _
    have b5 : Below w2.heap.size w2 W5 := by rw [← hW5]; exact (below1 w2 _).drew
    have HK5 := Lib.hid k5
    have HB5 := Lib.hid (HB2.out.trans (b5.mono HB2.out.size))
    have HKX := Lib.hid ((b5.block X (block_lt HK2.out)).trans HK2.out)
    have HQ5 := Lib.hid (h2.below b5)
    have HW5 := Lib.hid hW5
    have HY := Lib.hid hY
    have HRr := Lib.hid hr
    have HIs := Lib.hid his
    have c2 := h2.c2
    have hBl := h2.lt.1
    have hXl := block_lt HK2.out
    clear d0 d1 d2 hlt
    obtain ⟨d0, d1, d2⟩ := blk3 HK2.out
    clear hb2 h2 hr his hW5 hY k5 b5 HR HQ HK
    cases is with
    | false =>
      have hno : atL q.L u.node = none := by
        have := HIs.out
        cases e : atL q.L u.node with
        | none => rfl
        | some r2 => rw [e] at this; cases this
      have HTk := Lib.hid (push_at_none HRt.out hno)
      clear hno
      go_wp2
      go_region <;>
      (rw [HW5.out, HY.out]
       clear hlk hlk2 d0 d1 d2 c2 hBl hXl
       obtain ⟨V1, hV1⟩ : ∃ V1, W5.setCell ⟨B, 1, none⟩ (.int .i64 ((q.clock : Int) + 1)) = V1 := ⟨_, rfl⟩
       have hbt : But (· = B) W5 V1 := by rw [← hV1]; exact But.set (S := (· = B)) _ (p := ⟨B, 1, none⟩) rfl _
       have hXB : X ≠ B := fun e => by
         have h1 := HKX.out
         rw [e, HQ5.out.blk] at h1
         simp at h1
       have kB : V1.heap[B]? = some (.cells #[.int .i64 (q.mult : Int), .int .i64 ((q.clock : Int) + 1), .map (some M)] 47 (0, 0)) := by rw [← hV1]; exact block_set HQ5.out.blk 1 _
       have kX := (hbt.block X (block_lt HKX.out) hXB).trans HKX.out
       have hmap : QMap V1.drew M (atL q.L) q.L.length := HQ5.out.map.block (hbt.block M HQ5.out.lt.2 (fun e => HQ5.out.ne e.symm))
       obtain ⟨w8, hrun, hm8, hg8, _⟩ := hmap.put ⟨u, 0, q.clock + 1⟩ (right_wf HRt.out) (by have := HQ5.out.few; unfold maxLen; omega)
       have HP : Hid (QuAt w8 B M (q.push u) ∧ ButQ B M W5 w8) := Lib.hid (HQ5.out.pushed HTk.out (by rw [← hV1]; rfl) hm8 (show V1.grownBy w8 (some M) from ⟨hg8.os, hg8.tape, hg8.output, hg8.size, hg8.block⟩))
       unfold ruV at hrun
       simp only [Int.natCast_add, Int.cast_ofNat_Int] at hrun
       have c1 : W5.cell? ⟨B, 1, none⟩ = some (.int .i64 (q.clock : Int)) := HQ5.out.c1
       have f1 := blk_froz HQ5.out.blk 1
       have hq : (q.clock : Int) ≤ 1000000 := by have := HSm.out; omega
       have HV1 := Lib.hid hV1
       have HKB := Lib.hid kB
       have HKX1 := Lib.hid kX
       clear hV1 hbt hXB kB kX hmap hm8 hg8
       go_wp2
       rw [HV1.out]
       clear c1 f1
       obtain ⟨c0, c1, c2⟩ := blk3 HKB.out
       obtain ⟨d0, d1, d2⟩ := blk3 HKX1.out
       go_region
       go_wp2
       go_ret
       exact ⟨by rw [HTk.out]; rfl, HP.out.1, (But.of_below HB5.out).trans HP.out.2⟩)
    | true =>
      have hyes : atL q.L u.node = some r := by
        have := HIs.out
        cases e : atL q.L u.node with
        | none => rw [e] at this; cases this
        | some r2 => rw [← HRr.out]; unfold atR; rw [e]; rfl
      have hTk := push_at_some HRt.out hyes
      have HYes := Lib.hid hyes
      cases ha : u.above r.u with
      | false =>
        rw [ha] at hTk
        have HTk := Lib.hid hTk
        have HA := Lib.hid (pabove_any u r.u W5 false ha)
        clear hTk hyes ha
        go_wp2
        go_region <;>
        (rw [HW5.out, HY.out]
         clear hlk hlk2 d0 d1 d2 c2 hBl hXl
         obtain ⟨c0, c1, c2, c4, c5⟩ := blk5 HK5.out
         obtain ⟨d0, d1, d2⟩ := blk3 HKX.out
         go_wp2_with fail
         refine HA.out.mono ?_
         rintro e w6 ⟨rfl, hb6⟩
         have HB6 := Lib.hid hb6
         clear hb6 HA c0 c1 c2 c4 c5 d0 d1 d2
         go_wp2
         go_ret
         refine ⟨by rw [HTk.out]; rfl, ?_, But.of_below (HB5.out.trans (HB6.out.mono HB5.out.size))⟩
         have e : q.push u = q := by unfold Qu.push; rw [if_neg (by rw [HTk.out]; simp)]
         rw [e]
         exact HQ5.out.below HB6.out)
      | true =>
        rw [ha] at hTk
        have HTk := Lib.hid hTk
        have HA := Lib.hid (pabove_any u r.u W5 true ha)
        clear hTk hyes ha
        go_wp2
        go_region <;>
        (rw [HW5.out, HY.out]
         clear hlk hlk2 d0 d1 d2 c2 hBl hXl
         obtain ⟨c0, c1, c2, c4, c5⟩ := blk5 HK5.out
         obtain ⟨d0, d1, d2⟩ := blk3 HKX.out
         go_wp2_with fail
         refine HA.out.mono ?_
         rintro e w6 ⟨rfl, hb6⟩
         have HB6 := Lib.hid (HB5.out.trans (hb6.mono HB5.out.size))
         have HQ6 := Lib.hid (HQ5.out.below hb6)
         have HKX6 := Lib.hid ((hb6.block X (block_lt HKX.out)).trans HKX.out)
         clear hb6 HA c0 c1 c2 c4 c5 d0 d1 d2
         obtain ⟨V1, hV1⟩ : ∃ V1, w6.setCell ⟨B, 1, none⟩ (.int .i64 ((q.clock : Int) + 1)) = V1 := ⟨_, rfl⟩
         have hbt : But (· = B) w6 V1 := by rw [← hV1]; exact But.set (S := (· = B)) _ (p := ⟨B, 1, none⟩) rfl _
         have hXB : X ≠ B := fun e => by
           have h1 := HKX6.out
           rw [e, HQ6.out.blk] at h1
           simp at h1
         have kB : V1.heap[B]? = some (.cells #[.int .i64 (q.mult : Int), .int .i64 ((q.clock : Int) + 1), .map (some M)] 47 (0, 0)) := by rw [← hV1]; exact block_set HQ6.out.blk 1 _
         have kX := (hbt.block X (block_lt HKX6.out) hXB).trans HKX6.out
         have hmap : QMap V1.drew M (atL q.L) q.L.length := HQ6.out.map.block (hbt.block M HQ6.out.lt.2 (fun e => HQ6.out.ne e.symm))
         obtain ⟨w8, hrun, hm8, hg8, _⟩ := hmap.put ⟨u, 0, q.clock + 1⟩ (right_wf HRt.out) (by have := HQ6.out.few; unfold maxLen; omega)
         have HP : Hid (QuAt w8 B M (q.push u) ∧ ButQ B M w6 w8) := Lib.hid (HQ6.out.pushed HTk.out (by rw [← hV1]; rfl) hm8 (show V1.grownBy w8 (some M) from ⟨hg8.os, hg8.tape, hg8.output, hg8.size, hg8.block⟩))
         unfold ruV at hrun
         simp only [Int.natCast_add, Int.cast_ofNat_Int] at hrun
         have c1 : w6.cell? ⟨B, 1, none⟩ = some (.int .i64 (q.clock : Int)) := HQ6.out.c1
         have f1 := blk_froz HQ6.out.blk 1
         have hq : (q.clock : Int) ≤ 1000000 := by have := HSm.out; omega
         have HV1 := Lib.hid hV1
         have HKB := Lib.hid kB
         have HKX1 := Lib.hid kX
         clear hV1 hbt hXB kB kX hmap hm8 hg8
         go_wp2
         rw [HV1.out]
         clear c1 f1
         obtain ⟨c0, c1, c2⟩ := blk3 HKB.out
         obtain ⟨d0, d1, d2⟩ := blk3 HKX1.out
         go_region
         go_wp2
         go_ret
         exact ⟨by rw [HTk.out]; rfl, HP.out.1, (But.of_below HB6.out).trans HP.out.2⟩)
end Go.Proofs.Ytphkaohcfgmmkaa
