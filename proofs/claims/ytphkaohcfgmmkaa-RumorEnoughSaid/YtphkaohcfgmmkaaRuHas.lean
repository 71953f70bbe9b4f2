/-
  Has of the program's queue, walked (layer 10).
-/
import Derived.Test.YtphkaohcfgmmkaaRuLimit
import Derived.Test.YtphkaohcfgmmkaaRkEqU
namespace Go.Proofs.Ytphkaohcfgmmkaa
open Go.RowKit Go.Maps
set_option linter.unusedSimpArgs false
set_option linter.unusedVariables false

/-- Is just that update in the queue? -/
def hasQ (L : List Ru) (u : Up) : Bool := (atL L u.node).isSome && decide ((atR (atL L) u.node).u = u)
theorem has_no (v : Value) (u : Up) (w : World) (h : NoQu w v) : Calls Try.prog 14 #[v, .agg #[.int .i64 u.node, .int .u32 (u.inc : Int), .int .i64 u.st]] w fun e w' => e = .returned (.bool false) ∧ Below w.heap.size w w' := by
  have HM := Lib.hid (made_no v _ (h.below (below1 w (.cells #[.int .i64 u.node, .int .u32 (u.inc : Int), .int .i64 u.st] 29))))
  clear h
  go_enter Try.func14, Try.ntmps14
  go_wp2_with fail
  refine HM.out.mono ?_
  rintro e w' ⟨rfl, rfl⟩
  go_wp2
  go_ret
  exact ⟨rfl, below1 _ _⟩
set_option maxHeartbeats 8000000 in
theorem has_any {B M : Nat} {q : Qu} (u : Up) (hu : wfI u.node) (w : World) (h : QuAt w B M q) :
    Calls Try.prog 14 #[.pointer (some ⟨B, 0, none⟩), .agg #[.int .i64 u.node, .int .u32 (u.inc : Int), .int .i64 u.st]] w fun e w' => e = .returned (.bool (hasQ q.L u)) ∧ Below w.heap.size w w' := by
  have h1 := h.below (below1 w (.cells #[.int .i64 u.node, .int .u32 (u.inc : Int), .int .i64 u.st] 29))
  have k0 := heap_alloc_new w (.cells #[.int .i64 u.node, .int .u32 (u.inc : Int), .int .i64 u.st] 29)
  have hb := below1 w (.cells #[.int .i64 u.node, .int .u32 (u.inc : Int), .int .i64 u.st] 29)
  obtain ⟨X, hX⟩ : ∃ X, w.heap.size = X := ⟨_, rfl⟩
  obtain ⟨W, hW⟩ : ∃ W, w.alloc (.cells #[.int .i64 u.node, .int .u32 (u.inc : Int), .int .i64 u.st] 29) = W := ⟨_, rfl⟩
  rw [hW] at h1 k0 hb
  rw [hX] at k0
  have HM := Lib.hid (made_yes W h1)
  have hlk := (show QuAt W.drew B M q from h1.keep rfl rfl).map.look hu
  have hlk2 := (show QuAt (W.alloc (.cells #[.int .i64 0, .int .u32 0, .int .i64 0, .int .i64 0, .int .i64 0] 53)).drew B M q from (h1.below (below1 W _)).keep rfl rfl).map.look hu
  have he : hasQ q.L u = ((atL q.L u.node).isSome && decide ((atR (atL q.L) u.node).u = u)) := rfl
  obtain ⟨r, hr⟩ : ∃ r, atR (atL q.L) u.node = r := ⟨_, rfl⟩
  obtain ⟨is, his⟩ : ∃ b, (atL q.L u.node).isSome = b := ⟨_, rfl⟩
  rw [hr, his] at hlk hlk2 he
  rw [he]
  unfold ruV at hlk hlk2
  have hlt := block_lt k0
  obtain ⟨W5, hW5⟩ : ∃ W5, (W.alloc (.cells #[.int .i64 r.u.node, .int .u32 (r.u.inc : Int), .int .i64 r.u.st, .int .i64 (r.sent : Int), .int .i64 (r.wh : Int)] 53)).drew = W5 := ⟨_, rfl⟩
  have k5 : W5.heap[W.heap.size]? = some (.cells #[.int .i64 r.u.node, .int .u32 (r.u.inc : Int), .int .i64 r.u.st, .int .i64 (r.sent : Int), .int .i64 (r.wh : Int)] 53 (0, 0)) := by rw [← hW5]; exact heap_alloc_new W _
  have b5 : Below W.heap.size W W5 := by rw [← hW5]; exact (below1 W _).drew
  have HK5 := Lib.hid k5
  have HB5 := Lib.hid (hb.trans (b5.mono hb.size))
  have HKX := Lib.hid ((b5.block X hlt).trans k0)
  have HW5 := Lib.hid hW5
  have HB := Lib.hid hb
  have HW := Lib.hid hW
  have HX := Lib.hid hX
  have HK := Lib.hid k0
  have hsz : W.heap.size = X + 1 := by rw [← hW, ← hX]; simp
  have HSZ := Lib.hid hsz
  have c2 := h1.c2
  have hBl := h1.lt.1
  obtain ⟨d0, d1, d2⟩ := blk3 k0
  clear h h1 hr his hW hX hb k0 k5 b5 hW5 he hsz
  have ug := up_guard
  have ue := fun w => up_eq r.u u w
  obtain ⟨z, hz⟩ : ∃ z, decide (r.u = u) = z := ⟨_, rfl⟩
  rw [hz] at ue ⊢
  clear hz
  go_enter Try.func14, Try.ntmps14
  go_wp2_with fail
  rw [HW.out, HX.out]
  refine HM.out.mono ?_
  rintro e w' ⟨rfl, rfl⟩
  cases is <;>
  (go_wp2
   go_region) <;>
  (rw [HW5.out]
   clear d0 d1 d2
   obtain ⟨c0, c1, c3, c4, c5⟩ := blk5 HK5.out
   obtain ⟨d0, d1, d2⟩ := blk3 HKX.out
   go_wp2
   go_ret
   exact ⟨by simp, HB5.out⟩)
end Go.Proofs.Ytphkaohcfgmmkaa
