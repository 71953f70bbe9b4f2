/-
  Get, walked (layer 18).
-/
import Derived.Test.YtnobpbbedclbkaaZj30
import Derived.Test.YtnobpbbedclbkaaZj31
namespace Go.Proofs.Ytnobpbbedclbkaa
open Go.RowKit
set_option linter.unusedSimpArgs false
set_option linter.unusedVariables false

section
variable {S : Nat → Prop} {w : World} {B Bt : Nat} {t : Sm}
set_option maxHeartbeats 4000000 in
theorem sget_any (id : Nat) (h : SAt S w B Bt t) (hd : id < 18446744073709551616) : Calls Try.prog 20 #[.pointer (some ⟨B, 0, none⟩), .int .u64 (id : Int)] w fun e w' => e = .returned (getV (getS t.l id)) ∧ Below w.heap.size w w' := by
  obtain ⟨T, hr, ht⟩ := h.tab
  have he := hr.get digH_lt hd
  obtain ⟨k, hk⟩ : ∃ k, keyS digH id = k := ⟨_, rfl⟩
  have HKey := Lib.hid (fun W => key_any id W hd)
  rw [hk] at HKey he
  have HT := Lib.hid (fun W (hw : Below w.heap.size w W) => table_is ((hw.block B h.lt).trans h.ptr))
  have HG := Lib.hid (fun W (hw : Below w.heap.size w W) => Sx.get_any k (ht.below hw))
  obtain ⟨X, hX⟩ : ∃ X, w.heap.size = X := ⟨_, rfl⟩
  obtain ⟨W, hW⟩ : ∃ W, w.alloc (.cells #[.int .u64 0, .int .i64 0, .int .u64 0, .int .u64 0] TSn) = W := ⟨_, rfl⟩
  have HB0 : Hid (Below w.heap.size w W) := Lib.hid (by rw [← hW]; exact below1 _ _ _)
  have HK0 : Hid (W.heap[X]? = some (.cells #[.int .u64 0, .int .i64 0, .int .u64 0, .int .u64 0] TSn (0, 0))) := Lib.hid (by rw [← hW, ← hX]; exact heap_alloc_new w _)
  have HW := Lib.hid hW
  have HX := Lib.hid hX
  rw [← he]
  obtain ⟨og, hog⟩ : ∃ og, getR T.l k = og := ⟨_, rfl⟩
  rw [hog] at HG ⊢
  clear h hr ht he hd hk hX hW hog
  cases og with
  | none =>
    simp only [Option.map_none, getV]
    unfold Sx.gotR Sx.trV Sx.noRw at HG
    simp only [Option.getD_none, Option.isSome_none] at HG
    go_enter Try.func20, Try.ntmps20
    go_wp2_with fail
    rw [HW.out, HX.out]
    go_wp2_with fail
    refine (HT.out W HB0.out).mono ?_
    rintro e w' ⟨rfl, rfl⟩
    go_wp2_with fail
    refine (HKey.out W).mono ?_
    rintro e w1 ⟨rfl, hb1⟩
    go_wp2_with fail
    refine (HG.out w1 (HB0.out.trans (hb1.mono HB0.out.size))).mono ?_
    rintro e w2 ⟨rfl, hb2⟩
    have hb12 : Below W.heap.size W w2 := hb1.trans (hb2.mono hb1.size)
    have kx := (hb12.block X (block_lt HK0.out)).trans HK0.out
    have hXl := block_lt kx
    have HB2 : Hid (Below X w w2) := Lib.hid (by rw [← HX.out]; exact HB0.out.trans (hb12.mono HB0.out.size))
    obtain ⟨Y, hY⟩ : ∃ Y, w2.heap.size = Y := ⟨_, rfl⟩
    have hb3 := below1 w2 #[.string ⟨#[]⟩, .int .i64 0, .int .u64 0, .int .u64 0] 65
    have hrow := heap_alloc_new w2 (.cells #[.string ⟨#[]⟩, .int .i64 0, .int .u64 0, .int .u64 0] 65)
    have kx3 := (hb3.block X hXl).trans kx
    have HB3 : Hid (Below X w (w2.alloc (.cells #[.string ⟨#[]⟩, .int .i64 0, .int .u64 0, .int .u64 0] 65))) := Lib.hid (HB2.out.trans (hb3.mono (by have := HX.out; have := HB2.out.size; omega)))
    have hXl3 : X < w2.heap.size + 1 := by omega
    have hXs : X ≤ w.heap.size := by rw [HX.out]; exact Nat.le_refl _
    obtain ⟨y0, y1, y2, y3⟩ := sn_blk kx
    have z0 := blk_froz kx 0
    have z1 := blk_froz kx 1
    have z2 := blk_froz kx 2
    have z3 := blk_froz kx 3
    have hQ := setL_all kx [.int .u64 0, .int .i64 0, .int .u64 0, .int .u64 0] rfl
    have HQ := Lib.hid (((below1 (setL X 0 [.int .u64 0, .int .i64 0, .int .u64 0, .int .u64 0] w2) #[.string ⟨#[]⟩, .int .i64 0, .int .u64 0, .int .u64 0] 65).block X (block_lt hQ)).trans hQ)
    have HB5 : Hid (Below X w ((setL X 0 [.int .u64 0, .int .i64 0, .int .u64 0, .int .u64 0] w2).alloc (.cells #[.string ⟨#[]⟩, .int .i64 0, .int .u64 0, .int .u64 0] 65))) := Lib.hid (by
      have h5 := below_setL HB2.out hXs [.int .u64 0, .int .i64 0, .int .u64 0, .int .u64 0] 0
      exact h5.trans ((below1 _ _ _).mono (Nat.le_of_lt (block_lt hQ))))
    clear hb1 hb2 hb12 hb3 hrow kx kx3 hY HT HG HKey hQ
    go_wp2
    obtain ⟨q0, q1, q2, q3⟩ := sn_blk HQ.out
    simp only [setL] at q0 q1 q2 q3
    refine bodyPost_ret (v := .tuple #[.agg #[.int .u64 0, .int .i64 0, .int .u64 0, .int .u64 0], .bool false]) (by simp [results, Try.results20, go_sem, q0, q1, q2, q3]) rfl ⟨rfl, ?_⟩
    rw [HX.out]
    exact HB5.out
  | some r =>
    simp only [Option.map_some, getV, snV, snOf]
    unfold Sx.gotR Sx.trV at HG
    simp only [Option.getD_some, Option.isSome_some] at HG
    go_enter Try.func20, Try.ntmps20
    go_wp2_with fail
    rw [HW.out, HX.out]
    go_wp2_with fail
    refine (HT.out W HB0.out).mono ?_
    rintro e w' ⟨rfl, rfl⟩
    go_wp2_with fail
    refine (HKey.out W).mono ?_
    rintro e w1 ⟨rfl, hb1⟩
    go_wp2_with fail
    refine (HG.out w1 (HB0.out.trans (hb1.mono HB0.out.size))).mono ?_
    rintro e w2 ⟨rfl, hb2⟩
    have hb12 : Below W.heap.size W w2 := hb1.trans (hb2.mono hb1.size)
    have kx := (hb12.block X (block_lt HK0.out)).trans HK0.out
    have hXl := block_lt kx
    have HB2 : Hid (Below X w w2) := Lib.hid (by rw [← HX.out]; exact HB0.out.trans (hb12.mono HB0.out.size))
    obtain ⟨Y, hY⟩ : ∃ Y, w2.heap.size = Y := ⟨_, rfl⟩
    have hb3 := below1 w2 #[.string r.key, .int .i64 r.val, .int .u64 (r.made : Int), .int .u64 (r.ix : Int)] 65
    have hrow := heap_alloc_new w2 (.cells #[.string r.key, .int .i64 r.val, .int .u64 (r.made : Int), .int .u64 (r.ix : Int)] 65)
    have kx3 := (hb3.block X hXl).trans kx
    have HB3 : Hid (Below X w (w2.alloc (.cells #[.string r.key, .int .i64 r.val, .int .u64 (r.made : Int), .int .u64 (r.ix : Int)] 65))) := Lib.hid (HB2.out.trans (hb3.mono (by have := HX.out; have := HB2.out.size; omega)))
    have hXl3 : X < w2.heap.size + 1 := by omega
    have hXs : X ≤ w.heap.size := by rw [HX.out]; exact Nat.le_refl _
    obtain ⟨w3, hw3⟩ : ∃ w3, w2.alloc (.cells #[.string r.key, .int .i64 r.val, .int .u64 (r.made : Int), .int .u64 (r.ix : Int)] 65) = w3 := ⟨_, rfl⟩
    rw [hw3] at hrow hb3 kx3 HB3
    rw [hY] at hrow
    have HY := Lib.hid hY
    have HW3 := Lib.hid hw3
    obtain ⟨d0, d1, d2, d3⟩ := Sx.blk hrow
    have HX3 := Lib.hid kx3
    have HSs := Lib.hid (session_any r w3)
    unfold Sx.trV snV snOf at HSs
    simp only at HSs
    clear hb1 hb2 hb12 hw3 hrow hb3 hY kx kx3 HT HG HKey
    go_wp2_with fail
    rw [HW3.out, HY.out]
    go_wp2_with fail
    refine HSs.out.mono ?_
    rintro e w4 ⟨rfl, hb4⟩
    have kx4 := (hb4.block X (block_lt HX3.out)).trans HX3.out
    have HB4 : Hid (Below X w w4) := Lib.hid (HB3.out.trans (hb4.mono (Nat.le_of_lt (block_lt HX3.out))))
    obtain ⟨y0, y1, y2, y3⟩ := sn_blk kx4
    have z0 := blk_froz kx4 0
    have z1 := blk_froz kx4 1
    have z2 := blk_froz kx4 2
    have z3 := blk_froz kx4 3
    have hx4 := block_lt kx4
    have HQ := Lib.hid (setL_all kx4 [.int .u64 (r.made : Int), .int .i64 r.val, .int .u64 (r.made : Int), .int .u64 (r.ix : Int)] rfl)
    clear hb4 kx4 HSs
    go_wp2
    obtain ⟨q0, q1, q2, q3⟩ := sn_blk HQ.out
    simp only [setL] at q0 q1 q2 q3
    refine bodyPost_ret (v := .tuple #[.agg #[.int .u64 (r.made : Int), .int .i64 r.val, .int .u64 (r.made : Int), .int .u64 (r.ix : Int)], .bool true]) (by simp [results, Try.results20, go_sem, q0, q1, q2, q3]) rfl ⟨rfl, ?_⟩
    rw [HX.out]
    exact below_setL HB4.out hXs [.int .u64 (r.made : Int), .int .i64 r.val, .int .u64 (r.made : Int), .int .u64 (r.ix : Int)] 0
set_option maxHeartbeats 4000000 in
theorem sget_no {p : Option Addr} (id : Nat) (h : NoS w p) (hd : id < 18446744073709551616) : Calls Try.prog 20 #[.pointer p, .int .u64 (id : Int)] w fun e w' => e = .returned (getV none) ∧ Below w.heap.size w w' := by
  obtain ⟨k, hk⟩ : ∃ k, keyS digH id = k := ⟨_, rfl⟩
  have HKey := Lib.hid (fun W => key_any id W hd)
  rw [hk] at HKey
  have HT := Lib.hid (fun W (hw : Below w.heap.size w W) => table_no (h.below hw))
  have HG := Lib.hid (fun W (_ : Below w.heap.size w W) => Sx.get_no (w := W) (q := none) k ⟨.inl rfl⟩)
  obtain ⟨X, hX⟩ : ∃ X, w.heap.size = X := ⟨_, rfl⟩
  obtain ⟨W, hW⟩ : ∃ W, w.alloc (.cells #[.int .u64 0, .int .i64 0, .int .u64 0, .int .u64 0] TSn) = W := ⟨_, rfl⟩
  have HB0 : Hid (Below w.heap.size w W) := Lib.hid (by rw [← hW]; exact below1 _ _ _)
  have HK0 : Hid (W.heap[X]? = some (.cells #[.int .u64 0, .int .i64 0, .int .u64 0, .int .u64 0] TSn (0, 0))) := Lib.hid (by rw [← hW, ← hX]; exact heap_alloc_new w _)
  have HW := Lib.hid hW
  have HX := Lib.hid hX
  clear h hd hk hX hW
  simp only [getV]
  unfold Sx.gotR Sx.trV Sx.noRw at HG
  simp only [Option.getD_none, Option.isSome_none] at HG
  go_enter Try.func20, Try.ntmps20
  go_wp2_with fail
  rw [HW.out, HX.out]
  go_wp2_with fail
  refine (HT.out W HB0.out).mono ?_
  rintro e w' ⟨rfl, rfl⟩
  go_wp2_with fail
  refine (HKey.out W).mono ?_
  rintro e w1 ⟨rfl, hb1⟩
  go_wp2_with fail
  refine (HG.out w1 (HB0.out.trans (hb1.mono HB0.out.size))).mono ?_
  rintro e w2 ⟨rfl, hb2⟩
  have hb12 : Below W.heap.size W w2 := hb1.trans (hb2.mono hb1.size)
  have kx := (hb12.block X (block_lt HK0.out)).trans HK0.out
  have hXl := block_lt kx
  have HB2 : Hid (Below X w w2) := Lib.hid (by rw [← HX.out]; exact HB0.out.trans (hb12.mono HB0.out.size))
  obtain ⟨Y, hY⟩ : ∃ Y, w2.heap.size = Y := ⟨_, rfl⟩
  have hb3 := below1 w2 #[.string ⟨#[]⟩, .int .i64 0, .int .u64 0, .int .u64 0] 65
  have hrow := heap_alloc_new w2 (.cells #[.string ⟨#[]⟩, .int .i64 0, .int .u64 0, .int .u64 0] 65)
  have kx3 := (hb3.block X hXl).trans kx
  have HB3 : Hid (Below X w (w2.alloc (.cells #[.string ⟨#[]⟩, .int .i64 0, .int .u64 0, .int .u64 0] 65))) := Lib.hid (HB2.out.trans (hb3.mono (by have := HX.out; have := HB2.out.size; omega)))
  have hXl3 : X < w2.heap.size + 1 := by omega
  have hXs : X ≤ w.heap.size := by rw [HX.out]; exact Nat.le_refl _
  obtain ⟨y0, y1, y2, y3⟩ := sn_blk kx
  have z0 := blk_froz kx 0
  have z1 := blk_froz kx 1
  have z2 := blk_froz kx 2
  have z3 := blk_froz kx 3
  have hQ := setL_all kx [.int .u64 0, .int .i64 0, .int .u64 0, .int .u64 0] rfl
  have HQ := Lib.hid (((below1 (setL X 0 [.int .u64 0, .int .i64 0, .int .u64 0, .int .u64 0] w2) #[.string ⟨#[]⟩, .int .i64 0, .int .u64 0, .int .u64 0] 65).block X (block_lt hQ)).trans hQ)
  have HB5 : Hid (Below X w ((setL X 0 [.int .u64 0, .int .i64 0, .int .u64 0, .int .u64 0] w2).alloc (.cells #[.string ⟨#[]⟩, .int .i64 0, .int .u64 0, .int .u64 0] 65))) := Lib.hid (by
    have h5 := below_setL HB2.out hXs [.int .u64 0, .int .i64 0, .int .u64 0, .int .u64 0] 0
    exact h5.trans ((below1 _ _ _).mono (Nat.le_of_lt (block_lt hQ))))
  clear hb1 hb2 hb12 hb3 hrow kx kx3 hY HT HG HKey hQ
  go_wp2
  obtain ⟨q0, q1, q2, q3⟩ := sn_blk HQ.out
  simp only [setL] at q0 q1 q2 q3
  refine bodyPost_ret (v := .tuple #[.agg #[.int .u64 0, .int .i64 0, .int .u64 0, .int .u64 0], .bool false]) (by simp [results, Try.results20, go_sem, q0, q1, q2, q3]) rfl ⟨rfl, ?_⟩
  rw [HX.out]
  exact HB5.out
end
end Go.Proofs.Ytnobpbbedclbkaa
