/-
  The program's Find and the document's (layer 8).
-/
import Derived.Test.YtmfokogckfoheaaRkRef
namespace Go.Proofs.Ytmfokogckfoheaa
open Go.RowKit
set_option linter.unusedSimpArgs false
set_option linter.unusedVariables false

def zeroUp : Up := ⟨0, 0, 0⟩
def foundU (l : List Up) (z : Int) : Up := (findU l z).getD zeroUp
theorem findU_drop {l : List Up} {z : Int} {k : Nat} (h : findU l z = findU (l.drop k) z) (hk : k < l.length) (hn : l[k].node ≠ z) : findU l z = findU (l.drop (k + 1)) z := by
  rw [h, List.drop_eq_getElem_cons hk, findU_cons, if_neg hn]
theorem findU_hit {l : List Up} {z : Int} {k : Nat} (h : findU l z = findU (l.drop k) z) (hk : k < l.length) (hn : l[k].node = z) : findU l z = some l[k] := by
  rw [h, List.drop_eq_getElem_cons hk, findU_cons, if_pos hn]
theorem findU_end {l : List Up} {z : Int} {k : Nat} (h : findU l z = findU (l.drop k) z) (hk : l.length ≤ k) : findU l z = none := by
  rw [h, List.drop_eq_nil_of_le hk]; rfl
theorem SUp.block_ {w wr : World} {A : Option Addr} {n : Nat} {l : List Up} (h : SUp w A n l) {m : Nat} (hm : w.heap.size ≤ m) {w0 : World} (h0 : Below w.heap.size w w0) (hs : m ≤ w0.heap.size) (hb : Below m w0 wr) : SUp wr A n l :=
  h.of_block (h0.trans (hb.mono hm))
set_option maxHeartbeats 4000000 in
theorem pfind_any (A : Option Addr) (n c : Nat) (l : List Up) (z : Int) (w : World) (hS : SUp w A n l) (hnc : n ≤ c) (hm : c ≤ maxLen) :
    Calls Try.prog 27 #[.slice A n c, .int .i64 z] w fun e w' => e = .returned (.tuple #[.agg #[.int .i64 (foundU l z).node, .int .u32 ((foundU l z).inc : Int), .int .i64 (foundU l z).st], .bool (findU l z).isSome]) ∧ Below w.heap.size w w' := by
  unfold maxLen at hm
  have hl := hS.1
  obtain ⟨fu, hfu⟩ : ∃ f, foundU l z = f := ⟨_, rfl⟩
  obtain ⟨fb, hfb⟩ : ∃ f, (findU l z).isSome = f := ⟨_, rfl⟩
  rw [hfu, hfb]
  obtain ⟨X, hX⟩ : ∃ X, w.heap.size = X := ⟨_, rfl⟩
  obtain ⟨W, hW⟩ : ∃ W, w.alloc (.cells #[.int .i64 0, .int .u32 0, .int .i64 0] 32) = W := ⟨_, rfl⟩
  have hb0 : Below w.heap.size w W := by rw [← hW]; exact below1 _ _
  have hs0 : W.heap.size = X + 1 := by rw [← hW, ← hX]; simp
  have k0 : W.heap[X]? = some (.cells #[.int .i64 0, .int .u32 0, .int .i64 0] 32 (0, 0)) := by rw [← hW, ← hX]; exact heap_alloc_new w _
  have HS := Lib.hid (hS.of_block hb0)
  have HB0 := Lib.hid hb0
  have HS0 := Lib.hid hs0
  have HK0 := Lib.hid k0
  have HX := Lib.hid hX
  have HW := Lib.hid hW
  have HFU := Lib.hid hfu
  have HFB := Lib.hid hfb
  have HL := Lib.hid hl
  have hm' : (n : Int) ≤ 9223372036854775807 := by omega
  clear hS hl hfu hfb hX hW hb0 hs0 k0
  go_enter Try.func27, Try.ntmps27
  go_wp2_with fail
  rw [HW.out, HX.out]
  go_loopw [7, 10] (fun u i wr => ∃ k : Nat, k ≤ n ∧ i = .int .i64 (k : Int) ∧ Hid (findU l z = findU (l.drop k) z) ∧ Hid (Below (X + 1) W wr)) (fun _ i _ => n - (intOf i).toNat)
  case atStart => exact ⟨0, Nat.zero_le _, rfl, Lib.hid rfl, Lib.hid (HS0.out ▸ Below.refl _ _)⟩
  case round =>
    obtain ⟨k, hk, rfl, hf, hb⟩ := hrel
    by_cases hlt : k < n
    · have hkl : k < l.length := by have := HL.out; omega
      obtain ⟨b, off, rfl, hbl, hc0, hc1, hc2⟩ := (HS.out.of_block (hb.out.mono (by have := HS0.out; omega))).at_ hlt hkl
      obtain ⟨x, hx⟩ : ∃ x, l[k] = x := ⟨_, rfl⟩
      rw [hx] at hc0 hc1 hc2
      have HXk := Lib.hid hx
      have hj0 := (hb.out.block X (by omega)).trans HK0.out
      obtain ⟨d0, d1, d2⟩ := blk3 hj0
      have g0 := blk_froz hj0 0
      have g1 := blk_froz hj0 1
      have g2 := blk_froz hj0 2
      have hXl := block_lt hj0
      have HJ := Lib.hid hj0
      clear hx hj0
      by_cases hz : x.node = z
      · have zz : (x.node == z) = true := by rw [beq_iff_eq]; exact hz
        have HZ := Lib.hid hz
        clear hz
        have q := set3_blk HJ.out (.int .i64 x.node) (.int .u32 (x.inc : Int)) (.int .i64 x.st)
        have q2 := (heap_alloc_old _ (.cells #[.int .i64 x.node, .int .u32 (x.inc : Int), .int .i64 x.st] 32) (block_lt q)).trans q
        have HQ := Lib.hid q2
        clear q q2
        have hn := findU_hit hf.out hkl (by rw [HXk.out]; exact HZ.out)
        obtain rfl : x = fu := by rw [← HFU.out]; unfold foundU; rw [hn, HXk.out]; rfl
        obtain rfl : true = fb := by rw [← HFB.out, hn]; rfl
        clear hn
        go_wp2
        obtain ⟨e0, e1, e2⟩ := blk3 HQ.out
        refine bodyPost_ret (v := .tuple #[.agg #[.int .i64 x.node, .int .u32 (x.inc : Int), .int .i64 x.st], .bool true]) (by simp [results, Try.results27, go_sem, e0, e1, e2]) rfl ⟨rfl, ?_⟩
        have hbw : Below w.heap.size w wr := HB0.out.trans (hb.out.mono (by have := HX.out; omega))
        exact (((hbw.setCell (by exact Nat.le_of_eq HX.out) _).setCell (by exact Nat.le_of_eq HX.out) _).setCell (by exact Nat.le_of_eq HX.out) _).alloc (by simp [World.setCell]; exact hbw.size) _
      · have zz : (x.node == z) = false := by rw [beq_eq_false_iff_ne]; exact hz
        have HZ := Lib.hid hz
        clear hz d0 d1 d2 g0 g1 g2
        go_wp2
        go_roundw
        case rel => exact ⟨k + 1, by omega, by go_num, Lib.hid (findU_drop hf.out hkl (by rw [HXk.out]; exact HZ.out)), Lib.hid (hb.out.trans (below1 _ _ |>.mono (by have := hb.out.size; have := HS0.out; omega)))⟩
        case measure => simp [intOf]; omega
    · have hj0 := (hb.out.block X (by omega)).trans HK0.out
      obtain ⟨d0, d1, d2⟩ := blk3 hj0
      have g0 := blk_froz hj0 0
      have g1 := blk_froz hj0 1
      have g2 := blk_froz hj0 2
      have HJ := Lib.hid hj0
      have q := set3_blk hj0 (.int .i64 0) (.int .u32 0) (.int .i64 0)
      have HQ := Lib.hid q
      clear hj0 q
      have hn := findU_end hf.out (show l.length ≤ k by have := HL.out; omega)
      obtain rfl : zeroUp = fu := by rw [← HFU.out]; unfold foundU; rw [hn]; rfl
      obtain rfl : false = fb := by rw [← HFB.out, hn]; rfl
      clear hn
      go_wp2
      obtain ⟨e0, e1, e2⟩ := blk3 HQ.out
      refine bodyPost_ret (v := .tuple #[.agg #[.int .i64 0, .int .u32 0, .int .i64 0], .bool false]) (by simp [results, Try.results27, go_sem, e0, e1, e2]) rfl ⟨rfl, ?_⟩
      have hbw : Below w.heap.size w wr := HB0.out.trans (hb.out.mono (by have := HX.out; omega))
      exact ((hbw.setCell (by exact Nat.le_of_eq HX.out) _).setCell (by exact Nat.le_of_eq HX.out) _).setCell (by exact Nat.le_of_eq HX.out) _
set_option maxHeartbeats 4000000 in
theorem rfind_any (A : Option Addr) (n c : Nat) (l : List Up) (z : Int) (w : World) (hS : SUp w A n l) (hnc : n ≤ c) (hm : c ≤ maxLen) :
    Calls Try.prog 16 #[.slice A n c, .int .i64 z] w fun e w' => e = .returned (.tuple #[.agg #[.int .i64 (foundU l z).node, .int .u32 ((foundU l z).inc : Int), .int .i64 (foundU l z).st], .bool (findU l z).isSome]) ∧ Below w.heap.size w w' := by
  unfold maxLen at hm
  have hl := hS.1
  obtain ⟨fu, hfu⟩ : ∃ f, foundU l z = f := ⟨_, rfl⟩
  obtain ⟨fb, hfb⟩ : ∃ f, (findU l z).isSome = f := ⟨_, rfl⟩
  rw [hfu, hfb]
  obtain ⟨X, hX⟩ : ∃ X, w.heap.size = X := ⟨_, rfl⟩
  obtain ⟨W, hW⟩ : ∃ W, w.alloc (.cells #[.int .i64 0, .int .u32 0, .int .i64 0] 32) = W := ⟨_, rfl⟩
  have hb0 : Below w.heap.size w W := by rw [← hW]; exact below1 _ _
  have hs0 : W.heap.size = X + 1 := by rw [← hW, ← hX]; simp
  have k0 : W.heap[X]? = some (.cells #[.int .i64 0, .int .u32 0, .int .i64 0] 32 (0, 0)) := by rw [← hW, ← hX]; exact heap_alloc_new w _
  have HS := Lib.hid (hS.of_block hb0)
  have HB0 := Lib.hid hb0
  have HS0 := Lib.hid hs0
  have HK0 := Lib.hid k0
  have HX := Lib.hid hX
  have HW := Lib.hid hW
  have HFU := Lib.hid hfu
  have HFB := Lib.hid hfb
  have HL := Lib.hid hl
  have hm' : (n : Int) ≤ 9223372036854775807 := by omega
  clear hS hl hfu hfb hX hW hb0 hs0 k0
  go_enter Try.func16, Try.ntmps16
  go_wp2_with fail
  rw [HW.out, HX.out]
  go_loopw [6] (fun i wr => ∃ k : Nat, k ≤ n ∧ i = .int .i64 (k : Int) ∧ Hid (findU l z = findU (l.drop k) z) ∧ Hid (Below (X + 1) W wr)) (fun i _ => n - (intOf i).toNat)
  case atStart => exact ⟨0, Nat.zero_le _, rfl, Lib.hid rfl, Lib.hid (HS0.out ▸ Below.refl _ _)⟩
  case round =>
    obtain ⟨k, hk, rfl, hf, hb⟩ := hrel
    by_cases hlt : k < n
    · have hkl : k < l.length := by have := HL.out; omega
      obtain ⟨b, off, rfl, hbl, hc0, hc1, hc2⟩ := (HS.out.of_block (hb.out.mono (by have := HS0.out; omega))).at_ hlt hkl
      obtain ⟨x, hx⟩ : ∃ x, l[k] = x := ⟨_, rfl⟩
      rw [hx] at hc0 hc1 hc2
      have HXk := Lib.hid hx
      have hj0 := (hb.out.block X (by omega)).trans HK0.out
      obtain ⟨d0, d1, d2⟩ := blk3 hj0
      have g0 := blk_froz hj0 0
      have g1 := blk_froz hj0 1
      have g2 := blk_froz hj0 2
      have hXl := block_lt hj0
      have HJ := Lib.hid hj0
      clear hx hj0
      by_cases hz : x.node = z
      · have zz : (x.node == z) = true := by rw [beq_iff_eq]; exact hz
        have HZ := Lib.hid hz
        clear hz
        have q := set3_blk HJ.out (.int .i64 x.node) (.int .u32 (x.inc : Int)) (.int .i64 x.st)
        have HQ := Lib.hid q
        clear q
        have hn := findU_hit hf.out hkl (by rw [HXk.out]; exact HZ.out)
        obtain rfl : x = fu := by rw [← HFU.out]; unfold foundU; rw [hn, HXk.out]; rfl
        obtain rfl : true = fb := by rw [← HFB.out, hn]; rfl
        clear hn
        go_wp2
        obtain ⟨e0, e1, e2⟩ := blk3 HQ.out
        refine bodyPost_ret (v := .tuple #[.agg #[.int .i64 x.node, .int .u32 (x.inc : Int), .int .i64 x.st], .bool true]) (by simp [results, Try.results16, go_sem, e0, e1, e2]) rfl ⟨rfl, ?_⟩
        have hbw : Below w.heap.size w wr := HB0.out.trans (hb.out.mono (by have := HX.out; omega))
        exact ((hbw.setCell (by exact Nat.le_of_eq HX.out) _).setCell (by exact Nat.le_of_eq HX.out) _).setCell (by exact Nat.le_of_eq HX.out) _
      · have zz : (x.node == z) = false := by rw [beq_eq_false_iff_ne]; exact hz
        have HZ := Lib.hid hz
        clear hz d0 d1 d2 g0 g1 g2
        go_wp2
        go_roundw
        case rel => exact ⟨k + 1, by omega, by go_num, Lib.hid (findU_drop hf.out hkl (by rw [HXk.out]; exact HZ.out)), hb⟩
        case measure => simp [intOf]; omega
    · have hj0 := (hb.out.block X (by omega)).trans HK0.out
      obtain ⟨d0, d1, d2⟩ := blk3 hj0
      have g0 := blk_froz hj0 0
      have g1 := blk_froz hj0 1
      have g2 := blk_froz hj0 2
      have HJ := Lib.hid hj0
      have q := set3_blk hj0 (.int .i64 0) (.int .u32 0) (.int .i64 0)
      have HQ := Lib.hid q
      clear hj0 q
      have hn := findU_end hf.out (show l.length ≤ k by have := HL.out; omega)
      obtain rfl : zeroUp = fu := by rw [← HFU.out]; unfold foundU; rw [hn]; rfl
      obtain rfl : false = fb := by rw [← HFB.out, hn]; rfl
      clear hn
      go_wp2
      obtain ⟨e0, e1, e2⟩ := blk3 HQ.out
      refine bodyPost_ret (v := .tuple #[.agg #[.int .i64 0, .int .u32 0, .int .i64 0], .bool false]) (by simp [results, Try.results16, go_sem, e0, e1, e2]) rfl ⟨rfl, ?_⟩
      have hbw : Below w.heap.size w wr := HB0.out.trans (hb.out.mono (by have := HX.out; omega))
      exact ((hbw.setCell (by exact Nat.le_of_eq HX.out) _).setCell (by exact Nat.le_of_eq HX.out) _).setCell (by exact Nat.le_of_eq HX.out) _
end Go.Proofs.Ytmfokogckfoheaa
