/-
  The program's merger: add (layer 8).
-/
import Derived.Test.YtmfokogckfoheaaRkMg
namespace Go.Proofs.Ytmfokogckfoheaa
open Go.RowKit
set_option linter.unusedSimpArgs false
set_option linter.unusedVariables false

def addR (M : Nat) (U : Nat) (T : Nat) (j : Nat) (ix : Nat) (sx : Int) (y : Up) (r : Bool) : Nat → Value → World → Prop
  | 0, v, _ => v = .agg #[.int .i64 y.node, .int .u32 (y.inc : Int), .int .i64 y.st, .bool true]
  | 1, v, _ => v = .agg #[.int .i64 0, .int .u32 0, .int .i64 0, .bool false]
  | 2, v, _ => v = .bool false
  | 3, v, _ => v = .bool false
  | 4, v, _ => v = .pointer (some ⟨M, 0, none⟩)
  | 5, v, _ => v = .pointer (some ⟨M, 0, none⟩)
  | 6, v, _ => v = .pointer (some ⟨M, 0, none⟩)
  | 7, v, _ => v = abvV
  | 8, v, _ => v = .agg #[.int .i64 (j : Int), .int .u32 (ix : Int), .int .i64 sx]
  | 9, v, _ => v = .pointer (some ⟨T, 0, none⟩)
  | 10, v, _ => v = .agg #[.int .i64 y.node, .int .u32 (y.inc : Int), .int .i64 y.st]
  | 11, v, _ => v = .bool r
  | 12, v, _ => v = .bool r
  | _, _, _ => True
theorem addR_stable (M : Nat) (U : Nat) (T : Nat) (j : Nat) (ix : Nat) (sx : Int) (y : Up) (r : Bool) : ∀ i v w w', addR M U T j ix sx y r i v w → Go.Rel.Grew w w' → addR M U T j ix sx y r i v w'
  | 0, _, _, _, h, _ | 1, _, _, _, h, _ | 2, _, _, _, h, _ | 3, _, _, _, h, _ | 4, _, _, _, h, _ | 5, _, _, _, h, _ | 6, _, _, _, h, _ | 7, _, _, _, h, _ | 8, _, _, _, h, _ | 9, _, _, _, h, _ | 10, _, _, _, h, _ | 11, _, _, _, h, _ | 12, _, _, _, h, _ => h
  | _ + 13, _, _, _, h, _ => h

set_option maxRecDepth 100000 in
set_option maxHeartbeats 16000000 in
theorem add_any (M : Nat) (A : Option Addr) (n c : Nat) (l L : List Up) (cur : Array Value) (w : World) (hM : MgAt w M L cur) (hS : SUp w A n l) (hnc : n ≤ c) (hm : c ≤ maxLen) (hne : 0 < n → ∀ b off, A = some ⟨b, off, none⟩ → b ≠ M) :
    Calls Try.prog 37 #[.pointer (some ⟨M, 0, none⟩), .slice A n c] w fun e w' => e = .returned (.tuple #[]) ∧ (∃ cur', MgAt w' M (L ++ l) cur') ∧ But (· = M) w w' := by
  unfold maxLen at hm
  have HL := Lib.hid hS.1
  have HS := Lib.hid hS
  have HNe := Lib.hid hne
  have HM := Lib.hid hM
  have hm' : (n : Int) ≤ 9223372036854775807 := by omega
  clear hS hne hM
  go_enter Try.func37, Try.ntmps37
  go_wp2
  go_loopw [5, 6, 9] (fun u s i wr => ∃ k : Nat, k ≤ n ∧ i = .int .i64 (k : Int) ∧ Hid (∃ cur', MgAt wr M (L ++ l.take k) cur') ∧ Hid (But (· = M) w wr)) (fun _ _ i _ => n - (intOf i).toNat)
  case atStart => exact ⟨0, Nat.zero_le _, rfl, Lib.hid ⟨cur, by simpa using HM.out⟩, Lib.hid (But.refl _ _)⟩
  case round =>
    obtain ⟨k, hk, rfl, hg, hb⟩ := hrel
    by_cases hlt : k < n
    · have hkl : k < l.length := by have := HL.out; omega
      have HTk := Lib.hid (show L ++ l.take (k + 1) = (L ++ l.take k) ++ [l[k]] by rw [List.take_succ_eq_append_getElem hkl, List.append_assoc])
      obtain ⟨b, off, rfl, hbl, hc0, hc1, hc2⟩ := HS.out.at_ hlt hkl
      have hbne := HNe.out (by omega) b off rfl
      have hblk := hb.out.block b hbl hbne
      obtain ⟨hc0, hc1, hc2⟩ := UpAt.of_block ⟨hc0, hc1, hc2⟩ hblk
      obtain ⟨x, hx⟩ : ∃ x, l[k] = x := ⟨_, rfl⟩
      rw [hx] at hc0 hc1 hc2 HTk
      obtain ⟨cu, hMg⟩ := hg.out
      have HMg := Lib.hid hMg
      obtain ⟨U, hU⟩ : ∃ U, wr.heap.size = U := ⟨_, rfl⟩
      have HU := Lib.hid hU
      clear hx hMg hblk hU
      cases hr : x.right with
      | false =>
        obtain ⟨W1, hW1⟩ : ∃ W1, wr.alloc (.cells #[.int .i64 x.node, .int .u32 (x.inc : Int), .int .i64 x.st] 32) = W1 := ⟨_, rfl⟩
        have HB1 : Hid (Below wr.heap.size wr W1) := Lib.hid (by rw [← hW1]; exact below1 _ _)
        have HW1 := Lib.hid hW1
        have HR := Lib.hid (pright_any x W1 false hr)
        have HRr := Lib.hid hr
        clear hr hW1
        go_wp2_with fail
        rw [HW1.out]
        refine HR.out.mono ?_
        rintro e w2 ⟨rfl, hb2⟩
        have HB12 := Lib.hid (HB1.out.trans (hb2.mono HB1.out.size))
        clear hb2
        go_wp2
        go_roundw
        case rel => exact ⟨k + 1, by omega, by go_num, Lib.hid ⟨cu, by rw [HTk.out]; exact (HMg.out.skip (.inl HRr.out)).keep (HB12.out.block M (block_lt HMg.out.blk))⟩, Lib.hid (hb.out.trans (But.of_below HB12.out))⟩
        case measure => simp [intOf]; omega
      | true =>
        obtain ⟨j, hj, hjn⟩ := right_lt hr
        obtain ⟨xn, ix, sx⟩ := x
        simp only at hjn hc0 hc1 hc2
        subst hjn
        obtain ⟨W1, hW1⟩ : ∃ W1, wr.alloc (.cells #[.int .i64 (j : Int), .int .u32 (ix : Int), .int .i64 sx] 32) = W1 := ⟨_, rfl⟩
        have hU1 : W1.heap[U]? = some (.cells #[.int .i64 (j : Int), .int .u32 (ix : Int), .int .i64 sx] 32 (0, 0)) := by rw [← hW1, ← HU.out]; exact heap_alloc_new wr _
        have HB1 : Hid (Below wr.heap.size wr W1) := Lib.hid (by rw [← hW1]; exact below1 _ _)
        have HU1 := Lib.hid hU1
        have HW1 := Lib.hid hW1
        have HR := Lib.hid (pright_any ⟨(j : Int), ix, sx⟩ W1 true hr)
        have HRr := Lib.hid hr
        clear hr hU1 hW1
        go_wp2_with fail
        rw [HW1.out, HU.out]
        refine HR.out.mono ?_
        rintro e w2 ⟨rfl, hb2⟩
        have hb12 := HB1.out.trans (hb2.mono HB1.out.size)
        have HMg2 : Hid (MgAt w2 M (L ++ l.take k) cu) := Lib.hid (HMg.out.keep (hb12.block M (block_lt HMg.out.blk)))
        have hU2 := (hb2.block U (block_lt HU1.out)).trans HU1.out
        obtain ⟨c0, c1, c2⟩ := blk3 hU2
        obtain ⟨m0, m1, m2, m3⟩ := HMg2.out.slot j hj
        have s0 := blk_cells HMg2.out.blk 0 _ HMg2.out.fn
        have HU2 := Lib.hid hU2
        have HB12 := Lib.hid hb12
        have hUl := block_lt hU2
        have hMl := block_lt HMg2.out.blk
        have hUM : U ≠ M := by have := block_lt HMg.out.blk; have := HU.out; omega
        have HUM := Lib.hid hUM
        have HBx : Hid (But (· = M) w w2) := Lib.hid (hb.out.trans (But.of_below hb12))
        have q1 : (j : Int) < 8 := by omega
        have q0 : (0 : Int) ≤ (j : Int) := by omega
        obtain ⟨T, hT⟩ : ∃ T, w2.heap.size = T := ⟨_, rfl⟩
        have HT := Lib.hid hT
        clear hb2 hb12 hU2 hc0 hc1 hc2 hUM hT
        cases hsl : bestOf (j : Int) (L ++ l.take k) with
        | none =>
          rw [hsl] at m0 m1 m2 m3
          have s1 : w2.cell? ⟨M, 1 + j * 4, none⟩ = some (.int .i64 0) := blk_cells HMg2.out.blk _ _ m0
          have s2 : w2.cell? ⟨M, 1 + j * 4 + 1, none⟩ = some (.int .u32 0) := blk_cells HMg2.out.blk _ _ m1
          have s3 : w2.cell? ⟨M, 1 + j * 4 + 2, none⟩ = some (.int .i64 0) := blk_cells HMg2.out.blk _ _ m2
          have s4 : w2.cell? ⟨M, 1 + j * 4 + 3, none⟩ = some (.bool false) := blk_cells HMg2.out.blk _ _ m3
          have sg := slot_guard
          have se : ∀ w, (Op.equalIn 10000 76 (.agg #[.int .i64 0, .int .u32 0, .int .i64 0, .bool false]) (.agg #[.int .i64 0, .int .u32 0, .int .i64 0, .bool false])).run Try.prog w = .ok true w := fun w => slot_eq ⟨0, 0, 0⟩ false w (fun _ => rfl)
          have HSl := Lib.hid hsl
          clear m0 m1 m2 m3 hsl
          go_wp2
          go_region
          go_wp2
          go_quiet (fail)
          go_wp2
          clear c0 c1 c2 s0 s1 s2 s3 s4 se sg
          obtain ⟨W5, hW5⟩ : ∃ W5, (w2.alloc (.cells #[.int .i64 0, .int .u32 0, .int .i64 0, .bool false] 76)).drew.drewN nq = W5 := ⟨_, rfl⟩
          rw [hW5]
          have hB5 : Below w2.heap.size w2 W5 := by rw [← hW5]; exact below_drewN ((below1 w2 _).drew) nq
          have HMg5 : Hid (MgAt W5 M (L ++ l.take k) cu) := Lib.hid (HMg2.out.keep (hB5.block M (block_lt HMg2.out.blk)))
          have hU5 := (hB5.block U (block_lt HU2.out)).trans HU2.out
          have HB5 := Lib.hid hB5
          clear hB5 hW5
          obtain ⟨c0, c1, c2⟩ := blk3 hU5
          obtain ⟨m0, m1, m2, m3⟩ := HMg5.out.slot j hj
          have s1 := blk_cells HMg5.out.blk _ _ m0
          have s2 := blk_cells HMg5.out.blk _ _ m1
          have s3 := blk_cells HMg5.out.blk _ _ m2
          have s4 := blk_cells HMg5.out.blk _ _ m3
          have g0 := blk_froz HMg5.out.blk (1 + j * 4)
          have g1 := blk_froz HMg5.out.blk (1 + j * 4 + 1)
          have g2 := blk_froz HMg5.out.blk (1 + j * 4 + 2)
          have g3 := blk_froz HMg5.out.blk (1 + j * 4 + 3)
          clear m0 m1 m2 m3 hU5
          go_wp2
          go_region
          go_wp2
          go_roundw
          case rel => exact ⟨k + 1, by omega, by go_num, Lib.hid ⟨_, by rw [HTk.out]; exact (MgAt.keep (w' := W5.drew) HMg5.out rfl).write HRr.out hj rfl (.inl HSl.out)⟩, Lib.hid ((((((HBx.out.trans (But.of_below HB5.out)).trans (But.drew (But.refl _ _))).trans (But.set (S := (· = M)) _ (p := ⟨M, 1 + j * 4, none⟩) rfl _)).trans (But.set (S := (· = M)) _ (p := ⟨M, 1 + j * 4 + 1, none⟩) rfl _)).trans (But.set (S := (· = M)) _ (p := ⟨M, 1 + j * 4 + 2, none⟩) rfl _)).trans (But.set (S := (· = M)) _ (p := ⟨M, 1 + j * 4 + 3, none⟩) rfl _))⟩
          case measure => simp [intOf]; omega
        | some y =>
          rw [hsl] at m0 m1 m2 m3
          have s1 : w2.cell? ⟨M, 1 + j * 4, none⟩ = some (.int .i64 y.node) := blk_cells HMg2.out.blk _ _ m0
          have s2 : w2.cell? ⟨M, 1 + j * 4 + 1, none⟩ = some (.int .u32 (y.inc : Int)) := blk_cells HMg2.out.blk _ _ m1
          have s3 : w2.cell? ⟨M, 1 + j * 4 + 2, none⟩ = some (.int .i64 y.st) := blk_cells HMg2.out.blk _ _ m2
          have s4 : w2.cell? ⟨M, 1 + j * 4 + 3, none⟩ = some (.bool true) := blk_cells HMg2.out.blk _ _ m3
          have HEq : Hid (∀ w, (Op.equalIn 10000 76 (.agg #[.int .i64 y.node, .int .u32 (y.inc : Int), .int .i64 y.st, .bool true]) (.agg #[.int .i64 0, .int .u32 0, .int .i64 0, .bool false])).run Try.prog w = .ok false w) := Lib.hid (fun w => slot_eq y true w (fun h => by cases h))
          obtain ⟨r, hr⟩ : ∃ r, (⟨(j : Int), ix, sx⟩ : Up).above y = r := ⟨_, rfl⟩
          have HAb := Lib.hid (fun w => pabove_any ⟨(j : Int), ix, sx⟩ y w r hr)
          have HSl := Lib.hid hsl
          have HRab := Lib.hid hr
          clear m0 m1 m2 m3 hsl hr
          go_wp2
          go_region
          go_wp2
          obtain ⟨W4, hW4⟩ : ∃ W4, (w2.alloc (.cells #[.int .i64 y.node, .int .u32 (y.inc : Int), .int .i64 y.st, .bool true] 76)).drew = W4 := ⟨_, rfl⟩
          rw [hW4, HT.out]
          have hB4 : Below w2.heap.size w2 W4 := by rw [← hW4]; exact (below1 w2 _).drew
          have hT4 : W4.heap[T]? = some (.cells #[.int .i64 y.node, .int .u32 (y.inc : Int), .int .i64 y.st, .bool true] 76 (0, 0)) := by rw [← hW4, ← HT.out]; exact heap_alloc_new w2 _
          have hU4 := (hB4.block U (block_lt HU2.out)).trans HU2.out
          have hM4 := (hB4.block M (block_lt HMg2.out.blk)).trans HMg2.out.blk
          have HC : Hid (∀ w', Go.Rel.Grew W4 w' → w'.cell? ⟨U, 0, none⟩ = some (.int .i64 (j : Int)) ∧ w'.cell? ⟨U, 1, none⟩ = some (.int .u32 (ix : Int)) ∧ w'.cell? ⟨U, 2, none⟩ = some (.int .i64 sx) ∧ w'.cell? ⟨M, 0, none⟩ = some (abvV) ∧ w'.cell? ⟨T, 0, none⟩ = some (.int .i64 y.node) ∧ w'.cell? ⟨T, 1, none⟩ = some (.int .u32 (y.inc : Int)) ∧ w'.cell? ⟨T, 2, none⟩ = some (.int .i64 y.st) ∧ w'.cell? ⟨T, 3, none⟩ = some (.bool true)) := by
            refine Lib.hid (fun w' hle => ?_)
            have j0 := (Below.block hle U (block_lt hU4)).trans hU4
            have j1 := (Below.block hle M (block_lt hM4)).trans hM4
            have j2 := (Below.block hle T (block_lt hT4)).trans hT4
            exact ⟨blk_cells j0 0 _ rfl, blk_cells j0 1 _ rfl, blk_cells j0 2 _ rfl, blk_cells j1 0 _ HMg2.out.fn, blk_cells j2 0 _ rfl, blk_cells j2 1 _ rfl, blk_cells j2 2 _ rfl, blk_cells j2 3 _ rfl⟩
          have HB4 := Lib.hid hB4
          clear hB4 hT4 hU4 hM4 hW4 c0 c1 c2 s0 s1 s2 s3 s4
          refine Go.Rel.wp_region_grew (by kernel_rfl) (by kernel_rfl) (by kernel_rfl) (by kernel_rfl) (addR M U T j ix sx y r) (addR_stable M U T j ix sx y r) ?hsteps ?hend
          case hsteps =>
            refine (.cons ?_ (.cons ?_ (.cons ?_ (.cons ?_ (.cons ?_ (.cons ?_ (.cons ?_ (.cons ?_ (.cons ?_ (.cons ?_ (.cons ?_ (.cons ?_ (.cons ?_ .nil)))))))))))))
            · intro a w' hle hs' hd K hK
              have f6 : a.tmps[6]? = some (.pointer (some ⟨T, 0, none⟩)) := hs'.2.2 6 (by kernel_rfl)
              obtain ⟨x0, x1, x2, x3, x4, x5, x6, x7⟩ := HC.out w' hle
              unfold Go.Rel.stepOf
              go_simp
              exact hK _ _ (Go.Rel.Grew.refl _) rfl
            · intro a w' hle hs' hd K hK
              unfold Go.Rel.stepOf
              go_simp
              exact hK _ _ (Go.Rel.Grew.refl _) rfl
            · intro a w' hle hs' hd K hK
              obtain ⟨_, t0, rfl⟩ := hd 0 23 (by kernel_rfl)
              obtain ⟨_, t1, rfl⟩ := hd 1 24 (by kernel_rfl)
              have sg := slot_guard
              have se := HEq.out
              unfold Go.Rel.stepOf
              go_simp
              exact hK _ _ (Go.Rel.Grew.refl _) rfl
            · intro a w' hle hs' hd K hK
              obtain ⟨_, t2, rfl⟩ := hd 2 25 (by kernel_rfl)
              unfold Go.Rel.stepOf
              go_simp
              exact hK _ _ (Go.Rel.Grew.refl _) rfl
            · intro a w' hle hs' hd K hK
              obtain ⟨_, tg, rfl⟩ := hd 3 26 (by kernel_rfl)
              have f0 : a.tmps[0]? = some (.pointer (some ⟨M, 0, none⟩)) := hs'.2.2 0 (by kernel_rfl)
              unfold Go.Rel.stepOf
              go_simp
              exact hK _ _ (Go.Rel.Grew.refl _) rfl
            · intro a w' hle hs' hd K hK
              obtain ⟨_, tg, rfl⟩ := hd 3 26 (by kernel_rfl)
              obtain ⟨_, t4, rfl⟩ := hd 4 27 (by kernel_rfl)
              unfold Go.Rel.stepOf
              go_simp
              exact hK _ _ (Go.Rel.Grew.refl _) rfl
            · intro a w' hle hs' hd K hK
              obtain ⟨_, tg, rfl⟩ := hd 3 26 (by kernel_rfl)
              obtain ⟨_, t5, rfl⟩ := hd 5 28 (by kernel_rfl)
              unfold Go.Rel.stepOf
              go_simp
              exact hK _ _ (Go.Rel.Grew.refl _) rfl
            · intro a w' hle hs' hd K hK
              obtain ⟨_, tg, rfl⟩ := hd 3 26 (by kernel_rfl)
              obtain ⟨_, t6, rfl⟩ := hd 6 29 (by kernel_rfl)
              obtain ⟨x0, x1, x2, x3, x4, x5, x6, x7⟩ := HC.out w' hle
              unfold Go.Rel.stepOf
              go_simp
              exact hK _ _ (Go.Rel.Grew.refl _) rfl
            · intro a w' hle hs' hd K hK
              obtain ⟨_, tg, rfl⟩ := hd 3 26 (by kernel_rfl)
              have f5 : a.tmps[5]? = some (.pointer (some ⟨U, 0, none⟩)) := hs'.2.2 5 (by kernel_rfl)
              obtain ⟨x0, x1, x2, x3, x4, x5, x6, x7⟩ := HC.out w' hle
              unfold Go.Rel.stepOf
              go_simp
              exact hK _ _ (Go.Rel.Grew.refl _) rfl
            · intro a w' hle hs' hd K hK
              obtain ⟨_, tg, rfl⟩ := hd 3 26 (by kernel_rfl)
              have f6 : a.tmps[6]? = some (.pointer (some ⟨T, 0, none⟩)) := hs'.2.2 6 (by kernel_rfl)
              unfold Go.Rel.stepOf
              go_simp
              exact hK _ _ (Go.Rel.Grew.refl _) rfl
            · intro a w' hle hs' hd K hK
              obtain ⟨_, tg, rfl⟩ := hd 3 26 (by kernel_rfl)
              obtain ⟨_, t9, rfl⟩ := hd 9 32 (by kernel_rfl)
              obtain ⟨x0, x1, x2, x3, x4, x5, x6, x7⟩ := HC.out w' hle
              unfold Go.Rel.stepOf
              go_simp
              exact hK _ _ (Go.Rel.Grew.refl _) rfl
            · intro a w' hle hs' hd K hK
              obtain ⟨_, tg, rfl⟩ := hd 3 26 (by kernel_rfl)
              obtain ⟨_, t7, rfl⟩ := hd 7 30 (by kernel_rfl)
              obtain ⟨_, t8, rfl⟩ := hd 8 31 (by kernel_rfl)
              obtain ⟨_, t10, rfl⟩ := hd 10 33 (by kernel_rfl)
              unfold Go.Rel.stepOf
              go_simp
              refine (HAb.out w').mono ?_
              rintro e w2 ⟨rfl, hb5⟩
              exact hK _ _ hb5 rfl
            · intro a w' hle hs' hd K hK
              obtain ⟨_, t3, rfl⟩ := hd 3 26 (by kernel_rfl)
              obtain ⟨_, t11, rfl⟩ := hd 11 34 (by kernel_rfl)
              unfold Go.Rel.stepOf
              go_simp
              exact hK _ _ (Go.Rel.Grew.refl _) rfl
          case hend =>
            intro a w3 hle hs' hR'
            obtain ⟨v23, s23, _⟩ := hR' 0 23 (by kernel_rfl)
            obtain ⟨v24, s24, _⟩ := hR' 1 24 (by kernel_rfl)
            obtain ⟨v25, s25, _⟩ := hR' 2 25 (by kernel_rfl)
            obtain ⟨v26, s26, _⟩ := hR' 3 26 (by kernel_rfl)
            obtain ⟨v27, s27, _⟩ := hR' 4 27 (by kernel_rfl)
            obtain ⟨v28, s28, _⟩ := hR' 5 28 (by kernel_rfl)
            obtain ⟨v29, s29, _⟩ := hR' 6 29 (by kernel_rfl)
            obtain ⟨v30, s30, _⟩ := hR' 7 30 (by kernel_rfl)
            obtain ⟨v31, s31, _⟩ := hR' 8 31 (by kernel_rfl)
            obtain ⟨v32, s32, _⟩ := hR' 9 32 (by kernel_rfl)
            obtain ⟨v33, s33, _⟩ := hR' 10 33 (by kernel_rfl)
            obtain ⟨v34, s34, _⟩ := hR' 11 34 (by kernel_rfl)
            obtain ⟨_, s35, rfl⟩ := hR' 12 35 (by kernel_rfl)
            have e := hs'.shape
            simp only [List.toList_toArray, List.foldl, Go.Rel.reset, Array.getD_eq_getD_getElem?, s23, s24, s25, s26, s27, s28, s29, s30, s31, s32, s33, s34, s35, Option.getD_some] at e
            simp at e
            clear hR' hs' s23 s24 s25 s26 s27 s28 s29 s30 s31 s32 s33 s34 s35
            subst e
            cases r with
            | true =>
              go_wp2
              obtain ⟨W5, hW5⟩ : ∃ W5, w3 = W5 := ⟨_, rfl⟩
              rw [hW5]
              have hB5 : Below w2.heap.size w2 W5 := by rw [← hW5]; exact HB4.out.trans (Below.mono hle HB4.out.size)
              have HMg5 : Hid (MgAt W5 M (L ++ l.take k) cu) := Lib.hid (HMg2.out.keep (hB5.block M (block_lt HMg2.out.blk)))
              have hU5 := (hB5.block U (block_lt HU2.out)).trans HU2.out
              have HB5 := Lib.hid hB5
              clear hB5 hW5
              obtain ⟨c0, c1, c2⟩ := blk3 hU5
              obtain ⟨m0, m1, m2, m3⟩ := HMg5.out.slot j hj
              have s1 := blk_cells HMg5.out.blk _ _ m0
              have s2 := blk_cells HMg5.out.blk _ _ m1
              have s3 := blk_cells HMg5.out.blk _ _ m2
              have s4 := blk_cells HMg5.out.blk _ _ m3
              have g0 := blk_froz HMg5.out.blk (1 + j * 4)
              have g1 := blk_froz HMg5.out.blk (1 + j * 4 + 1)
              have g2 := blk_froz HMg5.out.blk (1 + j * 4 + 2)
              have g3 := blk_froz HMg5.out.blk (1 + j * 4 + 3)
              clear m0 m1 m2 m3 hU5
              go_wp2
              go_region
              go_wp2
              go_roundw
              case rel => exact ⟨k + 1, by omega, by go_num, Lib.hid ⟨_, by rw [HTk.out]; exact (MgAt.keep (w' := W5.drew) HMg5.out rfl).write HRr.out hj rfl (.inr ⟨y, HSl.out, HRab.out⟩)⟩, Lib.hid ((((((HBx.out.trans (But.of_below HB5.out)).trans (But.drew (But.refl _ _))).trans (But.set (S := (· = M)) _ (p := ⟨M, 1 + j * 4, none⟩) rfl _)).trans (But.set (S := (· = M)) _ (p := ⟨M, 1 + j * 4 + 1, none⟩) rfl _)).trans (But.set (S := (· = M)) _ (p := ⟨M, 1 + j * 4 + 2, none⟩) rfl _)).trans (But.set (S := (· = M)) _ (p := ⟨M, 1 + j * 4 + 3, none⟩) rfl _))⟩
              case measure => simp [intOf]; omega
            | false =>
              have HB5 := Lib.hid (HB4.out.trans (Below.mono hle HB4.out.size))
              clear hle
              go_wp2
              go_roundw
              case rel => exact ⟨k + 1, by omega, by go_num, Lib.hid ⟨cu, by rw [HTk.out]; exact (HMg2.out.keep (HB5.out.block M (block_lt HMg2.out.blk))).skip (.inr ⟨y, HSl.out, HRab.out⟩)⟩, Lib.hid (HBx.out.trans (But.of_below HB5.out))⟩
              case measure => simp [intOf]; omega
    · go_wp2
      go_end0
      refine ⟨rfl, ?_, hb.out⟩
      have h1 := hg.out
      rw [List.take_of_length_le (by have := HL.out; omega)] at h1
      exact h1
end Go.Proofs.Ytmfokogckfoheaa
