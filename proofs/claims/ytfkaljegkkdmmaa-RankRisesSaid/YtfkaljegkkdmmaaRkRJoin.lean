/-
  The document's Join (layer 8).
-/
import Derived.Test.YtfkaljegkkdmmaaRkJoin
namespace Go.Proofs.Ytfkaljegkkdmmaa
open Go.RowKit
set_option linter.unusedSimpArgs false
set_option linter.unusedVariables false

def bestC (o : Option Up) : Array Value := #[.int .i64 (slotU o).node, .int .u32 ((slotU o).inc : Int), .int .i64 (slotU o).st]
theorem upRow.ltB {w : World} {base : Nat} {v : Value} {l : List Up} (h : upRow w base v l) {b : Nat} (hb : v.ownBlock = some b) : b < w.heap.size := by
  rcases h.2 with ⟨rfl, _⟩ | ⟨g, cap, cur, rfl, _, hh, _⟩
  · cases hb
  · cases hb; exact block_lt hh
set_option maxHeartbeats 16000000 in
theorem rjoin_any (A : Option Addr) (n c : Nat) (l : List Up) (A2 : Option Addr) (n2 c2 : Nat) (l2 : List Up) (w : World) (hS : SUp w A n l) (hn : n ≤ 60) (hS2 : SUp w A2 n2 l2) (hn2 : n2 ≤ 60) :
    Calls Try.prog 21 #[.slice A n c, .slice A2 n2 c2] w fun e w' => (∃ v, e = .returned v ∧ upRow w' w.heap.size v (joinU l l2)) ∧ Below w.heap.size w w' := by
  have HS := Lib.hid hS
  have HS2 := Lib.hid hS2
  have HL := Lib.hid hS.1
  have HL2 := Lib.hid hS2.1
  obtain ⟨L, hL⟩ : ∃ L, l ++ l2 = L := ⟨_, rfl⟩
  have HLL : Hid (L.length = n + n2) := Lib.hid (by rw [← hL, List.length_append, HL.out, HL2.out])
  have HL0 := Lib.hid hL
  have q60 : (n : Int) ≤ 60 := by omega
  have q61 : (n2 : Int) ≤ 60 := by omega
  clear hS hS2 hL
  go_enter Try.func21, Try.ntmps21
  go_wp2
  go_loopw [5, 6, 7, 8, 9, 10] (fun v i _ _ _ _ wr => ∃ m : Nat, m ≤ 8 ∧ i = .int .i64 (m : Int) ∧ Hid (upRow wr w.heap.size v (tableTo m L)) ∧ Hid (Below w.heap.size w wr)) (fun _ i _ _ _ _ _ => 8 - (intOf i).toNat)
  case atStart => exact ⟨0, Nat.zero_le _, rfl, Lib.hid (upRow.nil _ _), Lib.hid (Below.refl _ _)⟩
  case round =>
    obtain ⟨m, hm, rfl, hv, hb⟩ := hrel
    obtain ⟨wo, rfl⟩ : ∃ wo : World, wo = wr := ⟨_, rfl⟩
    by_cases hlt : m < 8
    · have hm8 : (m : Int) < 8 := by omega
      have HTl := Lib.hid (tableTo_len m L)
      have HTs := Lib.hid (tableTo_succ m L)
      obtain ⟨X, hX⟩ : ∃ X, wo.heap.size = X := ⟨_, rfl⟩
      obtain ⟨Wi, hWi⟩ : ∃ Wi, wo.alloc (.cells #[.int .i64 0, .int .u32 0, .int .i64 0] 24) = Wi := ⟨_, rfl⟩
      have HbX := Lib.hid (show Wi.heap[X]? = some (.cells (bestC none) 24 (0, 0)) by rw [← hWi, ← hX]; exact heap_alloc_new wo _)
      have HWi := Lib.hid hWi
      have HX := Lib.hid hX
      have HSv := Lib.hid (show w.heap.size ≤ X by rw [← hX]; exact hb.out.size)
      have HBi : Hid (Below w.heap.size w Wi) := Lib.hid (by rw [← hWi]; exact hb.out.alloc hb.out.size _)
      have HVi : Hid (upRow Wi w.heap.size u5 (tableTo m L)) := Lib.hid (by rw [← hWi]; exact hv.out.below (below1 _ _))
      have HVX : Hid (∀ j, u5.ownBlock = some j → j ≠ X) := Lib.hid (fun j hj => by have := hv.out.ltB hj; omega)
      clear hX hWi
      go_wp2
      rw [HWi.out, HX.out]
      go_loopw [7, 9, 10] (fun any i _ wr => ∃ k : Nat, k ≤ n + n2 ∧ i = .int .i64 (k : Int) ∧ any = .bool (bestOf (m : Int) (L.take k)).isSome ∧ Hid (wr.heap[X]? = some (.cells (bestC (bestOf (m : Int) (L.take k))) 24 (0, 0))) ∧ Hid (But (· = X) Wi wr)) (fun _ i _ _ => n + n2 - (intOf i).toNat)
      case atStart => exact ⟨0, Nat.zero_le _, rfl, rfl, HbX, Lib.hid (But.refl _ _)⟩
      case round =>
        obtain ⟨k, hk, rfl, rfl, hx, hbt⟩ := hrel
        have qk : (k : Int) ≤ 120 := by omega
        by_cases hlk : k < n + n2
        · have qlk : (k : Int) < (n : Int) + (n2 : Int) := by omega
          have hkL : k < L.length := by rw [HLL.out]; exact hlk
          obtain ⟨x, hxx⟩ : ∃ x, L[k] = x := ⟨_, rfl⟩
          have HTk := Lib.hid (show bestOf (m : Int) (L.take (k + 1)) = stepB (m : Int) (bestOf (m : Int) (L.take k)) x by rw [List.take_succ_eq_append_getElem hkL, bestOf_snoc, hxx])
          have HXk := Lib.hid hxx
          have hbw : Below w.heap.size w wr := HBi.out.trans (hbt.out.below (HBi.out.size) (fun j hj e => by have := HSv.out; omega))
          clear hxx
          cases hbo : bestOf (m : Int) (L.take k) with
          | none =>
            rw [hbo] at hx HTk
            clear hbo
            by_cases hka : k < n
            · have hx1 : l[k]'(by rw [HL.out]; exact hka) = x := by
                rw [← HXk.out]
                simp only [← HL0.out]
                rw [List.getElem_append_left]
              obtain ⟨b, off, rfl, hbl, hc0, hc1, hc2⟩ := (HS.out.of_block hbw).at_ hka (by rw [HL.out]; exact hka)
              rw [hx1] at hc0 hc1 hc2
              clear hx1
              obtain ⟨W1, hW1⟩ : ∃ W1, wr.alloc (.cells #[.int .i64 x.node, .int .u32 (x.inc : Int), .int .i64 x.st] 24) = W1 := ⟨_, rfl⟩
              obtain ⟨U, hU⟩ : ∃ U, wr.heap.size = U := ⟨_, rfl⟩
              have hb1 : Below wr.heap.size wr W1 := by rw [← hW1]; exact below1 _ _
              have hU1 : W1.heap[U]? = some (.cells (bestC (some x)) 24 (0, 0)) := by rw [← hW1, ← hU]; exact heap_alloc_new wr _
              have hX1 := (hb1.block X (block_lt hx.out)).trans hx.out
              have HU1 := Lib.hid hU1
              have HX1 := Lib.hid hX1
              have HB1 := Lib.hid hb1
              have HU := Lib.hid hU
              have HW1 := Lib.hid hW1
              obtain ⟨r, hr⟩ : ∃ r, x.right = r := ⟨_, rfl⟩
              have HRr := Lib.hid hr
              have HR := Lib.hid (rright_any x W1 r hr)
              have hXl := block_lt hx.out
              clear hU1 hX1 hb1 hU hW1 hr hbw
              go_wp2_with fail
              rw [HW1.out, HU.out]
              refine HR.out.mono ?_
              clear HR
              rintro e w2 ⟨rfl, hb2⟩
              have hU2 := (hb2.block U (block_lt HU1.out)).trans HU1.out
              have hX2 := (hb2.block X (block_lt HX1.out)).trans HX1.out
              obtain ⟨c0, c1, c2⟩ : w2.cell? ⟨U, 0, none⟩ = some (.int .i64 x.node) ∧ w2.cell? ⟨U, 1, none⟩ = some (.int .u32 (x.inc : Int)) ∧ w2.cell? ⟨U, 2, none⟩ = some (.int .i64 x.st) := blk3 hU2
              obtain ⟨d0, d1, d2⟩ : w2.cell? ⟨X, 0, none⟩ = some (.int .i64 0) ∧ w2.cell? ⟨X, 1, none⟩ = some (.int .u32 0) ∧ w2.cell? ⟨X, 2, none⟩ = some (.int .i64 0) := blk3 hX2
              have g0 := blk_froz hX2 0
              have g1 := blk_froz hX2 1
              have g2 := blk_froz hX2 2
              have hXl2 := block_lt hX2
              have hUX : U ≠ X := by have := HU.out; omega
              have HX2 := Lib.hid hX2
              have HBT2 : Hid (But (· = X) Wi w2) := Lib.hid (hbt.out.trans (But.of_below (HB1.out.trans (hb2.mono HB1.out.size))))
              clear hb2 hU2 hX2 hc0 hc1 hc2 hXl
              cases r with
              | false =>
                go_wp2
                go_roundw
                case rel => exact ⟨k + 1, by omega, by go_num, (by rw [HTk.out, stepB_wrong _ _ HRr.out]; try rfl), Lib.hid (by rw [HTk.out, stepB_wrong _ _ HRr.out]; exact HX2.out), Lib.hid HBT2.out⟩
                case measure => simp [intOf]; omega
              | true =>
                by_cases hno : x.node = (m : Int)
                · have zz : (x.node == (m : Int)) = true := by rw [beq_iff_eq]; exact hno
                  have HNo := Lib.hid hno
                  clear hno
                  have q := set3_blk HX2.out (.int .i64 x.node) (.int .u32 (x.inc : Int)) (.int .i64 x.st)
                  rw [show #[Value.int .i64 x.node, .int .u32 (x.inc : Int), .int .i64 x.st] = bestC (some x) from rfl] at q
                  have HQ := Lib.hid q
                  clear q
                  go_wp2
                  go_roundw
                  case rel => exact ⟨k + 1, by omega, by go_num, (by rw [HTk.out, stepB_new HRr.out HNo.out (.inl rfl)]; try rfl), Lib.hid (by rw [HTk.out, stepB_new HRr.out HNo.out (.inl rfl)]; exact HQ.out), Lib.hid (((HBT2.out.trans (But.set (S := (· = X)) _ (p := ⟨X, 0, none⟩) rfl _)).trans (But.set (S := (· = X)) _ (p := ⟨X, 1, none⟩) rfl _)).trans (But.set (S := (· = X)) _ (p := ⟨X, 2, none⟩) rfl _))⟩
                  case measure => simp [intOf]; omega
                · have zz : (x.node == (m : Int)) = false := by rw [beq_eq_false_iff_ne]; exact hno
                  have HNo := Lib.hid hno
                  clear hno
                  go_wp2
                  go_roundw
                  case rel => exact ⟨k + 1, by omega, by go_num, (by rw [HTk.out, stepB_other _ HNo.out]; try rfl), Lib.hid (by rw [HTk.out, stepB_other _ HNo.out]; exact HX2.out), Lib.hid HBT2.out⟩
                  case measure => simp [intOf]; omega
            · obtain ⟨i, rfl⟩ : ∃ i, k = n + i := ⟨k - n, by omega⟩
              have hi : i < n2 := by omega
              have hx1 : l2[i]'(by rw [HL2.out]; exact hi) = x := by
                rw [← HXk.out]
                simp only [← HL0.out]
                rw [List.getElem_append_right (by rw [HL.out]; omega)]
                simp only [HL.out]
                congr 1
                omega
              obtain ⟨b, off, rfl, hbl, hc0, hc1, hc2⟩ := (HS2.out.of_block hbw).at_ hi (by rw [HL2.out]; exact hi)
              rw [hx1] at hc0 hc1 hc2
              have hsub : ((n + i : Nat) : Int) - (n : Int) = (i : Int) := by omega
              have hi2 : (i : Int) < (n2 : Int) := by omega
              clear hx1
              obtain ⟨W1, hW1⟩ : ∃ W1, wr.alloc (.cells #[.int .i64 x.node, .int .u32 (x.inc : Int), .int .i64 x.st] 24) = W1 := ⟨_, rfl⟩
              obtain ⟨U, hU⟩ : ∃ U, wr.heap.size = U := ⟨_, rfl⟩
              have hb1 : Below wr.heap.size wr W1 := by rw [← hW1]; exact below1 _ _
              have hU1 : W1.heap[U]? = some (.cells (bestC (some x)) 24 (0, 0)) := by rw [← hW1, ← hU]; exact heap_alloc_new wr _
              have hX1 := (hb1.block X (block_lt hx.out)).trans hx.out
              have HU1 := Lib.hid hU1
              have HX1 := Lib.hid hX1
              have HB1 := Lib.hid hb1
              have HU := Lib.hid hU
              have HW1 := Lib.hid hW1
              obtain ⟨r, hr⟩ : ∃ r, x.right = r := ⟨_, rfl⟩
              have HRr := Lib.hid hr
              have HR := Lib.hid (rright_any x W1 r hr)
              have hXl := block_lt hx.out
              clear hU1 hX1 hb1 hU hW1 hr hbw
              go_wp2_with fail
              rw [HW1.out, HU.out]
              refine HR.out.mono ?_
              clear HR
              rintro e w2 ⟨rfl, hb2⟩
              have hU2 := (hb2.block U (block_lt HU1.out)).trans HU1.out
              have hX2 := (hb2.block X (block_lt HX1.out)).trans HX1.out
              obtain ⟨c0, c1, c2⟩ : w2.cell? ⟨U, 0, none⟩ = some (.int .i64 x.node) ∧ w2.cell? ⟨U, 1, none⟩ = some (.int .u32 (x.inc : Int)) ∧ w2.cell? ⟨U, 2, none⟩ = some (.int .i64 x.st) := blk3 hU2
              obtain ⟨d0, d1, d2⟩ : w2.cell? ⟨X, 0, none⟩ = some (.int .i64 0) ∧ w2.cell? ⟨X, 1, none⟩ = some (.int .u32 0) ∧ w2.cell? ⟨X, 2, none⟩ = some (.int .i64 0) := blk3 hX2
              have g0 := blk_froz hX2 0
              have g1 := blk_froz hX2 1
              have g2 := blk_froz hX2 2
              have hXl2 := block_lt hX2
              have hUX : U ≠ X := by have := HU.out; omega
              have HX2 := Lib.hid hX2
              have HBT2 : Hid (But (· = X) Wi w2) := Lib.hid (hbt.out.trans (But.of_below (HB1.out.trans (hb2.mono HB1.out.size))))
              clear hb2 hU2 hX2 hc0 hc1 hc2 hXl
              cases r with
              | false =>
                go_wp2
                go_roundw
                case rel => exact ⟨n + i + 1, by omega, by rw [show ((n + i + 1 : Nat) : Int) = (n : Int) + (i : Int) + 1 by omega], (by rw [HTk.out, stepB_wrong _ _ HRr.out]; try rfl), Lib.hid (by rw [HTk.out, stepB_wrong _ _ HRr.out]; exact HX2.out), Lib.hid HBT2.out⟩
                case measure => simp [intOf]; omega
              | true =>
                by_cases hno : x.node = (m : Int)
                · have zz : (x.node == (m : Int)) = true := by rw [beq_iff_eq]; exact hno
                  have HNo := Lib.hid hno
                  clear hno
                  have q := set3_blk HX2.out (.int .i64 x.node) (.int .u32 (x.inc : Int)) (.int .i64 x.st)
                  rw [show #[Value.int .i64 x.node, .int .u32 (x.inc : Int), .int .i64 x.st] = bestC (some x) from rfl] at q
                  have HQ := Lib.hid q
                  clear q
                  go_wp2
                  go_roundw
                  case rel => exact ⟨n + i + 1, by omega, by rw [show ((n + i + 1 : Nat) : Int) = (n : Int) + (i : Int) + 1 by omega], (by rw [HTk.out, stepB_new HRr.out HNo.out (.inl rfl)]; try rfl), Lib.hid (by rw [HTk.out, stepB_new HRr.out HNo.out (.inl rfl)]; exact HQ.out), Lib.hid (((HBT2.out.trans (But.set (S := (· = X)) _ (p := ⟨X, 0, none⟩) rfl _)).trans (But.set (S := (· = X)) _ (p := ⟨X, 1, none⟩) rfl _)).trans (But.set (S := (· = X)) _ (p := ⟨X, 2, none⟩) rfl _))⟩
                  case measure => simp [intOf]; omega
                · have zz : (x.node == (m : Int)) = false := by rw [beq_eq_false_iff_ne]; exact hno
                  have HNo := Lib.hid hno
                  clear hno
                  go_wp2
                  go_roundw
                  case rel => exact ⟨n + i + 1, by omega, by rw [show ((n + i + 1 : Nat) : Int) = (n : Int) + (i : Int) + 1 by omega], (by rw [HTk.out, stepB_other _ HNo.out]; try rfl), Lib.hid (by rw [HTk.out, stepB_other _ HNo.out]; exact HX2.out), Lib.hid HBT2.out⟩
                  case measure => simp [intOf]; omega
          | some y =>
            rw [hbo] at hx HTk
            clear hbo
            by_cases hka : k < n
            · have hx1 : l[k]'(by rw [HL.out]; exact hka) = x := by
                rw [← HXk.out]
                simp only [← HL0.out]
                rw [List.getElem_append_left]
              obtain ⟨b, off, rfl, hbl, hc0, hc1, hc2⟩ := (HS.out.of_block hbw).at_ hka (by rw [HL.out]; exact hka)
              rw [hx1] at hc0 hc1 hc2
              clear hx1
              obtain ⟨W1, hW1⟩ : ∃ W1, wr.alloc (.cells #[.int .i64 x.node, .int .u32 (x.inc : Int), .int .i64 x.st] 24) = W1 := ⟨_, rfl⟩
              obtain ⟨U, hU⟩ : ∃ U, wr.heap.size = U := ⟨_, rfl⟩
              have hb1 : Below wr.heap.size wr W1 := by rw [← hW1]; exact below1 _ _
              have hU1 : W1.heap[U]? = some (.cells (bestC (some x)) 24 (0, 0)) := by rw [← hW1, ← hU]; exact heap_alloc_new wr _
              have hX1 := (hb1.block X (block_lt hx.out)).trans hx.out
              have HU1 := Lib.hid hU1
              have HX1 := Lib.hid hX1
              have HB1 := Lib.hid hb1
              have HU := Lib.hid hU
              have HW1 := Lib.hid hW1
              obtain ⟨r, hr⟩ : ∃ r, x.right = r := ⟨_, rfl⟩
              have HRr := Lib.hid hr
              have HR := Lib.hid (rright_any x W1 r hr)
              have hXl := block_lt hx.out
              clear hU1 hX1 hb1 hU hW1 hr hbw
              go_wp2_with fail
              rw [HW1.out, HU.out]
              refine HR.out.mono ?_
              clear HR
              rintro e w2 ⟨rfl, hb2⟩
              have hU2 := (hb2.block U (block_lt HU1.out)).trans HU1.out
              have hX2 := (hb2.block X (block_lt HX1.out)).trans HX1.out
              obtain ⟨c0, c1, c2⟩ : w2.cell? ⟨U, 0, none⟩ = some (.int .i64 x.node) ∧ w2.cell? ⟨U, 1, none⟩ = some (.int .u32 (x.inc : Int)) ∧ w2.cell? ⟨U, 2, none⟩ = some (.int .i64 x.st) := blk3 hU2
              obtain ⟨d0, d1, d2⟩ : w2.cell? ⟨X, 0, none⟩ = some (.int .i64 y.node) ∧ w2.cell? ⟨X, 1, none⟩ = some (.int .u32 (y.inc : Int)) ∧ w2.cell? ⟨X, 2, none⟩ = some (.int .i64 y.st) := blk3 hX2
              have g0 := blk_froz hX2 0
              have g1 := blk_froz hX2 1
              have g2 := blk_froz hX2 2
              have hXl2 := block_lt hX2
              have hUX : U ≠ X := by have := HU.out; omega
              have HX2 := Lib.hid hX2
              have HBT2 : Hid (But (· = X) Wi w2) := Lib.hid (hbt.out.trans (But.of_below (HB1.out.trans (hb2.mono HB1.out.size))))
              clear hb2 hU2 hX2 hc0 hc1 hc2 hXl
              cases r with
              | false =>
                go_wp2
                go_roundw
                case rel => exact ⟨k + 1, by omega, by go_num, (by rw [HTk.out, stepB_wrong _ _ HRr.out]; try rfl), Lib.hid (by rw [HTk.out, stepB_wrong _ _ HRr.out]; exact HX2.out), Lib.hid HBT2.out⟩
                case measure => simp [intOf]; omega
              | true =>
                by_cases hno : x.node = (m : Int)
                · have zz : (x.node == (m : Int)) = true := by rw [beq_iff_eq]; exact hno
                  have HNo := Lib.hid hno
                  clear hno
                  obtain ⟨r2, hr2⟩ : ∃ r2, x.above y = r2 := ⟨_, rfl⟩
                  have HAb := Lib.hid (fun w => rabove_any x y w r2 hr2)
                  have HR2 := Lib.hid hr2
                  clear hr2
                  go_wp2_with fail
                  refine (HAb.out _).mono ?_
                  clear HAb
                  rintro e w3 ⟨rfl, hb3⟩
                  have hU3 := (hb3.block U (by have := bcell_lt c0; exact this)).symm
                  have hX3 := (hb3.block X (block_lt HX2.out)).trans HX2.out
                  have c0' := (World.cell?_of_block (a := ⟨U, 0, none⟩) hU3.symm).trans c0
                  have c1' := (World.cell?_of_block (a := ⟨U, 1, none⟩) hU3.symm).trans c1
                  have c2' := (World.cell?_of_block (a := ⟨U, 2, none⟩) hU3.symm).trans c2
                  obtain ⟨e0, e1, e2⟩ : w3.cell? ⟨X, 0, none⟩ = some (.int .i64 y.node) ∧ w3.cell? ⟨X, 1, none⟩ = some (.int .u32 (y.inc : Int)) ∧ w3.cell? ⟨X, 2, none⟩ = some (.int .i64 y.st) := blk3 hX3
                  have k0 := blk_froz hX3 0
                  have k1 := blk_froz hX3 1
                  have k2 := blk_froz hX3 2
                  have HX3 := Lib.hid hX3
                  have HBT3 : Hid (But (· = X) Wi w3) := Lib.hid (HBT2.out.trans (But.of_below hb3))
                  clear hb3 hU3 hX3 c0 c1 c2 d0 d1 d2 g0 g1 g2 hXl2
                  cases r2 with
                  | true =>
                    have q := set3_blk HX3.out (.int .i64 x.node) (.int .u32 (x.inc : Int)) (.int .i64 x.st)
                    rw [show #[Value.int .i64 x.node, .int .u32 (x.inc : Int), .int .i64 x.st] = bestC (some x) from rfl] at q
                    have HQ := Lib.hid q
                    clear q
                    go_wp2
                    go_roundw
                    case rel => exact ⟨k + 1, by omega, by go_num, (by rw [HTk.out, stepB_new HRr.out HNo.out (.inr ⟨y, rfl, HR2.out⟩)]; try rfl), Lib.hid (by rw [HTk.out, stepB_new HRr.out HNo.out (.inr ⟨y, rfl, HR2.out⟩)]; exact HQ.out), Lib.hid (((HBT3.out.trans (But.set (S := (· = X)) _ (p := ⟨X, 0, none⟩) rfl _)).trans (But.set (S := (· = X)) _ (p := ⟨X, 1, none⟩) rfl _)).trans (But.set (S := (· = X)) _ (p := ⟨X, 2, none⟩) rfl _))⟩
                    case measure => simp [intOf]; omega
                  | false =>
                    go_wp2
                    go_roundw
                    case rel => exact ⟨k + 1, by omega, by go_num, (by rw [HTk.out, stepB_below _ HR2.out]; try rfl), Lib.hid (by rw [HTk.out, stepB_below _ HR2.out]; exact HX3.out), Lib.hid HBT3.out⟩
                    case measure => simp [intOf]; omega
                · have zz : (x.node == (m : Int)) = false := by rw [beq_eq_false_iff_ne]; exact hno
                  have HNo := Lib.hid hno
                  clear hno
                  go_wp2
                  go_roundw
                  case rel => exact ⟨k + 1, by omega, by go_num, (by rw [HTk.out, stepB_other _ HNo.out]; try rfl), Lib.hid (by rw [HTk.out, stepB_other _ HNo.out]; exact HX2.out), Lib.hid HBT2.out⟩
                  case measure => simp [intOf]; omega
            · obtain ⟨i, rfl⟩ : ∃ i, k = n + i := ⟨k - n, by omega⟩
              have hi : i < n2 := by omega
              have hx1 : l2[i]'(by rw [HL2.out]; exact hi) = x := by
                rw [← HXk.out]
                simp only [← HL0.out]
                rw [List.getElem_append_right (by rw [HL.out]; omega)]
                simp only [HL.out]
                congr 1
                omega
              obtain ⟨b, off, rfl, hbl, hc0, hc1, hc2⟩ := (HS2.out.of_block hbw).at_ hi (by rw [HL2.out]; exact hi)
              rw [hx1] at hc0 hc1 hc2
              have hsub : ((n + i : Nat) : Int) - (n : Int) = (i : Int) := by omega
              have hi2 : (i : Int) < (n2 : Int) := by omega
              clear hx1
              obtain ⟨W1, hW1⟩ : ∃ W1, wr.alloc (.cells #[.int .i64 x.node, .int .u32 (x.inc : Int), .int .i64 x.st] 24) = W1 := ⟨_, rfl⟩
              obtain ⟨U, hU⟩ : ∃ U, wr.heap.size = U := ⟨_, rfl⟩
              have hb1 : Below wr.heap.size wr W1 := by rw [← hW1]; exact below1 _ _
              have hU1 : W1.heap[U]? = some (.cells (bestC (some x)) 24 (0, 0)) := by rw [← hW1, ← hU]; exact heap_alloc_new wr _
              have hX1 := (hb1.block X (block_lt hx.out)).trans hx.out
              have HU1 := Lib.hid hU1
              have HX1 := Lib.hid hX1
              have HB1 := Lib.hid hb1
              have HU := Lib.hid hU
              have HW1 := Lib.hid hW1
              obtain ⟨r, hr⟩ : ∃ r, x.right = r := ⟨_, rfl⟩
              have HRr := Lib.hid hr
              have HR := Lib.hid (rright_any x W1 r hr)
              have hXl := block_lt hx.out
              clear hU1 hX1 hb1 hU hW1 hr hbw
              go_wp2_with fail
              rw [HW1.out, HU.out]
              refine HR.out.mono ?_
              clear HR
              rintro e w2 ⟨rfl, hb2⟩
              have hU2 := (hb2.block U (block_lt HU1.out)).trans HU1.out
              have hX2 := (hb2.block X (block_lt HX1.out)).trans HX1.out
              obtain ⟨c0, c1, c2⟩ : w2.cell? ⟨U, 0, none⟩ = some (.int .i64 x.node) ∧ w2.cell? ⟨U, 1, none⟩ = some (.int .u32 (x.inc : Int)) ∧ w2.cell? ⟨U, 2, none⟩ = some (.int .i64 x.st) := blk3 hU2
              obtain ⟨d0, d1, d2⟩ : w2.cell? ⟨X, 0, none⟩ = some (.int .i64 y.node) ∧ w2.cell? ⟨X, 1, none⟩ = some (.int .u32 (y.inc : Int)) ∧ w2.cell? ⟨X, 2, none⟩ = some (.int .i64 y.st) := blk3 hX2
              have g0 := blk_froz hX2 0
              have g1 := blk_froz hX2 1
              have g2 := blk_froz hX2 2
              have hXl2 := block_lt hX2
              have hUX : U ≠ X := by have := HU.out; omega
              have HX2 := Lib.hid hX2
              have HBT2 : Hid (But (· = X) Wi w2) := Lib.hid (hbt.out.trans (But.of_below (HB1.out.trans (hb2.mono HB1.out.size))))
              clear hb2 hU2 hX2 hc0 hc1 hc2 hXl
              cases r with
              | false =>
                go_wp2
                go_roundw
                case rel => exact ⟨n + i + 1, by omega, by rw [show ((n + i + 1 : Nat) : Int) = (n : Int) + (i : Int) + 1 by omega], (by rw [HTk.out, stepB_wrong _ _ HRr.out]; try rfl), Lib.hid (by rw [HTk.out, stepB_wrong _ _ HRr.out]; exact HX2.out), Lib.hid HBT2.out⟩
                case measure => simp [intOf]; omega
              | true =>
                by_cases hno : x.node = (m : Int)
                · have zz : (x.node == (m : Int)) = true := by rw [beq_iff_eq]; exact hno
                  have HNo := Lib.hid hno
                  clear hno
                  obtain ⟨r2, hr2⟩ : ∃ r2, x.above y = r2 := ⟨_, rfl⟩
                  have HAb := Lib.hid (fun w => rabove_any x y w r2 hr2)
                  have HR2 := Lib.hid hr2
                  clear hr2
                  go_wp2_with fail
                  refine (HAb.out _).mono ?_
                  clear HAb
                  rintro e w3 ⟨rfl, hb3⟩
                  have hU3 := (hb3.block U (by have := bcell_lt c0; exact this)).symm
                  have hX3 := (hb3.block X (block_lt HX2.out)).trans HX2.out
                  have c0' := (World.cell?_of_block (a := ⟨U, 0, none⟩) hU3.symm).trans c0
                  have c1' := (World.cell?_of_block (a := ⟨U, 1, none⟩) hU3.symm).trans c1
                  have c2' := (World.cell?_of_block (a := ⟨U, 2, none⟩) hU3.symm).trans c2
                  obtain ⟨e0, e1, e2⟩ : w3.cell? ⟨X, 0, none⟩ = some (.int .i64 y.node) ∧ w3.cell? ⟨X, 1, none⟩ = some (.int .u32 (y.inc : Int)) ∧ w3.cell? ⟨X, 2, none⟩ = some (.int .i64 y.st) := blk3 hX3
                  have k0 := blk_froz hX3 0
                  have k1 := blk_froz hX3 1
                  have k2 := blk_froz hX3 2
                  have HX3 := Lib.hid hX3
                  have HBT3 : Hid (But (· = X) Wi w3) := Lib.hid (HBT2.out.trans (But.of_below hb3))
                  clear hb3 hU3 hX3 c0 c1 c2 d0 d1 d2 g0 g1 g2 hXl2
                  cases r2 with
                  | true =>
                    have q := set3_blk HX3.out (.int .i64 x.node) (.int .u32 (x.inc : Int)) (.int .i64 x.st)
                    rw [show #[Value.int .i64 x.node, .int .u32 (x.inc : Int), .int .i64 x.st] = bestC (some x) from rfl] at q
                    have HQ := Lib.hid q
                    clear q
                    go_wp2
                    go_roundw
                    case rel => exact ⟨n + i + 1, by omega, by rw [show ((n + i + 1 : Nat) : Int) = (n : Int) + (i : Int) + 1 by omega], (by rw [HTk.out, stepB_new HRr.out HNo.out (.inr ⟨y, rfl, HR2.out⟩)]; try rfl), Lib.hid (by rw [HTk.out, stepB_new HRr.out HNo.out (.inr ⟨y, rfl, HR2.out⟩)]; exact HQ.out), Lib.hid (((HBT3.out.trans (But.set (S := (· = X)) _ (p := ⟨X, 0, none⟩) rfl _)).trans (But.set (S := (· = X)) _ (p := ⟨X, 1, none⟩) rfl _)).trans (But.set (S := (· = X)) _ (p := ⟨X, 2, none⟩) rfl _))⟩
                    case measure => simp [intOf]; omega
                  | false =>
                    go_wp2
                    go_roundw
                    case rel => exact ⟨n + i + 1, by omega, by rw [show ((n + i + 1 : Nat) : Int) = (n : Int) + (i : Int) + 1 by omega], (by rw [HTk.out, stepB_below _ HR2.out]; try rfl), Lib.hid (by rw [HTk.out, stepB_below _ HR2.out]; exact HX3.out), Lib.hid HBT3.out⟩
                    case measure => simp [intOf]; omega
                · have zz : (x.node == (m : Int)) = false := by rw [beq_eq_false_iff_ne]; exact hno
                  have HNo := Lib.hid hno
                  clear hno
                  go_wp2
                  go_roundw
                  case rel => exact ⟨n + i + 1, by omega, by rw [show ((n + i + 1 : Nat) : Int) = (n : Int) + (i : Int) + 1 by omega], (by rw [HTk.out, stepB_other _ HNo.out]; try rfl), Lib.hid (by rw [HTk.out, stepB_other _ HNo.out]; exact HX2.out), Lib.hid HBT2.out⟩
                  case measure => simp [intOf]; omega
        · obtain rfl : k = n + n2 := by omega
          have hall : L.take (n + n2) = L := List.take_of_length_le (by rw [HLL.out]; exact Nat.le_refl _)
          rw [hall] at hx
          rw [hall]
          have hbw : Below w.heap.size w wr := HBi.out.trans (hbt.out.below (HBi.out.size) (fun j hj e => by have := HSv.out; omega))
          have hvw : upRow wr w.heap.size u5 (tableTo m L) := own_but HVi.out hbt.out (fun j hj e => HVX.out j hj e)
          have HBW := Lib.hid hbw
          have HVW := Lib.hid hvw
          have hsz := hbw.size
          clear hall hbw hvw
          cases hbo : bestOf (m : Int) L with
          | none =>
            rw [hbo] at HTs
            clear hbo
            go_wp2
            go_roundw
            case rel => exact ⟨m + 1, by omega, by go_num, Lib.hid (by rw [HTs.out, List.append_nil]; exact HVW.out), HBW⟩
            case measure => simp [intOf]; omega
          | some y =>
            rw [hbo] at HTs hx
            have hX1 := hx.out
            obtain ⟨d0, d1, d2⟩ : wr.cell? ⟨X, 0, none⟩ = some (.int .i64 y.node) ∧ wr.cell? ⟨X, 1, none⟩ = some (.int .u32 (y.inc : Int)) ∧ wr.cell? ⟨X, 2, none⟩ = some (.int .i64 y.st) := blk3 hX1
            clear hbo hX1
            go_wp2_with (at_builtin; refine wpList_append_up rfl _ _ rfl w.heap.size _ (tableTo m L) rfl ?qa wr.heap.size y rfl ?qb ?qc ?qd ?_)
            case qa => exact HVW.out.below (below1 _ _)
            case qb => exact up_new wr y _
            case qc => have := HTl.out; omega
            case qd => omega
            refine Lib.hid ?_
            intro v' w' hown hg
            have HOwn := Lib.hid hown
            have HB' : Hid (Below w.heap.size w w') := Lib.hid ((HBW.out.alloc hsz _).grown hg (by simp; omega) (by intro r hr; rcases HVW.out.2 with ⟨e, _⟩ | ⟨g, _, _, e, hge, _⟩ <;> rw [e] at hr <;> cases hr; exact hge))
            clear hown hg
            go_wp2
            go_roundw
            case rel => exact ⟨m + 1, by omega, by go_num, Lib.hid (by rw [HTs.out]; exact HOwn.out), HB'⟩
            case measure => simp [intOf]; omega
    · obtain rfl : m = 8 := by omega
      go_wp2
      go_ret
      refine ⟨⟨_, rfl, ?_⟩, hb.out⟩
      have h1 := hv.out
      unfold joinU table
      rw [HL0.out]
      exact h1
end Go.Proofs.Ytfkaljegkkdmmaa
