/-
  The document's draws: Order, walked (layer 5).
-/
import Derived.Test.YtckeknhoimgccaaERef
import Derived.Test.YtckeknhoimgccaaEOrder
namespace Go.Proofs.Ytckeknhoimgccaa
open Go.RowKit
set_option linter.unusedSimpArgs false

theorem RwAt.wide {S : Nat → Prop} {w : World} {B : Nat} {d : Dr} (h : RwAt S w B d) : RwAt (fun k => S k ∨ w.heap.size ≤ k) w B d := by
  obtain ⟨h1, h0, A, n, c, hh, hr, hm⟩ := h
  exact ⟨h1, .inl h0, A, n, c, hh, hr.narrow (fun k hk h => h.resolve_right (by omega)), hm⟩
theorem RwAt.narrow {S S' : Nat → Prop} {w : World} {B : Nat} {d : Dr} (h : RwAt S w B d) (hs : ∀ k, k < w.heap.size → S' k → S k) (hB : S' B) : RwAt S' w B d := by
  obtain ⟨h1, _, A, n, c, hh, hr, hm⟩ := h
  exact ⟨h1, hB, A, n, c, hh, hr.narrow hs, hm⟩
theorem below_ge {w w' : World} {g : Nat} (h : Below g w w') (e : w.heap.size = g) : g ≤ w'.heap.size := e ▸ h.size
theorem ownsRow_drewN {w : World} {base : Nat} {e : TypeId} {size n : Nat} {v : Value} {xs : List Value} (h : w.ownsRow base e size v n xs) (k : Nat) : (w.drewN k).ownsRow base e size v n xs := h
set_option maxHeartbeats 4000000 in
theorem rorder_any (S : Nat → Prop) (B : Nat) (d : Dr) (n : Int) (w : World) (h : RwAt S w B d) :
    Calls Try.prog 32 #[.pointer (some ⟨B, 0, none⟩), .int .i64 n] w fun e w' => RowOf w (d.order n) e w' ∧ RwAt S w' B (d.afterO n) ∧ But (· = B) w w' := by
  obtain ⟨i0, hi, hz0, hz1, hz2⟩ := info_parts int_info
  obtain ⟨N, hN⟩ : ∃ N, sizeO n = N := ⟨_, rfl⟩
  have hN64 : N ≤ 64 := hN ▸ sizeO_le n
  have HW := Lib.hid h.wide
  have HSB : Hid (S B) := Lib.hid h.2.1
  have hBl := h.lt
  obtain ⟨g, hg⟩ : ∃ g, w.heap.size = g := ⟨_, rfl⟩
  have HG := Lib.hid hg
  have hcase : (n < 0 ∧ N = 0) ∨ (64 < n ∧ N = 64) ∨ (0 ≤ n ∧ n ≤ 64 ∧ n = (N : Int)) := by unfold sizeO at hN; split at hN <;> (try split at hN) <;> omega
  have HN := Lib.hid hN
  clear h hg hN
  rcases hcase with ⟨h1, rfl⟩ | ⟨h1, rfl⟩ | ⟨h1, h2, rfl⟩
  · go_enter Try.func32, Try.ntmps32
    go_wp2
    go_loopw [5, 6] (fun vv iv wr => ∃ (k : Nat) (A : Option Addr) (c : Nat), k ≤ 0 ∧ iv = .int .i64 (k : Int) ∧ vv = .slice A k c ∧ Hid (wr.ownsRow g 3 1 (.slice A k c) k ((List.range k).map iV)) ∧ Hid (Below g w wr)) (fun _ iv _ => 0 - (intOf iv).toNat)
    case atStart => exact ⟨0, none, 0, Nat.zero_le _, rfl, rfl, Lib.hid (World.ownsRow_nil _ _ _ _), Lib.hid (Below.refl _ _)⟩
    case round =>
      obtain ⟨k, A, c, hk, rfl, rfl, hown, hb⟩ := hrel
      by_cases hlt : k < 0
      · exfalso
        omega
      · obtain rfl : k = 0 := by omega
        have HO := hown
        have hbg : Below w.heap.size w wr := by rw [HG.out]; exact hb.out
        have HD : Hid (RwAt (fun k => S k ∨ w.heap.size ≤ k) wr B d) := Lib.hid (HW.out.below hbg)
        have HB : Hid (But (· = B) w wr) := Lib.hid (But.of_below hbg)
        clear hown hb hbg
        obtain ⟨wo, rfl⟩ : ∃ wo : World, wo = wr := ⟨_, rfl⟩
        go_wp2
        go_loopw [7] (fun iv wr => ∃ (z : Int) (l' : List Nat) (d' : Dr), iv = .int .i64 z ∧ z < 0 ∧ -1 ≤ z ∧ Hid (ordGo z.toNat l' d' = ordGo (0 - 1) (List.range 0) d) ∧ Hid (wr.ownsRow g 3 1 (.slice A 0 c) 0 (l'.map iV)) ∧ Hid (RwAt (fun k => S k ∨ w.heap.size ≤ k) wr B d') ∧ Hid (But (· = B) w wr)) (fun iv _ => (intOf iv + 1).toNat)
        case atStart => exact ⟨_, List.range 0, d, rfl, by omega, by omega, Lib.hid (by first | rfl | (rw [show ((0 : Int) - 1).toNat = 0 - 1 by omega])), HO, HD, HB⟩
        case round =>
          obtain ⟨z, l', d', rfl, hz1, hz2, hord, hown, hd, hbut⟩ := hrel
          by_cases hz : 0 < z
          · exfalso
            omega
          · have HE : Hid ((l', d') = ordGo (0 - 1) (List.range 0) d) := Lib.hid (by rw [← hord.out, show z.toNat = 0 by omega]; rfl)
            go_wp2
            go_ret
            have hoa : d.order n = l' := by rw [Dr.order, HN.out, ← HE.out]
            have hda : d.afterO n = d' := by rw [Dr.afterO, HN.out, ← HE.out]
            have hll : l'.length = 0 := by simpa using hown.out.1
            rw [hoa, hda]
            obtain ⟨A', c', e, hR, _, hnc, _, hbase⟩ := RV.own hown.out
            simp only [Value.slice.injEq, true_and] at e
            obtain ⟨rfl, rfl⟩ := e
            exact ⟨⟨A, c, by rw [hll]; rfl, by rw [hll]; exact hR, by omega, fun b off e => by rw [HG.out]; exact hbase b off e⟩, hd.out.narrow (fun k _ h => .inl h) HSB.out, hbut.out⟩
  · go_enter Try.func32, Try.ntmps32
    go_wp2
    go_loopw [5, 6] (fun vv iv wr => ∃ (k : Nat) (A : Option Addr) (c : Nat), k ≤ 64 ∧ iv = .int .i64 (k : Int) ∧ vv = .slice A k c ∧ Hid (wr.ownsRow g 3 1 (.slice A k c) k ((List.range k).map iV)) ∧ Hid (Below g w wr)) (fun _ iv _ => 64 - (intOf iv).toNat)
    case atStart => exact ⟨0, none, 0, Nat.zero_le _, rfl, rfl, Lib.hid (World.ownsRow_nil _ _ _ _), Lib.hid (Below.refl _ _)⟩
    case round =>
      obtain ⟨k, A, c, hk, rfl, rfl, hown, hb⟩ := hrel
      by_cases hlt : k < 64
      · have hgs : g ≤ wr.heap.size := below_ge hb.out HG.out
        have q1 : (k : Int) < (64 : Int) := by omega
        go_wp2_with (at_builtin; refine wpList_append_val rfl (.tmp 20) (.tmp 22) 27 rfl g 3 i0 (.int .i64 0) 8 Try.underlying27 hi hz0 hz1 hz2 rfl (.slice A k c) k ((List.range k).map iV) rfl hown.out (.int .i64 (k : Int)) _ rfl rfl ?c1 ?c2 ?c3 ?_)
        case c1 => unfold maxLen; omega
        case c2 => omega
        case c3 => exact hgs
        refine Lib.hid ?_
        intro v1 w1 hown1 hg1
        have hb1 : Below g w w1 := (hb.out.alloc hgs _).grown hg1 (by simp; omega) (fun j hj => (hown.out.lt j hj).1)
        rw [show (List.range k).map iV ++ [Value.int IntKind.i64 (k : Int)] = (List.range (k + 1)).map iV by simp [List.range_succ, iV]] at hown1
        obtain ⟨A1, c1, rfl, _⟩ := RV.own hown1
        have HO1 := Lib.hid hown1
        have HB1 := Lib.hid hb1
        clear hown1 hb1 hg1 hgs
        go_wp2
        go_roundw
        case rel => exact ⟨k + 1, A1, c1, by omega, by go_num, rfl, HO1, HB1⟩
        case measure => simp [intOf] <;> omega
      · obtain rfl : k = 64 := by omega
        rw [show ((64 : Nat) : Int) = 64 from rfl]
        have HO := hown
        have hbg : Below w.heap.size w wr := by rw [HG.out]; exact hb.out
        have HD : Hid (RwAt (fun k => S k ∨ w.heap.size ≤ k) wr B d) := Lib.hid (HW.out.below hbg)
        have HB : Hid (But (· = B) w wr) := Lib.hid (But.of_below hbg)
        clear hown hb hbg
        obtain ⟨wo, rfl⟩ : ∃ wo : World, wo = wr := ⟨_, rfl⟩
        go_wp2
        go_loopw [7] (fun iv wr => ∃ (z : Int) (l' : List Nat) (d' : Dr), iv = .int .i64 z ∧ z < 64 ∧ -1 ≤ z ∧ Hid (ordGo z.toNat l' d' = ordGo (64 - 1) (List.range 64) d) ∧ Hid (wr.ownsRow g 3 1 (.slice A 64 c) 64 (l'.map iV)) ∧ Hid (RwAt (fun k => S k ∨ w.heap.size ≤ k) wr B d') ∧ Hid (But (· = B) w wr)) (fun iv _ => (intOf iv + 1).toNat)
        case atStart => exact ⟨_, List.range 64, d, rfl, by omega, by omega, Lib.hid (by first | rfl | (rw [show ((64 : Int) - 1).toNat = 64 - 1 by omega])), HO, HD, HB⟩
        case round =>
          obtain ⟨z, l', d', rfl, hz1, hz2, hord, hown, hd, hbut⟩ := hrel
          by_cases hz : 0 < z
          · obtain ⟨k, rfl⟩ : ∃ k : Nat, z = (k : Int) := ⟨z.toNat, by omega⟩
            have HNx : Hid (ordGo (k - 1) (swapL l' k (d'.below ((k : Int) + 1))) (d'.next ((k : Int) + 1)) = ordGo (64 - 1) (List.range 64) d) := Lib.hid (by
              rw [← hord.out, show ((k : Int)).toNat = k by omega]
              obtain ⟨j, rfl⟩ : ∃ j, k = j + 1 := ⟨k - 1, by omega⟩
              rw [ordGo, Nat.add_sub_cancel, show (((j + 1 : Nat) : Int) + 1) = (j : Int) + 2 by omega])
            have hlt := below_lt hd.out.1.1 (n := (k : Int) + 1) (by omega)
            have s1 := rbelow_any _ B d' ((k : Int) + 1) wr hd.out (by omega)
            obtain ⟨J, hJ⟩ : ∃ J, d'.below ((k : Int) + 1) = J := ⟨_, rfl⟩
            obtain ⟨d2, hd2⟩ : ∃ d2, d'.next ((k : Int) + 1) = d2 := ⟨_, rfl⟩
            rw [hJ, hd2] at HNx s1
            rw [hJ] at hlt
            have S1 := Lib.hid s1
            have hlt' : J < 64 := by omega
            obtain ⟨G, cap, e, hGg, _⟩ := own_form hown.out (by omega)
            simp only [Value.slice.injEq, true_and] at e
            obtain ⟨rfl, rfl⟩ := e
            have hgw : w.heap.size ≤ G := by rw [HG.out]; exact hGg
            clear s1 hJ hd2
            go_wp2_with fail
            refine S1.out.mono ?_
            rintro e w2 ⟨rfl, hd', hb2⟩
            have hlG : ¬ G = B := by omega
            have hown2 := own_but hown.out hb2 (fun j hj h => hlG (by simp [Value.ownBlock] at hj; rw [hj]; exact h))
            have hbut2 := hbut.out.trans hb2
            have hll : l'.length = 64 := by simpa using hown2.1
            have g1 : w2.cell? ⟨G, k, none⟩ = some (.int .i64 ((l'.getD k 0 : Nat) : Int)) := by rw [hown2.cellAt k (by omega)]; exact row_get l' (by omega)
            have g2 : w2.cell? ⟨G, J, none⟩ = some (.int .i64 ((l'.getD J 0 : Nat) : Int)) := by rw [hown2.cellAt J (by omega)]; exact row_get l' (by omega)
            have f1 := hown2.frozenAt k
            have f2 := hown2.frozenAt J
            have HS : Hid (((w2.setCell ⟨G, k, none⟩ (.int .i64 ((l'.getD J 0 : Nat) : Int))).setCell ⟨G, J, none⟩ (.int .i64 ((l'.getD k 0 : Nat) : Int))).ownsRow g 3 1 (.slice (some ⟨G, 0, none⟩) 64 c) 64 ((swapL l' k J).map iV)) := Lib.hid (by
              have h1 := ((hown2.stored k (iV (l'.getD J 0))).1.stored J (iV (l'.getD k 0))).1
              rw [swap_rows] at h1
              exact h1)
            obtain ⟨a0, ha0⟩ : ∃ a, l'.getD k 0 = a := ⟨_, rfl⟩
            obtain ⟨b0, hb0⟩ : ∃ b, l'.getD J 0 = b := ⟨_, rfl⟩
            rw [ha0] at g1 HS
            rw [hb0] at g2 HS
            have hbs : But (· = G) w2 ((w2.setCell ⟨G, k, none⟩ (.int .i64 (b0 : Int))).setCell ⟨G, J, none⟩ (.int .i64 (a0 : Int))) := (But.set (S := (· = G)) w2 (p := ⟨G, k, none⟩) rfl _).trans (But.set (S := (· = G)) _ (p := ⟨G, J, none⟩) rfl _)
            have HD2 : Hid (RwAt (fun k => S k ∨ w.heap.size ≤ k) ((w2.setCell ⟨G, k, none⟩ (.int .i64 (b0 : Int))).setCell ⟨G, J, none⟩ (.int .i64 (a0 : Int))) B d2) := Lib.hid (hd'.but hbs (fun k e => .inr (e ▸ hgw)) (fun e => hlG e.symm))
            have HB2 : Hid (But (· = B) w ((w2.setCell ⟨G, k, none⟩ (.int .i64 (b0 : Int))).setCell ⟨G, J, none⟩ (.int .i64 (a0 : Int)))) := Lib.hid (hbut2.then_ hbs (fun i e h => by omega))
            have q3 : (0 : Int) ≤ (k : Int) := by omega
            have q4 : (k : Int) < (64 : Int) := by omega
            have q5 : (0 : Int) ≤ (J : Int) := by omega
            have q6 : (J : Int) < (64 : Int) := by omega
            clear hd' hbut2 hown2 hb2 S1 ha0 hb0 hll hbs
            go_wp2
            go_quiet (fail)
            obtain ⟨v', hv'⟩ := cell?_setCell_some (w := w2.drewN nq) (p := ⟨G, k, none⟩) (x := .int .i64 (b0 : Int)) (q := ⟨G, J, none⟩) (v := .int .i64 (b0 : Int)) g2
            go_wp2
            go_roundw
            case rel => exact ⟨(k : Int) - 1, _, _, by go_num, by omega, by omega, Lib.hid (by rw [show ((k : Int) - 1).toNat = k - 1 by omega]; exact HNx.out), Lib.hid (ownsRow_drewN HS.out _), Lib.hid (HD2.out.drewN _), Lib.hid (But.drewN HB2.out _)⟩
            case measure => simp [intOf] <;> omega
          · have HE : Hid ((l', d') = ordGo (64 - 1) (List.range 64) d) := Lib.hid (by rw [← hord.out, show z.toNat = 0 by omega]; rfl)
            go_wp2
            go_ret
            have hoa : d.order n = l' := by rw [Dr.order, HN.out, ← HE.out]
            have hda : d.afterO n = d' := by rw [Dr.afterO, HN.out, ← HE.out]
            have hll : l'.length = 64 := by simpa using hown.out.1
            rw [hoa, hda]
            obtain ⟨A', c', e, hR, _, hnc, _, hbase⟩ := RV.own hown.out
            simp only [Value.slice.injEq, true_and] at e
            obtain ⟨rfl, rfl⟩ := e
            exact ⟨⟨A, c, by rw [hll]; rfl, by rw [hll]; exact hR, by omega, fun b off e => by rw [HG.out]; exact hbase b off e⟩, hd.out.narrow (fun k _ h => .inl h) HSB.out, hbut.out⟩
  · go_enter Try.func32, Try.ntmps32
    go_wp2
    go_loopw [5, 6] (fun vv iv wr => ∃ (k : Nat) (A : Option Addr) (c : Nat), k ≤ N ∧ iv = .int .i64 (k : Int) ∧ vv = .slice A k c ∧ Hid (wr.ownsRow g 3 1 (.slice A k c) k ((List.range k).map iV)) ∧ Hid (Below g w wr)) (fun _ iv _ => N - (intOf iv).toNat)
    case atStart => exact ⟨0, none, 0, Nat.zero_le _, rfl, rfl, Lib.hid (World.ownsRow_nil _ _ _ _), Lib.hid (Below.refl _ _)⟩
    case round =>
      obtain ⟨k, A, c, hk, rfl, rfl, hown, hb⟩ := hrel
      by_cases hlt : k < N
      · have hgs : g ≤ wr.heap.size := below_ge hb.out HG.out
        have q1 : (k : Int) < (N : Int) := by omega
        go_wp2_with (at_builtin; refine wpList_append_val rfl (.tmp 20) (.tmp 22) 27 rfl g 3 i0 (.int .i64 0) 8 Try.underlying27 hi hz0 hz1 hz2 rfl (.slice A k c) k ((List.range k).map iV) rfl hown.out (.int .i64 (k : Int)) _ rfl rfl ?c1 ?c2 ?c3 ?_)
        case c1 => unfold maxLen; omega
        case c2 => omega
        case c3 => exact hgs
        refine Lib.hid ?_
        intro v1 w1 hown1 hg1
        have hb1 : Below g w w1 := (hb.out.alloc hgs _).grown hg1 (by simp; omega) (fun j hj => (hown.out.lt j hj).1)
        rw [show (List.range k).map iV ++ [Value.int IntKind.i64 (k : Int)] = (List.range (k + 1)).map iV by simp [List.range_succ, iV]] at hown1
        obtain ⟨A1, c1, rfl, _⟩ := RV.own hown1
        have HO1 := Lib.hid hown1
        have HB1 := Lib.hid hb1
        clear hown1 hb1 hg1 hgs
        go_wp2
        go_roundw
        case rel => exact ⟨k + 1, A1, c1, by omega, by go_num, rfl, HO1, HB1⟩
        case measure => simp [intOf] <;> omega
      · obtain rfl : N = k := by omega
        have HO := hown
        have hbg : Below w.heap.size w wr := by rw [HG.out]; exact hb.out
        have HD : Hid (RwAt (fun k => S k ∨ w.heap.size ≤ k) wr B d) := Lib.hid (HW.out.below hbg)
        have HB : Hid (But (· = B) w wr) := Lib.hid (But.of_below hbg)
        clear hown hb hbg
        obtain ⟨wo, rfl⟩ : ∃ wo : World, wo = wr := ⟨_, rfl⟩
        go_wp2
        go_loopw [7] (fun iv wr => ∃ (z : Int) (l' : List Nat) (d' : Dr), iv = .int .i64 z ∧ z < N ∧ -1 ≤ z ∧ Hid (ordGo z.toNat l' d' = ordGo (N - 1) (List.range N) d) ∧ Hid (wr.ownsRow g 3 1 (.slice A N c) N (l'.map iV)) ∧ Hid (RwAt (fun k => S k ∨ w.heap.size ≤ k) wr B d') ∧ Hid (But (· = B) w wr)) (fun iv _ => (intOf iv + 1).toNat)
        case atStart => exact ⟨_, List.range N, d, rfl, by omega, by omega, Lib.hid (by first | rfl | (rw [show ((N : Int) - 1).toNat = N - 1 by omega])), HO, HD, HB⟩
        case round =>
          obtain ⟨z, l', d', rfl, hz1, hz2, hord, hown, hd, hbut⟩ := hrel
          by_cases hz : 0 < z
          · obtain ⟨k, rfl⟩ : ∃ k : Nat, z = (k : Int) := ⟨z.toNat, by omega⟩
            have HNx : Hid (ordGo (k - 1) (swapL l' k (d'.below ((k : Int) + 1))) (d'.next ((k : Int) + 1)) = ordGo (N - 1) (List.range N) d) := Lib.hid (by
              rw [← hord.out, show ((k : Int)).toNat = k by omega]
              obtain ⟨j, rfl⟩ : ∃ j, k = j + 1 := ⟨k - 1, by omega⟩
              rw [ordGo, Nat.add_sub_cancel, show (((j + 1 : Nat) : Int) + 1) = (j : Int) + 2 by omega])
            have hlt := below_lt hd.out.1.1 (n := (k : Int) + 1) (by omega)
            have s1 := rbelow_any _ B d' ((k : Int) + 1) wr hd.out (by omega)
            obtain ⟨J, hJ⟩ : ∃ J, d'.below ((k : Int) + 1) = J := ⟨_, rfl⟩
            obtain ⟨d2, hd2⟩ : ∃ d2, d'.next ((k : Int) + 1) = d2 := ⟨_, rfl⟩
            rw [hJ, hd2] at HNx s1
            rw [hJ] at hlt
            have S1 := Lib.hid s1
            have hlt' : J < N := by omega
            obtain ⟨G, cap, e, hGg, _⟩ := own_form hown.out (by omega)
            simp only [Value.slice.injEq, true_and] at e
            obtain ⟨rfl, rfl⟩ := e
            have hgw : w.heap.size ≤ G := by rw [HG.out]; exact hGg
            clear s1 hJ hd2
            go_wp2_with fail
            refine S1.out.mono ?_
            rintro e w2 ⟨rfl, hd', hb2⟩
            have hlG : ¬ G = B := by omega
            have hown2 := own_but hown.out hb2 (fun j hj h => hlG (by simp [Value.ownBlock] at hj; rw [hj]; exact h))
            have hbut2 := hbut.out.trans hb2
            have hll : l'.length = N := by simpa using hown2.1
            have g1 : w2.cell? ⟨G, k, none⟩ = some (.int .i64 ((l'.getD k 0 : Nat) : Int)) := by rw [hown2.cellAt k (by omega)]; exact row_get l' (by omega)
            have g2 : w2.cell? ⟨G, J, none⟩ = some (.int .i64 ((l'.getD J 0 : Nat) : Int)) := by rw [hown2.cellAt J (by omega)]; exact row_get l' (by omega)
            have f1 := hown2.frozenAt k
            have f2 := hown2.frozenAt J
            have HS : Hid (((w2.setCell ⟨G, k, none⟩ (.int .i64 ((l'.getD J 0 : Nat) : Int))).setCell ⟨G, J, none⟩ (.int .i64 ((l'.getD k 0 : Nat) : Int))).ownsRow g 3 1 (.slice (some ⟨G, 0, none⟩) N c) N ((swapL l' k J).map iV)) := Lib.hid (by
              have h1 := ((hown2.stored k (iV (l'.getD J 0))).1.stored J (iV (l'.getD k 0))).1
              rw [swap_rows] at h1
              exact h1)
            obtain ⟨a0, ha0⟩ : ∃ a, l'.getD k 0 = a := ⟨_, rfl⟩
            obtain ⟨b0, hb0⟩ : ∃ b, l'.getD J 0 = b := ⟨_, rfl⟩
            rw [ha0] at g1 HS
            rw [hb0] at g2 HS
            have hbs : But (· = G) w2 ((w2.setCell ⟨G, k, none⟩ (.int .i64 (b0 : Int))).setCell ⟨G, J, none⟩ (.int .i64 (a0 : Int))) := (But.set (S := (· = G)) w2 (p := ⟨G, k, none⟩) rfl _).trans (But.set (S := (· = G)) _ (p := ⟨G, J, none⟩) rfl _)
            have HD2 : Hid (RwAt (fun k => S k ∨ w.heap.size ≤ k) ((w2.setCell ⟨G, k, none⟩ (.int .i64 (b0 : Int))).setCell ⟨G, J, none⟩ (.int .i64 (a0 : Int))) B d2) := Lib.hid (hd'.but hbs (fun k e => .inr (e ▸ hgw)) (fun e => hlG e.symm))
            have HB2 : Hid (But (· = B) w ((w2.setCell ⟨G, k, none⟩ (.int .i64 (b0 : Int))).setCell ⟨G, J, none⟩ (.int .i64 (a0 : Int)))) := Lib.hid (hbut2.then_ hbs (fun i e h => by omega))
            have q3 : (0 : Int) ≤ (k : Int) := by omega
            have q4 : (k : Int) < (N : Int) := by omega
            have q5 : (0 : Int) ≤ (J : Int) := by omega
            have q6 : (J : Int) < (N : Int) := by omega
            clear hd' hbut2 hown2 hb2 S1 ha0 hb0 hll hbs
            go_wp2
            go_quiet (fail)
            obtain ⟨v', hv'⟩ := cell?_setCell_some (w := w2.drewN nq) (p := ⟨G, k, none⟩) (x := .int .i64 (b0 : Int)) (q := ⟨G, J, none⟩) (v := .int .i64 (b0 : Int)) g2
            go_wp2
            go_roundw
            case rel => exact ⟨(k : Int) - 1, _, _, by go_num, by omega, by omega, Lib.hid (by rw [show ((k : Int) - 1).toNat = k - 1 by omega]; exact HNx.out), Lib.hid (ownsRow_drewN HS.out _), Lib.hid (HD2.out.drewN _), Lib.hid (But.drewN HB2.out _)⟩
            case measure => simp [intOf] <;> omega
          · have HE : Hid ((l', d') = ordGo (N - 1) (List.range N) d) := Lib.hid (by rw [← hord.out, show z.toNat = 0 by omega]; rfl)
            go_wp2
            go_ret
            have hoa : d.order (N : Int) = l' := by rw [Dr.order, HN.out, ← HE.out]
            have hda : d.afterO (N : Int) = d' := by rw [Dr.afterO, HN.out, ← HE.out]
            have hll : l'.length = N := by simpa using hown.out.1
            rw [hoa, hda]
            obtain ⟨A', c', e, hR, _, hnc, _, hbase⟩ := RV.own hown.out
            simp only [Value.slice.injEq, true_and] at e
            obtain ⟨rfl, rfl⟩ := e
            exact ⟨⟨A, c, by rw [hll]; rfl, by rw [hll]; exact hR, by omega, fun b off e => by rw [HG.out]; exact hbase b off e⟩, hd.out.narrow (fun k _ h => .inl h) HSB.out, hbut.out⟩
end Go.Proofs.Ytckeknhoimgccaa
