/-
  rising, the exchange, Order and Some of the program's draws, walked (layer 5).
-/
import Derived.Test.YtckeknhoimgccaaEBelow
import Derived.LoopIn
import Derived.RegionTactic
import Derived.ChangeAlike
namespace Go.Proofs.Ytckeknhoimgccaa
open Go.RowKit
set_option linter.unusedSimpArgs false

/-- What stands in the row while it is made. -/
def madeRow (n k : Nat) : List Value := (List.range k).map iV ++ List.replicate (n - k) (iV 0)
theorem madeRow_zero (n : Nat) : madeRow n 0 = List.replicate n (iV 0) := by simp [madeRow]
theorem madeRow_full (n : Nat) : madeRow n n = (List.range n).map iV := by simp [madeRow]
theorem madeRow_set {n k : Nat} (h : k < n) : (madeRow n k).set k (iV k) = madeRow n (k + 1) := by
  unfold madeRow
  rw [List.set_append_right _ _ (by simp), show n - k = (n - (k + 1)) + 1 by omega, List.replicate_succ]
  simp [List.range_succ]
theorem int_info : (Try.prog.info? 3).map (fun i => (i.zero, i.size, i.bytes)) = some (some (.int .i64 0), 1, 8) := by kernel_rfl
theorem madeRow_cells (n : Nat) : (madeCells #[.int .i64 0] n).toList = madeRow n 0 := by
  rw [madeRow_zero, toList_madeCells_one]
  rfl
set_option maxHeartbeats 1000000 in
theorem rising_any (n g : Nat) (w : World) (hn : n ≤ 64) (HG : Hid (w.heap.size = g)) :
    Calls Try.prog 39 #[.int .i64 (n : Int)] w fun e w' => e = .returned (.slice (some ⟨g, 0, none⟩) n n) ∧ w'.ownsRow g 3 1 (.slice (some ⟨g, 0, none⟩) n n) n ((List.range n).map iV) ∧ Below g w w' := by
  obtain ⟨i0, hi, hz0, hz1, hz2⟩ := info_parts int_info
  have q0 : (0 : Int) ≤ (n : Int) := by omega
  go_enter Try.func39, Try.ntmps39
  go_wp2_with (with_reducible refine wpList_make_full w rfl (.tmp 5) (.tmp 5) 27 rfl w.heap.size 3 i0 (.int .i64 0) 1 Try.underlying27 hi hz0 hz1 .i64 .i64 (n : Int) (n : Int) n rfl rfl rfl rfl ?c1 ?c2 ?c3 ?_)
  case c1 => rw [hz2]; omega
  case c2 => unfold maxLen; omega
  case c3 => exact Nat.le_refl _
  intro w1 hown hg
  rw [madeRow_cells] at hown
  have HB := Lib.hid ((Below.refl w.heap.size w).grown hg (Nat.le_refl _) (fun j hj => by cases hj))
  have HOwn := Lib.hid hown
  have hs1 := HB.out.size
  have hlt1 : w.heap.size < w1.heap.size := (hown.lt w.heap.size rfl).2
  rw [HG.out] at HOwn HB hlt1 ⊢
  clear hown hg hs1
  go_wp2
  go_loopw [8] (fun kv wr => ∃ k : Nat, k ≤ n ∧ kv = .int .i64 (k : Int) ∧ Hid (wr.ownsRow g 3 1 (.slice (some ⟨g, 0, none⟩) n n) n (madeRow n k)) ∧ Hid (Below g w wr)) (fun kv _ => n - (intOf kv).toNat)
  case atStart => exact ⟨0, Nat.zero_le _, rfl, HOwn, HB⟩
  case round =>
    obtain ⟨k, hk, rfl, hown, hb⟩ := hrel
    by_cases hlt : k < n
    · have q1 : (k : Int) < (n : Int) := by omega
      have q2 : (0 : Int) ≤ (k : Int) := by omega
      have f0 := hown.out.frozenAt k
      obtain ⟨c0, hc0⟩ : ∃ c0, wr.cell? ⟨g, k, none⟩ = some c0 := by
        rw [hown.out.cellAt k (by omega)]
        have hl : k < (madeRow n k).length := by simp [madeRow]; omega
        exact ⟨_, List.getElem?_eq_getElem hl⟩
      have HS : Hid ((wr.setCell ⟨g, k, none⟩ (.int .i64 (k : Int))).ownsRow g 3 1 (.slice (some ⟨g, 0, none⟩) n n) n (madeRow n (k + 1)) ∧ Below g w (wr.setCell ⟨g, k, none⟩ (.int .i64 (k : Int)))) := Lib.hid (by
        refine ⟨?_, hb.out.setCell (Nat.le_refl _) _⟩
        have h1 := (hown.out.stored k (.int .i64 (k : Int))).1
        rw [show (Value.int IntKind.i64 (k : Int)) = iV k from rfl, madeRow_set hlt] at h1
        exact h1)
      go_wp2
      go_roundw
      case rel => exact ⟨k + 1, by omega, by go_num, Lib.hid HS.out.1, Lib.hid HS.out.2⟩
      case measure => simp [intOf] <;> omega
    · obtain rfl : k = n := by omega
      have q1 : ¬ (k : Int) < (k : Int) := by omega
      go_wp2
      go_ret
      have := hown.out
      rw [madeRow_full] at this
      exact ⟨rfl, this, hb.out⟩

/-- Rows of places, with two exchanged. -/
theorem swap_rows (l : List Nat) (i j : Nat) : ((l.map iV).set i (iV (l.getD j 0))).set j (iV (l.getD i 0)) = (swapL l i j).map iV := by
  unfold swapL
  rw [List.map_set, List.map_set]
theorem row_get (l : List Nat) {i : Nat} (h : i < l.length) : (l.map iV)[i]? = some (.int .i64 ((l.getD i 0 : Nat) : Int)) := by
  simp [iV, List.getD, List.getElem?_eq_getElem h]
set_option maxHeartbeats 1000000 in
theorem exchange_any (l : List Nat) (n i j X g base : Nat) (w : World) (hX : w.cell? ⟨X, 0, none⟩ = some (.slice (some ⟨g, 0, none⟩) n n)) (hown : w.ownsRow base 3 1 (.slice (some ⟨g, 0, none⟩) n n) n (l.map iV)) (hi : i < n) (hj : j < n) (_ : n ≤ 64) (hne : X ≠ g) :
    Calls Try.prog 40 #[.int .i64 (i : Int), .int .i64 (j : Int), .pointer (some ⟨X, 0, none⟩)] w fun e w' => e = .returned (.tuple #[]) ∧ w'.ownsRow base 3 1 (.slice (some ⟨g, 0, none⟩) n n) n ((swapL l i j).map iV) ∧ But (· = g) w w' := by
  have hl : l.length = n := by simpa using hown.1
  have c1 : w.cell? ⟨g, i, none⟩ = some (.int .i64 ((l.getD i 0 : Nat) : Int)) := by rw [hown.cellAt i (by omega)]; exact row_get l (by omega)
  have c2 : w.cell? ⟨g, j, none⟩ = some (.int .i64 ((l.getD j 0 : Nat) : Int)) := by rw [hown.cellAt j (by omega)]; exact row_get l (by omega)
  have f1 := hown.frozenAt i
  have f2 := hown.frozenAt j
  have HO : Hid (((w.setCell ⟨g, i, none⟩ (.int .i64 ((l.getD j 0 : Nat) : Int))).setCell ⟨g, j, none⟩ (.int .i64 ((l.getD i 0 : Nat) : Int))).ownsRow base 3 1 (.slice (some ⟨g, 0, none⟩) n n) n ((swapL l i j).map iV)) := Lib.hid (by
    have h1 := ((hown.stored i (iV (l.getD j 0))).1.stored j (iV (l.getD i 0))).1
    rw [swap_rows] at h1
    exact h1)
  obtain ⟨a, ha⟩ : ∃ a, l.getD i 0 = a := ⟨_, rfl⟩
  obtain ⟨b, hb⟩ : ∃ b, l.getD j 0 = b := ⟨_, rfl⟩
  rw [ha] at c1 HO
  rw [hb] at c2 HO
  obtain ⟨v', hv'⟩ := cell?_setCell_some (w := w) (p := ⟨g, i, none⟩) (x := .int .i64 (b : Int)) (q := ⟨g, j, none⟩) (v := .int .i64 (b : Int)) c2
  have hX' : (w.setCell ⟨g, i, none⟩ (.int .i64 (b : Int))).cell? ⟨X, 0, none⟩ = some (.slice (some ⟨g, 0, none⟩) n n) := (World.cell?_setCell_other w ⟨g, i, none⟩ ⟨X, 0, none⟩ _ (fun e => hne (by simpa using (congrArg Addr.block e).symm))).trans hX
  have q1 : (0 : Int) ≤ (i : Int) := by omega
  have q2 : (0 : Int) ≤ (j : Int) := by omega
  have q3 : (i : Int) < (n : Int) := by omega
  have q4 : (j : Int) < (n : Int) := by omega
  clear hown hl ha hb hne
  go_enter Try.func40, Try.ntmps40
  go_wp2
  go_region
  all_goals
    go_end0
    exact ⟨rfl, HO.out.drew, ((But.set (S := (· = g)) w (p := ⟨g, i, none⟩) rfl _).trans (But.set (S := (· = g)) _ (p := ⟨g, j, none⟩) rfl _)).drew⟩

/-- A row that a call made. -/
def RowOf (w : World) (xs : List Nat) (e : Ending) (w' : World) : Prop := ∃ A c, e = .returned (.slice A xs.length c) ∧ RV w' A xs.length (xs.map iV) ∧ xs.length ≤ c ∧ ∀ b off, A = some ⟨b, off, none⟩ → w.heap.size ≤ b
theorem DwAt.wide {S : Nat → Prop} {w : World} {v : Value} {d : Dr} (h : DwAt S w v d) : DwAt (fun k => S k ∨ w.heap.size ≤ k) w v d :=
  ⟨h.1, h.2.imp id fun ⟨B, A, n, c, e, h0, hh, hr, h1⟩ => ⟨B, A, n, c, e, .inl h0, hh, hr.narrow (fun k hk h => h.resolve_right (by omega)), h1⟩⟩
theorem DwAt.names {S : Nat → Prop} {w : World} {v : Value} {d : Dr} (h : DwAt S w v d) (k : Nat) (hk : Tgt v k) : S k := by
  rcases h.2 with ⟨e, _⟩ | ⟨B, A, n, c, e, h0, _⟩
  · rw [Tgt, e] at hk; cases hk
  · rw [Tgt, e] at hk
    simp only [Value.pointer.injEq, Option.some.injEq, Addr.mk.injEq] at hk
    obtain ⟨rfl, _⟩ := hk
    exact h0
theorem sizeO_le (n : Int) : sizeO n ≤ 64 := by unfold sizeO; split <;> (try split) <;> omega
set_option maxHeartbeats 4000000 in
theorem order_any (S : Nat → Prop) (v : Value) (d : Dr) (n : Int) (w : World) (h : DwAt S w v d) :
    Calls Try.prog 38 #[v, .int .i64 n] w fun e w' => RowOf w (d.order n) e w' ∧ DwAt S w' v (d.afterO n) ∧ But (Tgt v) w w' := by
  obtain ⟨N, hN⟩ : ∃ N, sizeO n = N := ⟨_, rfl⟩
  have hN64 : N ≤ 64 := hN ▸ sizeO_le n
  have HW := Lib.hid h.wide
  have HNm : Hid (∀ k, Tgt v k → S k) := Lib.hid h.names
  have HLt : Hid (∀ k, Tgt v k → k < w.heap.size) := Lib.hid h.lt
  obtain ⟨g, hg⟩ : ∃ g, w.heap.size = g := ⟨_, rfl⟩
  have HG := Lib.hid hg
  have hr := rising_any N g w hN64 HG
  have HR := Lib.hid hr
  have hcase : (n < 0 ∧ N = 0) ∨ (64 < n ∧ N = 64) ∨ (0 ≤ n ∧ n ≤ 64 ∧ n = (N : Int)) := by unfold sizeO at hN; split at hN <;> (try split at hN) <;> omega
  have HN := Lib.hid hN
  clear h hg hr hN
  rcases hcase with ⟨h1, rfl⟩ | ⟨h1, rfl⟩ | ⟨h1, h2, rfl⟩
  · go_enter Try.func38, Try.ntmps38
    go_wp2_with fail
    refine HR.out.mono ?_
    rintro e w1 ⟨rfl, hown, hb⟩
    obtain ⟨X, hX⟩ : ∃ X, w1.heap.size = X := ⟨_, rfl⟩
    have hgX : g < X := by have := (hown.lt g rfl).2; omega
    have HOwn : Hid ((w1.alloc (.cells #[.slice (some ⟨g, 0, none⟩) 0 0] 27)).ownsRow g 3 1 (.slice (some ⟨g, 0, none⟩) 0 0) 0 ((List.range 0).map iV)) := Lib.hid (hown.alloc _)
    have hbg : Below w.heap.size w w1 := by rw [HG.out]; exact hb
    have hbb : Below w.heap.size w (w1.alloc (.cells #[.slice (some ⟨g, 0, none⟩) 0 0] 27)) := hbg.alloc (by have := hbg.size; omega) _
    have HB : Hid (But (Tgt v) w (w1.alloc (.cells #[.slice (some ⟨g, 0, none⟩) 0 0] 27))) := Lib.hid (But.of_below hbb)
    have HD : Hid (DwAt (fun k => S k ∨ w.heap.size ≤ k) (w1.alloc (.cells #[.slice (some ⟨g, 0, none⟩) 0 0] 27)) v d) := Lib.hid (HW.out.below hbb)
    have HXb : Hid ((w1.alloc (.cells #[.slice (some ⟨g, 0, none⟩) 0 0] 27)).heap[X]? = some (.cells #[.slice (some ⟨g, 0, none⟩) 0 0] 27 (0, 0))) := Lib.hid (by rw [← hX]; exact heap_alloc_new _ _)
    have HX := Lib.hid hX
    clear hown hb hbg hbb hX
    go_wp2
    rw [HX.out]
    go_loopw [7] (fun iv wr => ∃ (z : Int) (l' : List Nat) (d' : Dr), iv = .int .i64 z ∧ z < 0 ∧ -1 ≤ z ∧ Hid (ordGo z.toNat l' d' = ordGo (0 - 1) (List.range 0) d) ∧ Hid (wr.ownsRow g 3 1 (.slice (some ⟨g, 0, none⟩) 0 0) 0 (l'.map iV)) ∧ Hid (DwAt (fun k => S k ∨ w.heap.size ≤ k) wr v d') ∧ Hid (wr.heap[X]? = some (.cells #[.slice (some ⟨g, 0, none⟩) 0 0] 27 (0, 0))) ∧ Hid (But (Tgt v) w wr)) (fun iv _ => (intOf iv + 1).toNat)
    case atStart => exact ⟨_, List.range 0, d, rfl, by omega, by omega, Lib.hid (by first | rfl | (rw [show ((0 : Int) - 1).toNat = 0 - 1 by omega])), HOwn, HD, HXb, HB⟩
    case round =>
      obtain ⟨z, l', d', rfl, hz1, hz2, hord, hown, hd, hxb, hbut⟩ := hrel
      have cX : wr.cell? ⟨X, 0, none⟩ = some (.slice (some ⟨g, 0, none⟩) 0 0) := by rw [cell_of_row _ _ _ _ _ _ hxb.out]; rfl
      by_cases hz : 0 < z
      · exfalso
        omega
      · have HE : Hid ((l', d') = ordGo (0 - 1) (List.range 0) d) := Lib.hid (by rw [← hord.out, show z.toNat = 0 by omega]; rfl)
        go_wp2
        go_ret
        have hoa : d.order n = l' := by rw [Dr.order, HN.out, ← HE.out]
        have hda : d.afterO n = d' := by rw [Dr.afterO, HN.out, ← HE.out]
        have hll : l'.length = 0 := by simpa using hown.out.1
        rw [hoa, hda]
        obtain ⟨A, c, e, hR, _, hnc, _, hbase⟩ := RV.own hown.out
        refine ⟨⟨some ⟨g, 0, none⟩, 0, by rw [hll]; rfl, ?_, by omega, fun b off e => ?_⟩, hd.out.narrow (fun k _ h => .inl h) HNm.out, hbut.out⟩
        · simp only [Value.slice.injEq, true_and] at e
          rw [e.1, hll]
          exact hR
        · simp only [Option.some.injEq, Addr.mk.injEq] at e
          rw [HG.out]
          omega
  · go_enter Try.func38, Try.ntmps38
    go_wp2_with fail
    refine HR.out.mono ?_
    rintro e w1 ⟨rfl, hown, hb⟩
    obtain ⟨X, hX⟩ : ∃ X, w1.heap.size = X := ⟨_, rfl⟩
    have hgX : g < X := by have := (hown.lt g rfl).2; omega
    have HOwn : Hid ((w1.alloc (.cells #[.slice (some ⟨g, 0, none⟩) 64 64] 27)).ownsRow g 3 1 (.slice (some ⟨g, 0, none⟩) 64 64) 64 ((List.range 64).map iV)) := Lib.hid (hown.alloc _)
    have hbg : Below w.heap.size w w1 := by rw [HG.out]; exact hb
    have hbb : Below w.heap.size w (w1.alloc (.cells #[.slice (some ⟨g, 0, none⟩) 64 64] 27)) := hbg.alloc (by have := hbg.size; omega) _
    have HB : Hid (But (Tgt v) w (w1.alloc (.cells #[.slice (some ⟨g, 0, none⟩) 64 64] 27))) := Lib.hid (But.of_below hbb)
    have HD : Hid (DwAt (fun k => S k ∨ w.heap.size ≤ k) (w1.alloc (.cells #[.slice (some ⟨g, 0, none⟩) 64 64] 27)) v d) := Lib.hid (HW.out.below hbb)
    have HXb : Hid ((w1.alloc (.cells #[.slice (some ⟨g, 0, none⟩) 64 64] 27)).heap[X]? = some (.cells #[.slice (some ⟨g, 0, none⟩) 64 64] 27 (0, 0))) := Lib.hid (by rw [← hX]; exact heap_alloc_new _ _)
    have HX := Lib.hid hX
    clear hown hb hbg hbb hX
    go_wp2
    rw [HX.out]
    go_loopw [7] (fun iv wr => ∃ (z : Int) (l' : List Nat) (d' : Dr), iv = .int .i64 z ∧ z < 64 ∧ -1 ≤ z ∧ Hid (ordGo z.toNat l' d' = ordGo (64 - 1) (List.range 64) d) ∧ Hid (wr.ownsRow g 3 1 (.slice (some ⟨g, 0, none⟩) 64 64) 64 (l'.map iV)) ∧ Hid (DwAt (fun k => S k ∨ w.heap.size ≤ k) wr v d') ∧ Hid (wr.heap[X]? = some (.cells #[.slice (some ⟨g, 0, none⟩) 64 64] 27 (0, 0))) ∧ Hid (But (Tgt v) w wr)) (fun iv _ => (intOf iv + 1).toNat)
    case atStart => exact ⟨_, List.range 64, d, rfl, by omega, by omega, Lib.hid (by first | rfl | (rw [show ((64 : Int) - 1).toNat = 64 - 1 by omega])), HOwn, HD, HXb, HB⟩
    case round =>
      obtain ⟨z, l', d', rfl, hz1, hz2, hord, hown, hd, hxb, hbut⟩ := hrel
      have cX : wr.cell? ⟨X, 0, none⟩ = some (.slice (some ⟨g, 0, none⟩) 64 64) := by rw [cell_of_row _ _ _ _ _ _ hxb.out]; rfl
      by_cases hz : 0 < z
      · obtain ⟨k, rfl⟩ : ∃ k : Nat, z = (k : Int) := ⟨z.toNat, by omega⟩
        have HNx : Hid (ordGo (k - 1) (swapL l' k (d'.below ((k : Int) + 1))) (d'.next ((k : Int) + 1)) = ordGo (64 - 1) (List.range 64) d) := Lib.hid (by
          rw [← hord.out, show ((k : Int)).toNat = k by omega]
          obtain ⟨j, rfl⟩ : ∃ j, k = j + 1 := ⟨k - 1, by omega⟩
          rw [ordGo, Nat.add_sub_cancel, show (((j + 1 : Nat) : Int) + 1) = (j : Int) + 2 by omega])
        have hlt := below_lt hd.out.1.1 (n := (k : Int) + 1) (by omega)
        have s1 := below_any _ v d' ((k : Int) + 1) wr hd.out (by omega)
        obtain ⟨J, hJ⟩ : ∃ J, d'.below ((k : Int) + 1) = J := ⟨_, rfl⟩
        obtain ⟨d2, hd2⟩ : ∃ d2, d'.next ((k : Int) + 1) = d2 := ⟨_, rfl⟩
        rw [hJ, hd2] at HNx s1
        rw [hJ] at hlt
        have S1 := Lib.hid s1
        have hlt' : J < 64 := by omega
        clear s1 hJ hd2 cX
        go_wp2_with fail
        refine S1.out.mono ?_
        rintro e w2 ⟨rfl, hd', hb2⟩
        have hszg := hbut.out.size
        have hgw : w.heap.size ≤ g := by rw [HG.out]; exact Nat.le_refl _
        have hlg : ¬ Tgt v g := fun h => by have := HLt.out g h; omega
        have hlX : ¬ Tgt v X := fun h => by have := HLt.out X h; omega
        have hown2 := own_but hown.out hb2 (fun j hj h => hlg (by simp [Value.ownBlock] at hj; rw [hj]; exact h))
        have hxb2 : w2.heap[X]? = _ := (hb2.block X (block_lt hxb.out) hlX).trans hxb.out
        have hbut2 := hbut.out.trans hb2
        have s2 := exchange_any l' 64 k J X g g w2 (by rw [cell_of_row _ _ _ _ _ _ hxb2]; rfl) hown2 (by omega) hlt' (by omega) (by omega)
        have S2 := Lib.hid s2
        have HD2 := Lib.hid hd'
        have HXb2 := Lib.hid hxb2
        have HB2 := Lib.hid hbut2
        clear s2 hd' hxb2 hbut2 hown2 hb2 hlg hlX hszg S1
        go_wp2_with fail
        refine S2.out.mono ?_
        rintro e w3 ⟨rfl, hown3, hb3⟩
        have HO3 := Lib.hid hown3
        have HD3 : Hid (DwAt (fun k => S k ∨ w.heap.size ≤ k) w3 v d2) := Lib.hid (HD2.out.but hb3 (fun k e => .inr (e ▸ hgw)) (fun k e h => by have := HLt.out k h; omega))
        have HX3 : Hid (w3.heap[X]? = some (.cells #[.slice (some ⟨g, 0, none⟩) 64 64] 27 (0, 0))) := Lib.hid ((hb3.block X (block_lt HXb2.out) (by omega)).trans HXb2.out)
        have HB3 : Hid (But (Tgt v) w w3) := Lib.hid (HB2.out.then_ hb3 (fun i e h => by omega))
        clear hown3 hb3
        go_wp2
        go_roundw
        case rel => exact ⟨(k : Int) - 1, _, _, by go_num, by omega, by omega, Lib.hid (by rw [show ((k : Int) - 1).toNat = k - 1 by omega]; exact HNx.out), HO3, HD3, HX3, HB3⟩
        case measure => simp [intOf] <;> omega
      · have HE : Hid ((l', d') = ordGo (64 - 1) (List.range 64) d) := Lib.hid (by rw [← hord.out, show z.toNat = 0 by omega]; rfl)
        go_wp2
        go_ret
        have hoa : d.order n = l' := by rw [Dr.order, HN.out, ← HE.out]
        have hda : d.afterO n = d' := by rw [Dr.afterO, HN.out, ← HE.out]
        have hll : l'.length = 64 := by simpa using hown.out.1
        rw [hoa, hda]
        obtain ⟨A, c, e, hR, _, hnc, _, hbase⟩ := RV.own hown.out
        refine ⟨⟨some ⟨g, 0, none⟩, 64, by rw [hll]; rfl, ?_, by omega, fun b off e => ?_⟩, hd.out.narrow (fun k _ h => .inl h) HNm.out, hbut.out⟩
        · simp only [Value.slice.injEq, true_and] at e
          rw [e.1, hll]
          exact hR
        · simp only [Option.some.injEq, Addr.mk.injEq] at e
          rw [HG.out]
          omega
  · go_enter Try.func38, Try.ntmps38
    go_wp2_with fail
    refine HR.out.mono ?_
    rintro e w1 ⟨rfl, hown, hb⟩
    obtain ⟨X, hX⟩ : ∃ X, w1.heap.size = X := ⟨_, rfl⟩
    have hgX : g < X := by have := (hown.lt g rfl).2; omega
    have HOwn : Hid ((w1.alloc (.cells #[.slice (some ⟨g, 0, none⟩) N N] 27)).ownsRow g 3 1 (.slice (some ⟨g, 0, none⟩) N N) N ((List.range N).map iV)) := Lib.hid (hown.alloc _)
    have hbg : Below w.heap.size w w1 := by rw [HG.out]; exact hb
    have hbb : Below w.heap.size w (w1.alloc (.cells #[.slice (some ⟨g, 0, none⟩) N N] 27)) := hbg.alloc (by have := hbg.size; omega) _
    have HB : Hid (But (Tgt v) w (w1.alloc (.cells #[.slice (some ⟨g, 0, none⟩) N N] 27))) := Lib.hid (But.of_below hbb)
    have HD : Hid (DwAt (fun k => S k ∨ w.heap.size ≤ k) (w1.alloc (.cells #[.slice (some ⟨g, 0, none⟩) N N] 27)) v d) := Lib.hid (HW.out.below hbb)
    have HXb : Hid ((w1.alloc (.cells #[.slice (some ⟨g, 0, none⟩) N N] 27)).heap[X]? = some (.cells #[.slice (some ⟨g, 0, none⟩) N N] 27 (0, 0))) := Lib.hid (by rw [← hX]; exact heap_alloc_new _ _)
    have HX := Lib.hid hX
    clear hown hb hbg hbb hX
    go_wp2
    rw [HX.out]
    go_loopw [7] (fun iv wr => ∃ (z : Int) (l' : List Nat) (d' : Dr), iv = .int .i64 z ∧ z < N ∧ -1 ≤ z ∧ Hid (ordGo z.toNat l' d' = ordGo (N - 1) (List.range N) d) ∧ Hid (wr.ownsRow g 3 1 (.slice (some ⟨g, 0, none⟩) N N) N (l'.map iV)) ∧ Hid (DwAt (fun k => S k ∨ w.heap.size ≤ k) wr v d') ∧ Hid (wr.heap[X]? = some (.cells #[.slice (some ⟨g, 0, none⟩) N N] 27 (0, 0))) ∧ Hid (But (Tgt v) w wr)) (fun iv _ => (intOf iv + 1).toNat)
    case atStart => exact ⟨_, List.range N, d, rfl, by omega, by omega, Lib.hid (by first | rfl | (rw [show ((N : Int) - 1).toNat = N - 1 by omega])), HOwn, HD, HXb, HB⟩
    case round =>
      obtain ⟨z, l', d', rfl, hz1, hz2, hord, hown, hd, hxb, hbut⟩ := hrel
      have cX : wr.cell? ⟨X, 0, none⟩ = some (.slice (some ⟨g, 0, none⟩) N N) := by rw [cell_of_row _ _ _ _ _ _ hxb.out]; rfl
      by_cases hz : 0 < z
      · obtain ⟨k, rfl⟩ : ∃ k : Nat, z = (k : Int) := ⟨z.toNat, by omega⟩
        have HNx : Hid (ordGo (k - 1) (swapL l' k (d'.below ((k : Int) + 1))) (d'.next ((k : Int) + 1)) = ordGo (N - 1) (List.range N) d) := Lib.hid (by
          rw [← hord.out, show ((k : Int)).toNat = k by omega]
          obtain ⟨j, rfl⟩ : ∃ j, k = j + 1 := ⟨k - 1, by omega⟩
          rw [ordGo, Nat.add_sub_cancel, show (((j + 1 : Nat) : Int) + 1) = (j : Int) + 2 by omega])
        have hlt := below_lt hd.out.1.1 (n := (k : Int) + 1) (by omega)
        have s1 := below_any _ v d' ((k : Int) + 1) wr hd.out (by omega)
        obtain ⟨J, hJ⟩ : ∃ J, d'.below ((k : Int) + 1) = J := ⟨_, rfl⟩
        obtain ⟨d2, hd2⟩ : ∃ d2, d'.next ((k : Int) + 1) = d2 := ⟨_, rfl⟩
        rw [hJ, hd2] at HNx s1
        rw [hJ] at hlt
        have S1 := Lib.hid s1
        have hlt' : J < N := by omega
        clear s1 hJ hd2 cX
        go_wp2_with fail
        refine S1.out.mono ?_
        rintro e w2 ⟨rfl, hd', hb2⟩
        have hszg := hbut.out.size
        have hgw : w.heap.size ≤ g := by rw [HG.out]; exact Nat.le_refl _
        have hlg : ¬ Tgt v g := fun h => by have := HLt.out g h; omega
        have hlX : ¬ Tgt v X := fun h => by have := HLt.out X h; omega
        have hown2 := own_but hown.out hb2 (fun j hj h => hlg (by simp [Value.ownBlock] at hj; rw [hj]; exact h))
        have hxb2 : w2.heap[X]? = _ := (hb2.block X (block_lt hxb.out) hlX).trans hxb.out
        have hbut2 := hbut.out.trans hb2
        have s2 := exchange_any l' N k J X g g w2 (by rw [cell_of_row _ _ _ _ _ _ hxb2]; rfl) hown2 (by omega) hlt' (by omega) (by omega)
        have S2 := Lib.hid s2
        have HD2 := Lib.hid hd'
        have HXb2 := Lib.hid hxb2
        have HB2 := Lib.hid hbut2
        clear s2 hd' hxb2 hbut2 hown2 hb2 hlg hlX hszg S1
        go_wp2_with fail
        refine S2.out.mono ?_
        rintro e w3 ⟨rfl, hown3, hb3⟩
        have HO3 := Lib.hid hown3
        have HD3 : Hid (DwAt (fun k => S k ∨ w.heap.size ≤ k) w3 v d2) := Lib.hid (HD2.out.but hb3 (fun k e => .inr (e ▸ hgw)) (fun k e h => by have := HLt.out k h; omega))
        have HX3 : Hid (w3.heap[X]? = some (.cells #[.slice (some ⟨g, 0, none⟩) N N] 27 (0, 0))) := Lib.hid ((hb3.block X (block_lt HXb2.out) (by omega)).trans HXb2.out)
        have HB3 : Hid (But (Tgt v) w w3) := Lib.hid (HB2.out.then_ hb3 (fun i e h => by omega))
        clear hown3 hb3
        go_wp2
        go_roundw
        case rel => exact ⟨(k : Int) - 1, _, _, by go_num, by omega, by omega, Lib.hid (by rw [show ((k : Int) - 1).toNat = k - 1 by omega]; exact HNx.out), HO3, HD3, HX3, HB3⟩
        case measure => simp [intOf] <;> omega
      · have HE : Hid ((l', d') = ordGo (N - 1) (List.range N) d) := Lib.hid (by rw [← hord.out, show z.toNat = 0 by omega]; rfl)
        go_wp2
        go_ret
        have hoa : d.order (N : Int) = l' := by rw [Dr.order, HN.out, ← HE.out]
        have hda : d.afterO (N : Int) = d' := by rw [Dr.afterO, HN.out, ← HE.out]
        have hll : l'.length = N := by simpa using hown.out.1
        rw [hoa, hda]
        obtain ⟨A, c, e, hR, _, hnc, _, hbase⟩ := RV.own hown.out
        refine ⟨⟨some ⟨g, 0, none⟩, N, by rw [hll]; rfl, ?_, by omega, fun b off e => ?_⟩, hd.out.narrow (fun k _ h => .inl h) HNm.out, hbut.out⟩
        · simp only [Value.slice.injEq, true_and] at e
          rw [e.1, hll]
          exact hR
        · simp only [Option.some.injEq, Addr.mk.injEq] at e
          rw [HG.out]
          omega

end Go.Proofs.Ytckeknhoimgccaa
