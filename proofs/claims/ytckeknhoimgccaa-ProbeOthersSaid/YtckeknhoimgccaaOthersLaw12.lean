/-
  Some others are those that live, but one, as many as are asked for, each once: the law sodalitylaw12.ProbeOthers, walked.
-/
import Derived.Test.YtckeknhoimgccaaPrBits
namespace Go.Proofs.Ytckeknhoimgccaa
open Go.RowKit
set_option linter.unusedSimpArgs false
set_option linter.unusedVariables false

theorem own_lst {w : World} {base : Nat} {A : Option Addr} {m c : Nat} {xs : List Int} (h : w.ownsRow base 3 1 (.slice A m c) m (xs.map nV)) {S : Nat → Prop} (hS : ∀ k, base ≤ k → ¬ S k) : Lst S w A m c xs ∧ xs.length = m ∧ (A = none → c = 0) := by
  obtain ⟨A9, c9, e9, hR, hnil, hnc, hmx, hbase⟩ := RV.own h
  simp only [Value.slice.injEq, true_and] at e9
  obtain ⟨rfl, rfl⟩ := e9
  unfold maxLen at hmx
  exact ⟨⟨⟨hR, fun b off e _ => hS b (hbase b off e)⟩, hnc, by omega⟩, by simpa using hR.1, hnil⟩
set_option maxHeartbeats 16000000 in
set_option maxRecDepth 100000 in
theorem others_walk (A : Option Addr) (n c : Nat) (xs : List Nat) (z : Int) (x0 x1 : Int) (w : World) (hR : RV w A n (xs.map u32V)) (hnil : A = none → c = 0) (hnc : n ≤ c) (hn : n ≤ 35184372088832) (hx : ∀ x ∈ xs, x < 4294967296) (hz0 : 0 ≤ z) (hz1 : z ≤ 255) (hx0 : (Lit.int .i64 x0).wf = true) (hx1 : (Lit.int .i64 x1).wf = true) :
    Calls Try.prog 6 #[.slice A n c, .int .u8 z, .agg #[.int .i64 x0, .int .i64 x1]] w fun e w' => e = .returned (.bool true) ∧ Below w.heap.size w w' := by
  obtain ⟨i0, hi, hy0, hy1, hy2⟩ := info_parts int_info
  have HN := Lib.hid (fun w => rgnew_any w)
  have HD := Lib.hid (fun w' hb => new_any A n c xs w' (hR.below (w' := w') hb) hnil hnc hn hx)
  obtain ⟨X, hX⟩ : ∃ X, w.heap.size = X := ⟨_, rfl⟩
  obtain ⟨W1, hW1⟩ : ∃ W1, w.alloc (.cells #[.int .i64 x0, .int .i64 x1] 56) = W1 := ⟨_, rfl⟩
  obtain ⟨B, hB⟩ : ∃ B, W1.heap.size = B := ⟨_, rfl⟩
  have hs1 : B = X + 1 := by rw [← hB, ← hW1, ← hX]; simp
  have hb1 : Below w.heap.size w W1 := by rw [← hW1]; exact (Below.refl _ _).alloc (Nat.le_refl _) _
  have k1 : W1.heap[X]? = some (.cells #[.int .i64 x0, .int .i64 x1] 56 (0, 0)) := by rw [← hW1, ← hX]; exact heap_alloc_new w _
  have HX := Lib.hid hX
  have HW1 := Lib.hid hW1
  have HB := Lib.hid hB
  have HS1 := Lib.hid hs1
  have HBl1 := Lib.hid hb1
  have HK1 := Lib.hid k1
  have HWk := Lib.hid (fun w => works_any w)
  clear hR hnil hx hW1 hX hB hs1 hb1 k1 hx0 hx1
  go_enter Try.func6, Try.ntmps6
  go_wp2_with fail
  rw [HX.out, HW1.out]
  refine (HN.out _).mono ?_
  rintro e w2 ⟨rfl, hw2⟩
  rw [HB.out]
  have hbw2 : Below W1.heap.size W1 w2 := by rw [hw2]; exact (Below.refl _ _).alloc (Nat.le_refl _) _
  have HW2 := Lib.hid hw2
  have HD2 := Lib.hid (HD.out w2 (HBl1.out.trans (hbw2.mono HBl1.out.size)))
  clear hw2 hbw2
  go_wp2_with fail
  refine HD2.out.mono ?_
  rintro e w3 ⟨b, rfl, hb, hb2, hd, hbl⟩
  obtain ⟨d0, hd0⟩ : ∃ d0 : Dr, ⟨xs.take 4096, 0⟩ = d0 := ⟨_, rfl⟩
  rw [hd0] at hd
  obtain ⟨hp, hbw⟩ := pr_made HB.out HW2.out hb hb2 hd hbl
  have hbB : B + 1 ≤ b := by rw [HW2.out] at hb; simp at hb; rw [HB.out] at hb; exact hb
  obtain ⟨g0, hg0⟩ : ∃ g0, w3.heap.size = g0 := ⟨_, rfl⟩
  have HG := Lib.hid hg0
  have HP := Lib.hid hp
  have HBw := Lib.hid hbw
  have HbB : Hid (X < B ∧ B < b ∧ b < g0) := Lib.hid ⟨by have := HS1.out; omega, by omega, by omega⟩
  have HK3 : Hid (w3.heap[X]? = some (.cells #[.int .i64 x0, .int .i64 x1] 56 (0, 0))) := Lib.hid ((hbw.block X (block_lt HK1.out)).trans HK1.out)
  clear hb hb2 hd hbl hd0 hp hbw hbB hg0
  go_wp2
  go_loopw [9, 10] (fun vv iv wr => ∃ (k m : Nat) (A' : Option Addr) (c' : Nat), k ≤ 8 ∧ m ≤ k ∧ iv = .int .i64 (k : Int) ∧ vv = .slice A' m c' ∧ Hid ((nodesL (onB z) k).length = m) ∧ Hid (wr.ownsRow g0 3 1 (.slice A' m c') m ((nodesL (onB z) k).map nV)) ∧ Hid (Below g0 w3 wr)) (fun _ iv _ => 8 - (intOf iv).toNat)
  case atStart => exact ⟨0, 0, none, 0, by omega, by omega, rfl, rfl, Lib.hid rfl, Lib.hid (World.ownsRow_nil _ _ _ _), Lib.hid (Below.refl _ _)⟩
  case round =>
    obtain ⟨k, m, A', c', hk, hmk, rfl, rfl, hm, hown, hbb⟩ := hrel
    have hgs : g0 ≤ wr.heap.size := by have := hbb.out.size; have := HG.out; omega
    by_cases hlt : k < 8
    · cases hon : onB z k with
      | true =>
        have hq : (bits BinOp.and IntKind.u8 (z / 2 ^ k) 1 == 1) = true := hon
        have HY := Lib.hid (nodesL_yes hon)
        clear hon
        go_wp2_with (at_builtin; refine wpList_append_val rfl (.tmp 26) (.tmp 28) 27 rfl g0 3 i0 (.int .i64 0) 8 Try.underlying27 hi hy0 hy1 hy2 rfl (.slice A' m c') m ((nodesL (onB z) k).map nV) rfl hown.out (.int .i64 (k : Int)) _ rfl rfl ?c1 ?c2 ?c3 ?_)
        case c1 => unfold maxLen; omega
        case c2 => omega
        case c3 => exact hgs
        refine Lib.hid ?_
        intro v1 w4 hown1 hg1
        have hb1 : Below g0 w3 w4 := (hbb.out.alloc hgs _).grown hg1 (by simp; omega) (fun j hj => (hown.out.lt j hj).1)
        have HB4 := Lib.hid hb1
        have e1 : (nodesL (onB z) (k + 1)).map nV = (nodesL (onB z) k).map nV ++ [.int .i64 (k : Int)] := by rw [HY.out, List.map_append]; rfl
        rw [← e1] at hown1
        obtain ⟨A1, c1, rfl, _⟩ := RV.own hown1
        have HO1 := Lib.hid hown1
        have HM1 : Hid ((nodesL (onB z) (k + 1)).length = m + 1) := Lib.hid (by rw [HY.out, List.length_append, hm.out]; rfl)
        clear hown1 hg1 hb1 e1
        go_wp2
        go_roundw
        case rel => exact ⟨k + 1, m + 1, A1, c1, by omega, by omega, by go_num, rfl, HM1, HO1, HB4⟩
        case measure => simp [intOf]; omega
      | false =>
        have hq : (bits BinOp.and IntKind.u8 (z / 2 ^ k) 1 == 1) = false := hon
        have hno := nodesL_no hon
        have HM1 : Hid ((nodesL (onB z) (k + 1)).length = m) := Lib.hid (by rw [hno]; exact hm.out)
        have HO1 : Hid (wr.ownsRow g0 3 1 (.slice A' m c') m ((nodesL (onB z) (k + 1)).map nV)) := Lib.hid (by rw [hno]; exact hown.out)
        clear hon hno
        go_wp2
        go_roundw
        case rel => exact ⟨k + 1, m, A', c', by omega, by omega, by go_num, rfl, HM1, HO1, hbb⟩
        case measure => simp [intOf]; omega
    · obtain rfl : k = 8 := by omega
      have hnd := nodesL_nodup (onB z) 8
      obtain ⟨all, hall⟩ : ∃ all, nodesL (onB z) 8 = all := ⟨_, rfl⟩
      have hm' := hm.out
      have hown' := hown.out
      rw [hall] at hnd hm' hown'
      obtain ⟨hl, _, _⟩ := own_lst hown' (S := Two B b) (fun i hi e => by have := HbB.out; rcases e with rfl | rfl <;> omega)
      have hbw : Below w3.heap.size w3 wr := by rw [HG.out]; exact hbb.out
      have hp := HP.out.below hbw
      have HOt := Lib.hid (hp.others A' m c' all x0 x1 hl (by omega))
      obtain ⟨h2n, h2e⟩ := others_each hnd x0 x1 hp.okD.1 (by omega)
      have h2l := others_len all x0 x1 d0 (by omega)
      have h2c := butL_count hnd x0
      rw [hm'] at h2c
      have hmem : all.contains x0 = true → 1 ≤ m := fun h => by
        have : x0 ∈ all := by simpa using h
        have := List.length_pos_of_mem this
        omega
      have kx : wr.heap[X]? = some (.cells #[.int .i64 x0, .int .i64 x1] 56 (0, 0)) := (hbw.block X (block_lt HK3.out)).trans HK3.out
      have hA := Lib.hid (fun w' (h : Below wr.heap.size wr w') => rhas_any A' m c' all x0 w' (hl.below h))
      have HLA := Lib.hid hl
      have HKX := Lib.hid kx
      have cx0 : wr.cell? ⟨X, 0, none⟩ = some (.int .i64 x0) := by rw [cell_of_row _ _ _ _ _ _ kx]; rfl
      have cx1 : wr.cell? ⟨X, 1, none⟩ = some (.int .i64 x1) := by rw [cell_of_row _ _ _ _ _ _ kx]; rfl
      have HBwr : Hid (Below w.heap.size w wr) := Lib.hid (by
        have h1 := HBl1.out
        have h2 := HBw.out.trans (hbw.mono HBw.out.size)
        exact h1.trans (h2.mono h1.size))
      obtain ⟨os, hos⟩ : ∃ os, othersL all x0 x1 d0 = os := ⟨_, rfl⟩
      rw [hos] at h2n h2e h2l HOt
      obtain ⟨L, hL⟩ : ∃ L, os.length = L := ⟨_, rfl⟩
      rw [hL] at h2l
      have hbm8 := butL_len all x0
      obtain ⟨bm, hbm⟩ : ∃ bm, (butL all x0).length = bm := ⟨_, rfl⟩
      rw [hbm] at h2l h2c hbm8
      rw [hm'] at hbm8
      have hL8 : L ≤ 8 := by omega
      have H2n := Lib.hid h2n
      have H2e := Lib.hid h2e
      have HL := Lib.hid hL
      have HMe := Lib.hid hmem
      have H2l := Lib.hid h2l
      have H2c := Lib.hid h2c
      clear hnd hm' hown' hl hbw hp hall h2n h2e h2l h2c hmem kx hos hL hbm
      go_wp2_with fail
      refine HOt.out.mono ?_
      rintro e w5 ⟨⟨Ao, co, rfl, hov, hoc, _, _, hob⟩, hp5, hb5⟩
      rw [HL.out] at hov hoc ⊢
      have hnX : ¬ Two B b X := fun e => by have := HbB.out; rcases e with e | e <;> omega
      have kx5 : w5.heap[X]? = some (.cells #[.int .i64 x0, .int .i64 x1] 56 (0, 0)) := (hb5.block X (block_lt HKX.out) hnX).trans HKX.out
      have cx0' : w5.cell? ⟨X, 0, none⟩ = some (.int .i64 x0) := by rw [cell_of_row _ _ _ _ _ _ kx5]; rfl
      have cx1' : w5.cell? ⟨X, 1, none⟩ = some (.int .i64 x1) := by rw [cell_of_row _ _ _ _ _ _ kx5]; rfl
      have hla5 : Lst (Two B b) w5 A' m c' all := HLA.out.but hb5 (fun _ h => h)
      have HLA5 : Hid (Lst NoS w5 A' m c' all) := Lib.hid ⟨hla5.rv.narrow (fun _ _ h => h.elim), hla5.le, hla5.max⟩
      have HLO5 : Hid (Lst NoS w5 Ao L co os) := Lib.hid ⟨⟨hov, fun _ _ _ _ h => h⟩, hoc, by omega⟩
      have HB5 : Hid (Below w.heap.size w w5) := Lib.hid (by
        have h1 := HbB.out
        have h2 := HX.out
        exact HBwr.out.trans (hb5.below HBwr.out.size (fun i hi e => by rcases e with rfl | rfl <;> omega)))
      have HHas := Lib.hid (rhas_any A' m c' all x0 w5 HLA5.out)
      have HKX5 := Lib.hid kx5
      have HOv := Lib.hid hov
      have HOb := Lib.hid hob
      clear hov hob hp5 hb5 hla5 kx5 cx0 cx1
      obtain ⟨hbv, hhb⟩ : ∃ hbv, all.contains x0 = hbv := ⟨_, rfl⟩
      have h2c := H2c.out
      have h2l := H2l.out
      have hme := HMe.out
      rw [hhb] at h2c hme HHas
      clear hhb
      have hbm : (hbv = true ∧ bm = m - 1 ∧ 1 ≤ m ∧ (bm : Int) = (m : Int) - 1) ∨ (hbv = false ∧ bm = m) := by
        cases hbv with
        | true => exact .inl ⟨rfl, by simpa using h2c, hme rfl, by have := hme rfl; simp at h2c; omega⟩
        | false => exact .inr ⟨rfl, by simpa using h2c⟩
      clear h2c hme
      have hcase : (x1 < 0 ∧ L = 0) ∨ (0 ≤ x1 ∧ x1 < (bm : Int) ∧ (L : Int) = x1) ∨ (0 ≤ x1 ∧ (bm : Int) ≤ x1 ∧ L = bm) := by omega
      clear h2l
      rcases hbm with ⟨rfl, hbm, h1m, hbi⟩ | ⟨rfl, hbm⟩
      · rcases hcase with ⟨y1, y2⟩ | ⟨y1, y2, y3⟩ | ⟨y1, y2, y3⟩
        · have m1 : (1 : Int) ≤ (m : Int) := by omega
          have t1 : x1 < ((m : Int) - 1) := by omega
          have qe : ((L : Int) == 0) = true := by simp [y2]
          go_wp2_with fail
          refine HHas.out.mono ?_
          rintro e w' ⟨rfl, rfl⟩
          go_wp2
          go_loopw [13] (fun kv wr => ∃ k : Nat, k ≤ L ∧ kv = .int .i64 (k : Int) ∧ Hid (Below w5.heap.size w5 wr)) (fun kv _ => L - (intOf kv).toNat)
          case atStart => exact ⟨0, Nat.zero_le _, rfl, Lib.hid (Below.refl _ _)⟩
          case round =>
            obtain ⟨k, hk, rfl, hq5⟩ := hrel
            by_cases hkL : k < L
            · exfalso
              omega
            · obtain rfl : k = L := by omega
              have HW := Lib.hid (HWk.out wr)
              have HF : Hid (Below w.heap.size w wr) := Lib.hid (HB5.out.trans (hq5.out.mono HB5.out.size))
              go_wp2_with fail
              refine HW.out.mono ?_
              rintro e w7 ⟨rfl, hb7⟩
              have HB7 := Lib.hid hb7
              clear hb7
              go_wp2
              go_ret
              exact ⟨rfl, HF.out.trans (HB7.out.mono HF.out.size)⟩
        · have m1 : (1 : Int) ≤ (m : Int) := by omega
          have t1 : x1 < ((m : Int) - 1) := by omega
          have t2 : ¬ x1 < 0 := by omega
          have qe : ((L : Int) == x1) = true := by simp [y3]
          clear y3
          clear hbm hbi
          go_wp2_with fail
          refine HHas.out.mono ?_
          rintro e w' ⟨rfl, rfl⟩
          go_wp2
          go_loopw [13] (fun kv wr => ∃ k : Nat, k ≤ L ∧ kv = .int .i64 (k : Int) ∧ Hid (Below w5.heap.size w5 wr)) (fun kv _ => L - (intOf kv).toNat)
          case atStart => exact ⟨0, Nat.zero_le _, rfl, Lib.hid (Below.refl _ _)⟩
          case round =>
            obtain ⟨k, hk, rfl, hq5⟩ := hrel
            by_cases hkL : k < L
            · have hk' : k < os.length := by rw [HL.out]; exact hkL
              obtain ⟨ob, oo, rfl, hobl, hoc1⟩ := (HOv.out.below hq5.out).at_ hkL
              rw [List.getElem_map] at hoc1
              obtain ⟨e1, e2⟩ := H2e.out os[k] (List.getElem_mem hk')
              have e3 : (os.take k).contains os[k] = false := by
                cases hc : (os.take k).contains os[k] with
                | false => rfl
                | true =>
                  exfalso
                  obtain ⟨j, hj, e⟩ := List.mem_iff_getElem.1 (List.contains_iff_mem.1 hc)
                  rw [List.length_take] at hj
                  rw [List.getElem_take] at e
                  exact List.pairwise_iff_getElem.1 H2n.out j k (by omega) hk' (by omega) e
              have e4 : all.contains os[k] = true := by simpa using e1
              obtain ⟨y, hy⟩ : ∃ y, os[k] = y := ⟨_, rfl⟩
              rw [hy] at hoc1 e2 e3 e4
              have kxr : wr.heap[X]? = some (.cells #[.int .i64 x0, .int .i64 x1] 56 (0, 0)) := (hq5.out.block X (block_lt HKX5.out)).trans HKX5.out
              have cr0 : wr.cell? ⟨X, 0, none⟩ = some (.int .i64 x0) := by rw [cell_of_row _ _ _ _ _ _ kxr]; rfl
              have HH1 : Hid (∀ q, Calls Try.prog 24 #[.slice A' m c', .int .i64 y] (wr.drewN q) fun e w' => e = .returned (.bool true) ∧ w' = wr.drewN q) := Lib.hid (fun q => by
                have h9 := rhas_any A' m c' all y (wr.drewN q) (HLA5.out.below (below_drewN hq5.out q))
                rw [e4] at h9
                exact h9.mono fun _ _ h => ⟨h.1, h.2.symm⟩)
              have HH2 : Hid (∀ q, Calls Try.prog 24 #[.slice (some ⟨ob, oo, none⟩) k co, .int .i64 y] (wr.drewN q) fun e w' => e = .returned (.bool false) ∧ w' = wr.drewN q) := Lib.hid (fun q => by
                have hl5 := HLO5.out.below (below_drewN hq5.out q)
                have htk : RV (wr.drewN q) (some ⟨ob, oo, none⟩) k ((os.take k).map nV) := by
                  rw [List.map_take]
                  exact hl5.rv.1.take (by omega)
                have h9 := rhas_any (S := NoS) (some ⟨ob, oo, none⟩) k co (os.take k) y (wr.drewN q) ⟨⟨htk, fun _ _ _ _ h => h⟩, by have := hl5.le; omega, by omega⟩
                rw [e3] at h9
                exact h9.mono fun _ _ h => ⟨h.1, h.2.symm⟩)
              have z1 : (y == x0) = false := by rw [beq_eq_false_iff_ne]; exact e2
              have z2 : (0 : Int) ≤ (k : Int) := by omega
              have z3 : (k : Int) < (L : Int) := by omega
              have z4 : (k : Int) ≤ (co : Int) := by omega
              unfold nV at hoc1
              clear e1 e2 e3 e4 hy hk' kxr hobl
              go_wp2
              go_quiet ((first | (go_at_call 24; with_reducible exact Calls.quiet_of_same (HH1.out _)) | (go_at_call 24; with_reducible exact Calls.quiet_of_same (HH2.out _))))
              go_wp2
              go_roundw
              case rel => exact ⟨k + 1, by omega, by go_num, Lib.hid (below_drewN hq5.out _)⟩
              case measure => simp [intOf]; omega
            · obtain rfl : k = L := by omega
              have HW := Lib.hid (HWk.out wr)
              have HF : Hid (Below w.heap.size w wr) := Lib.hid (HB5.out.trans (hq5.out.mono HB5.out.size))
              go_wp2_with fail
              refine HW.out.mono ?_
              rintro e w7 ⟨rfl, hb7⟩
              have HB7 := Lib.hid hb7
              clear hb7
              go_wp2
              go_ret
              exact ⟨rfl, HF.out.trans (HB7.out.mono HF.out.size)⟩
        · have m1 : (1 : Int) ≤ (m : Int) := by omega
          have t1 : ¬ x1 < ((m : Int) - 1) := by omega
          have t2 : ¬ ((m : Int) - 1) < 0 := by omega
          have qe : ((L : Int) == ((m : Int) - 1)) = true := by simp; omega
          clear y1 y2 y3 hbm hbi
          go_wp2_with fail
          refine HHas.out.mono ?_
          rintro e w' ⟨rfl, rfl⟩
          go_wp2
          go_loopw [13] (fun kv wr => ∃ k : Nat, k ≤ L ∧ kv = .int .i64 (k : Int) ∧ Hid (Below w5.heap.size w5 wr)) (fun kv _ => L - (intOf kv).toNat)
          case atStart => exact ⟨0, Nat.zero_le _, rfl, Lib.hid (Below.refl _ _)⟩
          case round =>
            obtain ⟨k, hk, rfl, hq5⟩ := hrel
            by_cases hkL : k < L
            · have hk' : k < os.length := by rw [HL.out]; exact hkL
              obtain ⟨ob, oo, rfl, hobl, hoc1⟩ := (HOv.out.below hq5.out).at_ hkL
              rw [List.getElem_map] at hoc1
              obtain ⟨e1, e2⟩ := H2e.out os[k] (List.getElem_mem hk')
              have e3 : (os.take k).contains os[k] = false := by
                cases hc : (os.take k).contains os[k] with
                | false => rfl
                | true =>
                  exfalso
                  obtain ⟨j, hj, e⟩ := List.mem_iff_getElem.1 (List.contains_iff_mem.1 hc)
                  rw [List.length_take] at hj
                  rw [List.getElem_take] at e
                  exact List.pairwise_iff_getElem.1 H2n.out j k (by omega) hk' (by omega) e
              have e4 : all.contains os[k] = true := by simpa using e1
              obtain ⟨y, hy⟩ : ∃ y, os[k] = y := ⟨_, rfl⟩
              rw [hy] at hoc1 e2 e3 e4
              have kxr : wr.heap[X]? = some (.cells #[.int .i64 x0, .int .i64 x1] 56 (0, 0)) := (hq5.out.block X (block_lt HKX5.out)).trans HKX5.out
              have cr0 : wr.cell? ⟨X, 0, none⟩ = some (.int .i64 x0) := by rw [cell_of_row _ _ _ _ _ _ kxr]; rfl
              have HH1 : Hid (∀ q, Calls Try.prog 24 #[.slice A' m c', .int .i64 y] (wr.drewN q) fun e w' => e = .returned (.bool true) ∧ w' = wr.drewN q) := Lib.hid (fun q => by
                have h9 := rhas_any A' m c' all y (wr.drewN q) (HLA5.out.below (below_drewN hq5.out q))
                rw [e4] at h9
                exact h9.mono fun _ _ h => ⟨h.1, h.2.symm⟩)
              have HH2 : Hid (∀ q, Calls Try.prog 24 #[.slice (some ⟨ob, oo, none⟩) k co, .int .i64 y] (wr.drewN q) fun e w' => e = .returned (.bool false) ∧ w' = wr.drewN q) := Lib.hid (fun q => by
                have hl5 := HLO5.out.below (below_drewN hq5.out q)
                have htk : RV (wr.drewN q) (some ⟨ob, oo, none⟩) k ((os.take k).map nV) := by
                  rw [List.map_take]
                  exact hl5.rv.1.take (by omega)
                have h9 := rhas_any (S := NoS) (some ⟨ob, oo, none⟩) k co (os.take k) y (wr.drewN q) ⟨⟨htk, fun _ _ _ _ h => h⟩, by have := hl5.le; omega, by omega⟩
                rw [e3] at h9
                exact h9.mono fun _ _ h => ⟨h.1, h.2.symm⟩)
              have z1 : (y == x0) = false := by rw [beq_eq_false_iff_ne]; exact e2
              have z2 : (0 : Int) ≤ (k : Int) := by omega
              have z3 : (k : Int) < (L : Int) := by omega
              have z4 : (k : Int) ≤ (co : Int) := by omega
              unfold nV at hoc1
              clear e1 e2 e3 e4 hy hk' kxr hobl
              go_wp2
              go_quiet ((first | (go_at_call 24; with_reducible exact Calls.quiet_of_same (HH1.out _)) | (go_at_call 24; with_reducible exact Calls.quiet_of_same (HH2.out _))))
              go_wp2
              go_roundw
              case rel => exact ⟨k + 1, by omega, by go_num, Lib.hid (below_drewN hq5.out _)⟩
              case measure => simp [intOf]; omega
            · obtain rfl : k = L := by omega
              have HW := Lib.hid (HWk.out wr)
              have HF : Hid (Below w.heap.size w wr) := Lib.hid (HB5.out.trans (hq5.out.mono HB5.out.size))
              go_wp2_with fail
              refine HW.out.mono ?_
              rintro e w7 ⟨rfl, hb7⟩
              have HB7 := Lib.hid hb7
              clear hb7
              go_wp2
              go_ret
              exact ⟨rfl, HF.out.trans (HB7.out.mono HF.out.size)⟩
      · rcases hcase with ⟨y1, y2⟩ | ⟨y1, y2, y3⟩ | ⟨y1, y2, y3⟩
        · obtain rfl : m = bm := hbm.symm
          have t1 : x1 < (m : Int) := by omega
          have qe : ((L : Int) == 0) = true := by simp [y2]
          go_wp2_with fail
          refine HHas.out.mono ?_
          rintro e w' ⟨rfl, rfl⟩
          go_wp2
          go_loopw [13] (fun kv wr => ∃ k : Nat, k ≤ L ∧ kv = .int .i64 (k : Int) ∧ Hid (Below w5.heap.size w5 wr)) (fun kv _ => L - (intOf kv).toNat)
          case atStart => exact ⟨0, Nat.zero_le _, rfl, Lib.hid (Below.refl _ _)⟩
          case round =>
            obtain ⟨k, hk, rfl, hq5⟩ := hrel
            by_cases hkL : k < L
            · exfalso
              omega
            · obtain rfl : k = L := by omega
              have HW := Lib.hid (HWk.out wr)
              have HF : Hid (Below w.heap.size w wr) := Lib.hid (HB5.out.trans (hq5.out.mono HB5.out.size))
              go_wp2_with fail
              refine HW.out.mono ?_
              rintro e w7 ⟨rfl, hb7⟩
              have HB7 := Lib.hid hb7
              clear hb7
              go_wp2
              go_ret
              exact ⟨rfl, HF.out.trans (HB7.out.mono HF.out.size)⟩
        · obtain rfl : m = bm := hbm.symm
          have t1 : x1 < (m : Int) := by omega
          have t2 : ¬ x1 < 0 := by omega
          have qe : ((L : Int) == x1) = true := by simp [y3]
          clear y3
          go_wp2_with fail
          refine HHas.out.mono ?_
          rintro e w' ⟨rfl, rfl⟩
          go_wp2
          go_loopw [13] (fun kv wr => ∃ k : Nat, k ≤ L ∧ kv = .int .i64 (k : Int) ∧ Hid (Below w5.heap.size w5 wr)) (fun kv _ => L - (intOf kv).toNat)
          case atStart => exact ⟨0, Nat.zero_le _, rfl, Lib.hid (Below.refl _ _)⟩
          case round =>
            obtain ⟨k, hk, rfl, hq5⟩ := hrel
            by_cases hkL : k < L
            · have hk' : k < os.length := by rw [HL.out]; exact hkL
              obtain ⟨ob, oo, rfl, hobl, hoc1⟩ := (HOv.out.below hq5.out).at_ hkL
              rw [List.getElem_map] at hoc1
              obtain ⟨e1, e2⟩ := H2e.out os[k] (List.getElem_mem hk')
              have e3 : (os.take k).contains os[k] = false := by
                cases hc : (os.take k).contains os[k] with
                | false => rfl
                | true =>
                  exfalso
                  obtain ⟨j, hj, e⟩ := List.mem_iff_getElem.1 (List.contains_iff_mem.1 hc)
                  rw [List.length_take] at hj
                  rw [List.getElem_take] at e
                  exact List.pairwise_iff_getElem.1 H2n.out j k (by omega) hk' (by omega) e
              have e4 : all.contains os[k] = true := by simpa using e1
              obtain ⟨y, hy⟩ : ∃ y, os[k] = y := ⟨_, rfl⟩
              rw [hy] at hoc1 e2 e3 e4
              have kxr : wr.heap[X]? = some (.cells #[.int .i64 x0, .int .i64 x1] 56 (0, 0)) := (hq5.out.block X (block_lt HKX5.out)).trans HKX5.out
              have cr0 : wr.cell? ⟨X, 0, none⟩ = some (.int .i64 x0) := by rw [cell_of_row _ _ _ _ _ _ kxr]; rfl
              have HH1 : Hid (∀ q, Calls Try.prog 24 #[.slice A' m c', .int .i64 y] (wr.drewN q) fun e w' => e = .returned (.bool true) ∧ w' = wr.drewN q) := Lib.hid (fun q => by
                have h9 := rhas_any A' m c' all y (wr.drewN q) (HLA5.out.below (below_drewN hq5.out q))
                rw [e4] at h9
                exact h9.mono fun _ _ h => ⟨h.1, h.2.symm⟩)
              have HH2 : Hid (∀ q, Calls Try.prog 24 #[.slice (some ⟨ob, oo, none⟩) k co, .int .i64 y] (wr.drewN q) fun e w' => e = .returned (.bool false) ∧ w' = wr.drewN q) := Lib.hid (fun q => by
                have hl5 := HLO5.out.below (below_drewN hq5.out q)
                have htk : RV (wr.drewN q) (some ⟨ob, oo, none⟩) k ((os.take k).map nV) := by
                  rw [List.map_take]
                  exact hl5.rv.1.take (by omega)
                have h9 := rhas_any (S := NoS) (some ⟨ob, oo, none⟩) k co (os.take k) y (wr.drewN q) ⟨⟨htk, fun _ _ _ _ h => h⟩, by have := hl5.le; omega, by omega⟩
                rw [e3] at h9
                exact h9.mono fun _ _ h => ⟨h.1, h.2.symm⟩)
              have z1 : (y == x0) = false := by rw [beq_eq_false_iff_ne]; exact e2
              have z2 : (0 : Int) ≤ (k : Int) := by omega
              have z3 : (k : Int) < (L : Int) := by omega
              have z4 : (k : Int) ≤ (co : Int) := by omega
              unfold nV at hoc1
              clear e1 e2 e3 e4 hy hk' kxr hobl
              go_wp2
              go_quiet ((first | (go_at_call 24; with_reducible exact Calls.quiet_of_same (HH1.out _)) | (go_at_call 24; with_reducible exact Calls.quiet_of_same (HH2.out _))))
              go_wp2
              go_roundw
              case rel => exact ⟨k + 1, by omega, by go_num, Lib.hid (below_drewN hq5.out _)⟩
              case measure => simp [intOf]; omega
            · obtain rfl : k = L := by omega
              have HW := Lib.hid (HWk.out wr)
              have HF : Hid (Below w.heap.size w wr) := Lib.hid (HB5.out.trans (hq5.out.mono HB5.out.size))
              go_wp2_with fail
              refine HW.out.mono ?_
              rintro e w7 ⟨rfl, hb7⟩
              have HB7 := Lib.hid hb7
              clear hb7
              go_wp2
              go_ret
              exact ⟨rfl, HF.out.trans (HB7.out.mono HF.out.size)⟩
        · obtain rfl : m = bm := hbm.symm
          have t1 : ¬ x1 < (m : Int) := by omega
          have t2 : ¬ (m : Int) < 0 := by omega
          have qe : ((L : Int) == (m : Int)) = true := by simp; omega
          clear y1 y2 y3
          go_wp2_with fail
          refine HHas.out.mono ?_
          rintro e w' ⟨rfl, rfl⟩
          go_wp2
          go_loopw [13] (fun kv wr => ∃ k : Nat, k ≤ L ∧ kv = .int .i64 (k : Int) ∧ Hid (Below w5.heap.size w5 wr)) (fun kv _ => L - (intOf kv).toNat)
          case atStart => exact ⟨0, Nat.zero_le _, rfl, Lib.hid (Below.refl _ _)⟩
          case round =>
            obtain ⟨k, hk, rfl, hq5⟩ := hrel
            by_cases hkL : k < L
            · have hk' : k < os.length := by rw [HL.out]; exact hkL
              obtain ⟨ob, oo, rfl, hobl, hoc1⟩ := (HOv.out.below hq5.out).at_ hkL
              rw [List.getElem_map] at hoc1
              obtain ⟨e1, e2⟩ := H2e.out os[k] (List.getElem_mem hk')
              have e3 : (os.take k).contains os[k] = false := by
                cases hc : (os.take k).contains os[k] with
                | false => rfl
                | true =>
                  exfalso
                  obtain ⟨j, hj, e⟩ := List.mem_iff_getElem.1 (List.contains_iff_mem.1 hc)
                  rw [List.length_take] at hj
                  rw [List.getElem_take] at e
                  exact List.pairwise_iff_getElem.1 H2n.out j k (by omega) hk' (by omega) e
              have e4 : all.contains os[k] = true := by simpa using e1
              obtain ⟨y, hy⟩ : ∃ y, os[k] = y := ⟨_, rfl⟩
              rw [hy] at hoc1 e2 e3 e4
              have kxr : wr.heap[X]? = some (.cells #[.int .i64 x0, .int .i64 x1] 56 (0, 0)) := (hq5.out.block X (block_lt HKX5.out)).trans HKX5.out
              have cr0 : wr.cell? ⟨X, 0, none⟩ = some (.int .i64 x0) := by rw [cell_of_row _ _ _ _ _ _ kxr]; rfl
              have HH1 : Hid (∀ q, Calls Try.prog 24 #[.slice A' m c', .int .i64 y] (wr.drewN q) fun e w' => e = .returned (.bool true) ∧ w' = wr.drewN q) := Lib.hid (fun q => by
                have h9 := rhas_any A' m c' all y (wr.drewN q) (HLA5.out.below (below_drewN hq5.out q))
                rw [e4] at h9
                exact h9.mono fun _ _ h => ⟨h.1, h.2.symm⟩)
              have HH2 : Hid (∀ q, Calls Try.prog 24 #[.slice (some ⟨ob, oo, none⟩) k co, .int .i64 y] (wr.drewN q) fun e w' => e = .returned (.bool false) ∧ w' = wr.drewN q) := Lib.hid (fun q => by
                have hl5 := HLO5.out.below (below_drewN hq5.out q)
                have htk : RV (wr.drewN q) (some ⟨ob, oo, none⟩) k ((os.take k).map nV) := by
                  rw [List.map_take]
                  exact hl5.rv.1.take (by omega)
                have h9 := rhas_any (S := NoS) (some ⟨ob, oo, none⟩) k co (os.take k) y (wr.drewN q) ⟨⟨htk, fun _ _ _ _ h => h⟩, by have := hl5.le; omega, by omega⟩
                rw [e3] at h9
                exact h9.mono fun _ _ h => ⟨h.1, h.2.symm⟩)
              have z1 : (y == x0) = false := by rw [beq_eq_false_iff_ne]; exact e2
              have z2 : (0 : Int) ≤ (k : Int) := by omega
              have z3 : (k : Int) < (L : Int) := by omega
              have z4 : (k : Int) ≤ (co : Int) := by omega
              unfold nV at hoc1
              clear e1 e2 e3 e4 hy hk' kxr hobl
              go_wp2
              go_quiet ((first | (go_at_call 24; with_reducible exact Calls.quiet_of_same (HH1.out _)) | (go_at_call 24; with_reducible exact Calls.quiet_of_same (HH2.out _))))
              go_wp2
              go_roundw
              case rel => exact ⟨k + 1, by omega, by go_num, Lib.hid (below_drewN hq5.out _)⟩
              case measure => simp [intOf]; omega
            · obtain rfl : k = L := by omega
              have HW := Lib.hid (HWk.out wr)
              have HF : Hid (Below w.heap.size w wr) := Lib.hid (HB5.out.trans (hq5.out.mono HB5.out.size))
              go_wp2_with fail
              refine HW.out.mono ?_
              rintro e w7 ⟨rfl, hb7⟩
              have HB7 := Lib.hid hb7
              clear hb7
              go_wp2
              go_ret
              exact ⟨rfl, HF.out.trans (HB7.out.mono HF.out.size)⟩
end Go.Proofs.Ytckeknhoimgccaa
