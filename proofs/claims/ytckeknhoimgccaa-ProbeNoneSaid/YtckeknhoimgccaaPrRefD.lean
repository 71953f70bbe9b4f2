/-
  The document's Others, walked (layer 12).
-/
import Derived.Test.YtckeknhoimgccaaPrOthers
import Derived.Test.YtckeknhoimgccaaERefM
namespace Go.Proofs.Ytckeknhoimgccaa
open Go.RowKit
set_option linter.unusedSimpArgs false
set_option linter.unusedVariables false

set_option maxHeartbeats 4000000 in
theorem rothers_any {S : Nat → Prop} {bw : Nat} {d : Dr} (A : Option Addr) (n c : Nat) (live : List Int) (x many : Int) (w : World) (hd : RwAt S w bw d) (hl : Lst S w A n c live) (hn : n ≤ 64) :
    Calls Try.prog 19 #[.slice A n c, .int .i64 x, .int .i64 many, .pointer (some ⟨bw, 0, none⟩)] w fun e w' => IRw w (othersL live x many d) e w' ∧ RwAt S w' bw (d.afterO (butL live x).length) ∧ But (· = bw) w w' := by
  obtain ⟨i0, hi, hz0, hz1, hz2⟩ := info_parts int_info
  have HD := Lib.hid hd
  have HLv := Lib.hid hl
  have HL := Lib.hid hl.len
  obtain ⟨g0, hg⟩ : ∃ g0, w.heap.size = g0 := ⟨_, rfl⟩
  have HG := Lib.hid hg
  clear hd hl hg
  go_enter Try.func19, Try.ntmps19
  go_wp2
  go_loopw [9, 10] (fun vv iv wr => ∃ (k m : Nat) (A' : Option Addr) (c' : Nat), k ≤ n ∧ m ≤ k ∧ iv = .int .i64 (k : Int) ∧ vv = .slice A' m c' ∧ Hid ((butL (live.take k) x).length = m) ∧ Hid (wr.ownsRow g0 3 1 (.slice A' m c') m ((butL (live.take k) x).map nV)) ∧ Hid (Below g0 w wr)) (fun _ iv _ => n - (intOf iv).toNat)
  case atStart => exact ⟨0, 0, none, 0, Nat.zero_le _, Nat.le_refl _, rfl, rfl, Lib.hid rfl, Lib.hid (World.ownsRow_nil _ _ _ _), Lib.hid (Below.refl _ _)⟩
  case round =>
    obtain ⟨k, m, A', c', hk, hmk, rfl, rfl, hm, hown, hb⟩ := hrel
    by_cases hlt : k < n
    · have hk' : k < live.length := by rw [HL.out]; exact hlt
      have hbw : Below w.heap.size w wr := by rw [HG.out]; exact hb.out
      have hgs : g0 ≤ wr.heap.size := by rw [← HG.out]; exact hbw.size
      obtain ⟨b, off, rfl, _, hc1⟩ := (HLv.out.below hbw).node hlt
      have q1 : (k : Int) < (n : Int) := by omega
      have q2 : (0 : Int) ≤ (k : Int) := by omega
      by_cases hx : live[k] = x
      · have hh := butL_hit hk' hx
        have HO1 : Hid (wr.ownsRow g0 3 1 (.slice A' m c') m ((butL (live.take (k + 1)) x).map nV)) := Lib.hid (by rw [hh]; exact hown.out)
        have HM1 : Hid ((butL (live.take (k + 1)) x).length = m) := Lib.hid (by rw [hh]; exact hm.out)
        rw [hx] at hc1
        clear hh hx hk' hbw
        go_wp2
        go_roundw
        case rel => exact ⟨k + 1, m, A', c', by omega, by omega, by go_num, rfl, HM1, HO1, hb⟩
        case measure => simp [intOf]; omega
      · have hh := butL_miss hk' hx
        have hx2 : (live[k] == x) = false := by rw [beq_eq_false_iff_ne]; exact hx
        obtain ⟨y, hy⟩ : ∃ y, live[k] = y := ⟨_, rfl⟩
        rw [hy] at hc1 hh hx2
        have HH := Lib.hid hh
        clear hh hx hk' hbw hy
        go_wp2_with (at_builtin; refine wpList_append_val rfl (.tmp 26) (.tmp 31) 27 rfl g0 3 i0 (.int .i64 0) 8 Try.underlying27 hi hz0 hz1 hz2 rfl (.slice A' m c') m ((butL (live.take k) x).map nV) rfl hown.out (.int .i64 y) _ rfl rfl ?c1 ?c2 ?c3 ?_)
        case c1 => unfold maxLen; omega
        case c2 => omega
        case c3 => exact hgs
        refine Lib.hid ?_
        intro v1 w1 hown1 hg1
        have hb1 : Below g0 w w1 := (hb.out.alloc hgs _).grown hg1 (by simp; omega) (fun j hj => (hown.out.lt j hj).1)
        have HB1 := Lib.hid hb1
        have e1 : (butL (live.take (k + 1)) x).map nV = (butL (live.take k) x).map nV ++ [.int .i64 y] := by rw [HH.out, List.map_append]; rfl
        rw [← e1] at hown1
        obtain ⟨A1, c1, rfl, _⟩ := RV.own hown1
        have HO1 := Lib.hid hown1
        have HM1 : Hid ((butL (live.take (k + 1)) x).length = m + 1) := Lib.hid (by rw [HH.out, List.length_append, hm.out]; rfl)
        clear hown1 hg1 hb1 e1
        go_wp2
        go_roundw
        case rel => exact ⟨k + 1, m + 1, A1, c1, by omega, by omega, by go_num, rfl, HM1, HO1, HB1⟩
        case measure => simp [intOf]; omega
    · obtain rfl : k = n := by omega
      have hbw : Below w.heap.size w wr := by rw [HG.out]; exact hb.out
      have hall : live.take k = live := List.take_of_length_le (by rw [HL.out]; exact Nat.le_refl _)
      have hm' := hm.out
      have hown' := hown.out
      rw [hall] at hm' hown'
      obtain ⟨A9, c9, e9, hR, hnil, hnc, hmx, hbase⟩ := RV.own hown'
      simp only [Value.slice.injEq, true_and] at e9
      obtain ⟨rfl, rfl⟩ := e9
      have hds := HD.out.below hbw
      have HSm := Lib.hid (rsome_any S bw d (m : Int) many wr hds)
      have hin := some_in hds.1.1 m many (by omega)
      have hlen : (d.some_ (m : Int) many).length ≤ 64 := by
        unfold Dr.some_
        rw [List.length_take, order_length, sizeO_of (by omega)]
        omega
      obtain ⟨is, his⟩ : ∃ is, d.some_ (m : Int) many = is := ⟨_, rfl⟩
      have HIs := Lib.hid his
      rw [his] at hin hlen HSm
      have HIn := Lib.hid hin.2
      have HR := Lib.hid hR
      have HBs := Lib.hid hbase
      have HM' := Lib.hid hm'
      have HBw := Lib.hid hbw
      obtain ⟨L2, hL2⟩ : ∃ L2, is.length = L2 := ⟨_, rfl⟩
      have HL2 := Lib.hid hL2
      rw [hL2] at hlen
      obtain ⟨wo, rfl⟩ : ∃ wo : World, wo = wr := ⟨_, rfl⟩
      clear hall hm' hown' hR hbase hds hin his hL2 hbw
      go_wp2_with fail
      refine HSm.out.mono ?_
      rintro e w2 ⟨⟨A3, c3, rfl, hv3, hnc3, hbase3⟩, hd3, hb3⟩
      rw [HL2.out] at hv3 hnc3 ⊢
      have hS0 : ∀ b off, A' = some ⟨b, off, none⟩ → ¬ b = bw := fun b off e ht => by
        have h1 := HBs.out b off e
        have h2 := HD.out.lt
        have h3 := HG.out
        omega
      have HRow : Hid (RV w2 A' m ((butL live x).map nV)) := Lib.hid (HR.out.but hb3 (fun b off e _ => hS0 b off e))
      have HV3 := Lib.hid hv3
      have HD3 := Lib.hid hd3
      have HB3 : Hid (But (· = bw) w w2) := Lib.hid ((But.of_below HBw.out).trans hb3)
      obtain ⟨g2, hg2⟩ : ∃ g2, w2.heap.size = g2 := ⟨_, rfl⟩
      have HG2 := Lib.hid hg2
      clear hS0 hd3 hb3 hv3 hbase3 hg2
      go_wp2
      go_loopw [12, 13] (fun vv iv wr => ∃ (j : Nat) (A4 : Option Addr) (c4 : Nat), j ≤ L2 ∧ iv = .int .i64 (j : Int) ∧ vv = .slice A4 j c4 ∧ Hid (wr.ownsRow g2 3 1 (.slice A4 j c4) j ((pickL (butL live x) (is.take j)).map nV)) ∧ Hid (Below g2 w2 wr)) (fun _ iv _ => L2 - (intOf iv).toNat)
      case atStart => exact ⟨0, none, 0, Nat.zero_le _, rfl, rfl, Lib.hid (World.ownsRow_nil _ _ _ _), Lib.hid (Below.refl _ _)⟩
      case round =>
        obtain ⟨j, A4, c4, hj, rfl, rfl, hown4, hb4⟩ := hrel
        have hbw4 : Below w2.heap.size w2 wr := by rw [HG2.out]; exact hb4.out
        have hgs4 : g2 ≤ wr.heap.size := by rw [← HG2.out]; exact hbw4.size
        by_cases hlt4 : j < L2
        · have hj' : j < is.length := by rw [HL2.out]; exact hlt4
          obtain ⟨b, off, rfl, _, hc1⟩ := (HV3.out.below hbw4).at_ hlt4
          rw [List.getElem_map] at hc1
          have hix := HIn.out is[j] (List.getElem_mem hj')
          have hsn0 : (pickL (butL live x) (is.take (j + 1))).map nV = (pickL (butL live x) (is.take j)).map nV ++ [.int .i64 ((butL live x).getD is[j] 0)] := by
            rw [List.take_succ_eq_append_getElem hj']
            unfold pickL
            rw [List.map_append, List.map_append]
            rfl
          obtain ⟨y, hy⟩ : ∃ y, is[j] = y := ⟨_, rfl⟩
          rw [hy] at hc1 hix hsn0
          obtain ⟨b2, off2, rfl, _, hc2⟩ := (HRow.out.below hbw4).at_ hix
          rw [List.getElem_map] at hc2
          have hxl : y < (butL live x).length := by rw [HM'.out]; exact hix
          rw [show (butL live x).getD y 0 = (butL live x)[y] by simp [List.getD, hxl]] at hsn0
          obtain ⟨z, hz⟩ : ∃ z, (butL live x)[y] = z := ⟨_, rfl⟩
          rw [hz] at hc2 hsn0
          unfold iV at hc1
          unfold nV at hc2
          have HSn := Lib.hid hsn0
          have q1 : (j : Int) < (L2 : Int) := by omega
          have q2 : (0 : Int) ≤ (j : Int) := by omega
          have q3 : (y : Int) < (m : Int) := by omega
          have q4 : (0 : Int) ≤ (y : Int) := by omega
          clear hsn0 hz hxl hbw4 hy hj'
          go_wp2_with (at_builtin; refine wpList_append_val rfl (.tmp 44) (.tmp 52) 27 rfl g2 3 i0 (.int .i64 0) 8 Try.underlying27 hi hz0 hz1 hz2 rfl (.slice A4 j c4) j ((pickL (butL live x) (is.take j)).map nV) rfl hown4.out (.int .i64 z) _ rfl rfl ?d1 ?d2 ?d3 ?_)
          case d1 => unfold maxLen; omega
          case d2 => omega
          case d3 => exact hgs4
          refine Lib.hid ?_
          intro v1 w1 hown1 hg1
          have hb1 : Below g2 w2 w1 := (hb4.out.alloc hgs4 _).grown hg1 (by simp; omega) (fun j hj => (hown4.out.lt j hj).1)
          have HB1 := Lib.hid hb1
          rw [← HSn.out] at hown1
          obtain ⟨A1, c1, rfl, _⟩ := RV.own hown1
          have HO1 := Lib.hid hown1
          clear hown1 hg1 hb1
          go_wp2
          go_roundw
          case rel => exact ⟨j + 1, A1, c1, by omega, by go_num, rfl, HO1, HB1⟩
          case measure => simp [intOf]; omega
        · obtain rfl : j = L2 := by omega
          have HO : Hid (IRow w2 (othersL live x many d) (.returned (.slice A4 j c4)) wr) := Lib.hid (by
            have h1 := hown4.out
            rw [List.take_of_length_le (by rw [HL2.out]; exact Nat.le_refl _)] at h1
            have h3 : (pickL (butL live x) is).length = j := by rw [pickL_length, HL2.out]
            have eo : othersL live x many d = pickL (butL live x) is := by unfold othersL; rw [HM'.out, HIs.out]
            rw [← h3] at h1 ⊢
            rw [eo]
            exact IRow.of_own h1 (by rw [HG2.out]; exact Nat.le_refl _) (by rw [HG2.out]; exact hb4.out))
          go_wp2
          go_ret
          obtain ⟨h1, h2⟩ := IRow.rw (w := w) HO.out HB3.out.size
          rw [HM'.out]
          exact ⟨h1, HD3.out.below h2, HB3.out.trans (But.of_below h2)⟩
end Go.Proofs.Ytckeknhoimgccaa
