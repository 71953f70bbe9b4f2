import Derived.Test.YtilkbfmaofmjoaaGreatDoorZj11
import Derived.Shelf.Abstract
import Derived.Shelf.RegionOpen
import Derived.OwnWalkIn
import Derived.TacticsInMore
import Derived.LoopNIn
import Derived.LoopIn
namespace Go.Proofs.YtilkbfmaofmjoaaGreatDoor
open Go.RowKit Go.Shelf Go.Rel
attribute [local go_sem] Oper.semAt_some
set_option linter.unusedSimpArgs false
set_option linter.unusedVariables false
set_option maxHeartbeats 4000000 in
set_option maxRecDepth 100000 in
theorem run_values_tells {p_ : Prop} (h_ : p_ := by
  intro lp J Jx W hW hJ hJx hY h0
  have cb := cellsN ((hW.block _ (block_lt hBx)).trans hBx) 0 _ rfl
  have HR := Lib.hid (hR.below hW)
  have HDD := Lib.hid hD
  have HY := Lib.hid hY
  have HJ := Lib.hid hJ
  have HH0 := Lib.hid h0
  obtain ⟨L, hL⟩ : ∃ L, l.length = L := ⟨_, rfl⟩
  rw [hL] at cb hl
  have HL := Lib.hid hL
  clear hBx hR hD hW hJ hJx hY h0 hL
  refine callsIn_of_wp f_it rfl trivial ?_ rfl
  simp only [n_it, List.size_toArray, List.length_cons, List.length_nil, Nat.reduceAdd, Nat.reduceSub, Array.replicate_succ, Array.replicate_zero, List.push_toArray, List.append_toArray, List.nil_append, List.cons_append]
  gi_wp2
  clear cb
  gi_loopw [7] (fun s7 wr => ∃ j : Nat, j ≤ L ∧ s7 = .int .i64 (j : Int) ∧ Hid (J (l.take j) wr) ∧ Hid (KpD D W wr)) (fun s7 _ => L - (intOf s7).toNat)
  case atStart => exact ⟨0, Nat.zero_le _, rfl, HH0, Lib.hid ⟨Nat.le_refl _, fun _ _ _ h _ => h⟩⟩
  case round =>
    obtain ⟨j, hj, rfl, hJs, hkp⟩ := hrel
    by_cases hlt : j < L
    · have hjl : j < l.length := by rw [HL.out]; exact hlt
      have hr := HR.out.kpD (fun r => by rw [trC_len]; decide) HDD.out hkp.out
      obtain ⟨b, off, rfl, hbl, hit⟩ := hr.at_ hjl hjl
      have hst : l.take (j + 1) = l.take j ++ [l[j]] := List.take_succ_eq_append_getElem hjl
      obtain ⟨x, hx⟩ : ∃ x, l[j] = x := ⟨_, rfl⟩
      rw [hx] at hit hst
      have e_e := tr_cells hit
      have hb3 := below1 wr (trA x) tR
      have hn := heap_alloc_new wr (.cells (trA x) tR)
      obtain ⟨W3, hW3⟩ : ∃ W3, wr.alloc (.cells (trA x) tR) = W3 := ⟨_, rfl⟩
      have hJ3 : J (l.take j) W3 := by rw [← hW3]; exact HJ.out.alloc _ hJs.out
      rw [hW3] at hb3 hn
      have d_d := blk hn
      have HK3 : Hid (KpD D W W3) := Lib.hid (kpD_t hkp.out (kpD_of hb3))
      obtain ⟨fn, tmps, assign, body, hy, hRd⟩ := HY.out (l.take j) x W3 hJ3 ⟨j, hjl, rfl, hx⟩ (by rw [List.length_take]; omega)
      simp only [rwEncs, trV] at hy
      have HRd := Lib.hid hRd
      have HSt := Lib.hid hst
      clear hb3 hn hJ3 hRd hst hit hx hr
      gi_wp2
      refine HRd.out.mono ?_
      rintro e W4 ⟨hkf, (⟨rfl, hJ4, hk4⟩ | ⟨rfl, hJx4⟩)⟩
      · rw [← HSt.out] at hJ4
        have HJ4 := Lib.hid hJ4
        have HK4 : Hid (KpD D W W4) := Lib.hid (kpD_t HK3.out hk4)
        clear hJ4 hk4 hy hkf d_d hW3
        gi_wp2
        go_roundw
        case rel => exact ⟨j + 1, by omega, by go_num, HJ4, HK4⟩
        case measure => simp [intOf]; omega
      · have HJx4 := Lib.hid hJx4
        clear hJx4 hy hkf d_d hW3
        gi_wp2
        refine bodyPost_ret (results_none rfl _ _ _) rfl ?_
        exact ⟨⟨_, rfl⟩, .inr ⟨l.take j ++ [x], ⟨j + 1, HSt.out.symm⟩, HJx4.out⟩⟩
    · have he : l.take j = l := List.take_of_length_le (by rw [HL.out]; omega)
      rw [he] at hJs
      clear he
      gi_wp2
      refine bodyPost_end (results_none rfl _ _ _) rfl ?_
      exact ⟨⟨_, rfl⟩, .inl ⟨l, rfl, hJs.out⟩⟩) : p_ := h_
end Go.Proofs.YtilkbfmaofmjoaaGreatDoor
