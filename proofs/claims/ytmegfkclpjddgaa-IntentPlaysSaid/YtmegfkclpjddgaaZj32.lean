/-
  The document's Same of intentions, For, walked (layer 17).
-/
import Derived.Test.YtmegfkclpjddgaaZj29
import Derived.Test.YtmegfkclpjddgaaZj11
namespace Go.Proofs.Ytmegfkclpjddgaa
open Go.RowKit
set_option linter.unusedSimpArgs false
set_option linter.unusedVariables false

set_option maxHeartbeats 2000000 in
theorem risame_any (A : Option Addr) (n c : Nat) (l : List Ir) (A2 : Option Addr) (c2 : Nat) (w : World) (hS : SK irC 5 w A n l) (hS2 : SK irC 5 w A2 n l) (hn : n ≤ maxLen) :
    Calls Try.prog 13 #[.slice A n c, .slice A2 n c2] w fun e w' => e = .returned (.bool true) ∧ Below w.heap.size w w' := by
  unfold maxLen at hn
  have hm : n ≤ 9223372036854775807 := by omega
  have HL := Lib.hid hS.1
  have HS := Lib.hid hS
  have HS2 := Lib.hid hS2
  have zz2 : (n != n) = false := by simp
  clear hS hS2 hn
  go_enter Try.func13, Try.ntmps13
  go_wp2
  go_loopw [5] (fun i wr => ∃ k : Nat, k ≤ n ∧ i = .int .i64 (k : Int) ∧ Hid (Below w.heap.size w wr)) (fun i _ => n - (intOf i).toNat)
  case atStart => exact ⟨0, Nat.zero_le _, rfl, Lib.hid (Below.refl _ _)⟩
  case round =>
    obtain ⟨k, hk, rfl, hb⟩ := hrel
    by_cases hlt : k < n
    · have hkl : k < l.length := by have := HL.out; omega
      obtain ⟨b, off, rfl, hbl, hit⟩ := (HS.out.below hb.out).at_ hlt hkl
      obtain ⟨b2, off2, rfl, hbl2, hit2⟩ := (HS2.out.below hb.out).at_ hlt hkl
      obtain ⟨x, hx⟩ : ∃ x, l[k] = x := ⟨_, rfl⟩
      rw [hx] at hit hit2
      obtain ⟨c0, c1, c2, c3, c4⟩ := ir_cells hit
      obtain ⟨d0, d1, d2, d3, d4⟩ := ir_cells hit2
      have q1 : (k : Int) < (n : Int) := by omega
      have q0 : (0 : Int) ≤ (k : Int) := by omega
      clear hx hit hit2
      have ug := ir_guard
      have ue := ir_eq x x
      rw [(eqIr_iff x x).2 rfl] at ue
      unfold irV at ue
      go_wp2
      go_quiet (fail)
      go_wp2
      go_roundw
      case rel => exact ⟨k + 1, by omega, by go_num, Lib.hid (below_drewN hb.out nq)⟩
      case measure => simp [intOf]; omega
    · go_wp2
      go_ret
      exact ⟨rfl, hb.out⟩
theorem for_step {l : List Ir} {k : Nat} {d : ByteArray} (hk : k < l.length) : forI (l.take (k + 1)) d = forI (l.take k) d ++ (if matchB l[k].dst.data.toList d.data.toList = true then [l[k]] else []) := by
  unfold forI
  rw [List.take_succ_eq_append_getElem hk, List.filter_append]
  by_cases h : matchB l[k].dst.data.toList d.data.toList = true
  · rw [if_pos h, List.filter_cons_of_pos (by simpa using h)]; rfl
  · rw [if_neg h, List.filter_cons_of_neg (by simpa using h)]; rfl
theorem for_length (l : List Ir) (d : ByteArray) : (forI l d).length ≤ l.length := List.length_filter_le _ _
set_option maxHeartbeats 4000000 in
theorem rifor_any (A : Option Addr) (n c : Nat) (l : List Ir) (d : ByteArray) (w : World) (hS : SK irC 5 w A n l) (hn : n ≤ 1000) (hd : d.size ≤ maxLen) :
    Calls Try.prog 15 #[.slice A n c, .string d] w fun e w' => ∃ v, e = .returned v ∧ irRow w' w.heap.size v (forI l d) ∧ Below w.heap.size w w' := by
  have HMd := Lib.hid (fun (p : ByteArray) (W : World) => rmatch_any p d W hd)
  have HS := Lib.hid hS
  have HL := Lib.hid hS.1
  have hm : n ≤ 9223372036854775807 := by omega
  obtain ⟨g0, hX⟩ : ∃ g0, w.heap.size = g0 := ⟨_, rfl⟩
  have HG0 := Lib.hid hX
  obtain ⟨M, hM⟩ : ∃ M, forI l d = M := ⟨_, rfl⟩
  rw [hM, hX]
  have HM := Lib.hid hM
  clear hS hd hX hM
  go_enter Try.func15, Try.ntmps15
  go_wp2
  go_loopw [5, 6] (fun vv iv wr => ∃ k : Nat, k ≤ n ∧ iv = .int .i64 (k : Int) ∧ Hid (irRow wr g0 vv (forI (l.take k) d)) ∧ Hid (Below g0 w wr)) (fun _ iv _ => n - (intOf iv).toNat)
  case atStart => exact ⟨0, Nat.zero_le _, rfl, Lib.hid (rowK.nil _ _), Lib.hid (HG0.out ▸ Below.refl _ _)⟩
  case round =>
    obtain ⟨k, hk, rfl, hrow, hb⟩ := hrel
    by_cases hlt : k < n
    · have hkl : k < l.length := by rw [HL.out]; exact hlt
      obtain ⟨b, off, rfl, hbl, hit⟩ := (HS.out.below (by rw [HG0.out]; exact hb.out)).at_ hlt hkl
      have hs := for_step (d := d) hkl
      obtain ⟨y, hy⟩ : ∃ y, l[k] = y := ⟨_, rfl⟩
      rw [hy] at hit hs
      obtain ⟨e0, e1, e2, e3, e4⟩ := ir_cells hit
      have HMk := Lib.hid (HMd.out y.dst wr)
      obtain ⟨ub, hub⟩ : ∃ ub, matchB y.dst.data.toList d.data.toList = ub := ⟨_, rfl⟩
      rw [hub] at hs HMk
      have HSt := Lib.hid hs
      clear hs hy hit hub
      go_wp2_with fail
      refine HMk.out.mono ?_
      rintro e w' ⟨rfl, rfl⟩
      clear HMk
      cases ub with
      | false =>
        have HR := Lib.hid (show irRow wr g0 u5 (forI (l.take (k + 1)) d) by rw [HSt.out, if_neg (by simp), List.append_nil]; exact hrow.out)
        go_wp2
        go_roundw
        case rel => exact ⟨k + 1, by omega, by go_num, HR, hb⟩
        case measure => simp [intOf]; omega
      | true =>
        have hle : (forI (l.take k) d).length ≤ 1000000 := by
          have := for_length (l.take k) d
          rw [List.length_take] at this
          omega
        go_wp2_with (at_builtin; refine wpList_append_ir rfl (.tmp 20) (.tmp 25) rfl g0 _ _ rfl ?qa wr.heap.size y rfl ?qb hle ?qc ?_)
        case qa => exact hrow.out.below ((Below.refl _ _).alloc (Nat.le_refl _) _)
        case qb => exact ir_new wr y _
        case qc => have := hb.out.size; have := HG0.out; simp; omega
        refine Lib.hid ?_
        intro v' w' hown hgr
        have HB' := Lib.hid (irRow.snoc hrow.out hb.out (by have := hb.out.size; have := HG0.out; omega) hgr)
        rw [show forI (l.take k) d ++ [y] = forI (l.take (k + 1)) d by rw [HSt.out]; simp] at hown
        have HR := Lib.hid hown
        clear hown hgr
        go_wp2
        go_roundw
        case rel => exact ⟨k + 1, by omega, by go_num, HR, HB'⟩
        case measure => simp [intOf]; omega
    · have hke : forI (l.take k) d = M := by rw [List.take_of_length_le (by rw [HL.out]; omega), HM.out]
      rw [hke] at hrow
      clear hke
      go_wp2
      go_ret
      exact ⟨_, rfl, hrow.out, hb.out⟩
end Go.Proofs.Ytmegfkclpjddgaa
