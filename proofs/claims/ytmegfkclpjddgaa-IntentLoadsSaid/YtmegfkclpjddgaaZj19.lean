/-
  The document's Same of intentions, For, walked (layer 17).
-/
import Derived.Test.YtmegfkclpjddgaaZj18
import Derived.Test.YtmegfkclpjddgaaZj12
import Derived.Test.YtmegfkclpjddgaaZj14
import Derived.Test.YtmegfkclpjddgaaZj17
namespace Go.Proofs.Ytmegfkclpjddgaa
open Go.RowKit
set_option linter.unusedSimpArgs false
set_option linter.unusedVariables false

set_option maxHeartbeats 2000000 in
theorem risame_any (A : Option Addr) (n c : Nat) (l : List Ir) (A2 : Option Addr) (c2 : Nat) (w : World) (hS : SK irC 5 w A n l) (hS2 : SK irC 5 w A2 n l) (hn : n ≤ maxLen) :
    Calls Try.prog 13 #[.slice A n c, .slice A2 n c2] w fun e w' => e = .returned (.bool true) ∧ Below w.heap.size w w' := by
  unfold maxLen at hn
  have hm : n ≤ 9223372036854775807 := by omega
  have HL := Lib.hid hS.1
  have HS := Lib.hid hS
  have HS2 := Lib.hid hS2
  have zz2 : (n != n) = false := by simp
  clear hS hS2 hn
  go_enter Try.func13, Try.ntmps13
  go_wp2
  go_loopw [5] (fun i wr => ∃ k : Nat, k ≤ n ∧ i = .int .i64 (k : Int) ∧ Hid (Below w.heap.size w wr)) (fun i _ => n - (intOf i).toNat)
  case atStart => exact ⟨0, Nat.zero_le _, rfl, Lib.hid (Below.refl _ _)⟩
  case round =>
    obtain ⟨k, hk, rfl, hb⟩ := hrel
    by_cases hlt : k < n
    · have hkl : k < l.length := by have := HL.out; omega
      obtain ⟨b, off, rfl, hbl, hit⟩ := (HS.out.below hb.out).at_ hlt hkl
      obtain ⟨b2, off2, rfl, hbl2, hit2⟩ := (HS2.out.below hb.out).at_ hlt hkl
      obtain ⟨x, hx⟩ : ∃ x, l[k] = x := ⟨_, rfl⟩
      rw [hx] at hit hit2
      obtain ⟨c0, c1, c2, c3, c4⟩ := ir_cells hit
      obtain ⟨d0, d1, d2, d3, d4⟩ := ir_cells hit2
      have q1 : (k : Int) < (n : Int) := by omega
      have q0 : (0 : Int) ≤ (k : Int) := by omega
      clear hx hit hit2
      have ug := ir_guard
      have ue := ir_eq x x
      rw [(eqIr_iff x x).2 rfl] at ue
      unfold irV at ue
      go_wp2
      go_quiet (fail)
      go_wp2
      go_roundw
      case rel => exact ⟨k + 1, by omega, by go_num, Lib.hid (below_drewN hb.out nq)⟩
      case measure => simp [intOf]; omega
    · go_wp2
      go_ret
      exact ⟨rfl, hb.out⟩
theorem for_step {l : List Ir} {k : Nat} {d : ByteArray} (hk : k < l.length) : forI (l.take (k + 1)) d = forI (l.take k) d ++ (if matchB l[k].dst.data.toList d.data.toList = true then [l[k]] else []) := by
  unfold forI
  rw [List.take_succ_eq_append_getElem hk, List.filter_append]
  by_cases h : matchB l[k].dst.data.toList d.data.toList = true
  · rw [if_pos h, List.filter_cons_of_pos (by simpa using h)]; rfl
  · rw [if_neg h, List.filter_cons_of_neg (by simpa using h)]; rfl
theorem for_length (l : List Ir) (d : ByteArray) : (forI l d).length ≤ l.length := List.length_filter_le _ _
set_option maxHeartbeats 4000000 in
theorem rifor_any (A : Option Addr) (n c : Nat) (l : List Ir) (d : ByteArray) (w : World) (hS : SK irC 5 w A n l) (hn : n ≤ 1000) (hd : d.size ≤ maxLen) :
    Calls Try.prog 15 #[.slice A n c, .string d] w fun e w' => ∃ v, e = .returned v ∧ irRow w' w.heap.size v (forI l d) ∧ Below w.heap.size w w' := by
  have HMd := Lib.hid (fun (p : ByteArray) (W : World) => rmatch_any p d W hd)
  have HS := Lib.hid hS
  have HL := Lib.hid hS.1
  have hm : n ≤ 9223372036854775807 := by omega
  obtain ⟨g0, hX⟩ : ∃ g0, w.heap.size = g0 := ⟨_, rfl⟩
  have HG0 := Lib.hid hX
  obtain ⟨M, hM⟩ : ∃ M, forI l d = M := ⟨_, rfl⟩
  rw [hM, hX]
  have HM := Lib.hid hM
  clear hS hd hX hM
  go_enter Try.func15, Try.ntmps15
  go_wp2
  go_loopw [5, 6] (fun vv iv wr => ∃ k : Nat, k ≤ n ∧ iv = .int .i64 (k : Int) ∧ Hid (irRow wr g0 vv (forI (l.take k) d)) ∧ Hid (Below g0 w wr)) (fun _ iv _ => n - (intOf iv).toNat)
  case atStart => exact ⟨0, Nat.zero_le _, rfl, Lib.hid (rowK.nil _ _), Lib.hid (HG0.out ▸ Below.refl _ _)⟩
  case round =>
    obtain ⟨k, hk, rfl, hrow, hb⟩ := hrel
    by_cases hlt : k < n
    · have hkl : k < l.length := by rw [HL.out]; exact hlt
      obtain ⟨b, off, rfl, hbl, hit⟩ := (HS.out.below (by rw [HG0.out]; exact hb.out)).at_ hlt hkl
      have hs := for_step (d := d) hkl
      obtain ⟨y, hy⟩ : ∃ y, l[k] = y := ⟨_, rfl⟩
      rw [hy] at hit hs
      obtain ⟨e0, e1, e2, e3, e4⟩ := ir_cells hit
      have HMk := Lib.hid (HMd.out y.dst wr)
      obtain ⟨ub, hub⟩ : ∃ ub, matchB y.dst.data.toList d.data.toList = ub := ⟨_, rfl⟩
      rw [hub] at hs HMk
      have HSt := Lib.hid hs
      clear hs hy hit hub
      go_wp2_with fail
      refine HMk.out.mono ?_
      rintro e w' ⟨rfl, rfl⟩
      clear HMk
      cases ub with
      | false =>
        have HR := Lib.hid (show irRow wr g0 u5 (forI (l.take (k + 1)) d) by rw [HSt.out, if_neg (by simp), List.append_nil]; exact hrow.out)
        go_wp2
        go_roundw
        case rel => exact ⟨k + 1, by omega, by go_num, HR, hb⟩
        case measure => simp [intOf]; omega
      | true =>
        have hle : (forI (l.take k) d).length ≤ 1000000 := by
          have := for_length (l.take k) d
          rw [List.length_take] at this
          omega
        go_wp2_with (at_builtin; refine wpList_append_ir rfl (.tmp 20) (.tmp 25) rfl g0 _ _ rfl ?qa wr.heap.size y rfl ?qb hle ?qc ?_)
        case qa => exact hrow.out.below ((Below.refl _ _).alloc (Nat.le_refl _) _)
        case qb => exact ir_new wr y _
        case qc => have := hb.out.size; have := HG0.out; simp; omega
        refine Lib.hid ?_
        intro v' w' hown hgr
        have HB' := Lib.hid (irRow.snoc hrow.out hb.out (by have := hb.out.size; have := HG0.out; omega) hgr)
        rw [show forI (l.take k) d ++ [y] = forI (l.take (k + 1)) d by rw [HSt.out]; simp] at hown
        have HR := Lib.hid hown
        clear hown hgr
        go_wp2
        go_roundw
        case rel => exact ⟨k + 1, by omega, by go_num, HR, HB'⟩
        case measure => simp [intOf]; omega
    · have hke : forI (l.take k) d = M := by rw [List.take_of_length_le (by rw [HL.out]; omega), HM.out]
      rw [hke] at hrow
      clear hke
      go_wp2
      go_ret
      exact ⟨_, rfl, hrow.out, hb.out⟩
end Go.Proofs.Ytmegfkclpjddgaa
/-
  Which intention may be loaded, and whether two lists are the same, walked (layer 17).
-/
namespace Go.Proofs.Ytmegfkclpjddgaa
open Go.RowKit
set_option linter.unusedSimpArgs false
set_option linter.unusedVariables false

set_option maxHeartbeats 4000000 in
theorem loadable_any (x : Ir) (last : Nat) (w : World) (hs : x.src.size ≤ maxLen) (hd : x.dst.size ≤ maxLen) :
    Calls Try.prog 48 #[irV x, .int .u64 (last : Int)] w fun e w' => e = .returned (.bool (gdI x last)) ∧ Below w.heap.size w w' := by
  have HP1 := Lib.hid (fun W => pattern_any x.src W hs)
  have HP2 := Lib.hid (fun W => pattern_any x.dst W hd)
  obtain ⟨X, hX⟩ : ∃ X, w.heap.size = X := ⟨_, rfl⟩
  obtain ⟨W1, hW1⟩ : ∃ W1, w.alloc (.cells #[.string x.src, .string x.dst, .bool x.allow, .int .u64 (x.made : Int), .int .u64 (x.ix : Int)] TIn) = W1 := ⟨_, rfl⟩
  have hk : W1.heap[X]? = some (.cells #[.string x.src, .string x.dst, .bool x.allow, .int .u64 (x.made : Int), .int .u64 (x.ix : Int)] TIn (0, 0)) := by rw [← hW1, ← hX]; exact heap_alloc_new w _
  have HB : Hid (Below w.heap.size w W1) := Lib.hid (by rw [← hW1]; exact below1 _ _ _)
  have HW1 := Lib.hid hW1
  have HX := Lib.hid hX
  obtain ⟨x0, x1, x2, x3, x4⟩ := ir_blk hk
  obtain ⟨p1, h1⟩ : ∃ p, patternB x.src.data.toList = p := ⟨_, rfl⟩
  obtain ⟨p2, h2⟩ : ∃ p, patternB x.dst.data.toList = p := ⟨_, rfl⟩
  obtain ⟨a, h3⟩ : ∃ a, decide (x.made ≤ x.ix) = a := ⟨_, rfl⟩
  obtain ⟨b, h4⟩ : ∃ b, decide (x.ix ≤ last) = b := ⟨_, rfl⟩
  unfold gdI
  rw [h1] at HP1
  rw [h2] at HP2
  rw [h1, h2, h3, h4]
  unfold irV
  clear hs hd hX hW1 hk h1 h2
  cases p1 with
  | false =>
    go_enter Try.func48, Try.ntmps48
    go_wp2_with fail
    rw [HW1.out, HX.out]
    go_wp2_with fail
    refine (HP1.out W1).mono ?_
    rintro e w' ⟨rfl, rfl⟩
    go_wp2
    go_ret
    exact ⟨rfl, HB.out⟩
  | true =>
    cases p2 with
    | false =>
      go_enter Try.func48, Try.ntmps48
      go_wp2_with fail
      rw [HW1.out, HX.out]
      go_wp2_with fail
      refine (HP1.out W1).mono ?_
      rintro e w' ⟨rfl, rfl⟩
      go_wp2_with fail
      refine (HP2.out _).mono ?_
      rintro e w' ⟨rfl, rfl⟩
      go_wp2
      go_ret
      exact ⟨rfl, HB.out⟩
    | true =>
      cases a <;> cases b
      all_goals
        go_enter Try.func48, Try.ntmps48
        go_wp2_with fail
        rw [HW1.out, HX.out]
        go_wp2_with fail
        refine (HP1.out W1).mono ?_
        rintro e w' ⟨rfl, rfl⟩
        go_wp2_with fail
        refine (HP2.out _).mono ?_
        rintro e w' ⟨rfl, rfl⟩
        go_wp2
        go_ret
        exact ⟨rfl, HB.out⟩
set_option maxHeartbeats 4000000 in
theorem iequal_any (A : Option Addr) (n c : Nat) (l : List Ir) (A2 : Option Addr) (n2 c2 : Nat) (l2 : List Ir) (w : World) (hS : SK irC 5 w A n l) (hS2 : SK irC 5 w A2 n2 l2) (hn : n ≤ maxLen) (hn2 : n2 ≤ maxLen) :
    Calls Try.prog 50 #[.slice A n c, .slice A2 n2 c2] w fun e w' => ∃ b, e = .returned (.bool b) ∧ (b = true ↔ l = l2) ∧ Below w.heap.size w w' := by
  unfold maxLen at hn hn2
  have HL := Lib.hid hS.1
  have HL2 := Lib.hid hS2.1
  have HS := Lib.hid hS
  have HS2 := Lib.hid hS2
  have hm : n ≤ 9223372036854775807 := by omega
  have hm2 : n2 ≤ 9223372036854775807 := by omega
  clear hS hS2 hn hn2
  by_cases hne : n = n2
  · subst hne
    have zz : ((n : Int) != (n : Int)) = false := by simp
    go_enter Try.func50, Try.ntmps50
    go_wp2
    go_loopw [13] (fun iv wr => ∃ k : Nat, k ≤ n ∧ iv = .int .i64 (k : Int) ∧ Hid (∀ j, ∀ h1 : j < l.length, ∀ h2 : j < l2.length, j < k → l[j] = l2[j]) ∧ Hid (Below w.heap.size w wr)) (fun iv _ => n - (intOf iv).toNat)
    case atStart => exact ⟨0, Nat.zero_le _, rfl, Lib.hid (fun j _ _ h => absurd h (Nat.not_lt_zero j)), Lib.hid (Below.refl _ _)⟩
    case round =>
      obtain ⟨k, hk, rfl, hsame, hb⟩ := hrel
      by_cases hlt : k < n
      · have hkl : k < l.length := by have := HL.out; omega
        have hkl2 : k < l2.length := by have := HL2.out; omega
        obtain ⟨b, off, rfl, hbl, hit⟩ := (HS.out.below hb.out).at_ hlt hkl
        obtain ⟨b2, off2, rfl, hbl2, hit2⟩ := (HS2.out.below hb.out).at_ hlt hkl2
        obtain ⟨x, hx⟩ : ∃ x, l[k] = x := ⟨_, rfl⟩
        obtain ⟨y, hy⟩ : ∃ y, l2[k] = y := ⟨_, rfl⟩
        rw [hx] at hit
        rw [hy] at hit2
        obtain ⟨c0, c1, c2, c3, c4⟩ := ir_cells hit
        obtain ⟨d0, d1, d2, d3, d4⟩ := ir_cells hit2
        have q1 : (k : Int) < (n : Int) := by omega
        have q0 : (0 : Int) ≤ (k : Int) := by omega
        have ug := ir_guard
        have ue := ir_eq x y
        cases hxy : eqIr x y with
        | true =>
          have HN : Hid (∀ j, ∀ h1 : j < l.length, ∀ h2 : j < l2.length, j < k + 1 → l[j] = l2[j]) := Lib.hid fun j h1 h2 h3 => by
            by_cases e : j < k
            · exact hsame.out j h1 h2 e
            · obtain rfl : j = k := by omega
              rw [hx, hy]
              exact (eqIr_iff x y).1 hxy
          rw [hxy] at ue
          unfold irV at ue
          clear hx hy hit hit2 hxy
          go_wp2
          go_quiet (fail)
          go_wp2
          go_roundw
          case rel => exact ⟨k + 1, by omega, by go_num, HN, Lib.hid (below_drewN hb.out nq)⟩
          case measure => simp [intOf]; omega
        | false =>
          have HN : Hid (l ≠ l2) := Lib.hid fun e => by
            have e2 : x = y := by rw [← hx, ← hy]; subst e; rfl
            rw [(eqIr_iff x y).2 e2] at hxy
            cases hxy
          rw [hxy] at ue
          unfold irV at ue
          clear hx hy hit hit2 hxy
          go_wp2
          go_quiet (fail)
          go_wp2
          go_ret
          exact ⟨false, rfl, ⟨(fun h => by cases h), fun h => absurd h HN.out⟩, below_drewN hb.out nq⟩
      · have HE : Hid (l = l2) := Lib.hid (List.ext_getElem (by rw [HL.out, HL2.out]) fun j h1 h2 => hsame.out j h1 h2 (by have := HL.out; omega))
        go_wp2
        go_ret
        exact ⟨true, rfl, ⟨fun _ => HE.out, fun _ => rfl⟩, hb.out⟩
  · have HN : Hid (l ≠ l2) := Lib.hid fun e => hne (by rw [← HL.out, ← HL2.out, e])
    have zz : ((n : Int) != (n2 : Int)) = true := by rw [bne_iff_ne]; omega
    go_enter Try.func50, Try.ntmps50
    go_wp2
    go_ret
    exact ⟨false, rfl, ⟨(fun h => by cases h), fun h => absurd h HN.out⟩, Below.refl _ _⟩
end Go.Proofs.Ytmegfkclpjddgaa
