/-
  Updates compared as structs (layer 8).
-/
import Derived.Test.YtjbemjnofnifaaaZj14
import Derived.Laws.StructEq
namespace Go.Proofs.Ytjbemjnofnifaaa
open Go.RowKit
set_option linter.unusedSimpArgs false

theorem up_fields : Try.prog.underlying 66 = some (.struct (Try.prog.fieldsOf 66)) := by kernel_rfl
theorem up_stood : Try.prog.stoodInHeld 66 = false := by kernel_rfl
theorem up_flds : (Try.prog.fieldsOf 66).toList.map (fun f => (f.name, f.type, f.offset)) = [("Node", 3, 0), ("Inc", 22, 1), ("Status", 3, 2)] := by kernel_rfl
theorem up_guard : Try.prog.eqGuardType Try.prog.depth 66 = false := by kernel_rfl
theorem list3 {α : Type} {l : List α} (h : l.length = 3) : ∃ a b c, l = [a, b, c] := by
  match l, h with
  | [a, b, c], _ => exact ⟨a, b, c, rfl⟩
theorem list2 {α : Type} {l : List α} (h : l.length = 2) : ∃ a b, l = [a, b] := by
  match l, h with
  | [a, b], _ => exact ⟨a, b, rfl⟩
theorem Up.eq_iff (a b : Up) : a = b ↔ a.node = b.node ∧ a.inc = b.inc ∧ a.st = b.st := by
  obtain ⟨x, y, z⟩ := a
  obtain ⟨x', y', z'⟩ := b
  simp
/-- Both are the same. -/
theorem up_eq_at (d : Nat) (a b : Up) (w : World) : (Op.equalIn (d + 2) 66 (.agg #[.int .i64 a.node, .int .u32 (a.inc : Int), .int .i64 a.st]) (.agg #[.int .i64 b.node, .int .u32 (b.inc : Int), .int .i64 b.st])).run Try.prog w = .ok (decide (a = b)) w := by
  rw [run_equalIn_struct w (d + 1) _ _ _ up_fields up_stood]
  have h := up_flds
  generalize (Try.prog.fieldsOf 66).toList = fs at h
  have hl := congrArg List.length h
  rw [List.length_map] at hl
  obtain ⟨f0, f1, f2, rfl⟩ := list3 hl
  simp only [List.map_cons, List.map_nil, List.cons.injEq, Prod.mk.injEq, and_true] at h
  obtain ⟨⟨h0, h1, h2⟩, ⟨h3, h4, h5⟩, h6, h7, h8⟩ := h
  simp only [Op.eqFields, h0, h1, h2, h3, h4, h5, h6, h7, h8]
  have e := Up.eq_iff a b
  by_cases k0 : a.node = b.node
  · by_cases k1 : a.inc = b.inc
    · by_cases k2 : a.st = b.st
      · rw [decide_eq_true (e.2 ⟨k0, k1, k2⟩)]
        clear e
        simp [go_sem, k0, k1, k2]
      · rw [decide_eq_false (fun h => k2 (e.1 h).2.2)]
        clear e
        simp [go_sem, k0, k1, k2]
    · rw [decide_eq_false (fun h => k1 (e.1 h).2.1)]
      have k1' : ¬ (a.inc : Int) = (b.inc : Int) := by omega
      clear e
      simp [go_sem, k0, k1']
  · rw [decide_eq_false (fun h => k0 (e.1 h).1)]
    clear e
    simp [go_sem, k0]
theorem up_eq (a b : Up) (w : World) : (Op.equalIn 10000 66 (.agg #[.int .i64 a.node, .int .u32 (a.inc : Int), .int .i64 a.st]) (.agg #[.int .i64 b.node, .int .u32 (b.inc : Int), .int .i64 b.st])).run Try.prog w = .ok (decide (a = b)) w := up_eq_at 9998 a b w
end Go.Proofs.Ytjbemjnofnifaaa

/-
  The document's Same (layer 8).
-/
namespace Go.Proofs.Ytjbemjnofnifaaa
open Go.RowKit
set_option linter.unusedSimpArgs false
set_option linter.unusedVariables false

def sameL (l m : List Up) : Bool := decide (l = m)
set_option maxHeartbeats 4000000 in
theorem sameU_any (A : Option Addr) (n c : Nat) (l : List Up) (A2 : Option Addr) (n2 c2 : Nat) (l2 : List Up) (w : World) (hS : SUp w A n l) (hS2 : SUp w A2 n2 l2) (hnc : n ≤ c) (hm : c ≤ maxLen) :
    Calls Try.prog 38 #[.slice A n c, .slice A2 n2 c2] w fun e w' => e = .returned (.bool (sameL l l2)) ∧ Below w.heap.size w w' := by
  unfold maxLen at hm
  have hl := hS.1
  have hl2 := hS2.1
  obtain ⟨r, hr⟩ : ∃ r, sameL l l2 = r := ⟨_, rfl⟩
  rw [hr]
  have HR := Lib.hid hr
  have HL := Lib.hid hl
  have HL2 := Lib.hid hl2
  have HS := Lib.hid hS
  have HS2 := Lib.hid hS2
  clear hr hl hl2 hS hS2
  by_cases hn : n = n2
  · subst hn
    have zz : ((n : Int) != (n : Int)) = false := by simp
    have zz2 : (n != n) = false := by simp
    clear zz
    go_enter Try.func38, Try.ntmps38
    go_wp2
    go_loopw [5] (fun i wr => ∃ k : Nat, k ≤ n ∧ i = .int .i64 (k : Int) ∧ Hid (l.take k = l2.take k) ∧ Hid (Below w.heap.size w wr)) (fun i _ => n - (intOf i).toNat)
    case atStart => exact ⟨0, Nat.zero_le _, rfl, Lib.hid rfl, Lib.hid (Below.refl _ _)⟩
    case round =>
      obtain ⟨k, hk, rfl, hf, hb⟩ := hrel
      by_cases hlt : k < n
      · have hkl : k < l.length := by have := HL.out; omega
        have hkl2 : k < l2.length := by have := HL2.out; omega
        obtain ⟨b, off, rfl, hbl, hc0, hc1, hc2⟩ := (HS.out.of_block hb.out).at_ hlt hkl
        obtain ⟨b2, off2, rfl, hbl2, hd0, hd1, hd2⟩ := (HS2.out.of_block hb.out).at_ hlt hkl2
        obtain ⟨x, hx⟩ : ∃ x, l[k] = x := ⟨_, rfl⟩
        obtain ⟨y, hy⟩ : ∃ x, l2[k] = x := ⟨_, rfl⟩
        rw [hx] at hc0 hc1 hc2
        rw [hy] at hd0 hd1 hd2
        have HXk := Lib.hid hx
        have HYk := Lib.hid hy
        clear hx hy
        have ug := up_guard
        have q1 : (k : Int) < (n : Int) := by omega
        have q0 : (0 : Int) ≤ (k : Int) := by omega
        by_cases hxy : x = y
        · have ue : ∀ w, (Op.equalIn 10000 66 (.agg #[.int .i64 x.node, .int .u32 (x.inc : Int), .int .i64 x.st]) (.agg #[.int .i64 y.node, .int .u32 (y.inc : Int), .int .i64 y.st])).run Try.prog w = .ok true w := fun w => by rw [up_eq, decide_eq_true hxy]
          have HXY := Lib.hid hxy
          clear hxy
          go_wp2
          go_quiet (fail)
          go_wp2
          go_roundw
          case rel => exact ⟨k + 1, by omega, by go_num, Lib.hid (by rw [List.take_succ_eq_append_getElem hkl, List.take_succ_eq_append_getElem hkl2, hf.out, HXk.out, HYk.out, HXY.out]), Lib.hid (below_drewN hb.out nq)⟩
          case measure => simp [intOf]; omega
        · have ue : ∀ w, (Op.equalIn 10000 66 (.agg #[.int .i64 x.node, .int .u32 (x.inc : Int), .int .i64 x.st]) (.agg #[.int .i64 y.node, .int .u32 (y.inc : Int), .int .i64 y.st])).run Try.prog w = .ok false w := fun w => by rw [up_eq, decide_eq_false hxy]
          have HXY := Lib.hid hxy
          clear hxy
          go_wp2
          go_quiet (fail)
          go_wp2
          go_ret
          refine ⟨ret_bool ?_, below_drewN hb.out nq⟩
          rw [← HR.out]
          unfold sameL
          exact (decide_eq_false (fun h => HXY.out (by rw [← HXk.out, ← HYk.out]; simp only [h]))).symm
      · go_wp2
        go_ret
        refine ⟨ret_bool ?_, hb.out⟩
        rw [← HR.out]
        unfold sameL
        have h1 := hf.out
        rw [List.take_of_length_le (by have := HL.out; omega), List.take_of_length_le (by have := HL2.out; omega)] at h1
        exact (decide_eq_true h1).symm
  · have zz : (n != n2) = true := by rw [bne_iff_ne]; exact hn
    obtain rfl : false = r := by
      rw [← HR.out]
      unfold sameL
      exact (decide_eq_false (fun h => hn (by have h1 := HL.out; have h2 := HL2.out; rw [h, h2] at h1; exact h1.symm))).symm
    have HN := Lib.hid hn
    clear hn
    go_enter Try.func38, Try.ntmps38
    go_wp2
    go_ret
    exact ⟨rfl, Below.refl _ _⟩
end Go.Proofs.Ytjbemjnofnifaaa
