/-
  A row in another order has all places, each once: the law sodalitylaw05.DrawOrders over the contracts.
-/
import Derived.Test.YtonbojecgggheaaERefS
namespace Go.Proofs.Ytonbojecgggheaa
open Go.RowKit
set_option linter.unusedSimpArgs false

/-- What was there of the row's beginning. -/
def thereL (l : List Nat) : List Value := (List.range 64).map fun i => .bool (l.contains i)
theorem none_there (n : Nat) : (List.range n).map (fun i => Value.bool (([] : List Nat).contains i)) = List.replicate n (.bool false) := by
  apply List.ext_getElem
  · simp
  · intro i h1 h2; simp
theorem there_nil : thereL [] = List.replicate 64 (.bool false) := none_there 64
theorem there_get (l : List Nat) {x : Nat} (h : x < 64) : (thereL l)[x]? = some (.bool (l.contains x)) := by
  unfold thereL
  simp [h]
theorem there_set (l : List Nat) {x : Nat} (_ : x < 64) : (thereL l).set x (.bool true) = thereL (l ++ [x]) := by
  unfold thereL
  apply List.ext_getElem
  · simp
  · intro i h1 h2
    rw [List.getElem_set]
    by_cases e : x = i
    · subst e; simp
    · have e' : (i == x) = false := by rw [beq_eq_false_iff_ne]; omega
      have e2 : ¬ i = x := fun h => e h.symm
      simp [e, e2, List.contains_eq_any_beq, List.any_append]
theorem there_cells : (madeCells #[.bool false] 64).toList = thereL [] := by rw [toList_madeCells_one, there_nil]
theorem bool_info : (Try.prog.info? 4).map (fun i => (i.zero, i.size, i.bytes)) = some (some (.bool false), 1, 1) := by kernel_rfl
set_option maxHeartbeats 4000000 in
theorem orders_walk (A : Option Addr) (n c : Nat) (xs : List Nat) (z : Int) (w : World) (hR : RV w A n (xs.map u32V)) (hnil : A = none → c = 0) (hnc : n ≤ c) (hn : n ≤ 35184372088832) (hx : ∀ x ∈ xs, x < 4294967296) :
    Calls Try.prog 5 #[.slice A n c, .int .i64 z] w fun e w' => e = .returned (.bool true) ∧ Below w.heap.size w w' := by
  obtain ⟨i0, hi, hz0, hz1, hz2⟩ := info_parts bool_info
  have s1 := new_any A n c xs w hR hnil hnc hn hx
  have S1 := Lib.hid s1
  have HWk := Lib.hid (fun w => works_any w)
  have hok : okDr ⟨xs.take 4096, 0⟩ := fun x h => hx x (List.mem_of_mem_take h)
  have honce := order_once hok z
  have hol := order_length z ⟨xs.take 4096, 0⟩
  obtain ⟨ms, hms⟩ : ∃ ms, Dr.order z ⟨xs.take 4096, 0⟩ = ms := ⟨_, rfl⟩
  rw [hms] at honce hol
  obtain ⟨L, hL⟩ : ∃ L, ms.length = L := ⟨_, rfl⟩
  have hsz : L = sizeO z := by rw [← hL, hol]
  have hcase : (z < 0 ∧ L ≤ 0 ∧ L ≤ 64 ∧ ((L : Int) == 0) = true) ∨ (64 < z ∧ 64 ≤ L ∧ L ≤ 64 ∧ ((L : Int) == 64) = true) ∨ (0 ≤ z ∧ z ≤ 64 ∧ (L : Int) ≤ z ∧ z ≤ (L : Int) ∧ L ≤ 64 ∧ ((L : Int) == z) = true) := by
    unfold sizeO at hsz
    simp only [beq_iff_eq]
    split at hsz <;> (try split at hsz) <;> omega
  have HMs := Lib.hid hms
  have HL := Lib.hid hL
  have HOnce : Hid (ms.Nodup ∧ ∀ x ∈ ms, x < L) := Lib.hid (by rw [hsz]; exact honce)
  clear s1 hR hnil hx hok honce hol hms hL hsz
  rcases hcase with ⟨h1, h2, h3, h4⟩ | ⟨h1, h2, h3, h4⟩ | ⟨h1, h2, h5, h6, h3, h4⟩
  all_goals
    go_enter Try.func5, Try.ntmps5
    go_wp2_with fail
    refine S1.out.mono ?_
    rintro e w1 ⟨B, rfl, hB, hlt, hd, hb1⟩
    have s2 := order_any _ _ _ z w1 hd
    rw [HMs.out] at s2
    have S2 := Lib.hid s2
    have HB1 := Lib.hid hb1
    clear s2 hd hb1
    go_wp2_with fail
    refine S2.out.mono ?_
    rintro e w2 ⟨⟨A2, c2, rfl, hrow, hc2, hbase⟩, _, hb2⟩
    rw [HL.out] at hrow hc2 ⊢
    have HB2 : Hid (Below w.heap.size w w2) := Lib.hid (HB1.out.trans (hb2.below HB1.out.size (fun k hk e => by
      simp only [Tgt, Value.pointer.injEq, Option.some.injEq, Addr.mk.injEq] at e
      omega)))
    have HRow := Lib.hid hrow
    have hw2 := HB2.out.size
    clear hrow hbase hb2
    go_wp2_with (with_reducible refine wpList_make_full w2 rfl (.const (.int .i64 64)) (.const (.int .i64 64)) 41 rfl w2.heap.size 4 i0 (.bool false) 1 Try.underlying41 hi hz0 hz1 .i64 .i64 64 64 64 rfl rfl rfl rfl ?c1 ?c2 ?c3 ?_)
    case c1 => rw [hz2]; omega
    case c2 => unfold maxLen; omega
    case c3 => exact Nat.le_refl _
    intro w3 hown hg
    rw [there_cells] at hown
    have hb3 : Below w2.heap.size w2 w3 := (Below.refl _ _).grown hg (Nat.le_refl _) (fun j hj => by cases hj)
    obtain ⟨g, hgg⟩ : ∃ g, w2.heap.size = g := ⟨_, rfl⟩
    rw [hgg] at hown hb3 ⊢
    have HOwn := Lib.hid hown
    have HB3 := Lib.hid hb3
    have HG := Lib.hid hgg
    clear hown hg hb3 hgg
    go_wp2
    go_loopw [9] (fun kv wr => ∃ k : Nat, k ≤ L ∧ kv = .int .i64 (k : Int) ∧ Hid (wr.ownsRow g 4 1 (.slice (some ⟨g, 0, none⟩) 64 64) 64 (thereL (ms.take k))) ∧ Hid (Below g w2 wr)) (fun kv _ => L - (intOf kv).toNat)
    case atStart => exact ⟨0, Nat.zero_le _, rfl, HOwn, HB3⟩
    case round =>
      obtain ⟨k, hk, rfl, hown, hb⟩ := hrel
      by_cases hlt2 : k < L
      · first
        | (exfalso; omega)
        | (
          have hk' : k < ms.length := by rw [HL.out]; exact hlt2
          have hbw : Below w2.heap.size w2 wr := by rw [HG.out]; exact hb.out
          obtain ⟨b, off, rfl, _, hc1⟩ := (HRow.out.below hbw).at_ hlt2
          rw [List.getElem_map] at hc1
          have hmem := HOnce.out.2 ms[k] (List.getElem_mem hk')
          have hnew : (ms.take k).contains ms[k] = false := by
            rw [Bool.eq_false_iff]
            intro h
            have h := List.contains_iff_mem.1 h
            obtain ⟨j, hj, e⟩ := List.mem_iff_getElem.1 h
            rw [List.getElem_take] at e
            rw [List.length_take] at hj
            exact List.pairwise_iff_getElem.1 HOnce.out.1 j k (by omega) hk' (by omega) e
          have hsnoc : ms.take (k + 1) = ms.take k ++ [ms[k]] := List.take_succ_eq_append_getElem hk'
          obtain ⟨x, hxx⟩ : ∃ x, ms[k] = x := ⟨_, rfl⟩
          rw [hxx] at hc1 hmem hnew hsnoc
          unfold iV at hc1
          have hx64 : x < 64 := by omega
          have c3 : wr.cell? ⟨g, x, none⟩ = some (.bool false) := by rw [hown.out.cellAt x (by omega), there_get _ hx64, hnew]
          have f3 := hown.out.frozenAt x
          have HS : Hid ((wr.setCell ⟨g, x, none⟩ (.bool true)).ownsRow g 4 1 (.slice (some ⟨g, 0, none⟩) 64 64) 64 (thereL (ms.take (k + 1))) ∧ Below g w2 (wr.setCell ⟨g, x, none⟩ (.bool true))) := Lib.hid (by
            have h1 := (hown.out.stored x (.bool true)).1
            rw [there_set _ hx64, ← hsnoc] at h1
            exact ⟨h1, hb.out.setCell (Nat.le_refl _) _⟩)
          have q1 : (k : Int) < (L : Int) := by omega
          have q2 : (0 : Int) ≤ (k : Int) := by omega
          have q3 : ¬ (x : Int) < 0 := by omega
          have q4 : (x : Int) < (L : Int) := by omega
          have q5 : (x : Int) < 64 := by omega
          clear hk' hbw hnew hsnoc hxx
          go_wp2
          go_roundw
          case rel => exact ⟨k + 1, by omega, by go_num, Lib.hid HS.out.1, Lib.hid HS.out.2⟩
          case measure => simp [intOf]; omega)
      · obtain rfl : L = k := by omega
        have HWf : Hid (Below w.heap.size w wr) := Lib.hid (HB2.out.trans (by have h := hb.out; rw [← HG.out] at h; exact h.mono hw2))
        have hwk := HWk.out wr
        have HWr := Lib.hid hwk
        clear hwk
        go_wp2_with (go_at_call 19; refine HWr.out.mono ?_; rintro e w4 ⟨rfl, hb4⟩)
        go_ret
        exact ⟨rfl, HWf.out.trans (hb4.mono HWf.out.size)⟩
end Go.Proofs.Ytonbojecgggheaa
