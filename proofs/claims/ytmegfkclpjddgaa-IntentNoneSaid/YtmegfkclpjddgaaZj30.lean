/-
  The program's intentions in memory: table, New, Last, Copy, key, Rank, walked (layer 17).
-/
import Derived.Test.YtmegfkclpjddgaaZj17
import Derived.Test.YtmegfkclpjddgaaZj28
import Derived.Test.YtmegfkclpjddgaaZj29
import Derived.Test.YtmegfkclpjddgaaZj14
namespace Go.Proofs.Ytmegfkclpjddgaa
open Go.RowKit
set_option linter.unusedSimpArgs false
set_option linter.unusedVariables false

/-- The program's intentions t behind block B, their table behind Bt; all that they have in S. -/
structure InAt (S : Nat → Prop) (w : World) (B Bt : Nat) (t : Im) : Prop where
  mine : S B
  ptr : w.heap[B]? = some (.cells #[.pointer (some ⟨Bt, 0, none⟩)] 59 (0, 0))
  tab : ∃ T, InRel T t ∧ It.TAt (fun k => S k ∧ k ≠ B) w Bt T
/-- There are no intentions. -/
structure NoIn (w : World) (p : Option Addr) : Prop where
  or : p = none ∨ ∃ B, p = some ⟨B, 0, none⟩ ∧ w.heap[B]? = some (.cells #[.pointer none] 59 (0, 0))
section
variable {S S' : Nat → Prop} {w w' : World} {B Bt : Nat} {t : Im}
theorem InAt.ok (h : InAt S w B Bt t) : ImOk t := by obtain ⟨_, h1, _⟩ := h.tab; exact h1.ok
theorem InAt.lt (h : InAt S w B Bt t) : B < w.heap.size := block_lt h.ptr
theorem InAt.tlt (h : InAt S w B Bt t) : Bt < w.heap.size := by obtain ⟨_, _, h1⟩ := h.tab; exact h1.lt
theorem InAt.tmine (h : InAt S w B Bt t) : S Bt ∧ Bt ≠ B := by obtain ⟨_, _, h1⟩ := h.tab; exact h1.mine
theorem InAt.but (h : InAt S w B Bt t) (hb : But S' w w') (hS : ∀ k, S' k → ¬ S k) : InAt S w' B Bt t := by
  obtain ⟨T, h1, h2⟩ := h.tab
  exact ⟨h.mine, (hb.block B h.lt fun e => hS B e h.mine).trans h.ptr, T, h1, h2.but hb fun k e z => hS k e z.1⟩
theorem InAt.below (h : InAt S w B Bt t) (hb : Below w.heap.size w w') : InAt S w' B Bt t := h.but (S' := fun _ => False) (But.of_below hb) (fun _ h => h.elim)
theorem InAt.narrow (h : InAt S w B Bt t) (hs : ∀ k, k < w.heap.size → S k → S' k) : InAt S' w B Bt t := by
  obtain ⟨T, h1, h2⟩ := h.tab
  exact ⟨hs _ h.lt h.mine, h.ptr, T, h1, h2.narrow fun k hk z => ⟨hs k hk z.1, z.2⟩⟩
/-- The table has changed. -/
theorem InAt.turned (h : InAt S w B Bt t) {T' : Tb Rl} {t' : Im} (hr : InRel T' t') (ht' : It.TAt (fun k => (S k ∧ k ≠ B) ∨ w.heap.size ≤ k) w' Bt T') (hb : But (· = Bt) w w') : InAt (fun k => S k ∨ w.heap.size ≤ k) w' B Bt t' := by
  have hl := h.lt
  refine ⟨.inl h.mine, (hb.block B hl fun e => h.tmine.2 e.symm).trans h.ptr, T', hr, ht'.narrow fun j hj hs => ?_⟩
  rcases hs with hs | hs
  · exact ⟨.inl hs.1, hs.2⟩
  · exact ⟨.inr hs, by omega⟩
theorem NoIn.below {p : Option Addr} (h : NoIn w p) (hb : Below w.heap.size w w') : NoIn w' p :=
  ⟨h.or.imp id fun ⟨B, e, k⟩ => ⟨B, e, (hb.block B (block_lt k)).trans k⟩⟩
/-- Intentions that were just laid. -/
theorem InAt.laid {S' : Nat → Prop} {T : Tb Rl} (hr : InRel T t) (h : It.TAt S' w Bt T) (hS : ∀ k, S' k → S k) : InAt (fun k => S k ∨ w.heap.size ≤ k) (w.alloc (.cells #[.pointer (some ⟨Bt, 0, none⟩)] 59)) w.heap.size Bt t :=
  ⟨.inr (Nat.le_refl _), heap_alloc_new w _, T, hr, (h.narrow (S' := fun k => S' k ∧ k < w.heap.size) fun k hk z => ⟨z, hk⟩).below (below1 _ _ _) |>.narrow fun k _ z => ⟨.inl (hS k z.1), by omega⟩⟩
theorem table_is (k : w.heap[B]? = some (.cells #[.pointer (some ⟨Bt, 0, none⟩)] 59 (0, 0))) : Calls Try.prog 38 #[.pointer (some ⟨B, 0, none⟩)] w fun e w' => e = .returned (.pointer (some ⟨Bt, 0, none⟩)) ∧ w = w' := by
  have c0 := cellsN k 0 _ rfl
  clear k
  go_enter Try.func38, Try.ntmps38
  go_wp2
  go_ret
  exact ⟨rfl, rfl⟩
theorem table_no {p : Option Addr} (h : NoIn w p) : Calls Try.prog 38 #[.pointer p] w fun e w' => e = .returned (.pointer none) ∧ w = w' := by
  rcases h.or with rfl | ⟨B, rfl, k⟩
  · clear h
    go_enter Try.func38, Try.ntmps38
    go_wp2
    go_ret
    exact ⟨rfl, rfl⟩
  · have c0 := cellsN k 0 _ rfl
    clear h k
    go_enter Try.func38, Try.ntmps38
    go_wp2
    go_ret
    exact ⟨rfl, rfl⟩
theorem inew_any (m : Int) (w : World) (hm : -9223372036854775808 ≤ m ∧ m ≤ 9223372036854775807) :
    Calls Try.prog 10 #[.int .i64 m] w fun e w' => ∃ B Bt, e = .returned (.pointer (some ⟨B, 0, none⟩)) ∧ InAt (fun k => w.heap.size ≤ k) w' B Bt ⟨mostT m, [], 0⟩ ∧ Below w.heap.size w w' := by
  have HN := Lib.hid (It.new_any m w hm)
  clear hm
  go_enter Try.func10, Try.ntmps10
  go_wp2_with fail
  refine HN.out.mono ?_
  rintro e w1 ⟨Bt, rfl, ht, hb⟩
  have HT := Lib.hid (InAt.laid (S := fun k => w.heap.size ≤ k) (InRel.new m) ht fun _ z => z)
  have HB := Lib.hid (hb.alloc hb.size (.cells #[.pointer (some ⟨Bt, 0, none⟩)] 59))
  have HZ := Lib.hid hb.size
  clear ht hb HN
  go_wp2
  go_ret
  refine ⟨_, _, rfl, HT.out.narrow fun k _ z => ?_, HB.out⟩
  rcases z with z | z
  · exact z
  · exact Nat.le_trans HZ.out z
theorem ilast_any (h : InAt S w B Bt t) : Calls Try.prog 16 #[.pointer (some ⟨B, 0, none⟩)] w fun e w' => e = .returned (.int .u64 (t.last : Int)) ∧ w = w' := by
  obtain ⟨_, k, T, h0, h1⟩ := h
  have HT := Lib.hid (table_is k)
  have HL := Lib.hid (It.last_any h1)
  have e := h0.last
  rw [e] at HL
  clear k h1 h0 e
  go_enter Try.func16, Try.ntmps16
  go_wp2_with fail
  refine HT.out.mono ?_
  rintro e w' ⟨rfl, rfl⟩
  go_wp2_with fail
  refine HL.out.mono ?_
  rintro e w' ⟨rfl, rfl⟩
  go_wp2
  go_ret
  exact ⟨rfl, rfl⟩
theorem ilast_no {p : Option Addr} (h : NoIn w p) : Calls Try.prog 16 #[.pointer p] w fun e w' => e = .returned (.int .u64 0) ∧ w = w' := by
  have HT := Lib.hid (table_no h)
  have HL := Lib.hid (It.last_no (w := w) (p := none) ⟨.inl rfl⟩)
  clear h
  go_enter Try.func16, Try.ntmps16
  go_wp2_with fail
  refine HT.out.mono ?_
  rintro e w' ⟨rfl, rfl⟩
  go_wp2_with fail
  refine HL.out.mono ?_
  rintro e w' ⟨rfl, rfl⟩
  go_wp2
  go_ret
  exact ⟨rfl, rfl⟩
theorem icopy_any (h : InAt S w B Bt t) : Calls Try.prog 32 #[.pointer (some ⟨B, 0, none⟩)] w fun e w' => ∃ B' Bc, e = .returned (.pointer (some ⟨B', 0, none⟩)) ∧ w.heap.size ≤ B' ∧ w.heap.size ≤ Bc ∧ InAt (fun k => S k ∨ w.heap.size ≤ k) w' B' Bc t ∧ Below w.heap.size w w' := by
  obtain ⟨_, k, T, h0, h1⟩ := h
  have HT := Lib.hid (table_is k)
  have HC := Lib.hid (It.copy_any h1)
  have HK := Lib.hid h0
  have c0 := cellsN k 0 _ rfl
  clear k h1 h0
  go_enter Try.func32, Try.ntmps32
  go_wp2_with fail
  refine HT.out.mono ?_
  rintro e w' ⟨rfl, rfl⟩
  go_wp2_with fail
  refine HC.out.mono ?_
  rintro e w1 ⟨Bc, rfl, hc, ht, hb⟩
  have HT2 := Lib.hid (InAt.laid (S := fun k => S k ∨ w.heap.size ≤ k) HK.out ht fun _ z => z.imp (·.1) id)
  have HB := Lib.hid (hb.alloc hb.size (.cells #[.pointer (some ⟨Bc, 0, none⟩)] 59))
  have HZ := Lib.hid hb.size
  have HCc := Lib.hid hc
  clear ht hb HC hc
  go_wp2
  go_ret
  refine ⟨_, _, rfl, HZ.out, HCc.out, HT2.out.narrow fun k _ z => ?_, HB.out⟩
  rcases z with z | z
  · exact z
  · exact .inr (Nat.le_trans HZ.out z)
theorem icopy_no {p : Option Addr} (h : NoIn w p) : Calls Try.prog 32 #[.pointer p] w fun e w' => e = .returned (.pointer none) ∧ w = w' := by
  have HT := Lib.hid (table_no h)
  clear h
  go_enter Try.func32, Try.ntmps32
  go_wp2_with fail
  refine HT.out.mono ?_
  rintro e w' ⟨rfl, rfl⟩
  go_wp2
  go_ret
  exact ⟨rfl, rfl⟩
end
theorem key_any (s d : ByteArray) (w : World) (hs : s.size ≤ 1000) (hd : d.size ≤ 1000) : Calls Try.prog 57 #[.string s, .string d] w fun e w' => e = .returned (.string (keyI s d)) ∧ w = w' := by
  unfold keyI

  have q1 : ¬ 9223372036854775807 < d.size + 1 := by omega
  have q2 : ¬ 9223372036854775807 < d.size + 1 + s.size := by omega
  clear hs hd
  go_enter Try.func57, Try.ntmps57
  go_wp2
  go_ret
  exact ⟨rfl, rfl⟩
theorem rank_any (x : Ir) (w : World) : Calls Try.prog 21 #[irV x] w fun e w' => e = .returned (.int .i64 (x.rank : Int)) ∧ w' = w.alloc (.cells (irC x).toArray TIn) := by
  unfold irV irC Ir.rank rankI starB
  cases h1 : (x.dst.toList == [42]) <;> cases h2 : (x.src.toList == [42])
  all_goals
    go_enter Try.func21, Try.ntmps21
    go_wp2
    go_ret
    exact ⟨rfl, rfl⟩
end Go.Proofs.Ytmegfkclpjddgaa
