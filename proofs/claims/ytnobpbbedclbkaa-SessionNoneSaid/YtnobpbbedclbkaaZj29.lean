/-
  The program's sessions in memory: table, New, Last, Copy, key, session, walked (layer 18).
-/
import Derived.Test.YtnobpbbedclbkaaZj13
import Derived.Test.YtnobpbbedclbkaaZj25
import Derived.Test.YtnobpbbedclbkaaZj26
import Derived.Test.YtnobpbbedclbkaaZj27
import Derived.Test.YtnobpbbedclbkaaZj28
import Derived.Lib.QuietBelow
namespace Go.Proofs.Ytnobpbbedclbkaa
open Go.RowKit
set_option linter.unusedSimpArgs false
set_option linter.unusedVariables false

/-- A digit. -/
def digH (n : Nat) : UInt8 := ([48, 49, 50, 51, 52, 53, 54, 55, 56, 57, 97, 98, 99, 100, 101, 102] : List UInt8).getD n 0
theorem digH_lt (a b : Nat) (h : a < b) (hb : b < 16) : digH a < digH b := (by decide : ∀ b : Fin 16, ∀ a : Fin 16, a.val < b.val → digH a.val < digH b.val) ⟨b, hb⟩ ⟨a, by omega⟩ h
/-- The program's sessions t behind block B, their table behind Bt; all that they have in S. -/
structure SAt (S : Nat → Prop) (w : World) (B Bt : Nat) (t : Sm) : Prop where
  mine : S B
  ptr : w.heap[B]? = some (.cells #[.pointer (some ⟨Bt, 0, none⟩)] 59 (0, 0))
  tab : ∃ T, SsRel digH (fun v : Int => v) T t ∧ Sx.TAt (fun k => S k ∧ k ≠ B) w Bt T
/-- There are no sessions. -/
structure NoS (w : World) (p : Option Addr) : Prop where
  or : p = none ∨ ∃ B, p = some ⟨B, 0, none⟩ ∧ w.heap[B]? = some (.cells #[.pointer none] 59 (0, 0))
section
variable {S S' : Nat → Prop} {w w' : World} {B Bt : Nat} {t : Sm}
theorem SAt.ok (h : SAt S w B Bt t) : SmOk t := by obtain ⟨_, h1, _⟩ := h.tab; exact h1.ok
theorem SAt.lt (h : SAt S w B Bt t) : B < w.heap.size := block_lt h.ptr
theorem SAt.tlt (h : SAt S w B Bt t) : Bt < w.heap.size := by obtain ⟨_, _, h1⟩ := h.tab; exact h1.lt
theorem SAt.tmine (h : SAt S w B Bt t) : S Bt ∧ Bt ≠ B := by obtain ⟨_, _, h1⟩ := h.tab; exact h1.mine
theorem SAt.but (h : SAt S w B Bt t) (hb : But S' w w') (hS : ∀ k, S' k → ¬ S k) : SAt S w' B Bt t := by
  obtain ⟨T, h1, h2⟩ := h.tab
  exact ⟨h.mine, (hb.block B h.lt fun e => hS B e h.mine).trans h.ptr, T, h1, h2.but hb fun k e z => hS k e z.1⟩
theorem SAt.below (h : SAt S w B Bt t) (hb : Below w.heap.size w w') : SAt S w' B Bt t := h.but (S' := fun _ => False) (But.of_below hb) (fun _ h => h.elim)
theorem SAt.narrow (h : SAt S w B Bt t) (hs : ∀ k, k < w.heap.size → S k → S' k) : SAt S' w B Bt t := by
  obtain ⟨T, h1, h2⟩ := h.tab
  exact ⟨hs _ h.lt h.mine, h.ptr, T, h1, h2.narrow fun k hk z => ⟨hs k hk z.1, z.2⟩⟩
/-- The table has changed. -/
theorem SAt.turned (h : SAt S w B Bt t) {T' : Tb Int} {t' : Sm} (hr : SsRel digH (fun v : Int => v) T' t') (ht' : Sx.TAt (fun k => (S k ∧ k ≠ B) ∨ w.heap.size ≤ k) w' Bt T') (hb : But (· = Bt) w w') : SAt (fun k => S k ∨ w.heap.size ≤ k) w' B Bt t' := by
  have hl := h.lt
  refine ⟨.inl h.mine, (hb.block B hl fun e => h.tmine.2 e.symm).trans h.ptr, T', hr, ht'.narrow fun j hj hs => ?_⟩
  rcases hs with hs | hs
  · exact ⟨.inl hs.1, hs.2⟩
  · exact ⟨.inr hs, by omega⟩
theorem SAt.wide (h : SAt S w B Bt t) (hb : Below w.heap.size w w') {m : Nat} : SAt (fun k => S k ∨ m ≤ k) w' B Bt t := (h.below hb).narrow fun _ _ z => .inl z
theorem NoS.below {p : Option Addr} (h : NoS w p) (hb : Below w.heap.size w w') : NoS w' p :=
  ⟨h.or.imp id fun ⟨B, e, k⟩ => ⟨B, e, (hb.block B (block_lt k)).trans k⟩⟩
/-- Sessions that were just laid. -/
theorem SAt.laid {S' : Nat → Prop} {T : Tb Int} (hr : SsRel digH (fun v : Int => v) T t) (h : Sx.TAt S' w Bt T) (hS : ∀ k, S' k → S k) : SAt (fun k => S k ∨ w.heap.size ≤ k) (w.alloc (.cells #[.pointer (some ⟨Bt, 0, none⟩)] 59)) w.heap.size Bt t :=
  ⟨.inr (Nat.le_refl _), heap_alloc_new w _, T, hr, (h.narrow (S' := fun k => S' k ∧ k < w.heap.size) fun k hk z => ⟨z, hk⟩).below (below1 _ _ _) |>.narrow fun k _ z => ⟨.inl (hS k z.1), by omega⟩⟩
theorem table_is (k : w.heap[B]? = some (.cells #[.pointer (some ⟨Bt, 0, none⟩)] 59 (0, 0))) : Calls Try.prog 26 #[.pointer (some ⟨B, 0, none⟩)] w fun e w' => e = .returned (.pointer (some ⟨Bt, 0, none⟩)) ∧ w = w' := by
  have c0 := cellsN k 0 _ rfl
  clear k
  go_enter Try.func26, Try.ntmps26
  go_wp2
  go_ret
  exact ⟨rfl, rfl⟩
theorem table_no {p : Option Addr} (h : NoS w p) : Calls Try.prog 26 #[.pointer p] w fun e w' => e = .returned (.pointer none) ∧ w = w' := by
  rcases h.or with rfl | ⟨B, rfl, k⟩
  · clear h
    go_enter Try.func26, Try.ntmps26
    go_wp2
    go_ret
    exact ⟨rfl, rfl⟩
  · have c0 := cellsN k 0 _ rfl
    clear h k
    go_enter Try.func26, Try.ntmps26
    go_wp2
    go_ret
    exact ⟨rfl, rfl⟩
theorem snew_any (m : Int) (w : World) (hm : -9223372036854775808 ≤ m ∧ m ≤ 9223372036854775807) :
    Calls Try.prog 7 #[.int .i64 m] w fun e w' => ∃ B Bt, e = .returned (.pointer (some ⟨B, 0, none⟩)) ∧ SAt (fun k => w.heap.size ≤ k) w' B Bt ⟨mostT m, [], 0⟩ ∧ Below w.heap.size w w' := by
  have HN := Lib.hid (Sx.new_any m w hm)
  clear hm
  go_enter Try.func7, Try.ntmps7
  go_wp2_with fail
  refine HN.out.mono ?_
  rintro e w1 ⟨Bt, rfl, ht, hb⟩
  have HT := Lib.hid (SAt.laid (S := fun k => w.heap.size ≤ k) (SsRel.new m) ht fun _ z => z)
  have HB := Lib.hid (hb.alloc hb.size (.cells #[.pointer (some ⟨Bt, 0, none⟩)] 59))
  have HZ := Lib.hid hb.size
  clear ht hb HN
  go_wp2
  go_ret
  refine ⟨_, _, rfl, HT.out.narrow fun k _ z => ?_, HB.out⟩
  rcases z with z | z
  · exact z
  · exact Nat.le_trans HZ.out z
theorem slast_any (h : SAt S w B Bt t) : Calls Try.prog 19 #[.pointer (some ⟨B, 0, none⟩)] w fun e w' => e = .returned (.int .u64 (t.last : Int)) ∧ w = w' := by
  obtain ⟨_, k, T, h0, h1⟩ := h
  have HT := Lib.hid (table_is k)
  have HL := Lib.hid (Sx.last_any h1)
  have e := h0.last
  rw [e] at HL
  clear k h1 h0 e
  go_enter Try.func19, Try.ntmps19
  go_wp2_with fail
  refine HT.out.mono ?_
  rintro e w' ⟨rfl, rfl⟩
  go_wp2_with fail
  refine HL.out.mono ?_
  rintro e w' ⟨rfl, rfl⟩
  go_wp2
  go_ret
  exact ⟨rfl, rfl⟩
theorem slast_no {p : Option Addr} (h : NoS w p) : Calls Try.prog 19 #[.pointer p] w fun e w' => e = .returned (.int .u64 0) ∧ w = w' := by
  have HT := Lib.hid (table_no h)
  have HL := Lib.hid (Sx.last_no (w := w) (p := none) ⟨.inl rfl⟩)
  clear h
  go_enter Try.func19, Try.ntmps19
  go_wp2_with fail
  refine HT.out.mono ?_
  rintro e w' ⟨rfl, rfl⟩
  go_wp2_with fail
  refine HL.out.mono ?_
  rintro e w' ⟨rfl, rfl⟩
  go_wp2
  go_ret
  exact ⟨rfl, rfl⟩
theorem scopy_any (h : SAt S w B Bt t) : Calls Try.prog 16 #[.pointer (some ⟨B, 0, none⟩)] w fun e w' => ∃ B' Bc, e = .returned (.pointer (some ⟨B', 0, none⟩)) ∧ w.heap.size ≤ B' ∧ w.heap.size ≤ Bc ∧ SAt (fun k => S k ∨ w.heap.size ≤ k) w' B' Bc t ∧ Below w.heap.size w w' := by
  obtain ⟨_, k, T, h0, h1⟩ := h
  have HT := Lib.hid (table_is k)
  have HC := Lib.hid (Sx.copy_any h1)
  have HK := Lib.hid h0
  have c0 := cellsN k 0 _ rfl
  clear k h1 h0
  go_enter Try.func16, Try.ntmps16
  go_wp2_with fail
  refine HT.out.mono ?_
  rintro e w' ⟨rfl, rfl⟩
  go_wp2_with fail
  refine HC.out.mono ?_
  rintro e w1 ⟨Bc, rfl, hc, ht, hb⟩
  have HT2 := Lib.hid (SAt.laid (S := fun k => S k ∨ w.heap.size ≤ k) HK.out ht fun _ z => z.imp (·.1) id)
  have HB := Lib.hid (hb.alloc hb.size (.cells #[.pointer (some ⟨Bc, 0, none⟩)] 59))
  have HZ := Lib.hid hb.size
  have HCc := Lib.hid hc
  clear ht hb HC hc
  go_wp2
  go_ret
  refine ⟨_, _, rfl, HZ.out, HCc.out, HT2.out.narrow fun k _ z => ?_, HB.out⟩
  rcases z with z | z
  · exact z
  · exact .inr (Nat.le_trans HZ.out z)
theorem scopy_no {p : Option Addr} (h : NoS w p) : Calls Try.prog 16 #[.pointer p] w fun e w' => e = .returned (.pointer none) ∧ Below w.heap.size w w' := by
  have HT := Lib.hid (table_no h)
  clear h
  go_enter Try.func16, Try.ntmps16
  go_wp2_with fail
  refine HT.out.mono ?_
  rintro e w' ⟨rfl, rfl⟩
  go_wp2
  go_ret
  exact ⟨rfl, Below.refl _ _⟩
end
/-- The session that a row tells. -/
theorem session_any (r : Rw Int) (w : World) : Calls Try.prog 36 #[Sx.trV r] w fun e w' => e = .returned (snV (snOf (fun v : Int => v) r)) ∧ Below w.heap.size w w' := by
  unfold Sx.trV
  go_enter Try.func36, Try.ntmps36
  go_wp2
  have hk := heap_alloc_new (w.alloc (.cells #[.string r.key, .int .i64 r.val, .int .u64 (r.made : Int), .int .u64 (r.ix : Int)] 65)) (.cells #[.int .u64 (r.made : Int), .int .i64 r.val, .int .u64 (r.made : Int), .int .u64 (r.ix : Int)] TSn)
  have hs : (w.alloc (.cells #[.string r.key, .int .i64 r.val, .int .u64 (r.made : Int), .int .u64 (r.ix : Int)] 65)).heap.size = w.heap.size + 1 := by simp
  rw [hs] at hk
  obtain ⟨q0, q1, q2, q3⟩ := sn_blk hk
  refine bodyPost_ret (v := .agg #[.int .u64 (r.made : Int), .int .i64 r.val, .int .u64 (r.made : Int), .int .u64 (r.ix : Int)]) (by simp [results, Try.results36, go_sem, q0, q1, q2, q3]) rfl ⟨rfl, ((Below.refl _ w).alloc (Nat.le_refl _) _).alloc (by simp) _⟩
end Go.Proofs.Ytnobpbbedclbkaa
