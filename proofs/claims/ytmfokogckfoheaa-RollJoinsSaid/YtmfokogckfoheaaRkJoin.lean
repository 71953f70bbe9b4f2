/-
  The program's Join (layer 8).
-/
import Derived.Test.YtmfokogckfoheaaRkTab
import Derived.Laws.CopyOwn
namespace Go.Proofs.Ytmfokogckfoheaa
open Go.RowKit
set_option linter.unusedSimpArgs false
set_option linter.unusedVariables false

theorem SUp.lt {w : World} {A : Option Addr} {n : Nat} {ss : List Up} (h : SUp w A n ss) (hn : 0 < n) {b off : Nat} (e : A = some ⟨b, off, none⟩) : b < w.heap.size := by
  obtain ⟨b', off', e', hlt, _⟩ := h.2 hn
  rw [e] at e'
  simp only [Option.some.injEq, Addr.mk.injEq] at e'
  omega
/-- The merger's cells, as it is laid, and as it is made. -/
def mgSlots : Array Value := (Array.replicate 8 (#[Value.int .i64 0, .int .u32 0, .int .i64 0, .bool false] : Array Value)).flatten
def mgZ : Array Value := #[.nilFunc] ++ mgSlots
def mgC : Array Value := #[abvV] ++ mgSlots
theorem mg_built : Try.prog.built 79 [(0, abvV)] = some mgC := by kernel_rfl
theorem mg_zero (w : World) : (zeroValue 79).run Try.prog w = .ok (.agg mgZ) w := by kernel_rfl
theorem mg_size : mgC.size = 33 ∧ mgZ.size = mgC.size := ⟨by kernel_rfl, by kernel_rfl⟩
theorem mg_info : (Try.prog.info? 79).map (·.size) = some mgC.size := by kernel_rfl
theorem mg_one : mgC.all (·.oneCell') = true := by kernel_rfl
theorem mg_slot (k : Nat) (hk : k < 8) : mgC[1 + k * 4]? = some (.int .i64 0) ∧ mgC[1 + k * 4 + 1]? = some (.int .u32 0) ∧ mgC[1 + k * 4 + 2]? = some (.int .i64 0) ∧ mgC[1 + k * 4 + 3]? = some (.bool false) := by
  have h : k = 0 ∨ k = 1 ∨ k = 2 ∨ k = 3 ∨ k = 4 ∨ k = 5 ∨ k = 6 ∨ k = 7 := by omega
  rcases h with rfl | rfl | rfl | rfl | rfl | rfl | rfl | rfl <;> exact ⟨by kernel_rfl, by kernel_rfl, by kernel_rfl, by kernel_rfl⟩
theorem mg_fn : mgC[0]? = some abvV := by kernel_rfl
theorem MgAt.new (w : World) : MgAt ((w.alloc (.cells mgZ 79)).setRow w.heap.size mgC) w.heap.size [] mgC :=
  ⟨setRow_heap _ _ _ _ _ _ (heap_alloc_new w _), mg_size.1, mg_fn, fun k hk => mg_slot k hk⟩
theorem wpList_build_as {P : Program} {ops : Array Oper} {rest : List Oper} {o : Oper} {a : Act} {w : World} {Q : Exit → Act → World → Prop} (hg : o.guard = none) (t : TypeId) (parts : Array (Nat × Operand)) (ho : o.op = .build t parts) (cs : Array Value)
    (hb : P.built t (parts.map fun (i, x) => (i, a.eval x)).toList = some cs) (h : Hid (wpList P ops Q rest (a.put o.dst (.agg cs)) w)) : wpList P ops Q (o :: rest) a w :=
  wpList_build hg t parts ho (by rw [hb]; rfl) (by rw [hb]; exact h.out)
theorem wpList_store_rowh {P : Program} {ops : Array Oper} {rest : List Oper} {o : Oper} {a : Act} {w : World} {Q : Exit → Act → World → Prop} (hgd : o.guard = none) (ty : TypeId) (x y : Operand) (ho : o.op = .store ty x y)
    (g : Nat) (cells : Array Value) (hx : a.eval x = .pointer (some ⟨g, 0, none⟩)) (hy : a.eval y = .agg cells)
    (t : TypeId) (old : Array Value) (hg : w.heap[g]? = some (.cells old t (0, 0))) (hi : (P.info? ty).map (·.size) = some cells.size)
    (hold : old.size = cells.size) (h1 : cells.all (·.oneCell') = true)
    (h : Hid (wpList P ops Q rest (a.put o.dst undef) (w.setRow g cells))) : wpList P ops Q (o :: rest) a w := wpList_store_row hgd ty x y ho g cells hx hy t old hg hi hold h1 h.out
set_option maxHeartbeats 8000000 in
theorem join_any (A : Option Addr) (n c : Nat) (l : List Up) (A2 : Option Addr) (n2 c2 : Nat) (l2 : List Up) (w : World) (hS : SUp w A n l) (hnc : n ≤ c) (hm : c ≤ maxLen) (hS2 : SUp w A2 n2 l2) (hnc2 : n2 ≤ c2) (hm2 : c2 ≤ maxLen) :
    Calls Try.prog 26 #[.slice A n c, .slice A2 n2 c2] w fun e w' => (∃ v, e = .returned v ∧ upRow w' w.heap.size v (joinU l l2)) ∧ Below w.heap.size w w' := by
  have h0 := MgAt.new w
  obtain ⟨W0, hW0⟩ : ∃ W0, (w.alloc (.cells mgZ 79)).setRow w.heap.size mgC = W0 := ⟨_, rfl⟩
  have hb0 : Below w.heap.size w W0 := by rw [← hW0]; exact below_setRow (below1 _ _) (Nat.le_refl _) _
  have hs0 : W0.heap.size = w.heap.size + 1 := by rw [← hW0]; simp
  rw [hW0] at h0
  obtain ⟨M, hM⟩ : ∃ M, w.heap.size = M := ⟨_, rfl⟩
  have HA1 := Lib.hid (add_any w.heap.size A n c l [] _ W0 h0 (hS.of_block hb0) hnc hm (fun hn b off e => by have := hS.lt hn e; omega))
  have HS2 := Lib.hid (hS2.of_block hb0)
  have HNe2 := Lib.hid (show 0 < n2 → ∀ b off, A2 = some ⟨b, off, none⟩ → b ≠ M from fun hn b off e => by have := hS2.lt hn e; omega)
  have HB0 := Lib.hid hb0
  have HS0 := Lib.hid hs0
  have HW0 := Lib.hid hW0
  have HM := Lib.hid hM
  have HNc := Lib.hid hnc2
  have HNm := Lib.hid hm2
  have HN0 := Lib.hid (heap_alloc_new w (.cells mgZ 79))
  have hz := mg_zero
  have hne : ¬ mgZ = #[] := fun h => by
    have h1 := mg_size.2.trans mg_size.1
    rw [h] at h1
    cases h1
  rw [hM] at HA1
  clear h0 hW0 hb0 hs0 hM hS hS2 hnc hnc2 hm hm2
  go_enter Try.func26, Try.ntmps26
  go_wp2_with (first | (refine wpList_build_as rfl 79 _ rfl mgC mg_built ?_; refine Lib.hid ?_) | (refine wpList_store_rowh rfl 79 _ _ rfl w.heap.size mgC rfl rfl 79 mgZ HN0.out mg_info mg_size.2 mg_one ?_; refine Lib.hid ?_) | fail)
  rw [HW0.out, HM.out]
  refine HA1.out.mono ?_
  clear HA1 hz
  rintro e w1 ⟨rfl, ⟨cur1, hg1⟩, hb1⟩
  rw [List.nil_append] at hg1
  have hS2' : SUp w1 A2 n2 l2 := ⟨HS2.out.1, fun hn => by
    obtain ⟨b, off, e, hlt, hc⟩ := HS2.out.2 hn
    exact ⟨b, off, e, Nat.lt_of_lt_of_le hlt hb1.size, fun j hj => (hc j hj).of_block (hb1.block b hlt (HNe2.out hn b off e))⟩⟩
  have HA2 := Lib.hid (add_any M A2 n2 c2 l2 l cur1 w1 hg1 hS2' HNc.out HNm.out HNe2.out)
  have HB1 := Lib.hid hb1
  clear hg1 hb1 hS2'
  go_wp2_with fail
  refine HA2.out.mono ?_
  clear HA2
  rintro e w2 ⟨rfl, ⟨cur2, hg2⟩, hb2⟩
  have HT := Lib.hid (table_any M (l ++ l2) cur2 w2 hg2)
  have HB2 := Lib.hid (HB1.out.trans hb2)
  clear hg2 hb2
  go_wp2_with fail
  refine HT.out.mono ?_
  clear HT
  rintro e w3 ⟨⟨v, rfl, hv⟩, hb3⟩
  have HV := Lib.hid hv
  have HB3 := Lib.hid hb3
  clear hv hb3
  go_wp2
  go_ret
  have hz := HB2.out.size
  refine ⟨⟨_, rfl, bown_base HV.out (by have := HS0.out; omega)⟩, ?_⟩
  have h1 : Below w.heap.size w w2 := HB0.out.trans (HB2.out.below (by have := HS0.out; omega) (fun k hk e => by have := HM.out; omega))
  exact h1.trans (HB3.out.mono (by have := HS0.out; omega))
end Go.Proofs.Ytmfokogckfoheaa
