/-
  Next of the program's ring, walked (layer 12).
-/
import Derived.Test.YtckeknhoimgccaaPrBegin
namespace Go.Proofs.Ytckeknhoimgccaa
open Go.RowKit
set_option linter.unusedSimpArgs false
set_option linter.unusedVariables false

theorem nextno_ring (v vd : Value) (A2 : Option Addr) (n2 c2 : Nat) (w : World) (h : NoRg w v) : Calls Try.prog 15 #[v, .slice A2 n2 c2, vd] w fun e w' => e = .returned (.tuple #[.int .i64 0, .bool false]) ∧ Below w.heap.size w w' := by
  obtain ⟨W1, hW1⟩ : ∃ W1, (w.alloc (.cells #[v] 24)).alloc (.cells #[.slice A2 n2 c2] 27) = W1 := ⟨_, rfl⟩
  have hb1 : Below w.heap.size w W1 := by rw [← hW1]; exact ((Below.refl _ w).alloc (Nat.le_refl _) _).alloc (by simp) _
  have k0 : W1.heap[w.heap.size]? = some (.cells #[v] 24 (0, 0)) := by
    rw [← hW1, heap_alloc_old _ _ (by simp)]
    exact heap_alloc_new w _
  have c0 : W1.cell? ⟨w.heap.size, 0, none⟩ = some v := by rw [cell_of_row _ _ _ _ _ _ k0]; rfl
  have HM := Lib.hid (made_no v W1 (h.below hb1))
  have HB := Lib.hid hb1
  have HW := Lib.hid hW1
  have hv : ∃ a, v = .pointer a := by
    rcases h with e | ⟨B, e, _⟩
    · exact ⟨_, e⟩
    · exact ⟨_, e⟩
  clear h hb1 k0 hW1
  obtain ⟨a, rfl⟩ := hv
  go_enter Try.func15, Try.ntmps15
  go_wp2_with fail
  rw [HW.out]
  go_step3
  go_wp2_with fail
  refine HM.out.mono ?_
  rintro e w' ⟨rfl, rfl⟩
  go_wp2
  try rw [Exit.noGoto_ret]
  go_ret2
  exact ⟨rfl, HB.out⟩
/-- What Next gives. -/
def NextP (S : Nat → Prop) (B : Nat) (vd : Value) (g : Rg) (d : Dr) (live : List Int) (w : World) (e : Ending) (w' : World) : Prop :=
  e = .returned (.tuple #[.int .i64 (g.asked live d).1, .bool (g.asked live d).2.1]) ∧ RgAt true S w' B (g.asked live d).2.2 ∧ DwAt S w' vd (d.asked g live) ∧ But (fun k => k = B ∨ Tgt vd k) w w'
/-- What stands as the boxes of Next have been laid. -/
structure NxW (S : Nat → Prop) (B X : Nat) (vd : Value) (A2 : Option Addr) (n2 c2 : Nat) (live : List Int) (w0 w : World) (g : Rg) (d : Dr) : Prop where
  ring : RgAt true S w B g
  dw : DwAt S w vd d
  lst : Lst S w A2 n2 c2 live
  b0 : w.heap[X]? = some (.cells #[.pointer (some ⟨B, 0, none⟩)] 24 (0, 0))
  b1 : w.heap[X + 1]? = some (.cells #[.slice A2 n2 c2] 27 (0, 0))
  but : But (fun k => k = B ∨ Tgt vd k) w0 w
  size : X + 1 < w.heap.size
  lt : ∀ k, S k → k < X
  ne : ¬ Tgt vd B
section
variable {S : Nat → Prop} {B X : Nat} {vd : Value} {A2 : Option Addr} {n2 c2 : Nat} {live : List Int} {w0 w w' : World} {g g' : Rg} {d d' : Dr}
theorem NxW.move (h : NxW S B X vd A2 n2 c2 live w0 w g d) (hb : But (fun k => k = B ∨ Tgt vd k) w w') (h1 : RgAt true S w' B g') (h2 : DwAt S w' vd d') : NxW S B X vd A2 n2 c2 live w0 w' g' d' := by
  have hS : ∀ k, (k = B ∨ Tgt vd k) → S k := fun k hk => hk.elim (fun e => by rw [e]; exact h.ring.mine) (fun e => h.dw.names k e)
  have hX : ¬ (X = B ∨ Tgt vd X) := fun e => by have := h.lt X (hS X e); omega
  have hX1 : ¬ (X + 1 = B ∨ Tgt vd (X + 1)) := fun e => by have := h.lt (X + 1) (hS _ e); omega
  exact ⟨h1, h2, h.lst.but hb hS, (hb.block X (by have := h.size; omega) hX).trans h.b0, (hb.block (X + 1) h.size hX1).trans h.b1, h.but.trans hb, Nat.lt_of_lt_of_le h.size hb.size, h.lt, h.ne⟩
theorem NxW.search (h : NxW S B X vd A2 n2 c2 live w0 w g d) {o : Option (Int × Nat)} (ho : scan live g.row g.at_ = o) :
    Calls Try.prog 30 #[.pointer (some ⟨X, 0, none⟩), .pointer (some ⟨X + 1, 0, none⟩)] w fun e w' => e = .returned (foundV o) ∧ NxW S B X vd A2 n2 c2 live w0 w' (foundG g o) d := by
  rw [← ho]
  have hB := h.lt B h.ring.mine
  refine (search_any A2 n2 c2 live w h.ring h.lst h.b0 h.b1 ⟨by omega, by omega⟩).mono ?_
  rintro e w' ⟨rfl, h1, h2⟩
  exact ⟨rfl, h.move (h2.mono fun k e => .inl e) h1 (h.dw.but h2 (fun k e => by rw [e]; exact h.ring.mine) (fun k e ht => h.ne (e ▸ ht)))⟩
theorem NxW.begin (h : NxW S B X vd A2 n2 c2 live w0 w g d) :
    Calls Try.prog 31 #[.pointer (some ⟨B, 0, none⟩), vd] w fun e w' => e = .returned (.tuple #[]) ∧ NxW S B X vd A2 n2 c2 live w0 w' (g.again d) (d.afterO g.row.length) := by
  refine (begin_any vd w h.ring h.dw (fun k hk => by have := h.lt k hk; have := h.size; omega) h.ne).mono ?_
  rintro e w' ⟨rfl, h1, h2, h3⟩
  exact ⟨rfl, h.move h3 h1 h2⟩
theorem NxW.cell (h : NxW S B X vd A2 n2 c2 live w0 w g d) : w.cell? ⟨X, 0, none⟩ = some (.pointer (some ⟨B, 0, none⟩)) := by
  rw [cell_of_row _ _ _ _ _ _ h.b0]
  rfl
end
set_option maxHeartbeats 4000000 in
set_option maxRecDepth 100000 in
theorem next_one {S : Nat → Prop} {B X : Nat} {vd : Value} {A2 : Option Addr} {n2 c2 : Nat} {live : List Int} {w W1 : World} {g : Rg} {d : Dr} (hX : Hid (w.heap.size = X)) (hW : Hid ((w.alloc (.cells #[.pointer (some ⟨B, 0, none⟩)] 24)).alloc (.cells #[.slice A2 n2 c2] 27) = W1))
    (h : NxW S B X vd A2 n2 c2 live w W1 g d) {x : Int} {k : Nat} (hs : scan live g.row g.at_ = some (x, k)) : Calls Try.prog 15 #[.pointer (some ⟨B, 0, none⟩), .slice A2 n2 c2, vd] w (NextP S B vd g d live w) := by
  have HM : Hid (Calls Try.prog 25 #[.pointer (some ⟨B, 0, none⟩)] W1 fun e w' => e = .returned (.bool true) ∧ W1 = w') := Lib.hid (by
    obtain ⟨_, A, c, hi⟩ := h.ring
    exact made_yes W1 hi)
  have HS := Lib.hid (h.search hs)
  have c0 := h.cell
  have HA := Lib.hid (Rg.asked_first (d := d) hs)
  clear h hs
  go_enter Try.func15, Try.ntmps15
  go_wp2_with fail
  rw [hW.out, hX.out]
  go_step3
  go_wp2_with fail
  refine HM.out.mono ?_
  rintro e w' ⟨rfl, rfl⟩
  go_wp2_with fail
  go_step3
  go_wp2_with fail
  refine wp_loop_rounds 1 ?_
  rw [rounds_succ]
  go_wp2_with fail
  refine HS.out.mono ?_
  rintro e w2 ⟨rfl, hn⟩
  have HN := Lib.hid hn
  clear hn c0
  unfold foundV
  go_wp2
  try rw [Exit.noGoto_ret]
  go_ret2
  unfold NextP
  rw [HA.out.1, HA.out.2]
  exact ⟨rfl, HN.out.ring, HN.out.dw, HN.out.but⟩
set_option maxHeartbeats 4000000 in
set_option maxRecDepth 100000 in
theorem next_two {S : Nat → Prop} {B X : Nat} {vd : Value} {A2 : Option Addr} {n2 c2 : Nat} {live : List Int} {w W1 : World} {g : Rg} {d : Dr} (hX : Hid (w.heap.size = X)) (hW : Hid ((w.alloc (.cells #[.pointer (some ⟨B, 0, none⟩)] 24)).alloc (.cells #[.slice A2 n2 c2] 27) = W1))
    (h : NxW S B X vd A2 n2 c2 live w W1 g d) {x : Int} {k : Nat} (hs : scan live g.row g.at_ = none) (hs2 : scan live (g.again d).row 0 = some (x, k)) : Calls Try.prog 15 #[.pointer (some ⟨B, 0, none⟩), .slice A2 n2 c2, vd] w (NextP S B vd g d live w) := by
  have HM : Hid (Calls Try.prog 25 #[.pointer (some ⟨B, 0, none⟩)] W1 fun e w' => e = .returned (.bool true) ∧ W1 = w') := Lib.hid (by
    obtain ⟨_, A, c, hi⟩ := h.ring
    exact made_yes W1 hi)
  have HS := Lib.hid (h.search hs)
  have c0 := h.cell
  have HA := Lib.hid (Rg.asked_second (d := d) hs hs2)
  have HS2 : Hid (scan live (Rg.again ⟨g.row, g.row.length⟩ d).row (Rg.again ⟨g.row, g.row.length⟩ d).at_ = some (x, k)) := Lib.hid hs2
  clear h hs hs2
  go_enter Try.func15, Try.ntmps15
  go_wp2_with fail
  rw [hW.out, hX.out]
  go_step3
  go_wp2_with fail
  refine HM.out.mono ?_
  rintro e w' ⟨rfl, rfl⟩
  go_wp2_with fail
  go_step3
  go_wp2_with fail
  refine wp_loop_rounds 2 ?_
  rw [rounds_succ]
  go_wp2_with fail
  refine HS.out.mono ?_
  rintro e w2 ⟨rfl, hn⟩
  have c2' := hn.cell
  have HBg := Lib.hid hn.begin
  clear hn c0
  unfold foundV
  go_wp2_with fail
  refine HBg.out.mono ?_
  rintro e w3 ⟨rfl, hn3⟩
  have HS3 := Lib.hid (NxW.search hn3 HS2.out)
  clear hn3 c2'
  go_wp2_with fail
  rw [rounds_succ]
  go_wp2_with fail
  refine HS3.out.mono ?_
  rintro e w4 ⟨rfl, hn4⟩
  have HN := Lib.hid hn4
  clear hn4
  unfold foundV
  go_wp2
  try rw [Exit.noGoto_ret]
  go_ret2
  unfold NextP
  rw [HA.out.1, HA.out.2]
  exact ⟨rfl, HN.out.ring, HN.out.dw, HN.out.but⟩
set_option maxHeartbeats 4000000 in
set_option maxRecDepth 100000 in
theorem next_none {S : Nat → Prop} {B X : Nat} {vd : Value} {A2 : Option Addr} {n2 c2 : Nat} {live : List Int} {w W1 : World} {g : Rg} {d : Dr} (hX : Hid (w.heap.size = X)) (hW : Hid ((w.alloc (.cells #[.pointer (some ⟨B, 0, none⟩)] 24)).alloc (.cells #[.slice A2 n2 c2] 27) = W1))
    (h : NxW S B X vd A2 n2 c2 live w W1 g d) (hs : scan live g.row g.at_ = none) (hs2 : scan live (g.again d).row 0 = none) : Calls Try.prog 15 #[.pointer (some ⟨B, 0, none⟩), .slice A2 n2 c2, vd] w (NextP S B vd g d live w) := by
  have HM : Hid (Calls Try.prog 25 #[.pointer (some ⟨B, 0, none⟩)] W1 fun e w' => e = .returned (.bool true) ∧ W1 = w') := Lib.hid (by
    obtain ⟨_, A, c, hi⟩ := h.ring
    exact made_yes W1 hi)
  have HS := Lib.hid (h.search hs)
  have c0 := h.cell
  have HA := Lib.hid (Rg.asked_none (d := d) hs hs2)
  have HS2 : Hid (scan live (Rg.again ⟨g.row, g.row.length⟩ d).row (Rg.again ⟨g.row, g.row.length⟩ d).at_ = none) := Lib.hid hs2
  clear h hs hs2
  go_enter Try.func15, Try.ntmps15
  go_wp2_with fail
  rw [hW.out, hX.out]
  go_step3
  go_wp2_with fail
  refine HM.out.mono ?_
  rintro e w' ⟨rfl, rfl⟩
  go_wp2_with fail
  go_step3
  go_wp2_with fail
  refine wp_loop_rounds 3 ?_
  rw [rounds_succ]
  go_wp2_with fail
  refine HS.out.mono ?_
  rintro e w2 ⟨rfl, hn⟩
  have c2' := hn.cell
  have HBg := Lib.hid hn.begin
  clear hn c0
  unfold foundV
  go_wp2_with fail
  refine HBg.out.mono ?_
  rintro e w3 ⟨rfl, hn3⟩
  have HS3 := Lib.hid (NxW.search hn3 HS2.out)
  clear hn3 c2'
  go_wp2_with fail
  rw [rounds_succ]
  go_wp2_with fail
  refine HS3.out.mono ?_
  rintro e w4 ⟨rfl, hn4⟩
  have HN := Lib.hid hn4
  clear hn4
  unfold foundV
  go_wp2
  rw [rounds_succ]
  go_wp2
  try rw [Exit.noGoto_ret]
  go_ret2
  unfold NextP
  rw [HA.out.1, HA.out.2]
  exact ⟨rfl, HN.out.ring, HN.out.dw, HN.out.but⟩
theorem next_any {S : Nat → Prop} {B : Nat} {g : Rg} {d : Dr} (vd : Value) (A2 : Option Addr) (n2 c2 : Nat) (live : List Int) (w : World) (h : RgAt true S w B g) (hd : DwAt S w vd d) (hl : Lst S w A2 n2 c2 live) (hS : ∀ k, S k → k < w.heap.size) (hne : ¬ Tgt vd B) :
    Calls Try.prog 15 #[.pointer (some ⟨B, 0, none⟩), .slice A2 n2 c2, vd] w (NextP S B vd g d live w) := by
  obtain ⟨X, hX⟩ : ∃ X, w.heap.size = X := ⟨_, rfl⟩
  obtain ⟨W1, hW1⟩ : ∃ W1, (w.alloc (.cells #[.pointer (some ⟨B, 0, none⟩)] 24)).alloc (.cells #[.slice A2 n2 c2] 27) = W1 := ⟨_, rfl⟩
  have hb1 : Below w.heap.size w W1 := by rw [← hW1]; exact ((Below.refl _ w).alloc (Nat.le_refl _) _).alloc (by simp) _
  have k0 : W1.heap[X]? = some (.cells #[.pointer (some ⟨B, 0, none⟩)] 24 (0, 0)) := by
    rw [← hW1, heap_alloc_old _ _ (by simp [hX]), ← hX]
    exact heap_alloc_new w _
  have hs1 : (w.alloc (.cells #[.pointer (some ⟨B, 0, none⟩)] 24)).heap.size = X + 1 := by simp [hX]
  have k1 : W1.heap[X + 1]? = some (.cells #[.slice A2 n2 c2] 27 (0, 0)) := by
    rw [← hW1, ← hs1]
    exact heap_alloc_new _ _
  have hn : NxW S B X vd A2 n2 c2 live w W1 g d := ⟨h.below hb1, hd.below hb1, hl.below hb1, k0, k1, But.of_below hb1, block_lt k1, (fun k hk => by rw [← hX]; exact hS k hk), hne⟩
  cases hs : scan live g.row g.at_ with
  | some xk =>
    obtain ⟨x, k⟩ := xk
    exact next_one (Lib.hid hX) (Lib.hid hW1) hn hs
  | none =>
    cases hs2 : scan live (g.again d).row 0 with
    | some xk =>
      obtain ⟨x, k⟩ := xk
      exact next_two (Lib.hid hX) (Lib.hid hW1) hn hs hs2
    | none => exact next_none (Lib.hid hX) (Lib.hid hW1) hn hs hs2
end Go.Proofs.Ytckeknhoimgccaa
