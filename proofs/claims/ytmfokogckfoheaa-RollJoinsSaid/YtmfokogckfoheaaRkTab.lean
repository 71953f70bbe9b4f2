/-
  The program's merger: table; Join (layer 8).
-/
import Derived.Test.YtmfokogckfoheaaRkAdd
namespace Go.Proofs.Ytmfokogckfoheaa
open Go.RowKit
set_option linter.unusedSimpArgs false
set_option linter.unusedVariables false

/-- An array or a struct is loaded from the middle of a block. -/
theorem run_loadVar_at {P : Program} (w : World) (g off : Nat) (ty : TypeId) (cs : Array Value) (d : TypeDesc) (hc : ∀ j v, cs[j]? = some v → w.cell? ⟨g, off + j, none⟩ = some v)
    (hu : P.underlying ty = some d) (hd : (match d with | .struct _ | .array _ _ => true | _ => false) = true) (hi : (P.info? ty).map (·.size) = some cs.size) :
    (loadVar ty ⟨g, off, none⟩).run P w = .ok (.agg cs) w := by
  have hl : (loadCells ⟨g, off, none⟩ cs.toList.length).run P w = .ok cs.toList.toArray w :=
    run_loadCells_list (P := P) w ⟨g, off, none⟩ cs.toList (fun j v hv => by
      rw [plain_add]
      exact hc j v (by simpa using hv))
  cases hq : P.info? ty with
  | none => simp [hq] at hi
  | some i =>
    have hs : i.size = cs.size := by simpa [hq] using hi
    have hagg : (isAgg ty).run P w = .ok true w := by
      unfold isAgg
      rw [Sem.run_bind, run_underlying hu w]
      cases d <;> simp_all
    simp only [Array.length_toList, Array.toArray_toList] at hl
    simp [loadVar, Sem.run_bind, hagg, sizeOf, typeInfo, hq, hs, hl]
theorem wpList_load_at {P : Program} {ops : Array Oper} {rest : List Oper} {o : Oper} {a : Act} {w : World} {Q : Exit → Act → World → Prop} (hgd : o.guard = none) (ty : TypeId) (x : Operand) (ho : o.op = .load ty x)
    (g off : Nat) (hx : a.eval x = .pointer (some ⟨g, off, none⟩)) (cs : Array Value) (d : TypeDesc) (hc : ∀ j v, cs[j]? = some v → w.cell? ⟨g, off + j, none⟩ = some v)
    (hu : P.underlying ty = some d) (hd : (match d with | .struct _ | .array _ _ => true | _ => false) = true) (hi : (P.info? ty).map (·.size) = some cs.size)
    (h : Hid (wpList P ops Q rest (a.put o.dst (.agg cs)) w)) : wpList P ops Q (o :: rest) a w :=
  wpList_plain hgd fun _ hK => by
    unfold Oper.wp execOp
    simp only [ho, hx, Instr.loadAt, Instr.sureAddr, Sem.run_bind, Sem.run_pure, Result.andThen_ok, run_loadVar_at w g off ty cs d hc hu hd hi]
    exact hK _ _ h.out
/-- append of one update, from a block that was just laid. -/
theorem wpList_append_up {w : World} {ops : Array Oper} {rest : List Oper} {o : Oper} {a : Act} {Q : Exit → Act → World → Prop} (hgd : o.guard = none) (s x : Operand)
    (ho : o.op = .call { callee := .builtin .append, args := #[s, x], argTypes := #[44, 44] })
    (base : Nat) (v : Value) (l : List Up) (hs : a.eval s = v) (hown : upRow w base v l) (X : Nat) (y : Up) (hx : a.eval x = .slice (some ⟨X, 0, none⟩) 1 1) (hc : UpAt w X 0 y)
    (hl : l.length ≤ 1000) (hbase : base ≤ w.heap.size)
    (h : Hid (∀ v' w', upRow w' base v' (l ++ [y]) → w.grownBy w' v.ownBlock → wpList Try.prog ops Q rest (a.put o.dst v') w')) : wpList Try.prog ops Q (o :: rest) a w := by
  obtain ⟨i0, hi, hz0, hz1, hz2⟩ := info_parts up_info
  refine wpList_append_own w hgd s x _ ho base 32 i0 _ 3 24 Try.underlying44 hi hz0 hz1 hz2 up_zc (by decide) v l.length (upsC l) hs hown ⟨X, 0, none⟩ 1 1 (upC y) hx rfl (fun j u hu => ?_) (fun u hu => upsC_one [y] u (by simpa [upsC] using hu)) (by unfold maxLen; omega) (by omega) hbase (fun v' w' h2 h3 _ => h.out v' w' ?_ h3)
  · rw [plain_add, Nat.zero_add]
    obtain ⟨h0, h1, h2⟩ := hc
    match j, hu with
    | 0, hu => simp only [upC, List.getElem?_cons_zero, Option.some.injEq] at hu; subst hu; exact h0
    | 1, hu => simp only [upC, List.getElem?_cons_succ, List.getElem?_cons_zero, Option.some.injEq] at hu; subst hu; exact h1
    | 2, hu => simp only [upC, List.getElem?_cons_succ, List.getElem?_cons_zero, Option.some.injEq] at hu; subst hu; exact h2
  · unfold upRow
    rw [upsC_append, List.length_append]
    have e : upsC [y] = upC y := by simp [upsC]
    rw [e]
    exact h2
/-- A slot of the array that was read. -/
theorem slot_index (w : World) (sc : Array Value) (k : Nat) (hk : k < 8) (u : Up) (r : Bool) (h0 : sc[k * 4]? = some (.int .i64 u.node)) (h1 : sc[k * 4 + 1]? = some (.int .u32 (u.inc : Int))) (h2 : sc[k * 4 + 2]? = some (.int .i64 u.st)) (h3 : sc[k * 4 + 3]? = some (.bool r)) :
    (Instr.index 77 (.agg sc) (.int .i64 (k : Int))).run Try.prog w = .ok (.agg #[.int .i64 u.node, .int .u32 (u.inc : Int), .int .i64 u.st, .bool r]) w := by
  have hu : Try.prog.underlying 77 = some (.array 8 76) := by kernel_rfl
  have hs : (sizeOf 76).run Try.prog w = .ok 4 w := by kernel_rfl
  have hg : (isAgg 76).run Try.prog w = .ok true w := by kernel_rfl
  have he : sc.extract (k * 4) (k * 4 + 4) = #[.int .i64 u.node, .int .u32 (u.inc : Int), .int .i64 u.st, .bool r] := by
    apply Array.ext_getElem?
    intro i
    obtain ⟨l3, _⟩ := Array.getElem?_eq_some_iff.1 h3
    rw [Array.getElem?_extract]
    match i with
    | 0 => rw [if_pos (by omega)]; exact h0
    | 1 => rw [if_pos (by omega)]; exact h1
    | 2 => rw [if_pos (by omega)]; exact h2
    | 3 => rw [if_pos (by omega)]; exact h3
    | i + 4 => rw [if_neg (by omega)]; simp
  have q : (0 : Int) ≤ (k : Int) ∧ (k : Int) < ((8 : Nat) : Int) := by omega
  unfold Instr.index
  simp only [asIntOf, Sem.run_bind, Sem.run_pure, Result.andThen_ok, run_underlying hu, if_pos q, hs, part, hg, Int.toNat_natCast, if_true, he]
set_option maxHeartbeats 8000000 in
theorem table_any (M : Nat) (L : List Up) (cur : Array Value) (w : World) (hM : MgAt w M L cur) :
    Calls Try.prog 38 #[.pointer (some ⟨M, 0, none⟩)] w fun e w' => (∃ v, e = .returned v ∧ upRow w' w.heap.size v (table L)) ∧ Below w.heap.size w w' := by
  obtain ⟨sc, hsc⟩ : ∃ sc, cur.extract 1 33 = sc := ⟨_, rfl⟩
  have hsz : sc.size = 32 := by rw [← hsc, Array.size_extract, hM.size]; rfl
  have hcs : ∀ j, sc[j]? = if j < 32 then cur[1 + j]? else none := fun j => by
    rw [← hsc, Array.getElem?_extract, hM.size]
    rfl
  have hslot : ∀ k : Nat, k < 8 → sc[k * 4]? = some (.int .i64 (slotU (bestOf (k : Int) L)).node) ∧ sc[k * 4 + 1]? = some (.int .u32 ((slotU (bestOf (k : Int) L)).inc : Int)) ∧ sc[k * 4 + 2]? = some (.int .i64 (slotU (bestOf (k : Int) L)).st) ∧ sc[k * 4 + 3]? = some (.bool (bestOf (k : Int) L).isSome) := fun k hk => by
    obtain ⟨h0, h1, h2, h3⟩ := hM.slot k hk
    exact ⟨by rw [hcs, if_pos (by omega)]; exact h0, by rw [hcs, if_pos (by omega), ← Nat.add_assoc]; exact h1, by rw [hcs, if_pos (by omega), ← Nat.add_assoc]; exact h2, by rw [hcs, if_pos (by omega), ← Nat.add_assoc]; exact h3⟩
  have HLoad : Hid (∀ j v, sc[j]? = some v → w.cell? ⟨M, 1 + j, none⟩ = some v) := Lib.hid (fun j v hj => by
    rw [hcs] at hj
    split at hj
    · exact blk_cells hM.blk _ _ hj
    · cases hj)
  have HSlot := Lib.hid hslot
  have HSz := Lib.hid hsz
  have HI : Hid ((Try.prog.info? 77).map (·.size) = some sc.size) := Lib.hid (by rw [hsz]; kernel_rfl)
  clear hM hsc hsz hcs hslot
  go_enter Try.func38, Try.ntmps38
  go_wp2_with (refine wpList_load_at rfl 77 _ rfl M 1 rfl sc _ HLoad.out Try.underlying77 rfl HI.out ?_)
  refine Lib.hid ?_
  go_wp2
  go_loopw [3, 5, 10] (fun v s i wr => ∃ k : Nat, k ≤ 8 ∧ i = .int .i64 (k : Int) ∧ Hid (upRow wr w.heap.size v (tableTo k L)) ∧ Hid (Below w.heap.size w wr)) (fun _ _ i _ => 8 - (intOf i).toNat)
  case atStart => exact ⟨0, Nat.zero_le _, rfl, Lib.hid (upRow.nil _ _), Lib.hid (Below.refl _ _)⟩
  case round =>
    obtain ⟨k, hk, rfl, hv, hb⟩ := hrel
    by_cases hlt : k < 8
    · have hlen := Lib.hid (tableTo_len k L)
      have sg := slot_guard
      obtain ⟨g0, g1, g2, g3⟩ := HSlot.out k hlt
      cases hsl : bestOf (k : Int) L with
      | none =>
        have hT := Lib.hid (tableTo_succ k L)
        rw [hsl] at g0 g1 g2 g3 hT
        have hix : ∀ w, (Instr.index 77 (.agg sc) (.int .i64 (k : Int))).run Try.prog w = .ok (.agg #[.int .i64 0, .int .u32 0, .int .i64 0, .bool false]) w := fun w => slot_index w sc k hlt ⟨0, 0, 0⟩ false g0 g1 g2 g3
        have se : ∀ w, (Op.equalIn 10000 76 (.agg #[.int .i64 0, .int .u32 0, .int .i64 0, .bool false]) (.agg #[.int .i64 0, .int .u32 0, .int .i64 0, .bool false])).run Try.prog w = .ok true w := fun w => slot_eq ⟨0, 0, 0⟩ false w (fun _ => rfl)
        clear g0 g1 g2 g3 hsl
        go_wp2
        go_roundw
        case rel => exact ⟨k + 1, by omega, by go_num, Lib.hid (by rw [hT.out, List.append_nil]; exact hv.out.below (below1 _ _)), Lib.hid (hb.out.alloc hb.out.size _)⟩
        case measure => simp [intOf]; omega
      | some y =>
        have hT := Lib.hid (tableTo_succ k L)
        rw [hsl] at g0 g1 g2 g3 hT
        have hix : ∀ w, (Instr.index 77 (.agg sc) (.int .i64 (k : Int))).run Try.prog w = .ok (.agg #[.int .i64 y.node, .int .u32 (y.inc : Int), .int .i64 y.st, .bool true]) w := fun w => slot_index w sc k hlt y true g0 g1 g2 g3
        have se : ∀ w, (Op.equalIn 10000 76 (.agg #[.int .i64 y.node, .int .u32 (y.inc : Int), .int .i64 y.st, .bool true]) (.agg #[.int .i64 0, .int .u32 0, .int .i64 0, .bool false])).run Try.prog w = .ok false w := fun w => slot_eq y true w (fun h => by cases h)
        clear g0 g1 g2 g3 hsl
        go_wp2_with (at_builtin; refine wpList_append_up rfl _ _ rfl w.heap.size _ (tableTo k L) rfl ?qa (wr.heap.size + 1) y rfl ?qb ?qc ?qd ?_)
        case qa => exact (hv.out.below (below1 _ _)).below (below1 _ _)
        case qb =>
          have := up_new (wr.alloc (.cells #[.int .i64 y.node, .int .u32 (y.inc : Int), .int .i64 y.st, .bool true] 76)) y 32
          simpa using this
        case qc => have := hlen.out; omega
        case qd => have := hb.out.size; simp; omega
        refine Lib.hid ?_
        intro v' w' hown hg
        have HOwn := Lib.hid hown
        have HB' : Hid (Below w.heap.size w w') := Lib.hid (((hb.out.alloc hb.out.size _).alloc (by have := hb.out.size; simp; omega) _).grown hg (by have := hb.out.size; simp; omega) (by intro r hr; rcases hv.out.2 with ⟨e, _⟩ | ⟨g, _, _, e, hge, _⟩ <;> rw [e] at hr <;> cases hr; exact hge))
        clear hown hg
        go_wp2
        go_roundw
        case rel => exact ⟨k + 1, by omega, by go_num, Lib.hid (by rw [hT.out]; exact HOwn.out), HB'⟩
        case measure => simp [intOf]; omega
    · obtain rfl : k = 8 := by omega
      go_wp2
      go_ret
      exact ⟨⟨_, rfl, hv.out⟩, hb.out⟩
end Go.Proofs.Ytmfokogckfoheaa
