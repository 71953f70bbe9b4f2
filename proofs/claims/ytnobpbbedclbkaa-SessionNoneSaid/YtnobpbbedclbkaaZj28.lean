/-
  Sessions in memory, compared, appended (layer 18).
-/
import Derived.Test.YtnobpbbedclbkaaZj8
import Derived.Test.YtnobpbbedclbkaaZj7
import Derived.Laws.StructEq
namespace Go.Proofs.Ytnobpbbedclbkaa
open Go.RowKit
set_option linter.unusedSimpArgs false
set_option linter.unusedVariables false

abbrev TSn : TypeId := 48
def snC (x : Sn) : List Value := [.int .u64 (x.id : Int), .int .i64 x.node, .int .u64 (x.made : Int), .int .u64 (x.ix : Int)]
def snV (x : Sn) : Value := .agg #[.int .u64 (x.id : Int), .int .i64 x.node, .int .u64 (x.made : Int), .int .u64 (x.ix : Int)]
theorem snC_len (x : Sn) : (snC x).length = 4 := rfl
theorem snC_one (x : Sn) : ∀ u ∈ snC x, u.oneCell' = true := by
  intro u hu
  simp only [snC, List.mem_cons, List.not_mem_nil, or_false] at hu
  rcases hu with rfl | rfl | rfl | rfl <;> rfl
theorem sn_cells {w : World} {b o : Nat} {x : Sn} (h : ItAt snC w b o x) : w.cell? ⟨b, o, none⟩ = some (.int .u64 (x.id : Int)) ∧ w.cell? ⟨b, o + 1, none⟩ = some (.int .i64 x.node) ∧ w.cell? ⟨b, o + 2, none⟩ = some (.int .u64 (x.made : Int)) ∧ w.cell? ⟨b, o + 3, none⟩ = some (.int .u64 (x.ix : Int)) :=
  ⟨h 0 _ rfl, h 1 _ rfl, h 2 _ rfl, h 3 _ rfl⟩
theorem sn_blk {w : World} {b : Nat} {c0 c1 c2 c3 : Value} {t : TypeId} (h : w.heap[b]? = some (.cells #[c0, c1, c2, c3] t (0, 0))) : w.cell? ⟨b, 0, none⟩ = some c0 ∧ w.cell? ⟨b, 1, none⟩ = some c1 ∧ w.cell? ⟨b, 2, none⟩ = some c2 ∧ w.cell? ⟨b, 3, none⟩ = some c3 :=
  ⟨cellsN h 0 _ rfl, cellsN h 1 _ rfl, cellsN h 2 _ rfl, cellsN h 3 _ rfl⟩
theorem sn_info : (Try.prog.info? TSn).map (fun i => (i.zero, i.size, i.bytes)) = some (some (.agg #[.int .u64 0, .int .i64 0, .int .u64 0, .int .u64 0]), 4, 32) := by kernel_rfl
abbrev snRow (w : World) (base : Nat) (v : Value) (l : List Sn) : Prop := rowK snC TSn 4 w base v l
/-- append of one to a row of the call's own. -/
theorem wpList_append_sn {w : World} {ops : Array Oper} {rest : List Oper} {o : Oper} {a : Act} {Q : Exit → Act → World → Prop} (hgd : o.guard = none) (s x : Operand)
    (ho : o.op = .call { callee := .builtin .append, args := #[s, x], argTypes := #[42, 42] })
    (base : Nat) (v : Value) (l : List Sn) (hs : a.eval s = v) (hown : snRow w base v l) (X : Nat) (y : Sn) (hx : a.eval x = .slice (some ⟨X, 0, none⟩) 1 1) (hc : ItAt snC w X 0 y)
    (hl : l.length ≤ 1000000) (hbase : base ≤ w.heap.size)
    (h : Hid (∀ v' w', snRow w' base v' (l ++ [y]) → w.grownBy w' v.ownBlock → wpList Try.prog ops Q rest (a.put o.dst v') w')) : wpList Try.prog ops Q (o :: rest) a w := by
  obtain ⟨i0, hi, hz0, hz1, hz2⟩ := info_parts sn_info
  exact wpList_append_k hgd s x _ ho i0 _ 32 Try.underlying42 hi hz0 hz1 hz2 rfl (by decide) snC_len snC_one base v l hs hown X y hx hc (by unfold maxLen; omega) (by omega) hbase h
theorem sn_new (w : World) (x : Sn) (T : TypeId) : ItAt snC (w.alloc (.cells #[.int .u64 (x.id : Int), .int .i64 x.node, .int .u64 (x.made : Int), .int .u64 (x.ix : Int)] T)) w.heap.size 0 x := ItAt.of_new x _ rfl T
theorem snRow.snoc {w0 wr w' : World} {base : Nat} {v : Value} {l : List Sn} (h : snRow wr base v l) (hb : Below base w0 wr) (hB : base ≤ wr.heap.size) {o : Obj} (hg : (wr.alloc o).grownBy w' v.ownBlock) : Below base w0 w' :=
  (hb.alloc hB o).grown hg (by simp; omega) fun _ e => (h.from _ e).1
theorem sn_fields : Try.prog.underlying TSn = some (.struct (Try.prog.fieldsOf TSn)) := by kernel_rfl
theorem sn_stood : Try.prog.stoodInHeld TSn = false := by kernel_rfl
theorem sn_flds : (Try.prog.fieldsOf TSn).toList.map (fun f => (f.name, f.type, f.offset)) = [("Id", 27, 0), ("Node", 3, 1), ("Make", 27, 2), ("Index", 27, 3)] := by kernel_rfl
theorem sn_guard : Try.prog.eqGuardType Try.prog.depth TSn = false := by kernel_rfl
/-- Are two the same? -/
def eqSn (a b : Sn) : Bool := a.id == b.id && (a.node == b.node && (a.made == b.made && (a.ix == b.ix)))
theorem eqSn_iff (a b : Sn) : eqSn a b = true ↔ a = b := by
  unfold eqSn
  constructor
  · intro h
    simp only [Bool.and_eq_true, beq_iff_eq] at h
    obtain ⟨h0, h1, h2, h3⟩ := h
    obtain ⟨a0, a1, a2, a3⟩ := a
    obtain ⟨b0, b1, b2, b3⟩ := b
    simp only at h0 h1 h2 h3
    rw [h0, h1, h2, h3]
  · rintro rfl
    simp
theorem eqSn_ne {a b : Sn} (h : a ≠ b) : eqSn a b = false := by
  rw [Bool.eq_false_iff]
  exact fun e => h ((eqSn_iff a b).1 e)
theorem sn_list {α : Type} {l : List α} (h : l.length = 4) : ∃ f0 f1 f2 f3, l = [f0, f1, f2, f3] := by
  match l, h with
  | [f0, f1, f2, f3], _ => exact ⟨f0, f1, f2, f3, rfl⟩
theorem sn_eq (a b : Sn) (w : World) : (Op.equalIn 10000 TSn (snV a) (snV b)).run Try.prog w = .ok (eqSn a b) w := by
  unfold snV
  rw [run_equalIn_struct w 9999 _ _ _ sn_fields sn_stood]
  have h := sn_flds
  generalize (Try.prog.fieldsOf TSn).toList = fs at h
  have hl := congrArg List.length h
  rw [List.length_map] at hl
  obtain ⟨f0, f1, f2, f3, rfl⟩ := sn_list hl
  simp only [List.map_cons, List.map_nil, List.cons.injEq, Prod.mk.injEq, and_true] at h
  obtain ⟨⟨n0, t0, o0⟩, ⟨n1, t1, o1⟩, ⟨n2, t2, o2⟩, ⟨n3, t3, o3⟩⟩ := h
  simp only [Op.eqFields, n0, t0, o0, n1, t1, o1, n2, t2, o2, n3, t3, o3]
  unfold eqSn
  by_cases k0 : a.id = b.id
  · by_cases k1 : a.node = b.node
    · by_cases k2 : a.made = b.made
      · by_cases k3 : a.ix = b.ix
        · simp [go_sem, k0, k1, k2, k3]
        · have g3 : ¬ (a.ix : Int) = (b.ix : Int) := by omega
          simp [go_sem, k0, k1, k2, k3, g3]
      · have g2 : ¬ (a.made : Int) = (b.made : Int) := by omega
        simp [go_sem, k0, k1, k2, g2]
    · have g1 : ¬ (a.node : Int) = (b.node : Int) := by omega
      simp [go_sem, k0, k1, g1]
  · have g0 : ¬ (a.id : Int) = (b.id : Int) := by omega
    simp [go_sem, k0, g0]
end Go.Proofs.Ytnobpbbedclbkaa
