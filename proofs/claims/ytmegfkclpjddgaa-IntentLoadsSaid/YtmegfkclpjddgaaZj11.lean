/-
  Intentions in memory, compared, appended (layer 17).
-/
import Derived.Test.YtmegfkclpjddgaaZj5
import Derived.Test.YtmegfkclpjddgaaZj10
import Derived.Laws.StructEq
namespace Go.Proofs.Ytmegfkclpjddgaa
open Go.RowKit
set_option linter.unusedSimpArgs false
set_option linter.unusedVariables false

abbrev TIn : TypeId := 45
def irC (x : Ir) : List Value := [.string x.src, .string x.dst, .bool x.allow, .int .u64 (x.made : Int), .int .u64 (x.ix : Int)]
def irV (x : Ir) : Value := .agg #[.string x.src, .string x.dst, .bool x.allow, .int .u64 (x.made : Int), .int .u64 (x.ix : Int)]
theorem irC_len (x : Ir) : (irC x).length = 5 := rfl
theorem irC_one (x : Ir) : ∀ u ∈ irC x, u.oneCell' = true := by
  intro u hu
  simp only [irC, List.mem_cons, List.not_mem_nil, or_false] at hu
  rcases hu with rfl | rfl | rfl | rfl | rfl <;> rfl
theorem ir_cells {w : World} {b o : Nat} {x : Ir} (h : ItAt irC w b o x) : w.cell? ⟨b, o, none⟩ = some (.string x.src) ∧ w.cell? ⟨b, o + 1, none⟩ = some (.string x.dst) ∧ w.cell? ⟨b, o + 2, none⟩ = some (.bool x.allow) ∧ w.cell? ⟨b, o + 3, none⟩ = some (.int .u64 (x.made : Int)) ∧ w.cell? ⟨b, o + 4, none⟩ = some (.int .u64 (x.ix : Int)) :=
  ⟨h 0 _ rfl, h 1 _ rfl, h 2 _ rfl, h 3 _ rfl, h 4 _ rfl⟩
theorem ir_blk {w : World} {b : Nat} {c0 c1 c2 c3 c4 : Value} {t : TypeId} (h : w.heap[b]? = some (.cells #[c0, c1, c2, c3, c4] t (0, 0))) : w.cell? ⟨b, 0, none⟩ = some c0 ∧ w.cell? ⟨b, 1, none⟩ = some c1 ∧ w.cell? ⟨b, 2, none⟩ = some c2 ∧ w.cell? ⟨b, 3, none⟩ = some c3 ∧ w.cell? ⟨b, 4, none⟩ = some c4 :=
  ⟨cellsN h 0 _ rfl, cellsN h 1 _ rfl, cellsN h 2 _ rfl, cellsN h 3 _ rfl, cellsN h 4 _ rfl⟩
theorem ir_info : (Try.prog.info? TIn).map (fun i => (i.zero, i.size, i.bytes)) = some (some (.agg #[.string ⟨#[]⟩, .string ⟨#[]⟩, .bool false, .int .u64 0, .int .u64 0]), 5, 56) := by kernel_rfl
abbrev irRow (w : World) (base : Nat) (v : Value) (l : List Ir) : Prop := rowK irC TIn 5 w base v l
/-- append of one to a row of the call's own. -/
theorem wpList_append_ir {w : World} {ops : Array Oper} {rest : List Oper} {o : Oper} {a : Act} {Q : Exit → Act → World → Prop} (hgd : o.guard = none) (s x : Operand)
    (ho : o.op = .call { callee := .builtin .append, args := #[s, x], argTypes := #[32, 32] })
    (base : Nat) (v : Value) (l : List Ir) (hs : a.eval s = v) (hown : irRow w base v l) (X : Nat) (y : Ir) (hx : a.eval x = .slice (some ⟨X, 0, none⟩) 1 1) (hc : ItAt irC w X 0 y)
    (hl : l.length ≤ 1000000) (hbase : base ≤ w.heap.size)
    (h : Hid (∀ v' w', irRow w' base v' (l ++ [y]) → w.grownBy w' v.ownBlock → wpList Try.prog ops Q rest (a.put o.dst v') w')) : wpList Try.prog ops Q (o :: rest) a w := by
  obtain ⟨i0, hi, hz0, hz1, hz2⟩ := info_parts ir_info
  exact wpList_append_k hgd s x _ ho i0 _ 56 Try.underlying32 hi hz0 hz1 hz2 rfl (by decide) irC_len irC_one base v l hs hown X y hx hc (by unfold maxLen; omega) (by omega) hbase h
theorem ir_new (w : World) (x : Ir) (T : TypeId) : ItAt irC (w.alloc (.cells #[.string x.src, .string x.dst, .bool x.allow, .int .u64 (x.made : Int), .int .u64 (x.ix : Int)] T)) w.heap.size 0 x := ItAt.of_new x _ rfl T
theorem irRow.snoc {w0 wr w' : World} {base : Nat} {v : Value} {l : List Ir} (h : irRow wr base v l) (hb : Below base w0 wr) (hB : base ≤ wr.heap.size) {o : Obj} (hg : (wr.alloc o).grownBy w' v.ownBlock) : Below base w0 w' :=
  (hb.alloc hB o).grown hg (by simp; omega) fun _ e => (h.from _ e).1
theorem ir_fields : Try.prog.underlying TIn = some (.struct (Try.prog.fieldsOf TIn)) := by kernel_rfl
theorem ir_stood : Try.prog.stoodInHeld TIn = false := by kernel_rfl
theorem ir_flds : (Try.prog.fieldsOf TIn).toList.map (fun f => (f.name, f.type, f.offset)) = [("Src", 9, 0), ("Dst", 9, 1), ("Allow", 4, 2), ("Make", 28, 3), ("Index", 28, 4)] := by kernel_rfl
theorem ir_guard : Try.prog.eqGuardType Try.prog.depth TIn = false := by kernel_rfl
/-- Are two the same? -/
def eqIr (a b : Ir) : Bool := a.src.toList == b.src.toList && (a.dst.toList == b.dst.toList && (a.allow == b.allow && (a.made == b.made && (a.ix == b.ix))))
theorem eqIr_iff (a b : Ir) : eqIr a b = true ↔ a = b := by
  unfold eqIr
  constructor
  · intro h
    simp only [Bool.and_eq_true, beq_iff_eq] at h
    obtain ⟨h0, h1, h2, h3, h4⟩ := h
    replace h0 := text_same.1 (beq_iff_eq.2 h0)
    replace h1 := text_same.1 (beq_iff_eq.2 h1)
    obtain ⟨a0, a1, a2, a3, a4⟩ := a
    obtain ⟨b0, b1, b2, b3, b4⟩ := b
    simp only at h0 h1 h2 h3 h4
    rw [h0, h1, h2, h3, h4]
  · rintro rfl
    simp
theorem eqIr_ne {a b : Ir} (h : a ≠ b) : eqIr a b = false := by
  rw [Bool.eq_false_iff]
  exact fun e => h ((eqIr_iff a b).1 e)
theorem ir_list {α : Type} {l : List α} (h : l.length = 5) : ∃ f0 f1 f2 f3 f4, l = [f0, f1, f2, f3, f4] := by
  match l, h with
  | [f0, f1, f2, f3, f4], _ => exact ⟨f0, f1, f2, f3, f4, rfl⟩
theorem ir_eq (a b : Ir) (w : World) : (Op.equalIn 10000 TIn (irV a) (irV b)).run Try.prog w = .ok (eqIr a b) w := by
  unfold irV
  rw [run_equalIn_struct w 9999 _ _ _ ir_fields ir_stood]
  have h := ir_flds
  generalize (Try.prog.fieldsOf TIn).toList = fs at h
  have hl := congrArg List.length h
  rw [List.length_map] at hl
  obtain ⟨f0, f1, f2, f3, f4, rfl⟩ := ir_list hl
  simp only [List.map_cons, List.map_nil, List.cons.injEq, Prod.mk.injEq, and_true] at h
  obtain ⟨⟨n0, t0, o0⟩, ⟨n1, t1, o1⟩, ⟨n2, t2, o2⟩, ⟨n3, t3, o3⟩, ⟨n4, t4, o4⟩⟩ := h
  simp only [Op.eqFields, n0, t0, o0, n1, t1, o1, n2, t2, o2, n3, t3, o3, n4, t4, o4]
  unfold eqIr
  cases k0 : (a.src.toList == b.src.toList)
  · simp [go_sem, k0]
  · cases k1 : (a.dst.toList == b.dst.toList)
    · simp [go_sem, k0, k1]
    · by_cases k2 : a.allow = b.allow
      · by_cases k3 : a.made = b.made
        · by_cases k4 : a.ix = b.ix
          · simp [go_sem, k0, k1, k2, k3, k4]
          · have g4 : ¬ (a.ix : Int) = (b.ix : Int) := by omega
            simp [go_sem, k0, k1, k2, k3, k4, g4]
        · have g3 : ¬ (a.made : Int) = (b.made : Int) := by omega
          simp [go_sem, k0, k1, k2, k3, g3]
      · simp [go_sem, k0, k1, k2]
/-- Bounds of an intention that is there. -/
structure Ir.In (x : Ir) : Prop where
  src : x.src.size ≤ maxLen
  dst : x.dst.size ≤ maxLen
  made : x.made < 18446744073709551616
  ix : x.ix < 18446744073709551616
end Go.Proofs.Ytmegfkclpjddgaa
