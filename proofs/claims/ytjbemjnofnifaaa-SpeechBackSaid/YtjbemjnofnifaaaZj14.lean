/-
  An update, a slice of them, and a row of the call's own, in memory (layer 8).
-/
import Derived.Test.YtjbemjnofnifaaaZj11
import Derived.Test.YtjbemjnofnifaaaZj4
import Derived.Test.YtjbemjnofnifaaaZj13
namespace Go.Proofs.Ytjbemjnofnifaaa
open Go.RowKit
def okUp (s : Up) : Prop := (-9223372036854775808 ≤ s.node ∧ s.node ≤ 9223372036854775807) ∧ (s.inc < 4294967296) ∧ (-9223372036854775808 ≤ s.st ∧ s.st ≤ 9223372036854775807)
/-- It lies at ⟨b, o⟩. -/
def UpAt (w : World) (b o : Nat) (x : Up) : Prop := w.cell? ⟨b, o, none⟩ = some (.int .i64 x.node) ∧ w.cell? ⟨b, o + 1, none⟩ = some (.int .u32 (x.inc : Int)) ∧ w.cell? ⟨b, o + 2, none⟩ = some (.int .i64 x.st)
/-- The slice value '.slice A n c' reads as the steps ss. -/
def SUp (w : World) (A : Option Addr) (n : Nat) (ss : List Up) : Prop :=
  ss.length = n ∧ (0 < n → ∃ b off, A = some ⟨b, off, none⟩ ∧ b < w.heap.size ∧ ∀ j (h : j < ss.length), UpAt w b (off + j * 3) ss[j])
theorem SUp.zero (w : World) (A : Option Addr) : SUp w A 0 [] := ⟨rfl, fun h => absurd h (by omega)⟩
theorem UpAt.of_block {w w' : World} {b o : Nat} {x : Up} (h : UpAt w b o x) (hb : w'.heap[b]? = w.heap[b]?) : UpAt w' b o x := by
  obtain ⟨h0, h1, h2⟩ := h
  exact ⟨(World.cell?_of_block (a := ⟨b, o, none⟩) hb).trans h0, (World.cell?_of_block (a := ⟨b, o + 1, none⟩) hb).trans h1, (World.cell?_of_block (a := ⟨b, o + 2, none⟩) hb).trans h2⟩

def upC (x : Up) : List Value := [.int .i64 x.node, .int .u32 (x.inc : Int), .int .i64 x.st]
def upV (x : Up) : Value := .agg #[.int .i64 x.node, .int .u32 (x.inc : Int), .int .i64 x.st]
def upsC (l : List Up) : List Value := l.flatMap upC
theorem upsC_length : ∀ l : List Up, (upsC l).length = l.length * 3
  | [] => rfl
  | x :: l => by
    have := upsC_length l
    unfold upsC at this ⊢
    rw [List.flatMap_cons, List.length_append, this, List.length_cons]
    simp [upC]
    omega
theorem upsC_append (l m : List Up) : upsC (l ++ m) = upsC l ++ upsC m := by simp [upsC]
theorem upsC_one : ∀ (l : List Up), ∀ u ∈ upsC l, u.oneCell' = true := fun l u hu => by
  unfold upsC at hu
  obtain ⟨x, _, hx⟩ := List.mem_flatMap.1 hu
  simp only [upC, List.mem_cons, List.not_mem_nil, or_false] at hx
  rcases hx with rfl | rfl | rfl <;> rfl
theorem upsC_drop : ∀ (l : List Up) (k : Nat), (upsC l).drop (k * 3) = upsC (l.drop k)
  | [], k => by simp [upsC]
  | x :: l, 0 => by simp [upsC]
  | x :: l, k + 1 => by
    have := upsC_drop l k
    unfold upsC at this ⊢
    rw [List.drop_succ_cons, List.flatMap_cons, ← this, show (k + 1) * 3 = (upC x).length + k * 3 by simp [upC]; omega, List.drop_length_add_append]
theorem upsC_at {l : List Up} {k : Nat} (hk : k < l.length) (i : Nat) (hi : i < 3) : (upsC l)[k * 3 + i]? = (upC l[k])[i]? := by
  have h1 := upsC_drop l k
  rw [List.drop_eq_getElem_cons hk] at h1
  have h2 : ((upsC l).drop (k * 3))[i]? = (upsC l)[k * 3 + i]? := by rw [List.getElem?_drop]
  rw [← h2, h1, upsC, List.flatMap_cons, List.getElem?_append_left (by simpa [upC] using hi)]
/-- A row of updates that is the call's own. -/
def upRow (w : World) (base : Nat) (v : Value) (l : List Up) : Prop := w.ownsRow base 66 3 v l.length (upsC l)
theorem upRow.nil (w : World) (base : Nat) : upRow w base (.slice none 0 0) [] := World.ownsRow_nil _ _ _ _
theorem upRow.below {w w' : World} {base : Nat} {v : Value} {l : List Up} (h : upRow w base v l) (hb : Below w.heap.size w w') : upRow w' base v l := bown_keep h hb
theorem up_info : (Try.prog.info? 66).map (fun i => (i.zero, i.size, i.bytes)) = some (some (.agg #[.int .i64 0, .int .u32 0, .int .i64 0]), 3, 24) := by kernel_rfl
theorem up_zc : (Value.agg #[.int .i64 0, .int .u32 0, .int .i64 0]).cells.size = 3 := by rfl
theorem SUp.of_block {w w' : World} {A : Option Addr} {n : Nat} {ss : List Up} (h : SUp w A n ss) (hb : Below w.heap.size w w') : SUp w' A n ss :=
  ⟨h.1, fun hn => by
    obtain ⟨b, off, e, hlt, hc⟩ := h.2 hn
    exact ⟨b, off, e, Nat.lt_of_lt_of_le hlt hb.size, fun j hj => (hc j hj).of_block (hb.block b hlt)⟩⟩
theorem SUp.at_ {w : World} {A : Option Addr} {n : Nat} {ss : List Up} (h : SUp w A n ss) {k : Nat} (hk : k < n) (hk' : k < ss.length) : ∃ b off, A = some ⟨b, off, none⟩ ∧ b < w.heap.size ∧ UpAt w b (off + k * 3) ss[k] := by
  obtain ⟨b, off, e, hb, hc⟩ := h.2 (by omega)
  exact ⟨b, off, e, hb, hc k hk'⟩
theorem SUp.take {w : World} {A : Option Addr} {n : Nat} {ss : List Up} (h : SUp w A n ss) {k : Nat} (hk : k ≤ n) : SUp w A k (ss.take k) := by
  have hl := h.1
  refine ⟨by rw [List.length_take]; omega, fun hk0 => ?_⟩
  obtain ⟨b, off, e, hlt, hc⟩ := h.2 (by omega)
  refine ⟨b, off, e, hlt, fun j hj => ?_⟩
  rw [List.length_take] at hj
  rw [List.getElem_take]
  exact hc j (by omega)
/-- A row of the call's own reads as a slice. -/
theorem SUp.of_row {w : World} {base : Nat} {v : Value} {l : List Up} (h : upRow w base v l) : ∃ A c, v = .slice A l.length c ∧ SUp w A l.length l ∧ l.length ≤ c ∧ c ≤ maxLen := by
  have h0 := h
  rcases h.2 with ⟨rfl, h1⟩ | ⟨g, cap, cur, rfl, hg, hh, hnc, hm, hsz, ht⟩
  · rw [h1]
    exact ⟨none, 0, rfl, ⟨h1, fun h => absurd h (Nat.lt_irrefl _)⟩, Nat.le_refl _, Nat.zero_le _⟩
  · refine ⟨some ⟨g, 0, none⟩, cap, rfl, ⟨rfl, fun _ => ⟨g, 0, rfl, block_lt hh, fun j hj => ?_⟩⟩, hnc, hm⟩
    have hc := World.ownsRow.cells h0 (g := g) rfl
    have key : ∀ i u, i < 3 → (upC l[j])[i]? = some u → w.cell? ⟨g, 0 + j * 3 + i, none⟩ = some u := fun i u hi hu => by
      have := hc (j * 3 + i) u (by rw [upsC_at hj i hi]; exact hu)
      rwa [plain_add, ← Nat.add_assoc] at this
    exact ⟨key 0 _ (by decide) rfl, key 1 _ (by decide) rfl, key 2 _ (by decide) rfl⟩
/-- The new block of an update. -/
theorem up_new (w : World) (x : Up) (T : TypeId) : UpAt (w.alloc (.cells #[.int .i64 x.node, .int .u32 (x.inc : Int), .int .i64 x.st] T)) w.heap.size 0 x := by
  have hh := heap_alloc_new w (.cells #[.int .i64 x.node, .int .u32 (x.inc : Int), .int .i64 x.st] T)
  refine ⟨?_, ?_, ?_⟩ <;> (rw [cell_of_row _ _ _ _ _ _ hh]; rfl)
end Go.Proofs.Ytjbemjnofnifaaa

/-
  Blocks of three cells; loads from the middle of a block; append of an update: of whatever program that has updates (layer 8).
-/
namespace Go.Proofs.Ytjbemjnofnifaaa
open Go.RowKit
set_option linter.unusedSimpArgs false
set_option linter.unusedVariables false

theorem below2 (w : World) (o p : Obj) : Below w.heap.size w ((w.alloc o).alloc p) := ((Below.refl _ w).alloc (Nat.le_refl _) _).alloc (by simp) _
theorem below1 (w : World) (o : Obj) : Below w.heap.size w (w.alloc o) := (Below.refl _ w).alloc (Nat.le_refl _) _
theorem ret_bool {a b : Bool} (h : a = b) : Ending.returned (.bool a) = .returned (.bool b) := by rw [h]
theorem Up.right_iff (u : Up) : u.right = true ↔ 0 ≤ u.node ∧ u.node < 8 ∧ (u.st = 0 ∨ u.st = 1 ∨ u.st = 2 ∨ u.st = 3) := by unfold Up.right; simp
theorem wrap_u64 (n : Nat) (h : n < 18446744073709551616) : IntKind.u64.wrap (n : Int) = (n : Int) := by
  simp [IntKind.wrap, IntKind.signed, IntKind.bits]
  omega
theorem wrap_u32 (n : Nat) (h : n < 4294967296) : IntKind.u32.wrap (n : Int) = (n : Int) := by
  simp [IntKind.wrap, IntKind.signed, IntKind.bits]
  omega
theorem set3_blk {W : World} {X : Nat} {u0 u1 u2 : Value} {t : TypeId} (h : W.heap[X]? = some (.cells #[u0, u1, u2] t (0, 0))) (a b c : Value) :
    (((W.setCell ⟨X, 0, none⟩ a).setCell ⟨X, 1, none⟩ b).setCell ⟨X, 2, none⟩ c).heap[X]? = some (.cells #[a, b, c] t (0, 0)) := block_set (block_set (block_set h 0 a) 1 b) 2 c
theorem blk3 {W : World} {X : Nat} {a b c : Value} {t : TypeId} (h : W.heap[X]? = some (.cells #[a, b, c] t (0, 0))) : W.cell? ⟨X, 0, none⟩ = some a ∧ W.cell? ⟨X, 1, none⟩ = some b ∧ W.cell? ⟨X, 2, none⟩ = some c := by
  refine ⟨?_, ?_, ?_⟩ <;> (rw [cell_of_row _ _ _ _ _ _ h]; rfl)
theorem blk_froz {W : World} {X : Nat} {cur : Array Value} {t : TypeId} (h : W.heap[X]? = some (.cells cur t (0, 0))) (i : Nat) : W.frozen? ⟨X, i, none⟩ = false := by simp [World.frozen?, h]
theorem UpAt.below {w w' : World} {X o : Nat} {x : Up} (h : UpAt w X o x) (hb : Below w.heap.size w w') : UpAt w' X o x := by
  have hlt : X < w.heap.size := bcell_lt h.1
  exact h.of_block (hb.block X hlt)
/-- An array or a struct is loaded from the middle of a block. -/
theorem run_loadVar_at {P : Program} (w : World) (g off : Nat) (ty : TypeId) (cs : Array Value) (d : TypeDesc) (hc : ∀ j v, cs[j]? = some v → w.cell? ⟨g, off + j, none⟩ = some v)
    (hu : P.underlying ty = some d) (hd : (match d with | .struct _ | .array _ _ => true | _ => false) = true) (hi : (P.info? ty).map (·.size) = some cs.size) :
    (loadVar ty ⟨g, off, none⟩).run P w = .ok (.agg cs) w := by
  have hl : (loadCells ⟨g, off, none⟩ cs.toList.length).run P w = .ok cs.toList.toArray w :=
    run_loadCells_list (P := P) w ⟨g, off, none⟩ cs.toList (fun j v hv => by
      rw [plain_add]
      exact hc j v (by simpa using hv))
  cases hq : P.info? ty with
  | none => simp [hq] at hi
  | some i =>
    have hs : i.size = cs.size := by simpa [hq] using hi
    have hagg : (isAgg ty).run P w = .ok true w := by
      unfold isAgg
      rw [Sem.run_bind, run_underlying hu w]
      cases d <;> simp_all
    simp only [Array.length_toList, Array.toArray_toList] at hl
    simp [loadVar, Sem.run_bind, hagg, sizeOf, typeInfo, hq, hs, hl]
theorem wpList_load_at {P : Program} {ops : Array Oper} {rest : List Oper} {o : Oper} {a : Act} {w : World} {Q : Exit → Act → World → Prop} (hgd : o.guard = none) (ty : TypeId) (x : Operand) (ho : o.op = .load ty x)
    (g off : Nat) (hx : a.eval x = .pointer (some ⟨g, off, none⟩)) (cs : Array Value) (d : TypeDesc) (hc : ∀ j v, cs[j]? = some v → w.cell? ⟨g, off + j, none⟩ = some v)
    (hu : P.underlying ty = some d) (hd : (match d with | .struct _ | .array _ _ => true | _ => false) = true) (hi : (P.info? ty).map (·.size) = some cs.size)
    (h : Hid (wpList P ops Q rest (a.put o.dst (.agg cs)) w)) : wpList P ops Q (o :: rest) a w :=
  wpList_plain hgd fun _ hK => by
    unfold Oper.wp execOp
    simp only [ho, hx, Instr.loadAt, Instr.sureAddr, Sem.run_bind, Sem.run_pure, Result.andThen_ok, run_loadVar_at w g off ty cs d hc hu hd hi]
    exact hK _ _ h.out
/-- append of one update, from a block that was just laid. -/
theorem wpList_append_up {w : World} {ops : Array Oper} {rest : List Oper} {o : Oper} {a : Act} {Q : Exit → Act → World → Prop} (hgd : o.guard = none) (s x : Operand)
    (ho : o.op = .call { callee := .builtin .append, args := #[s, x], argTypes := #[23, 23] })
    (base : Nat) (v : Value) (l : List Up) (hs : a.eval s = v) (hown : upRow w base v l) (X : Nat) (y : Up) (hx : a.eval x = .slice (some ⟨X, 0, none⟩) 1 1) (hc : UpAt w X 0 y)
    (hl : l.length ≤ 1000) (hbase : base ≤ w.heap.size)
    (h : Hid (∀ v' w', upRow w' base v' (l ++ [y]) → w.grownBy w' v.ownBlock → wpList Try.prog ops Q rest (a.put o.dst v') w')) : wpList Try.prog ops Q (o :: rest) a w := by
  obtain ⟨i0, hi, hz0, hz1, hz2⟩ := info_parts up_info
  refine wpList_append_own w hgd s x _ ho base 66 i0 _ 3 24 Try.underlying23 hi hz0 hz1 hz2 up_zc (by decide) v l.length (upsC l) hs hown ⟨X, 0, none⟩ 1 1 (upC y) hx rfl (fun j u hu => ?_) (fun u hu => upsC_one [y] u (by simpa [upsC] using hu)) (by unfold maxLen; omega) (by omega) hbase (fun v' w' h2 h3 _ => h.out v' w' ?_ h3)
  · rw [plain_add, Nat.zero_add]
    obtain ⟨h0, h1, h2⟩ := hc
    match j, hu with
    | 0, hu => simp only [upC, List.getElem?_cons_zero, Option.some.injEq] at hu; subst hu; exact h0
    | 1, hu => simp only [upC, List.getElem?_cons_succ, List.getElem?_cons_zero, Option.some.injEq] at hu; subst hu; exact h1
    | 2, hu => simp only [upC, List.getElem?_cons_succ, List.getElem?_cons_zero, Option.some.injEq] at hu; subst hu; exact h2
  · unfold upRow
    rw [upsC_append, List.length_append]
    have e : upsC [y] = upC y := by simp [upsC]
    rw [e]
    exact h2
end Go.Proofs.Ytjbemjnofnifaaa
