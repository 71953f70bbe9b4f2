/-
  A command in memory (layer 20): its own cells, its tags, and what lies behind its Subs.
-/
import Derived.Test.YtbhhalkpghcflaaZj4
import Derived.Test.YtbhhalkpghcflaaZj7
import Derived.Test.YtbhhalkpghcflaaZj3
import Derived.Deep.MidRow
namespace Go.Proofs.Ytbhhalkpghcflaa
open Go.RowKit
set_option linter.unusedSimpArgs false
set_option linter.unusedVariables false

abbrev TCm : TypeId := 26
/-- A command's own words. -/
structure CmW where
  kind : Int
  node : Int
  port : Int
  status : Int
  id : List UInt8
  name : List UInt8
  svc : List UInt8
  note : List UInt8
  key : List UInt8
  val : List UInt8
  src : List UInt8
  dst : List UInt8
  tA : Option Addr
  tn : Nat
  tc : Nat
  allow : Bool
  old : Nat
  ses : Nat
  sA : Option Addr
  sn : Nat
  sc : Nat
def cmC (x : CmW) : List Value := [.int .i64 x.kind, .int .i64 x.node, .int .i64 x.port, .int .i64 x.status, strV x.id, strV x.name, strV x.svc, strV x.note, strV x.key, strV x.val, strV x.src, strV x.dst, .slice x.tA x.tn x.tc, .bool x.allow, .int .u64 (x.old : Int), .int .u64 (x.ses : Int), .slice x.sA x.sn x.sc]
def cmV (x : CmW) : Value := .agg #[.int .i64 x.kind, .int .i64 x.node, .int .i64 x.port, .int .i64 x.status, strV x.id, strV x.name, strV x.svc, strV x.note, strV x.key, strV x.val, strV x.src, strV x.dst, .slice x.tA x.tn x.tc, .bool x.allow, .int .u64 (x.old : Int), .int .u64 (x.ses : Int), .slice x.sA x.sn x.sc]
theorem cmC_len (x : CmW) : (cmC x).length = 17 := rfl
theorem cmC_one (x : CmW) : ∀ u ∈ cmC x, u.oneCell' = true := fun u hu => by
  simp only [cmC, List.mem_cons, List.not_mem_nil, or_false] at hu
  rcases hu with rfl | rfl | rfl | rfl | rfl | rfl | rfl | rfl | rfl | rfl | rfl | rfl | rfl | rfl | rfl | rfl | rfl <;> rfl
def CmW.nums (x : CmW) : List Int := [x.node, x.port, x.status]
def CmW.texts (x : CmW) : List (List UInt8) := [x.id, x.name, x.svc, x.note, x.key, x.val, x.src, x.dst]
/-- What may stand in a command's words. -/
structure CmS (x : CmW) : Prop where
  kind : -9223372036854775808 ≤ x.kind ∧ x.kind ≤ 9223372036854775807
  nums : ∀ z ∈ x.nums, -9223372036854775808 ≤ z ∧ z ≤ 9223372036854775807
  texts : ∀ s ∈ x.texts, s.length ≤ maxLen
  old : x.old < 18446744073709551616
  ses : x.ses < 18446744073709551616
  tn : x.tn ≤ maxLen
  sn : x.sn ≤ maxLen
/-- A command with its tags. -/
structure Cm0 (w : World) (x : CmW) (tags : List (List UInt8)) : Prop where
  small : CmS x
  row : RV w x.tA x.tn (tags.map strV)
  lens : ∀ s ∈ tags, s.length ≤ maxLen
/-- A command with its tags and what it is made of. -/
structure Cm1 (w : World) (x : CmW) (tags : List (List UInt8)) (subs : List (CmW × List (List UInt8))) : Prop where
  top : Cm0 w x tags
  row : SK cmC 17 w x.sA x.sn (subs.map (·.1))
  each : ∀ y ∈ subs, Cm0 w y.1 y.2
section
variable {w w' : World} {x : CmW} {tags : List (List UInt8)} {subs : List (CmW × List (List UInt8))}
theorem Cm0.below (h : Cm0 w x tags) (hb : Below w.heap.size w w') : Cm0 w' x tags := ⟨h.small, h.row.below hb, h.lens⟩
theorem Cm1.below (h : Cm1 w x tags subs) (hb : Below w.heap.size w w') : Cm1 w' x tags subs := ⟨h.top.below hb, h.row.below hb, fun y hy => (h.each y hy).below hb⟩
theorem Cm0.len (h : Cm0 w x tags) : tags.length = x.tn := by simpa using h.row.1
theorem Cm1.len (h : Cm1 w x tags subs) : subs.length = x.sn := by simpa using h.row.1
theorem cm_load {b o : Nat} (h : ItAt cmC w b o x) : (Instr.loadAt TCm (.pointer (some ⟨b, o, none⟩))).run Try.prog w = .ok (cmV x) w :=
  run_loadAt_mid w b o TCm (cmC x) _ h Try.underlying26 rfl (by kernel_rfl)
end
end Go.Proofs.Ytbhhalkpghcflaa
/-
  Which commands may be (layer 20), as the document's Right reckons it. Nothing of any program stands here.
-/
namespace Go.Proofs.Ytbhhalkpghcflaa
set_option linter.unusedSimpArgs false
set_option linter.unusedVariables false

def hasX (k : Int) (i : Nat) : Bool := hasB k.toNat i
def kindOk (k : Int) : Bool := decide (1 ≤ k) && decide (k ≤ 18)
def nOk (k : Int) (i : Nat) (z : Int) : Bool := decide (0 ≤ z) && decide (z ≤ 65535) && (decide (z = 0) || hasX k i)
def tOk (k : Int) (i : Nat) (s : List UInt8) : Bool := decide (s.length ≤ 80) && (decide (s = []) || hasX k (3 + i))
def allAt {α : Type} (f : Nat → α → Bool) : Nat → List α → Bool
  | _, [] => true
  | i, a :: l => f i a && allAt f (i + 1) l
def midOk (x : CmW) : Bool := decide (x.tn ≤ 8) && (decide (x.tn = 0) || hasX x.kind 11) && (!x.allow || hasX x.kind 12) && (decide (x.old = 0) || hasX x.kind 13) && (decide (x.ses = 0) || hasX x.kind 14)
def subsN (x : CmW) : Bool := decide (x.sn ≤ 8) && (decide (x.sn = 0) || hasX x.kind 15)
def headOk (x : CmW) (tags : List (List UInt8)) : Bool := kindOk x.kind && (allAt (nOk x.kind) 0 x.nums && (allAt (tOk x.kind) 0 x.texts && (midOk x && (tags.all (fun s => decide (s.length ≤ 80)) && subsN x))))
def right0 (x : CmW) (tags : List (List UInt8)) : Bool := headOk x tags
def right1 (x : CmW) (tags : List (List UInt8)) (subs : List (CmW × List (List UInt8))) : Bool := headOk x tags && subs.all (fun y => !decide (y.1.kind = 18) && right0 y.1 y.2)
/-! ### Row by row -/
def UpTo {α : Type} (f : Nat → α → Bool) (l : List α) (k : Nat) : Prop := ∀ i (h : i < l.length), i < k → f i l[i] = true
theorem UpTo.zero {α : Type} (f : Nat → α → Bool) (l : List α) : UpTo f l 0 := fun i _ h => absurd h (by omega)
theorem UpTo.next {α : Type} {f : Nat → α → Bool} {l : List α} {k : Nat} (h : UpTo f l k) (hk : k < l.length) (he : f k l[k] = true) : UpTo f l (k + 1) := fun i hi hl => by
  by_cases e : i = k
  · subst e; exact he
  · exact h i hi (by omega)
theorem allAt_yes {α : Type} {f : Nat → α → Bool} : ∀ {l : List α} {n : Nat}, (∀ i (h : i < l.length), f (n + i) l[i] = true) → allAt f n l = true
  | [], _, _ => rfl
  | a :: l, n, h => by
    show (f n a && allAt f (n + 1) l) = true
    rw [show f n a = true from h 0 (by simp), allAt_yes (fun i hi => by have := h (i + 1) (by simpa using hi); rw [show n + (i + 1) = n + 1 + i by omega] at this; simpa using this), Bool.and_self]
theorem allAt_no {α : Type} {f : Nat → α → Bool} : ∀ {l : List α} {n i : Nat} (h : i < l.length), f (n + i) l[i] = false → allAt f n l = false
  | a :: l, n, 0, _, e => by
    show (f n a && allAt f (n + 1) l) = false
    rw [show f n a = false from e, Bool.false_and]
  | a :: l, n, i + 1, h, e => by
    show (f n a && allAt f (n + 1) l) = false
    rw [allAt_no (n := n + 1) (i := i) (by simpa using h) (by rw [show n + 1 + i = n + (i + 1) by omega]; simpa using e), Bool.and_false]
theorem UpTo.all {α : Type} {f : Nat → α → Bool} {l : List α} {k : Nat} (h : UpTo f l k) (hk : l.length ≤ k) : allAt f 0 l = true := allAt_yes fun i hi => by rw [Nat.zero_add]; exact h i hi (by omega)
theorem upTo_no {α : Type} {f : Nat → α → Bool} {l : List α} {k : Nat} (hk : k < l.length) (he : f k l[k] = false) : allAt f 0 l = false := allAt_no (i := k) hk (by rw [Nat.zero_add]; exact he)
theorem all_no {α : Type} {f : α → Bool} {l : List α} {a : α} (h : a ∈ l) (e : f a = false) : l.all f = false := by
  rw [Bool.eq_false_iff]
  intro h2
  rw [List.all_eq_true.1 h2 a h] at e
  cases e
theorem UpTo.all_ {α : Type} {f : α → Bool} {l : List α} {k : Nat} (h : UpTo (fun _ s => f s) l k) (hk : l.length ≤ k) : l.all f = true := List.all_eq_true.2 fun a ha => by
  obtain ⟨i, hi, rfl⟩ := List.mem_iff_getElem.1 ha
  exact h i hi (by omega)
/-! ### What Has says -/
theorem hasS_size {k : Int} (h : kindOk k = true) : (hasS k).size = 16 := by
  unfold kindOk at h
  simp only [Bool.and_eq_true, decide_eq_true_eq] at h
  show (hasL k.toNat).toArray.size = 16
  unfold hasL
  rw [if_pos (by omega)]
  simp
theorem hasS_at {k : Int} (h : kindOk k = true) {i : Nat} (hi : i < 16) (hi' : i < (hasS k).size) : (hasS k)[i] = if hasX k i then 120 else 46 := by
  unfold kindOk at h
  simp only [Bool.and_eq_true, decide_eq_true_eq] at h
  have h1 := hasL_at (kind := k.toNat) (i := i) (by omega) hi
  have h2 : (hasL k.toNat)[i]? = some ((hasS k)[i]) := by
    rw [List.getElem?_eq_getElem (show i < (hasL k.toNat).length from hi')]
    rfl
  rw [h2] at h1
  exact Option.some.inj h1
theorem hasS_no {k : Int} (h : kindOk k = false) : hasS k = ⟨#[]⟩ := by
  unfold hasS hasL
  rw [if_neg (by
    unfold kindOk at h
    simp only [Bool.and_eq_false_iff, decide_eq_false_iff_not] at h
    omega)]
section
variable {x : CmW} {tags : List (List UInt8)} {subs : List (CmW × List (List UInt8))}
theorem right1_head (h : headOk x tags = false) : right1 x tags subs = false := by unfold right1; rw [h, Bool.false_and]
theorem right1_n (h : allAt (nOk x.kind) 0 x.nums = false) : right1 x tags subs = false := right1_head (by unfold headOk; rw [h]; simp)
theorem right1_t (h : allAt (tOk x.kind) 0 x.texts = false) : right1 x tags subs = false := right1_head (by unfold headOk; rw [h]; simp)
theorem right1_m (h : midOk x = false) : right1 x tags subs = false := right1_head (by unfold headOk; rw [h]; simp)
theorem right1_g (h : tags.all (fun s => decide (s.length ≤ 80)) = false) : right1 x tags subs = false := right1_head (by unfold headOk; rw [h]; simp)
theorem right1_s (h : subsN x = false) : right1 x tags subs = false := right1_head (by unfold headOk; rw [h]; simp)
theorem head_yes (h1 : kindOk x.kind = true) (h2 : allAt (nOk x.kind) 0 x.nums = true) (h3 : allAt (tOk x.kind) 0 x.texts = true) (h4 : midOk x = true) (h5 : tags.all (fun s => decide (s.length ≤ 80)) = true) (h6 : subsN x = true) : headOk x tags = true := by
  unfold headOk
  rw [h1, h2, h3, h4, h5, h6]
  rfl
theorem right1_yes (h : headOk x tags = true) (hs : subs.all (fun y => !decide (y.1.kind = 18) && right0 y.1 y.2) = true) : right1 x tags subs = true := by unfold right1; rw [h, hs]; rfl
theorem right1_no (hs : subs.all (fun y => !decide (y.1.kind = 18) && right0 y.1 y.2) = false) : right1 x tags subs = false := by unfold right1; rw [hs, Bool.and_false]
end
theorem nOk_neg {k : Int} {i : Nat} {z : Int} (h : z < 0) : nOk k i z = false := by unfold nOk; rw [decide_eq_false (by omega)]; simp
theorem nOk_big {k : Int} {i : Nat} {z : Int} (h : 65535 < z) : nOk k i z = false := by unfold nOk; rw [decide_eq_false (p := z ≤ 65535) (by omega)]; simp
theorem nOk_zero {k : Int} {i : Nat} : nOk k i 0 = true := by unfold nOk; simp
theorem nOk_has {k : Int} {i : Nat} {z : Int} (h0 : 0 ≤ z) (h1 : z ≤ 65535) (h : hasX k i = true) : nOk k i z = true := by unfold nOk; rw [h, decide_eq_true h0, decide_eq_true h1]; simp
theorem nOk_not {k : Int} {i : Nat} {z : Int} (h0 : z ≠ 0) (h : hasX k i = false) : nOk k i z = false := by unfold nOk; rw [h, decide_eq_false h0]; simp
theorem tOk_big {k : Int} {i : Nat} {s : List UInt8} (h : 80 < s.length) : tOk k i s = false := by unfold tOk; rw [decide_eq_false (by omega)]; simp
theorem tOk_nil {k : Int} {i : Nat} : tOk k i [] = true := by unfold tOk; simp
theorem tOk_has {k : Int} {i : Nat} {s : List UInt8} (h1 : s.length ≤ 80) (h : hasX k (3 + i) = true) : tOk k i s = true := by unfold tOk; rw [h, decide_eq_true h1]; simp
theorem tOk_not {k : Int} {i : Nat} {s : List UInt8} (h0 : s ≠ []) (h : hasX k (3 + i) = false) : tOk k i s = false := by unfold tOk; rw [h, decide_eq_false h0]; simp
end Go.Proofs.Ytbhhalkpghcflaa
/-
  The document's texts (layer 20).
-/
namespace Go.Proofs.Ytbhhalkpghcflaa
open Go.RowKit
set_option linter.unusedSimpArgs false
set_option linter.unusedVariables false

theorem RV.new (w : World) (cs : Array Value) (T : TypeId) : RV (w.alloc (.cells cs T)) (some ⟨w.heap.size, 0, none⟩) cs.size cs.toList :=
  ⟨Array.length_toList, fun _ => ⟨w.heap.size, 0, rfl, by simp, fun j hj => by
    rw [Nat.zero_add, cell_of_row _ w.heap.size j cs T (0, 0) (heap_alloc_new w _)]
    simp⟩⟩
set_option maxHeartbeats 1000000 in
theorem rtexts_any (x : CmW) (w : World) : Calls Try.prog 18 #[cmV x] w fun e w' => (∃ B, e = .returned (.slice (some ⟨B, 0, none⟩) 8 8) ∧ w.heap.size ≤ B ∧ RV w' (some ⟨B, 0, none⟩) 8 (x.texts.map strV)) ∧ Below w.heap.size w w' := by
  have fin : ∀ W, Below w.heap.size w W → RV (W.alloc (.cells #[.string ⟨x.id.toArray⟩, .string ⟨x.name.toArray⟩, .string ⟨x.svc.toArray⟩, .string ⟨x.note.toArray⟩, .string ⟨x.key.toArray⟩, .string ⟨x.val.toArray⟩, .string ⟨x.src.toArray⟩, .string ⟨x.dst.toArray⟩] 9)) (some ⟨W.heap.size, 0, none⟩) 8 (x.texts.map strV) ∧ Below w.heap.size w (W.alloc (.cells #[.string ⟨x.id.toArray⟩, .string ⟨x.name.toArray⟩, .string ⟨x.svc.toArray⟩, .string ⟨x.note.toArray⟩, .string ⟨x.key.toArray⟩, .string ⟨x.val.toArray⟩, .string ⟨x.src.toArray⟩, .string ⟨x.dst.toArray⟩] 9)) := fun W hb => ⟨RV.new W _ _, hb.alloc hb.size _⟩
  have FIN := Lib.hid fin
  clear fin
  unfold cmV strV
  go_enter Try.func18, Try.ntmps18
  go_wp2
  go_ret
  refine ⟨⟨w.heap.size + 1, rfl, by omega, ?_⟩, ?_⟩
  · have h := (FIN.out (w.alloc (.cells #[.int .i64 x.kind, .int .i64 x.node, .int .i64 x.port, .int .i64 x.status, strV x.id, strV x.name, strV x.svc, strV x.note, strV x.key, strV x.val, strV x.src, strV x.dst, .slice x.tA x.tn x.tc, .bool x.allow, .int .u64 (x.old : Int), .int .u64 (x.ses : Int), .slice x.sA x.sn x.sc] TCm)) ((Below.refl _ w).alloc (Nat.le_refl _) _)).1
    rw [show (w.alloc _).heap.size = w.heap.size + 1 by simp] at h
    exact h
  · exact (FIN.out _ ((Below.refl _ w).alloc (Nat.le_refl _) _)).2
end Go.Proofs.Ytbhhalkpghcflaa
/-
  The box of a command that comes in (layer 20).
-/
namespace Go.Proofs.Ytbhhalkpghcflaa
open Go.RowKit
set_option linter.unusedSimpArgs false
set_option linter.unusedVariables false

theorem bx_cell {w : World} {B : Nat} {cur : Array Value} {t : TypeId} (h : w.heap[B]? = some (.cells cur t (0, 0))) (i : Nat) (v : Value) (hv : cur[i]? = some v) : w.cell? ⟨B, i, none⟩ = some v := by
  rw [cell_of_row w B i cur t (0, 0) h]
  exact hv
/-- A whole row is loaded, where a guard lets it. -/
theorem wpList_load_midg {P : Program} {ops : Array Oper} {rest : List Oper} {op : Oper} {a : Act} {w : World} {Q : Exit → Act → World → Prop} (hgd : Region.wanted op (yielded ops a.tmps) = true) (ty : TypeId) (x : Operand) (ho : op.op = .load ty x)
    (b o : Nat) (hx : a.eval x = .pointer (some ⟨b, o, none⟩)) (cs : List Value) (d : TypeDesc) (hc : w.rangeAt b o cs)
    (hu : P.underlying ty = some d) (hd : d.isRow = true) (hi : (P.info? ty).map (·.size) = some cs.length)
    (h : wpList P ops Q rest (a.put op.dst (.agg cs.toArray)) w) : wpList P ops Q (op :: rest) a w :=
  wpList_step fun K hK => by
    rw [if_pos hgd]
    exact wp_load_mid ty x ho b o hx cs d hc hu hd hi (hK _ _ h)
/-- The box of the command that came in. -/
def Bx (w : World) (N : Nat) (x : CmW) : Prop := w.heap[N]? = some (.cells #[.int .i64 x.kind, .int .i64 x.node, .int .i64 x.port, .int .i64 x.status, .string ⟨x.id.toArray⟩, .string ⟨x.name.toArray⟩, .string ⟨x.svc.toArray⟩, .string ⟨x.note.toArray⟩, .string ⟨x.key.toArray⟩, .string ⟨x.val.toArray⟩, .string ⟨x.src.toArray⟩, .string ⟨x.dst.toArray⟩, .slice x.tA x.tn x.tc, .bool x.allow, .int .u64 (x.old : Int), .int .u64 (x.ses : Int), .slice x.sA x.sn x.sc] TCm (0, 0))
section
variable {w w' : World} {N : Nat} {x : CmW}
theorem Bx.new (w : World) (x : CmW) : Bx (w.alloc (.cells #[.int .i64 x.kind, .int .i64 x.node, .int .i64 x.port, .int .i64 x.status, .string ⟨x.id.toArray⟩, .string ⟨x.name.toArray⟩, .string ⟨x.svc.toArray⟩, .string ⟨x.note.toArray⟩, .string ⟨x.key.toArray⟩, .string ⟨x.val.toArray⟩, .string ⟨x.src.toArray⟩, .string ⟨x.dst.toArray⟩, .slice x.tA x.tn x.tc, .bool x.allow, .int .u64 (x.old : Int), .int .u64 (x.ses : Int), .slice x.sA x.sn x.sc] TCm)) w.heap.size x := heap_alloc_new w _
theorem Bx.lt (h : Bx w N x) : N < w.heap.size := block_lt h
theorem Bx.below (h : Bx w N x) {B : Nat} (hb : Below B w w') (hN : N < B) : Bx w' N x := (hb.block N hN).trans h
theorem Bx.item (h : Bx w N x) : ItAt cmC w N 0 x := fun i u hu => by
  rw [Nat.zero_add, cell_of_row w N i _ TCm (0, 0) h]
  rw [← Array.getElem?_toList]
  exact hu
theorem Bx.c0 (h : Bx w N x) : w.cell? ⟨N, 0, none⟩ = some (.int .i64 x.kind) := bx_cell h 0 _ rfl
theorem Bx.c1 (h : Bx w N x) : w.cell? ⟨N, 1, none⟩ = some (.int .i64 x.node) := bx_cell h 1 _ rfl
theorem Bx.c2 (h : Bx w N x) : w.cell? ⟨N, 2, none⟩ = some (.int .i64 x.port) := bx_cell h 2 _ rfl
theorem Bx.c3 (h : Bx w N x) : w.cell? ⟨N, 3, none⟩ = some (.int .i64 x.status) := bx_cell h 3 _ rfl
theorem Bx.c12 (h : Bx w N x) : w.cell? ⟨N, 12, none⟩ = some (.slice x.tA x.tn x.tc) := bx_cell h 12 _ rfl
theorem Bx.c13 (h : Bx w N x) : w.cell? ⟨N, 13, none⟩ = some (.bool x.allow) := bx_cell h 13 _ rfl
theorem Bx.c14 (h : Bx w N x) : w.cell? ⟨N, 14, none⟩ = some (.int .u64 (x.old : Int)) := bx_cell h 14 _ rfl
theorem Bx.c15 (h : Bx w N x) : w.cell? ⟨N, 15, none⟩ = some (.int .u64 (x.ses : Int)) := bx_cell h 15 _ rfl
theorem Bx.c16 (h : Bx w N x) : w.cell? ⟨N, 16, none⟩ = some (.slice x.sA x.sn x.sc) := bx_cell h 16 _ rfl
end
end Go.Proofs.Ytbhhalkpghcflaa
