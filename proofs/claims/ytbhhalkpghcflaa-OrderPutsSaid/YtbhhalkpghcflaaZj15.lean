/-
  A command in memory (layer 20): its own cells, its tags, and what lies behind its Subs.
-/
import Derived.Test.YtbhhalkpghcflaaZj7
import Derived.Test.YtbhhalkpghcflaaZj14
import Derived.Test.YtbhhalkpghcflaaZj6
import Derived.Deep.MidRow
namespace Go.Proofs.Ytbhhalkpghcflaa
open Go.RowKit
set_option linter.unusedSimpArgs false
set_option linter.unusedVariables false

abbrev TCm : TypeId := 26
/-- A command's own words. -/
structure CmW where
  kind : Int
  node : Int
  port : Int
  status : Int
  id : List UInt8
  name : List UInt8
  svc : List UInt8
  note : List UInt8
  key : List UInt8
  val : List UInt8
  src : List UInt8
  dst : List UInt8
  tA : Option Addr
  tn : Nat
  tc : Nat
  allow : Bool
  old : Nat
  ses : Nat
  sA : Option Addr
  sn : Nat
  sc : Nat
def cmC (x : CmW) : List Value := [.int .i64 x.kind, .int .i64 x.node, .int .i64 x.port, .int .i64 x.status, strV x.id, strV x.name, strV x.svc, strV x.note, strV x.key, strV x.val, strV x.src, strV x.dst, .slice x.tA x.tn x.tc, .bool x.allow, .int .u64 (x.old : Int), .int .u64 (x.ses : Int), .slice x.sA x.sn x.sc]
def cmV (x : CmW) : Value := .agg #[.int .i64 x.kind, .int .i64 x.node, .int .i64 x.port, .int .i64 x.status, strV x.id, strV x.name, strV x.svc, strV x.note, strV x.key, strV x.val, strV x.src, strV x.dst, .slice x.tA x.tn x.tc, .bool x.allow, .int .u64 (x.old : Int), .int .u64 (x.ses : Int), .slice x.sA x.sn x.sc]
theorem cmC_len (x : CmW) : (cmC x).length = 17 := rfl
theorem cmC_one (x : CmW) : ∀ u ∈ cmC x, u.oneCell' = true := fun u hu => by
  simp only [cmC, List.mem_cons, List.not_mem_nil, or_false] at hu
  rcases hu with rfl | rfl | rfl | rfl | rfl | rfl | rfl | rfl | rfl | rfl | rfl | rfl | rfl | rfl | rfl | rfl | rfl <;> rfl
def CmW.nums (x : CmW) : List Int := [x.node, x.port, x.status]
def CmW.texts (x : CmW) : List (List UInt8) := [x.id, x.name, x.svc, x.note, x.key, x.val, x.src, x.dst]
/-- What may stand in a command's words. -/
structure CmS (x : CmW) : Prop where
  kind : -9223372036854775808 ≤ x.kind ∧ x.kind ≤ 9223372036854775807
  nums : ∀ z ∈ x.nums, -9223372036854775808 ≤ z ∧ z ≤ 9223372036854775807
  texts : ∀ s ∈ x.texts, s.length ≤ maxLen
  old : x.old < 18446744073709551616
  ses : x.ses < 18446744073709551616
  tn : x.tn ≤ maxLen
  sn : x.sn ≤ maxLen
/-- A command with its tags. -/
structure Cm0 (w : World) (x : CmW) (tags : List (List UInt8)) : Prop where
  small : CmS x
  row : RV w x.tA x.tn (tags.map strV)
  lens : ∀ s ∈ tags, s.length ≤ maxLen
/-- A command with its tags and what it is made of. -/
structure Cm1 (w : World) (x : CmW) (tags : List (List UInt8)) (subs : List (CmW × List (List UInt8))) : Prop where
  top : Cm0 w x tags
  row : SK cmC 17 w x.sA x.sn (subs.map (·.1))
  each : ∀ y ∈ subs, Cm0 w y.1 y.2
section
variable {w w' : World} {x : CmW} {tags : List (List UInt8)} {subs : List (CmW × List (List UInt8))}
theorem Cm0.below (h : Cm0 w x tags) (hb : Below w.heap.size w w') : Cm0 w' x tags := ⟨h.small, h.row.below hb, h.lens⟩
theorem Cm1.below (h : Cm1 w x tags subs) (hb : Below w.heap.size w w') : Cm1 w' x tags subs := ⟨h.top.below hb, h.row.below hb, fun y hy => (h.each y hy).below hb⟩
theorem Cm0.len (h : Cm0 w x tags) : tags.length = x.tn := by simpa using h.row.1
theorem Cm1.len (h : Cm1 w x tags subs) : subs.length = x.sn := by simpa using h.row.1
theorem cm_load {b o : Nat} (h : ItAt cmC w b o x) : (Instr.loadAt TCm (.pointer (some ⟨b, o, none⟩))).run Try.prog w = .ok (cmV x) w :=
  run_loadAt_mid w b o TCm (cmC x) _ h Try.underlying26 rfl (by kernel_rfl)
end
end Go.Proofs.Ytbhhalkpghcflaa
