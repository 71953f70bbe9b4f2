/-
  Commands and orders as they come into layer 20's laws: two levels deep; of what lies deeper nothing is said.
-/
import Derived.Test.YtbhhalkpghcflaaZj24
import Derived.Test.YtbhhalkpghcflaaZj48
namespace Go.Proofs.Ytbhhalkpghcflaa
open Go.Joins Go.ChangeShapes Go.WideShapes Go.ChangeAt Go.RowKit
set_option linter.unusedSimpArgs false
set_option linter.unusedVariables false

theorem wf64 {z : Int} (h : (Lit.int .i64 z).wf = true) : -9223372036854775808 ≤ z ∧ z ≤ 9223372036854775807 := by simpa [Lit.wf, IntKind.min, IntKind.max, IntKind.signed, IntKind.bits] using h
noncomputable def i64C : Came Try.prog 3 Int := Came.int Try.underlying3 (by kernel_rfl)
theorem wfu64 (z : Int) (h : (Lit.int .u64 z).wf = true) : 0 ≤ z ∧ z < ((18446744073709551616 : Nat) : Int) := by
  have : 0 ≤ z ∧ z ≤ 18446744073709551615 := by simpa [Lit.wf, IntKind.min, IntKind.max, IntKind.signed, IntKind.bits] using h
  omega
noncomputable def u64C : Came Try.prog 23 Nat := Came.nat Try.underlying23 (by kernel_rfl) 18446744073709551616 wfu64
theorem wfu32 (z : Int) (h : (Lit.int .u32 z).wf = true) : 0 ≤ z ∧ z < ((4294967296 : Nat) : Int) := by
  have : 0 ≤ z ∧ z ≤ 4294967295 := by simpa [Lit.wf, IntKind.min, IntKind.max, IntKind.signed, IntKind.bits] using h
  omega
noncomputable def u32C : Came Try.prog 29 Nat := Came.nat Try.underlying29 (by kernel_rfl) 4294967296 wfu32
noncomputable def strC : Came Try.prog 9 ByteArray := Came.str Try.underlying9 (by kernel_rfl)
noncomputable def boolC : Came Try.prog 4 Bool := Came.bool Try.underlying4 (by kernel_rfl)
/-- A slice of commands of which nothing more is said. -/
structure AnySl where
  A : Option Addr
  n : Nat
  c : Nat
noncomputable def anyC : Came Try.prog 24 AnySl where
  k := 1
  enc s := [.slice s.A s.n s.c]
  ok _ _ s := s.n ≤ s.c ∧ s.c ≤ maxLen
  dflt := ⟨none, 0, 0⟩
  len _ := rfl
  size := by kernel_rfl
  in_ := fun h _ _ => by
    rcases Go.Deep.open_slice Try.underlying24 h with ⟨hcs, _⟩ | ⟨a, len, cap, m, n, D, Pl, hcs, _, hl, hm, _⟩
    · exact ⟨⟨none, 0, 0⟩, hcs, Nat.le_refl _, Nat.zero_le _⟩
    · exact ⟨⟨some a, len, cap⟩, hcs, hl, hm⟩
  keep := fun h _ => h
structure Cr0 where
  kind : Int
  node : Int
  port : Int
  status : Int
  id : ByteArray
  name : ByteArray
  svc : ByteArray
  note : ByteArray
  key : ByteArray
  val : ByteArray
  src : ByteArray
  dst : ByteArray
  tags : Sl ByteArray
  allow : Bool
  old : Nat
  ses : Nat
  subs : AnySl
noncomputable def cmM0 : Came Try.prog 26 Cr0 :=
  (Came.struct (CameF.cons i64C (CameF.cons i64C (CameF.cons i64C (CameF.cons i64C (CameF.cons strC (CameF.cons strC (CameF.cons strC (CameF.cons strC (CameF.cons strC (CameF.cons strC (CameF.cons strC (CameF.cons strC (CameF.cons (strC.slice (by decide) Try.underlying22 (by kernel_rfl)) (CameF.cons boolC (CameF.cons u64C (CameF.cons u64C (CameF.cons anyC (CameF.nil _)))))))))))))))))) Try.underlying26 (by kernel_rfl) (by kernel_rfl)).re
    (fun x => ⟨x.1, x.2.1, x.2.2.1, x.2.2.2.1, x.2.2.2.2.1, x.2.2.2.2.2.1, x.2.2.2.2.2.2.1, x.2.2.2.2.2.2.2.1, x.2.2.2.2.2.2.2.2.1, x.2.2.2.2.2.2.2.2.2.1, x.2.2.2.2.2.2.2.2.2.2.1, x.2.2.2.2.2.2.2.2.2.2.2.1, x.2.2.2.2.2.2.2.2.2.2.2.2.1, x.2.2.2.2.2.2.2.2.2.2.2.2.2.1, x.2.2.2.2.2.2.2.2.2.2.2.2.2.2.1, x.2.2.2.2.2.2.2.2.2.2.2.2.2.2.2.1, x.2.2.2.2.2.2.2.2.2.2.2.2.2.2.2.2.1⟩) (fun x => [.int .i64 x.kind, .int .i64 x.node, .int .i64 x.port, .int .i64 x.status, .string x.id, .string x.name, .string x.svc, .string x.note, .string x.key, .string x.val, .string x.src, .string x.dst, .slice x.tags.A x.tags.l.length x.tags.c, .bool x.allow, .int .u64 (x.old : Int), .int .u64 (x.ses : Int), .slice x.subs.A x.subs.n x.subs.c])
    (fun W N x => i64C.ok W N x.kind ∧ i64C.ok W N x.node ∧ i64C.ok W N x.port ∧ i64C.ok W N x.status ∧ strC.ok W N x.id ∧ strC.ok W N x.name ∧ strC.ok W N x.svc ∧ strC.ok W N x.note ∧ strC.ok W N x.key ∧ strC.ok W N x.val ∧ strC.ok W N x.src ∧ strC.ok W N x.dst ∧ (strC.slice (by decide) Try.underlying22 (by kernel_rfl)).ok W N x.tags ∧ boolC.ok W N x.allow ∧ u64C.ok W N x.old ∧ u64C.ok W N x.ses ∧ anyC.ok W N x.subs) (fun _ => rfl)
    (fun h => ⟨rfl, h.1, h.2.1, h.2.2.1, h.2.2.2.1, h.2.2.2.2.1, h.2.2.2.2.2.1, h.2.2.2.2.2.2.1, h.2.2.2.2.2.2.2.1, h.2.2.2.2.2.2.2.2.1, h.2.2.2.2.2.2.2.2.2.1, h.2.2.2.2.2.2.2.2.2.2.1, h.2.2.2.2.2.2.2.2.2.2.2.1, h.2.2.2.2.2.2.2.2.2.2.2.2.1, h.2.2.2.2.2.2.2.2.2.2.2.2.2.1, h.2.2.2.2.2.2.2.2.2.2.2.2.2.2.1, h.2.2.2.2.2.2.2.2.2.2.2.2.2.2.2.1, h.2.2.2.2.2.2.2.2.2.2.2.2.2.2.2.2.1⟩) (fun h hb => ⟨i64C.keep h.1 hb, i64C.keep h.2.1 hb, i64C.keep h.2.2.1 hb, i64C.keep h.2.2.2.1 hb, strC.keep h.2.2.2.2.1 hb, strC.keep h.2.2.2.2.2.1 hb, strC.keep h.2.2.2.2.2.2.1 hb, strC.keep h.2.2.2.2.2.2.2.1 hb, strC.keep h.2.2.2.2.2.2.2.2.1 hb, strC.keep h.2.2.2.2.2.2.2.2.2.1 hb, strC.keep h.2.2.2.2.2.2.2.2.2.2.1 hb, strC.keep h.2.2.2.2.2.2.2.2.2.2.2.1 hb, (strC.slice (by decide) Try.underlying22 (by kernel_rfl)).keep h.2.2.2.2.2.2.2.2.2.2.2.2.1 hb, boolC.keep h.2.2.2.2.2.2.2.2.2.2.2.2.2.1 hb, u64C.keep h.2.2.2.2.2.2.2.2.2.2.2.2.2.2.1 hb, u64C.keep h.2.2.2.2.2.2.2.2.2.2.2.2.2.2.2.1 hb, anyC.keep h.2.2.2.2.2.2.2.2.2.2.2.2.2.2.2.2 hb⟩)
structure Cr1 where
  kind : Int
  node : Int
  port : Int
  status : Int
  id : ByteArray
  name : ByteArray
  svc : ByteArray
  note : ByteArray
  key : ByteArray
  val : ByteArray
  src : ByteArray
  dst : ByteArray
  tags : Sl ByteArray
  allow : Bool
  old : Nat
  ses : Nat
  subs : Sl Cr0
set_option maxHeartbeats 4000000 in
noncomputable def cmM1 : Came Try.prog 26 Cr1 :=
  (Came.struct (CameF.cons i64C (CameF.cons i64C (CameF.cons i64C (CameF.cons i64C (CameF.cons strC (CameF.cons strC (CameF.cons strC (CameF.cons strC (CameF.cons strC (CameF.cons strC (CameF.cons strC (CameF.cons strC (CameF.cons (strC.slice (by decide) Try.underlying22 (by kernel_rfl)) (CameF.cons boolC (CameF.cons u64C (CameF.cons u64C (CameF.cons (cmM0.slice (by decide) Try.underlying24 (by kernel_rfl)) (CameF.nil _)))))))))))))))))) Try.underlying26 (by kernel_rfl) (by kernel_rfl)).re
    (fun x => ⟨x.1, x.2.1, x.2.2.1, x.2.2.2.1, x.2.2.2.2.1, x.2.2.2.2.2.1, x.2.2.2.2.2.2.1, x.2.2.2.2.2.2.2.1, x.2.2.2.2.2.2.2.2.1, x.2.2.2.2.2.2.2.2.2.1, x.2.2.2.2.2.2.2.2.2.2.1, x.2.2.2.2.2.2.2.2.2.2.2.1, x.2.2.2.2.2.2.2.2.2.2.2.2.1, x.2.2.2.2.2.2.2.2.2.2.2.2.2.1, x.2.2.2.2.2.2.2.2.2.2.2.2.2.2.1, x.2.2.2.2.2.2.2.2.2.2.2.2.2.2.2.1, x.2.2.2.2.2.2.2.2.2.2.2.2.2.2.2.2.1⟩) (fun x => [.int .i64 x.kind, .int .i64 x.node, .int .i64 x.port, .int .i64 x.status, .string x.id, .string x.name, .string x.svc, .string x.note, .string x.key, .string x.val, .string x.src, .string x.dst, .slice x.tags.A x.tags.l.length x.tags.c, .bool x.allow, .int .u64 (x.old : Int), .int .u64 (x.ses : Int), .slice x.subs.A x.subs.l.length x.subs.c])
    (fun W N x => i64C.ok W N x.kind ∧ i64C.ok W N x.node ∧ i64C.ok W N x.port ∧ i64C.ok W N x.status ∧ strC.ok W N x.id ∧ strC.ok W N x.name ∧ strC.ok W N x.svc ∧ strC.ok W N x.note ∧ strC.ok W N x.key ∧ strC.ok W N x.val ∧ strC.ok W N x.src ∧ strC.ok W N x.dst ∧ (strC.slice (by decide) Try.underlying22 (by kernel_rfl)).ok W N x.tags ∧ boolC.ok W N x.allow ∧ u64C.ok W N x.old ∧ u64C.ok W N x.ses ∧ (cmM0.slice (by decide) Try.underlying24 (by kernel_rfl)).ok W N x.subs) (fun _ => rfl)
    (fun h => ⟨rfl, h.1, h.2.1, h.2.2.1, h.2.2.2.1, h.2.2.2.2.1, h.2.2.2.2.2.1, h.2.2.2.2.2.2.1, h.2.2.2.2.2.2.2.1, h.2.2.2.2.2.2.2.2.1, h.2.2.2.2.2.2.2.2.2.1, h.2.2.2.2.2.2.2.2.2.2.1, h.2.2.2.2.2.2.2.2.2.2.2.1, h.2.2.2.2.2.2.2.2.2.2.2.2.1, h.2.2.2.2.2.2.2.2.2.2.2.2.2.1, h.2.2.2.2.2.2.2.2.2.2.2.2.2.2.1, h.2.2.2.2.2.2.2.2.2.2.2.2.2.2.2.1, h.2.2.2.2.2.2.2.2.2.2.2.2.2.2.2.2.1⟩) (fun h hb => ⟨i64C.keep h.1 hb, i64C.keep h.2.1 hb, i64C.keep h.2.2.1 hb, i64C.keep h.2.2.2.1 hb, strC.keep h.2.2.2.2.1 hb, strC.keep h.2.2.2.2.2.1 hb, strC.keep h.2.2.2.2.2.2.1 hb, strC.keep h.2.2.2.2.2.2.2.1 hb, strC.keep h.2.2.2.2.2.2.2.2.1 hb, strC.keep h.2.2.2.2.2.2.2.2.2.1 hb, strC.keep h.2.2.2.2.2.2.2.2.2.2.1 hb, strC.keep h.2.2.2.2.2.2.2.2.2.2.2.1 hb, (strC.slice (by decide) Try.underlying22 (by kernel_rfl)).keep h.2.2.2.2.2.2.2.2.2.2.2.2.1 hb, boolC.keep h.2.2.2.2.2.2.2.2.2.2.2.2.2.1 hb, u64C.keep h.2.2.2.2.2.2.2.2.2.2.2.2.2.2.1 hb, u64C.keep h.2.2.2.2.2.2.2.2.2.2.2.2.2.2.2.1 hb, (cmM0.slice (by decide) Try.underlying24 (by kernel_rfl)).keep h.2.2.2.2.2.2.2.2.2.2.2.2.2.2.2.2 hb⟩)
def bl (s : ByteArray) : List UInt8 := s.data.toList
def Cr0.w (s : Cr0) : CmW := ⟨s.kind, s.node, s.port, s.status, bl s.id, bl s.name, bl s.svc, bl s.note, bl s.key, bl s.val, bl s.src, bl s.dst, s.tags.A, s.tags.l.length, s.tags.c, s.allow, s.old, s.ses, s.subs.A, s.subs.n, s.subs.c⟩
def Cr1.w (s : Cr1) : CmW := ⟨s.kind, s.node, s.port, s.status, bl s.id, bl s.name, bl s.svc, bl s.note, bl s.key, bl s.val, bl s.src, bl s.dst, s.tags.A, s.tags.l.length, s.tags.c, s.allow, s.old, s.ses, s.subs.A, s.subs.l.length, s.subs.c⟩
def Cr0.t (s : Cr0) : List (List UInt8) := s.tags.l.map bl
def Cr1.t (s : Cr1) : List (List UInt8) := s.tags.l.map bl
def Cr1.u (s : Cr1) : List Sub := s.subs.l.map fun y => (y.w, y.t)
theorem enc0 (s : Cr0) : cmM0.enc s = cmC s.w := rfl
theorem enc1 (s : Cr1) : cmM1.enc s = cmC s.w := rfl
theorem tags_rv {W : World} {A : Option Addr} {n : Nat} {l : List ByteArray} (h : SK strC.enc strC.k W A n l) : RV W A n ((l.map bl).map strV) := by
  refine ⟨by simpa using h.1, fun hn => ?_⟩
  obtain ⟨b, off, e, hb, hit⟩ := h.2 hn
  refine ⟨b, off, e, hb, fun j hj => ?_⟩
  have hj' : j < l.length := by simpa using hj
  have := hit j hj' 0 _ rfl
  rw [List.getElem_map, List.getElem_map]
  simpa [strC, Came.str, strV, bl] using this
theorem bl_len {s : ByteArray} (h : s.size ≤ maxLen) : (bl s).length ≤ maxLen := h
theorem cm0_in {W : World} {N : Nat} {s : Cr0} (h : cmM0.ok W N s) : Cm0 W s.w s.t := by
  obtain ⟨h1, h2, h3, h4, h5, h6, h7, h8, h9, h10, h11, h12, h13, h14, h15, h16, h17⟩ := h
  refine ⟨⟨wf64 h1, ?_, ?_, h15, h16, Nat.le_trans h13.2.2.1 h13.2.2.2.1, Nat.le_trans h17.1 h17.2⟩, tags_rv h13.1, ?_⟩
  · intro z hz
    simp only [CmW.nums, Cr0.w, List.mem_cons, List.not_mem_nil, or_false] at hz
    rcases hz with rfl | rfl | rfl
    · exact wf64 h2
    · exact wf64 h3
    · exact wf64 h4
  · intro t ht
    simp only [CmW.texts, Cr0.w, List.mem_cons, List.not_mem_nil, or_false] at ht
    rcases ht with rfl | rfl | rfl | rfl | rfl | rfl | rfl | rfl
    · exact h5.1
    · exact h6.1
    · exact h7.1
    · exact h8.1
    · exact h9.1
    · exact h10.1
    · exact h11.1
    · exact h12.1
  · intro t ht
    obtain ⟨q, hq, rfl⟩ := List.mem_map.1 ht
    exact (h13.2.1 q hq).1
theorem cm1_in {W : World} {N : Nat} {s : Cr1} (h : cmM1.ok W N s) : Cm1 W s.w s.t s.u := by
  obtain ⟨h1, h2, h3, h4, h5, h6, h7, h8, h9, h10, h11, h12, h13, h14, h15, h16, h17⟩ := h
  refine ⟨⟨⟨wf64 h1, ?_, ?_, h15, h16, Nat.le_trans h13.2.2.1 h13.2.2.2.1, Nat.le_trans h17.2.2.1 h17.2.2.2.1⟩, tags_rv h13.1, ?_⟩, ?_, ?_⟩
  · intro z hz
    simp only [CmW.nums, Cr1.w, List.mem_cons, List.not_mem_nil, or_false] at hz
    rcases hz with rfl | rfl | rfl
    · exact wf64 h2
    · exact wf64 h3
    · exact wf64 h4
  · intro t ht
    simp only [CmW.texts, Cr1.w, List.mem_cons, List.not_mem_nil, or_false] at ht
    rcases ht with rfl | rfl | rfl | rfl | rfl | rfl | rfl | rfl
    · exact h5.1
    · exact h6.1
    · exact h7.1
    · exact h8.1
    · exact h9.1
    · exact h10.1
    · exact h11.1
    · exact h12.1
  · intro t ht
    obtain ⟨q, hq, rfl⟩ := List.mem_map.1 ht
    exact (h13.2.1 q hq).1
  · refine ⟨by simp [Cr1.u, Cr1.w], fun hn => ?_⟩
    obtain ⟨b, off, e, hb, hit⟩ := h17.1.2 hn
    refine ⟨b, off, e, hb, fun j hj => ?_⟩
    have hj' : j < s.subs.l.length := by simpa [Cr1.u] using hj
    have := hit j hj'
    rw [List.getElem_map]
    simp only [Cr1.u, List.getElem_map]
    exact this
  · intro y hy
    obtain ⟨q, hq, rfl⟩ := List.mem_map.1 hy
    exact cm0_in (h17.2.1 q hq)
end Go.Proofs.Ytbhhalkpghcflaa
/-
  Orders as they come into layer 20's laws.
-/
namespace Go.Proofs.Ytbhhalkpghcflaa
open Go.Joins Go.ChangeShapes Go.WideShapes Go.ChangeAt Go.RowKit
set_option linter.unusedSimpArgs false
set_option linter.unusedVariables false

structure Ord1 where
  cl : Int
  sq : Nat
  c : Cr1
set_option maxHeartbeats 4000000 in
noncomputable def orM : Came Try.prog 31 Ord1 :=
  (Came.struct (CameF.cons i64C (CameF.cons u32C (CameF.cons cmM1 (CameF.nil _)))) Try.underlying31 (by kernel_rfl) (by kernel_rfl)).re
    (fun x => ⟨x.1, x.2.1, x.2.2.1⟩) (fun x => [.int .i64 x.cl, .int .u32 (x.sq : Int), .int .i64 x.c.kind, .int .i64 x.c.node, .int .i64 x.c.port, .int .i64 x.c.status, .string x.c.id, .string x.c.name, .string x.c.svc, .string x.c.note, .string x.c.key, .string x.c.val, .string x.c.src, .string x.c.dst, .slice x.c.tags.A x.c.tags.l.length x.c.tags.c, .bool x.c.allow, .int .u64 (x.c.old : Int), .int .u64 (x.c.ses : Int), .slice x.c.subs.A x.c.subs.l.length x.c.subs.c])
    (fun W N x => i64C.ok W N x.cl ∧ u32C.ok W N x.sq ∧ cmM1.ok W N x.c) (fun _ => rfl)
    (fun h => ⟨rfl, h.1, h.2.1, h.2.2.1⟩) (fun h hb => ⟨i64C.keep h.1 hb, u32C.keep h.2.1 hb, cmM1.keep h.2.2 hb⟩)
theorem encO (s : Ord1) : orM.enc s = orC s.cl s.sq s.c.w := rfl
theorem or1_in {W : World} {N : Nat} {s : Ord1} (h : orM.ok W N s) : Cm1 W s.c.w s.c.t s.c.u := cm1_in h.2.2
theorem orcl_in {W : World} {N : Nat} {s : Ord1} (h : orM.ok W N s) : -9223372036854775808 ≤ s.cl ∧ s.cl ≤ 9223372036854775807 := wf64 h.1
theorem orsq_in {W : World} {N : Nat} {s : Ord1} (h : orM.ok W N s) : s.sq < 4294967296 := h.2.1
end Go.Proofs.Ytbhhalkpghcflaa
