import Derived.Test.YtilkbfmaofmjoaaGreatDoorZj46
import Derived.Test.YtilkbfmaofmjoaaGreatDoorZj48
import Derived.Test.YtilkbfmaofmjoaaGreatDoorRows
import Derived.LaidSub
import Derived.Lib.LaidTab
import Derived.MakeChecks
import Derived.LaidMore
namespace Go.Proofs.YtilkbfmaofmjoaaGreatDoor
open Go.Joins Go.ChangeShapes Go.WideShapes Go.ChangeAt Go.RowKit
set_option linter.unusedSimpArgs false
noncomputable def i64C : Came Tryz.prog 3 Int := Came.int Tryz.underlying3 (by kernel_rfl)
theorem wfu64 (z : Int) (h : (Lit.int .u64 z).wf = true) : 0 ≤ z ∧ z < ((18446744073709551616 : Nat) : Int) := by
  have : 0 ≤ z ∧ z ≤ 18446744073709551615 := by simpa [Lit.wf, IntKind.min, IntKind.max, IntKind.signed, IntKind.bits] using h
  omega
noncomputable def u64C : Came Tryz.prog 29 Nat := Came.nat Tryz.underlying29 (by kernel_rfl) 18446744073709551616 wfu64
noncomputable def strC : Came Tryz.prog 9 ByteArray := Came.str Tryz.underlying9 (by kernel_rfl)
theorem i64_b {z : Int} (h : (Lit.int .i64 z).wf = true) : -9223372036854775808 ≤ z ∧ z ≤ 9223372036854775807 := by simpa [Lit.wf, IntKind.min, IntKind.max, IntKind.signed, IntKind.bits] using h
structure SvI where
  node : Int
  id : ByteArray
  name : ByteArray
  tags : Sl ByteArray
  port : Int
  made : Nat
  ix : Nat
noncomputable def svI : Came Tryz.prog 31 SvI :=
  (Came.struct (CameF.cons i64C (CameF.cons strC (CameF.cons strC (CameF.cons (strC.slice (by decide) Tryz.underlying28 (by kernel_rfl)) (CameF.cons i64C (CameF.cons u64C (CameF.cons u64C (CameF.nil _)))))))) Tryz.underlying31 (by kernel_rfl) (by kernel_rfl)).re
    (fun x => ⟨x.1, x.2.1, x.2.2.1, x.2.2.2.1, x.2.2.2.2.1, x.2.2.2.2.2.1, x.2.2.2.2.2.2.1⟩) (fun x => [.int .i64 x.node, .string x.id, .string x.name, .slice x.tags.A x.tags.l.length x.tags.c, .int .i64 x.port, .int .u64 (x.made : Int), .int .u64 (x.ix : Int)])
    (fun W N x => i64C.ok W N x.node ∧ strC.ok W N x.id ∧ strC.ok W N x.name ∧ (strC.slice (by decide) Tryz.underlying28 (by kernel_rfl)).ok W N x.tags ∧ i64C.ok W N x.port ∧ u64C.ok W N x.made ∧ u64C.ok W N x.ix) (fun _ => rfl)
    (fun h => ⟨rfl, h.1, h.2.1, h.2.2.1, h.2.2.2.1, h.2.2.2.2.1, h.2.2.2.2.2.1, h.2.2.2.2.2.2.1⟩) (fun h hb => ⟨i64C.keep h.1 hb, strC.keep h.2.1 hb, strC.keep h.2.2.1 hb, (strC.slice (by decide) Tryz.underlying28 (by kernel_rfl)).keep h.2.2.2.1 hb, i64C.keep h.2.2.2.2.1 hb, u64C.keep h.2.2.2.2.2.1 hb, u64C.keep h.2.2.2.2.2.2 hb⟩)
structure CkI where
  node : Int
  id : ByteArray
  svc : ByteArray
  note : ByteArray
  status : Int
  made : Nat
  ix : Nat
noncomputable def ckI : Came Tryz.prog 33 CkI :=
  (Came.struct (CameF.cons i64C (CameF.cons strC (CameF.cons strC (CameF.cons strC (CameF.cons i64C (CameF.cons u64C (CameF.cons u64C (CameF.nil _)))))))) Tryz.underlying33 (by kernel_rfl) (by kernel_rfl)).re
    (fun x => ⟨x.1, x.2.1, x.2.2.1, x.2.2.2.1, x.2.2.2.2.1, x.2.2.2.2.2.1, x.2.2.2.2.2.2.1⟩) (fun x => [.int .i64 x.node, .string x.id, .string x.svc, .string x.note, .int .i64 x.status, .int .u64 (x.made : Int), .int .u64 (x.ix : Int)])
    (fun W N x => i64C.ok W N x.node ∧ strC.ok W N x.id ∧ strC.ok W N x.svc ∧ strC.ok W N x.note ∧ i64C.ok W N x.status ∧ u64C.ok W N x.made ∧ u64C.ok W N x.ix) (fun _ => rfl)
    (fun h => ⟨rfl, h.1, h.2.1, h.2.2.1, h.2.2.2.1, h.2.2.2.2.1, h.2.2.2.2.2.1, h.2.2.2.2.2.2.1⟩) (fun h hb => ⟨i64C.keep h.1 hb, strC.keep h.2.1 hb, strC.keep h.2.2.1 hb, strC.keep h.2.2.2.1 hb, i64C.keep h.2.2.2.2.1 hb, u64C.keep h.2.2.2.2.2.1 hb, u64C.keep h.2.2.2.2.2.2 hb⟩)
theorem tags_b : Tryz.prog.bytesOf 9 = 16 := by kernel_rfl
structure SvM (W : World) (x : Rw SvW) : Prop where
  s : SvIn W x
  n : x.val.n * 16 ≤ 140737488355328
  made : x.made < 18446744073709551616
  ix : x.ix < 18446744073709551616
  id : x.val.a.id.size ≤ 140737488355328
structure CkM (x : Rw CkA) : Prop where
  c : CkIn x
  made : x.made < 18446744073709551616
  ix : x.ix < 18446744073709551616
  id : x.val.id.size ≤ 140737488355328
theorem reach_le {n : Nat} (h : n ≤ reachBytes) : n ≤ 140737488355328 := Nat.le_trans h (by decide)
noncomputable def svM : Came Tryz.prog 31 (Rw SvW) :=
  svI.re (fun x => ⟨noT, ⟨⟨x.node, x.id, x.name, x.tags.l, x.port⟩, x.tags.A, x.tags.l.length, x.tags.c, 0, 0⟩, x.made, x.ix⟩) svC
    (fun W _ x => SvM W x) (fun _ => rfl)
    (fun {W N a} h => ⟨rfl, ⟨⟨i64_b h.1, i64_b h.2.2.2.2.1, h.2.1.1, h.2.2.1.1, ⟨h.2.2.2.1.1, h.2.2.2.1.2.2.1, h.2.2.2.1.2.2.2.1, h.2.2.2.1.2.2.2.2.1⟩, fun x hx => (h.2.2.2.1.2.1 x hx).1⟩, by
      have h1 := h.2.2.2.1.2.2.2.2.2.1
      have h2 := h.2.2.2.1.2.2.1
      rw [tags_b] at h1
      have h3 := reach_le h1
      show a.tags.l.length * 16 ≤ _
      omega, h.2.2.2.2.2.1, h.2.2.2.2.2.2, reach_le h.2.1.2.1⟩⟩) (fun h hb => ⟨h.s.below hb, h.n, h.made, h.ix, h.id⟩)
noncomputable def ckM : Came Tryz.prog 33 (Rw CkA) :=
  ckI.re (fun x => ⟨noT, ⟨x.node, x.id, x.svc, x.note, x.status⟩, x.made, x.ix⟩) ckC
    (fun _ _ x => CkM x) (fun _ => rfl)
    (fun h => ⟨rfl, ⟨⟨i64_b h.1, i64_b h.2.2.2.2.1, h.2.1.1, h.2.2.1.1, h.2.2.2.1.1⟩, h.2.2.2.2.2.1, h.2.2.2.2.2.2, reach_le h.2.1.2.1⟩⟩) (fun h _ => h)
noncomputable def stM : Came Tryz.prog 35 RSt :=
  (Came.struct (CameF.cons i64C (CameF.cons i64C (CameF.cons strC (CameF.cons svM (CameF.cons ckM (CameF.cons u64C (CameF.nil _))))))) Tryz.underlying35 (by kernel_rfl) (by kernel_rfl)).re
    (fun x => ⟨x.1, x.2.1, x.2.2.1, x.2.2.2.1, x.2.2.2.2.1, x.2.2.2.2.2.1⟩) (fun x => [.int .i64 x.kind, .int .i64 x.node, .string x.text, .int .i64 x.s.val.a.node, .string x.s.val.a.id, .string x.s.val.a.name, .slice x.s.val.A x.s.val.n x.s.val.c, .int .i64 x.s.val.a.port, .int .u64 (x.s.made : Int), .int .u64 (x.s.ix : Int), .int .i64 x.c.val.node, .string x.c.val.id, .string x.c.val.svc, .string x.c.val.note, .int .i64 x.c.val.status, .int .u64 (x.c.made : Int), .int .u64 (x.c.ix : Int), .int .u64 (x.ix : Int)])
    (fun W N x => i64C.ok W N x.kind ∧ i64C.ok W N x.node ∧ strC.ok W N x.text ∧ svM.ok W N x.s ∧ ckM.ok W N x.c ∧ u64C.ok W N x.ix) (fun _ => rfl)
    (fun h => ⟨rfl, h.1, h.2.1, h.2.2.1, h.2.2.2.1, h.2.2.2.2.1, h.2.2.2.2.2.1⟩) (fun h hb => ⟨i64C.keep h.1 hb, i64C.keep h.2.1 hb, strC.keep h.2.2.1 hb, svM.keep h.2.2.2.1 hb, ckM.keep h.2.2.2.2.1 hb, u64C.keep h.2.2.2.2.2 hb⟩)
theorem rst_ok {W : World} {N : Nat} {s : RSt} (h : stM.ok W N s) : s.Ok W := ⟨i64_b h.2.1, reach_le h.2.2.1.2.1, h.2.2.2.1.s, h.2.2.2.2.1.c, h.2.2.2.2.2⟩
theorem rst_sk {W : World} {A : Option Addr} {n : Nat} {l : List RSt} (h : SK stM.enc stM.k W A n l) : SK stC 18 W A n l := h
theorem pwIs_of {W : World} (h : laidMetH Tryz.prog [("math/bits.deBruijn32tab", Rows.laid_math_bits_deBruijn32tab), ("math/bits.deBruijn64tab", Rows.laid_math_bits_deBruijn64tab), ("internal/strconv.uint64pow10", Rows.laid_internal_strconv_uint64pow10)] W) : PwIs W := by
  rw [MakeChecks.laidMetH_plain _ _ _ (by kernel_rfl)] at h
  have h1 := h.filter (fun x => x.1 == "internal/strconv.uint64pow10")
  have e : ([("math/bits.deBruijn32tab", (Rows.laid_math_bits_deBruijn32tab : DataW Unit)), ("math/bits.deBruijn64tab", Rows.laid_math_bits_deBruijn64tab), ("internal/strconv.uint64pow10", Rows.laid_internal_strconv_uint64pow10)]).filter (fun x => x.1 == "internal/strconv.uint64pow10") = [("internal/strconv.uint64pow10", Lib.tabData .u64 Lib.pow10Tab)] := by rfl
  rw [e] at h1
  exact Lib.tabIs_of_head pw_named (t := 211) (e := 29) (n := 20) (by kernel_rfl) (by kernel_rfl) (by kernel_rfl) (by kernel_rfl) (by kernel_rfl) h1
end Go.Proofs.YtilkbfmaofmjoaaGreatDoor
