import Derived.Test.YtilkbfmaofmjoaaGreatDoorZj45
import Derived.Test.YtilkbfmaofmjoaaGreatDoorZj48
import Derived.Test.YtilkbfmaofmjoaaGreatDoorRows
import Derived.LaidSub
import Derived.Lib.LaidTab
import Derived.MakeChecks
import Derived.LaidMore
import Derived.Test.YtilkbfmaofmjoaaGreatDoorZj46
import Derived.Test.YtilkbfmaofmjoaaGreatDoorZj43
import Derived.Test.YtilkbfmaofmjoaaGreatDoorZj47
namespace Go.Proofs.YtilkbfmaofmjoaaGreatDoor
open Go.Joins Go.ChangeShapes Go.WideShapes Go.ChangeAt Go.RowKit
set_option linter.unusedSimpArgs false
noncomputable def i64C : Came Tryz.prog 3 Int := Came.int Tryz.underlying3 (by kernel_rfl)
theorem wfu64 (z : Int) (h : (Lit.int .u64 z).wf = true) : 0 ≤ z ∧ z < ((18446744073709551616 : Nat) : Int) := by
  have : 0 ≤ z ∧ z ≤ 18446744073709551615 := by simpa [Lit.wf, IntKind.min, IntKind.max, IntKind.signed, IntKind.bits] using h
  omega
noncomputable def u64C : Came Tryz.prog 29 Nat := Came.nat Tryz.underlying29 (by kernel_rfl) 18446744073709551616 wfu64
noncomputable def strC : Came Tryz.prog 9 ByteArray := Came.str Tryz.underlying9 (by kernel_rfl)
theorem i64_b {z : Int} (h : (Lit.int .i64 z).wf = true) : -9223372036854775808 ≤ z ∧ z ≤ 9223372036854775807 := by simpa [Lit.wf, IntKind.min, IntKind.max, IntKind.signed, IntKind.bits] using h
structure SvI where
  node : Int
  id : ByteArray
  name : ByteArray
  tags : Sl ByteArray
  port : Int
  made : Nat
  ix : Nat
noncomputable def svI : Came Tryz.prog 31 SvI :=
  (Came.struct (CameF.cons i64C (CameF.cons strC (CameF.cons strC (CameF.cons (strC.slice (by decide) Tryz.underlying28 (by kernel_rfl)) (CameF.cons i64C (CameF.cons u64C (CameF.cons u64C (CameF.nil _)))))))) Tryz.underlying31 (by kernel_rfl) (by kernel_rfl)).re
    (fun x => ⟨x.1, x.2.1, x.2.2.1, x.2.2.2.1, x.2.2.2.2.1, x.2.2.2.2.2.1, x.2.2.2.2.2.2.1⟩) (fun x => [.int .i64 x.node, .string x.id, .string x.name, .slice x.tags.A x.tags.l.length x.tags.c, .int .i64 x.port, .int .u64 (x.made : Int), .int .u64 (x.ix : Int)])
    (fun W N x => i64C.ok W N x.node ∧ strC.ok W N x.id ∧ strC.ok W N x.name ∧ (strC.slice (by decide) Tryz.underlying28 (by kernel_rfl)).ok W N x.tags ∧ i64C.ok W N x.port ∧ u64C.ok W N x.made ∧ u64C.ok W N x.ix) (fun _ => rfl)
    (fun h => ⟨rfl, h.1, h.2.1, h.2.2.1, h.2.2.2.1, h.2.2.2.2.1, h.2.2.2.2.2.1, h.2.2.2.2.2.2.1⟩) (fun h hb => ⟨i64C.keep h.1 hb, strC.keep h.2.1 hb, strC.keep h.2.2.1 hb, (strC.slice (by decide) Tryz.underlying28 (by kernel_rfl)).keep h.2.2.2.1 hb, i64C.keep h.2.2.2.2.1 hb, u64C.keep h.2.2.2.2.2.1 hb, u64C.keep h.2.2.2.2.2.2 hb⟩)
structure CkI where
  node : Int
  id : ByteArray
  svc : ByteArray
  note : ByteArray
  status : Int
  made : Nat
  ix : Nat
noncomputable def ckI : Came Tryz.prog 33 CkI :=
  (Came.struct (CameF.cons i64C (CameF.cons strC (CameF.cons strC (CameF.cons strC (CameF.cons i64C (CameF.cons u64C (CameF.cons u64C (CameF.nil _)))))))) Tryz.underlying33 (by kernel_rfl) (by kernel_rfl)).re
    (fun x => ⟨x.1, x.2.1, x.2.2.1, x.2.2.2.1, x.2.2.2.2.1, x.2.2.2.2.2.1, x.2.2.2.2.2.2.1⟩) (fun x => [.int .i64 x.node, .string x.id, .string x.svc, .string x.note, .int .i64 x.status, .int .u64 (x.made : Int), .int .u64 (x.ix : Int)])
    (fun W N x => i64C.ok W N x.node ∧ strC.ok W N x.id ∧ strC.ok W N x.svc ∧ strC.ok W N x.note ∧ i64C.ok W N x.status ∧ u64C.ok W N x.made ∧ u64C.ok W N x.ix) (fun _ => rfl)
    (fun h => ⟨rfl, h.1, h.2.1, h.2.2.1, h.2.2.2.1, h.2.2.2.2.1, h.2.2.2.2.2.1, h.2.2.2.2.2.2.1⟩) (fun h hb => ⟨i64C.keep h.1 hb, strC.keep h.2.1 hb, strC.keep h.2.2.1 hb, strC.keep h.2.2.2.1 hb, i64C.keep h.2.2.2.2.1 hb, u64C.keep h.2.2.2.2.2.1 hb, u64C.keep h.2.2.2.2.2.2 hb⟩)
structure NdI where
  node : Int
  addr : ByteArray
  made : Nat
  ix : Nat
noncomputable def ndI : Came Tryz.prog 49 NdI :=
  (Came.struct (CameF.cons i64C (CameF.cons strC (CameF.cons u64C (CameF.cons u64C (CameF.nil _))))) Tryz.underlying49 (by kernel_rfl) (by kernel_rfl)).re
    (fun x => ⟨x.1, x.2.1, x.2.2.1, x.2.2.2.1⟩) (fun x => [.int .i64 x.node, .string x.addr, .int .u64 (x.made : Int), .int .u64 (x.ix : Int)])
    (fun W N x => i64C.ok W N x.node ∧ strC.ok W N x.addr ∧ u64C.ok W N x.made ∧ u64C.ok W N x.ix) (fun _ => rfl)
    (fun h => ⟨rfl, h.1, h.2.1, h.2.2.1, h.2.2.2.1⟩) (fun h hb => ⟨i64C.keep h.1 hb, strC.keep h.2.1 hb, u64C.keep h.2.2.1 hb, u64C.keep h.2.2.2 hb⟩)
theorem tags_b : Tryz.prog.bytesOf 9 = 16 := by kernel_rfl
structure SvM (W : World) (x : Rw SvW) : Prop where
  s : SvIn W x
  n : x.val.n * 16 ≤ 140737488355328
  made : x.made < 18446744073709551616
  ix : x.ix < 18446744073709551616
  id : x.val.a.id.size ≤ 140737488355328
structure CkM (x : Rw CkA) : Prop where
  c : CkIn x
  made : x.made < 18446744073709551616
  ix : x.ix < 18446744073709551616
  id : x.val.id.size ≤ 140737488355328
structure NdM (x : Rw NdA) : Prop where
  node : -9223372036854775808 ≤ x.val.node ∧ x.val.node ≤ 9223372036854775807
  addr : x.val.addr.size ≤ maxLen
  made : x.made < 18446744073709551616
  ix : x.ix < 18446744073709551616
theorem reach_le {n : Nat} (h : n ≤ reachBytes) : n ≤ 140737488355328 := Nat.le_trans h (by decide)
noncomputable def svM : Came Tryz.prog 31 (Rw SvW) :=
  svI.re (fun x => ⟨noT, ⟨⟨x.node, x.id, x.name, x.tags.l, x.port⟩, x.tags.A, x.tags.l.length, x.tags.c, 0, 0⟩, x.made, x.ix⟩) svC
    (fun W _ x => SvM W x) (fun _ => rfl)
    (fun {W N a} h => ⟨rfl, ⟨⟨i64_b h.1, i64_b h.2.2.2.2.1, h.2.1.1, h.2.2.1.1, ⟨h.2.2.2.1.1, h.2.2.2.1.2.2.1, h.2.2.2.1.2.2.2.1, h.2.2.2.1.2.2.2.2.1⟩, fun x hx => (h.2.2.2.1.2.1 x hx).1⟩, by
      have h1 := h.2.2.2.1.2.2.2.2.2.1
      have h2 := h.2.2.2.1.2.2.1
      rw [tags_b] at h1
      have h3 := reach_le h1
      show a.tags.l.length * 16 ≤ _
      omega, h.2.2.2.2.2.1, h.2.2.2.2.2.2, reach_le h.2.1.2.1⟩⟩) (fun h hb => ⟨h.s.below hb, h.n, h.made, h.ix, h.id⟩)
noncomputable def ckM : Came Tryz.prog 33 (Rw CkA) :=
  ckI.re (fun x => ⟨noT, ⟨x.node, x.id, x.svc, x.note, x.status⟩, x.made, x.ix⟩) ckC
    (fun _ _ x => CkM x) (fun _ => rfl)
    (fun h => ⟨rfl, ⟨⟨i64_b h.1, i64_b h.2.2.2.2.1, h.2.1.1, h.2.2.1.1, h.2.2.2.1.1⟩, h.2.2.2.2.2.1, h.2.2.2.2.2.2, reach_le h.2.1.2.1⟩⟩) (fun h _ => h)
noncomputable def ndM : Came Tryz.prog 49 (Rw NdA) :=
  ndI.re (fun x => ⟨noT, ⟨x.node, x.addr⟩, x.made, x.ix⟩) ndC
    (fun _ _ x => NdM x) (fun _ => rfl)
    (fun h => ⟨rfl, ⟨i64_b h.1, h.2.1.1, h.2.2.1, h.2.2.2⟩⟩) (fun h _ => h)
theorem pwIs_of {W : World} (h : laidMetH Tryz.prog [("math/bits.deBruijn32tab", Rows.laid_math_bits_deBruijn32tab), ("math/bits.deBruijn64tab", Rows.laid_math_bits_deBruijn64tab), ("internal/strconv.uint64pow10", Rows.laid_internal_strconv_uint64pow10)] W) : PwIs W := by
  rw [MakeChecks.laidMetH_plain _ _ _ (by kernel_rfl)] at h
  have h1 := h.filter (fun x => x.1 == "internal/strconv.uint64pow10")
  have e : ([("math/bits.deBruijn32tab", (Rows.laid_math_bits_deBruijn32tab : DataW Unit)), ("math/bits.deBruijn64tab", Rows.laid_math_bits_deBruijn64tab), ("internal/strconv.uint64pow10", Rows.laid_internal_strconv_uint64pow10)]).filter (fun x => x.1 == "internal/strconv.uint64pow10") = [("internal/strconv.uint64pow10", Lib.tabData .u64 Lib.pow10Tab)] := by rfl
  rw [e] at h1
  exact Lib.tabIs_of_head pw_named (t := 211) (e := 29) (n := 20) (by kernel_rfl) (by kernel_rfl) (by kernel_rfl) (by kernel_rfl) (by kernel_rfl) h1
end Go.Proofs.YtilkbfmaofmjoaaGreatDoor
namespace Go.Proofs.YtilkbfmaofmjoaaGreatDoor
open Go.Joins Go.ChangeShapes Go.WideShapes Go.ChangeAt Go.RowKit
set_option linter.unusedSimpArgs false
set_option linter.unusedVariables false
section
variable {P : Program} {E T : TypeId} {α : Type}
noncomputable def Came.trip (C : Came P E α) (hT : P.underlying T = some (.array 3 E)) (hc : P.cellsOf T = C.k + C.k + C.k) : Came P T (α × α × α) where
  k := C.k + C.k + C.k
  enc x := C.enc x.1 ++ (C.enc x.2.1 ++ C.enc x.2.2)
  ok W N x := C.ok W N x.1 ∧ C.ok W N x.2.1 ∧ C.ok W N x.2.2
  dflt := (C.dflt, C.dflt, C.dflt)
  len x := by rw [List.length_append, List.length_append, C.len, C.len, C.len]; omega
  size := hc
  in_ := fun {H e W N fuel cs x} h hw hb => by
    obtain ⟨xs, m, _, hx, hcl, hl, hi⟩ := DataW.trod_array hT h
    match xs, hl with
    | [y0, y1, y2], _ =>
      have h0 := hi 0 (by omega)
      have h1 := hi 1 (by omega)
      have h2 := hi 2 (by omega)
      rw [C.size] at h0 h1 h2
      subst hx
      have hm0 : y0.1 ∈ [y0, y1, y2].map (·.1) := by simp
      have hm1 : y1.1 ∈ [y0, y1, y2].map (·.1) := by simp
      have hm2 : y2.1 ∈ [y0, y1, y2].map (·.1) := by simp
      obtain ⟨a, e1, ha⟩ := C.in_ (x := y0) (by simpa using h0) (fun q hq => hw q (by
        simp only [DataW.weights, hT]
        exact weightsAll_mem hm0 q hq)) (bulk_agg hb _ hm0)
      obtain ⟨b, e2, hb'⟩ := C.in_ (x := y1) (by simpa using h1) (fun q hq => hw q (by
        simp only [DataW.weights, hT]
        exact weightsAll_mem hm1 q hq)) (bulk_agg hb _ hm1)
      obtain ⟨c, e3, hc'⟩ := C.in_ (x := y2) (by simpa using h2) (fun q hq => hw q (by
        simp only [DataW.weights, hT]
        exact weightsAll_mem hm2 q hq)) (bulk_agg hb _ hm2)
      refine ⟨(a, b, c), ?_, ha, hb', hc'⟩
      have e1' : cs.take C.k = C.enc a := by simpa using e1
      have e2' : (cs.drop C.k).take C.k = C.enc b := by simpa using e2
      have e3' : (cs.drop C.k).drop C.k = C.enc c := by
        have e4 : (cs.drop (2 * C.k)).take C.k = C.enc c := by simpa using e3
        rw [List.drop_drop, show C.k + C.k = 2 * C.k by omega, ← e4, List.take_of_length_le (by rw [List.length_drop, hcl, hc]; omega)]
      show cs = C.enc a ++ (C.enc b ++ C.enc c)
      rw [← e1', ← e2', ← e3', List.take_append_drop, List.take_append_drop]
  keep := fun ⟨h1, h2, h3⟩ hb => ⟨C.keep h1 hb, C.keep h2 hb, C.keep h3 hb⟩
end
noncomputable def triC : Came Tryz.prog 55 (Nat × Nat × Nat) := u64C.trip Tryz.underlying55 (by kernel_rfl)
structure ToldI where
  nodes : Sl (Rw NdA)
  services : Sl (Rw SvW)
  checks : Sl (Rw CkA)
  last : (Nat × Nat × Nat)
noncomputable def tdI : Came Tryz.prog 57 ToldI :=
  (Came.struct (CameF.cons (ndM.slice (by decide) Tryz.underlying40 (by kernel_rfl)) (CameF.cons (svM.slice (by decide) Tryz.underlying42 (by kernel_rfl)) (CameF.cons (ckM.slice (by decide) Tryz.underlying44 (by kernel_rfl)) (CameF.cons triC (CameF.nil _))))) Tryz.underlying57 (by kernel_rfl) (by kernel_rfl)).re
    (fun x => ⟨x.1, x.2.1, x.2.2.1, x.2.2.2.1⟩) (fun x => [.slice x.nodes.A x.nodes.l.length x.nodes.c, .slice x.services.A x.services.l.length x.services.c, .slice x.checks.A x.checks.l.length x.checks.c, .int .u64 (x.last.1 : Int), .int .u64 (x.last.2.1 : Int), .int .u64 (x.last.2.2 : Int)])
    (fun W N x => (ndM.slice (by decide) Tryz.underlying40 (by kernel_rfl)).ok W N x.nodes ∧ (svM.slice (by decide) Tryz.underlying42 (by kernel_rfl)).ok W N x.services ∧ (ckM.slice (by decide) Tryz.underlying44 (by kernel_rfl)).ok W N x.checks ∧ triC.ok W N x.last) (fun _ => rfl)
    (fun h => ⟨rfl, h.1, h.2.1, h.2.2.1, h.2.2.2.1⟩) (fun h hb => ⟨(ndM.slice (by decide) Tryz.underlying40 (by kernel_rfl)).keep h.1 hb, (svM.slice (by decide) Tryz.underlying42 (by kernel_rfl)).keep h.2.1 hb, (ckM.slice (by decide) Tryz.underlying44 (by kernel_rfl)).keep h.2.2.1 hb, triC.keep h.2.2.2 hb⟩)
def reN (r : Rw NdA) : Rw NdA := ⟨r.val.key, r.val, r.made, r.ix⟩
def reS (r : Rw SvW) : Rw SvW := ⟨r.val.a.key, r.val, r.made, r.ix⟩
def reC (r : Rw CkA) : Rw CkA := ⟨r.val.key, r.val, r.made, r.ix⟩
theorem NdM.ld {x : Rw NdA} (h : NdM x) : LdN (reN x) := ⟨h.node, h.addr, h.made, h.ix⟩
theorem SvM.ld {W : World} {x : Rw SvW} (h : SvM W x) : LdS W (reS x) := ⟨⟨h.s.node, h.s.port, h.s.id, h.s.name, h.s.tx, h.s.small⟩, h.n, h.made, h.ix, h.id⟩
theorem CkM.ld {x : Rw CkA} (h : CkM x) : LdC (reC x) := ⟨⟨h.c.node, h.c.status, h.c.id, h.c.svc, h.c.note⟩, h.made, h.ix, h.id⟩
end Go.Proofs.YtilkbfmaofmjoaaGreatDoor
namespace Go.Proofs.YtilkbfmaofmjoaaGreatDoor
open Go.RowKit Go.Rel
set_option linter.unusedSimpArgs false
set_option linter.unusedVariables false
theorem SK.rekey {α : Type} {enc : α → List Value} {k : Nat} {w : World} {A : Option Addr} {n : Nat} {l : List α} (g : α → α) (hg : ∀ x, enc (g x) = enc x) (h : SK enc k w A n l) : SK enc k w A n (l.map g) := by
  refine ⟨by rw [List.length_map]; exact h.1, fun hn => ?_⟩
  obtain ⟨b, off, e, hlt, hc⟩ := h.2 hn
  refine ⟨b, off, e, hlt, fun j hj => ?_⟩
  rw [List.getElem_map]
  intro i v hv
  rw [hg] at hv
  exact hc j (by rw [List.length_map] at hj; exact hj) i v hv
def rldE (B : Nat) (D : Nat) (X : Nat) (A1 : Option Addr) (n1 : Nat) (c1 : Nat) (A2 : Option Addr) (n2 : Nat) (c2 : Nat) (A3 : Option Addr) (n3 : Nat) (c3 : Nat) : Nat → Value
  | 0 => .int .i64 0
  | 1 | 2 | 5 | 6 | 7 | 12 | 13 | 14 | 19 | 20 | 21 | 26 | 27 | 28 | 29 | 30 | 31 => .bool true
  | 3 | 8 | 15 | 22 => .pointer (some ⟨B, 0, none⟩)
  | 4 => .pointer (some ⟨D, 0, none⟩)
  | 10 => .pointer (some ⟨X, 0, none⟩)
  | 11 => .slice A1 n1 c1
  | 17 => .pointer (some ⟨X, 1, none⟩)
  | 18 => .slice A2 n2 c2
  | 24 => .pointer (some ⟨X, 2, none⟩)
  | 25 => .slice A3 n3 c3
  | _ => undef
set_option maxHeartbeats 8000000 in
set_option maxRecDepth 100000 in
theorem loads_walk0 (mo : Int) (hm : -9223372036854775808 ≤ mo ∧ mo ≤ 9223372036854775807) (A1 A2 A3 : Option Addr) (n1 n2 n3 c1 c2 c3 : Nat) (ns : List (Rw NdA)) (ls : List (Rw SvW)) (ss : List (Rw SvA)) (cs : List (Rw CkA)) (a1 a2 a3 : Nat) (w : World) (hp : PwIs w)
    (h1 : SK ndC 4 w A1 n1 ns) (h2 : SK svC 7 w A2 n2 ls) (h3 : SK ckC 7 w A3 n3 cs) (hss : ls.map (rwMap (fun v : SvW => v.a)) = ss) (k1 : ∀ x ∈ ns, x.key = x.val.key) (k2 : ∀ x ∈ ls, x.key = x.val.a.key) (k3 : ∀ x ∈ cs, x.key = x.val.key)
    (i1 : ∀ x ∈ ns, LdN x) (i2 : ∀ x ∈ ls, LdS w x) (i3 : ∀ x ∈ cs, LdC x) (hn1 : n1 ≤ maxLen) (hn2 : n2 ≤ maxLen) (hn3 : n3 ≤ maxLen) (ha1 : a1 < 18446744073709551616) (ha2 : a2 < 18446744073709551616) (ha3 : a3 < 18446744073709551616) :
    Calls Tryz.prog 6 #[.int .i64 mo, .agg #[.slice A1 n1 c1, .slice A2 n2 c2, .slice A3 n3 c3, .int .u64 (a1 : Int), .int .u64 (a2 : Int), .int .u64 (a3 : Int)]] w fun e w' => e = .returned (.bool true) ∧ Below w.heap.size w w' := by
  obtain ⟨X, hX⟩ : ∃ X, w.heap.size = X := ⟨_, rfl⟩
  have b1 := below1 w #[.slice A1 n1 c1, .slice A2 n2 c2, .slice A3 n3 c3, .int .u64 (a1 : Int), .int .u64 (a2 : Int), .int .u64 (a3 : Int)] 57
  have kx := heap_alloc_new w (.cells #[.slice A1 n1 c1, .slice A2 n2 c2, .slice A3 n3 c3, .int .u64 (a1 : Int), .int .u64 (a2 : Int), .int .u64 (a3 : Int)] 57)
  obtain ⟨W1, hW1⟩ : ∃ W1, w.alloc (.cells #[.slice A1 n1 c1, .slice A2 n2 c2, .slice A3 n3 c3, .int .u64 (a1 : Int), .int .u64 (a2 : Int), .int .u64 (a3 : Int)] 57) = W1 := ⟨_, rfl⟩
  rw [hW1] at b1 kx
  rw [hX] at kx
  have HLo := Lib.hid (rload_any mo hm A1 A2 A3 n1 n2 n3 c1 c2 c3 ns ls ss cs a1 a2 a3 W1 (hp.below b1) (h1.below b1) (h2.below b1) (h3.below b1) hss k1 k2 k3 i1 (fun x hx => (i2 x hx).below b1) i3 hn1 hn2 hn3 ha1 ha2 ha3)
  have HRd := Lib.hid (fun W (hW : Below w.heap.size w W) => rdload_any mo hm A1 A2 A3 n1 n2 n3 c1 c2 c3 ns ls ss cs a1 a2 a3 W (h1.below hW) (h2.below hW) (h3.below hW) hss k1 k2 k3 i1 (fun x hx => (i2 x hx).below hW) i3 hn1 hn2 hn3 ha1 ha2 ha3)
  have HAll := Lib.hid (And.intro h1 (And.intro h2 h3))
  have HTx := Lib.hid (fun x (hx : x ∈ ls) => (i2 x hx).s.tx)
  have HSs0 := Lib.hid hss
  have HPw := Lib.hid hp
  have HNn := Lib.hid (And.intro hn1 (And.intro hn2 hn3))
  obtain ⟨m, hmm⟩ : ∃ m, mostT mo = m := ⟨_, rfl⟩
  rw [hmm] at HLo HRd
  have HB1 := Lib.hid b1
  have HKx := Lib.hid kx
  have HW1 := Lib.hid hW1
  have HX := Lib.hid hX
  obtain ⟨z0, z1, z2, z3, z4, z5⟩ : (W1.cell? ⟨X, 0, none⟩ = some (.slice A1 n1 c1)) ∧ (W1.cell? ⟨X, 1, none⟩ = some (.slice A2 n2 c2)) ∧ (W1.cell? ⟨X, 2, none⟩ = some (.slice A3 n3 c3)) ∧ (W1.cell? ⟨X, 3, none⟩ = some (.int .u64 (a1 : Int))) ∧ (W1.cell? ⟨X, 4, none⟩ = some (.int .u64 (a2 : Int))) ∧ (W1.cell? ⟨X, 5, none⟩ = some (.int .u64 (a3 : Int))) := ⟨cellsN kx 0 _ rfl, cellsN kx 1 _ rfl, cellsN kx 2 _ rfl, cellsN kx 3 _ rfl, cellsN kx 4 _ rfl, cellsN kx 5 _ rfl⟩
  rw [← hW1, ← hX] at z0 z1 z2 z3 z4 z5
  clear hp h1 h2 h3 hss k1 k2 k3 i1 i2 i3 hn1 hn2 hn3 ha1 ha2 ha3 b1 kx hW1 hX hm hmm
  go_enter Tryz.func6, Tryz.ntmps6
  go_wp2_with fail
  rw [HW1.out, HX.out]
  refine HLo.out.mono ?_
  rintro e w2 ⟨hb2, hl⟩
  have HB2 := Lib.hid (HB1.out.trans (hb2.mono HB1.out.size))
  have HK2 := Lib.hid ((hb2.block X (block_lt HKx.out)).trans HKx.out)
  clear z0 z1 z2 z3 z4 z5 hb2 HLo
  have z0 := cellsN HK2.out 0 _ rfl
  have z1 := cellsN HK2.out 1 _ rfl
  have z2 := cellsN HK2.out 2 _ rfl
  have z3 := cellsN HK2.out 3 _ rfl
  have z4 := cellsN HK2.out 4 _ rfl
  have z5 := cellsN HK2.out 5 _ rfl
  have HRd2 := Lib.hid (HRd.out w2 HB2.out)
  rcases hl with ⟨hyes, B, B1, B2, B3, rfl, hro⟩ | ⟨hno, rfl⟩
  · have HYes := Lib.hid hyes
    have HRo := Lib.hid hro
    clear hyes hro
    go_wp2_with fail
    refine HRd2.out.mono ?_
    rintro e w3 ⟨hb3, hl⟩
    rcases hl with ⟨-, D, Sd, rfl, hrd⟩ | ⟨hno, -⟩
    case inr => exact absurd HYes.out hno
    have HRo3 := Lib.hid (HRo.out.below hb3)
    have HRd3 := Lib.hid hrd
    have HB3 := Lib.hid (HB2.out.trans (hb3.mono HB2.out.size))
    have HK3 := Lib.hid ((hb3.block X (block_lt HK2.out)).trans HK2.out)
    obtain ⟨W0, hW0⟩ : ∃ W0, w3 = W0 := ⟨_, rfl⟩
    clear hb3 hrd z0 z1 z2 z3 z4 z5 HRd2
    rw [hW0] at HRo3 HRd3 HB3 HK3 ⊢
    clear hW0
    have hok : RoOk m (Ro.loaded m ns ss cs a1 a2 a3) := HRo3.out.ok
    have hl1 : ns.length = n1 := HAll.out.1.1
    have hl2 : ss.length = n2 := by rw [← HSs0.out, List.length_map]; exact HAll.out.2.1.1
    have hl3 : cs.length = n3 := HAll.out.2.2.1
    have hXc := fun W (hW : Below W0.heap.size W0 W) => (show W.cell? ⟨X, 0, none⟩ = some (.slice A1 n1 c1) ∧ W.cell? ⟨X, 1, none⟩ = some (.slice A2 n2 c2) ∧ W.cell? ⟨X, 2, none⟩ = some (.slice A3 n3 c3) from by
      have h9 := (hW.block X (block_lt HK3.out)).trans HK3.out
      exact ⟨cellsN h9 0 _ rfl, cellsN h9 1 _ rfl, cellsN h9 2 _ rfl⟩)
    have HXc := Lib.hid hXc
    have hSm := fun W (hW : Below W0.heap.size W0 W) => (show Calls Tryz.prog 12 #[.pointer (some ⟨B, 0, none⟩), .pointer (some ⟨D, 0, none⟩)] W fun e w' => e = .returned (.bool true) ∧ Below W.heap.size W w' from by
      obtain ⟨_, A1', A2', A3', e1, e2, e3, l9, hri⟩ := HRd3.out.below hW
      exact same_yes (HRo3.out.below hW) hri)
    have HSm := Lib.hid hSm
    have HWk := Lib.hid (fun W (hW : Below W0.heap.size W0 W) => works_any W (HRo3.out.below hW).pw)
    have HNd := Lib.hid (fun W (hW : Below W0.heap.size W0 W) => ((rnodes_any (HRo3.out.below hW)).mono fun e w' ⟨A, c, q1, q2, _, _, _, q3⟩ => ⟨A, c, by rw [q1]; exact congrArg (fun z => Ending.returned (.slice A z c)) hl1, by rw [← hl1]; exact q2, q3⟩ : Calls Tryz.prog 16 #[.pointer (some ⟨B, 0, none⟩)] W fun e w' => ∃ A c, e = .returned (.slice A n1 c) ∧ SK ndC 4 w' A n1 ns ∧ Below W.heap.size W w'))
    have HCk := Lib.hid (fun W (hW : Below W0.heap.size W0 W) => ((rchecks_any (HRo3.out.below hW)).mono fun e w' ⟨A, c, q1, q2, _, _, _, q3⟩ => ⟨A, c, by rw [q1]; exact congrArg (fun z => Ending.returned (.slice A z c)) hl3, by rw [← hl3]; exact q2, q3⟩ : Calls Tryz.prog 18 #[.pointer (some ⟨B, 0, none⟩)] W fun e w' => ∃ A c, e = .returned (.slice A n3 c) ∧ SK ckC 7 w' A n3 cs ∧ Below W.heap.size W w'))
    have HSv := Lib.hid (fun W (hW : Below W0.heap.size W0 W) => ((rservices_any (HRo3.out.below hW)).mono fun e w' ⟨l', ⟨A, c, q1, q2, _, _, _, q3⟩, q4⟩ => by
      have e9 : l'.length = n2 := q4.len.trans hl2
      rw [e9] at q1 q2
      exact ⟨A, c, l', q1, q2, q4, q3⟩ : Calls Tryz.prog 17 #[.pointer (some ⟨B, 0, none⟩)] W fun e w' => ∃ A c l', e = .returned (.slice A n2 c) ∧ SK svC 7 w' A n2 l' ∧ SvL w' l' ss ∧ Below W.heap.size W w'))
    have hw : ∀ W, Below W0.heap.size W0 W → Below w.heap.size w W := fun W hW => HB3.out.trans (hW.mono HB3.out.size)
    have HSn := Lib.hid (fun W (hW : Below W0.heap.size W0 W) A c (hs : SK ndC 4 W A n1 ns) => ((rdsamenodes_any A _ c ns A1 _ c1 ns W hs (HAll.out.1.below (hw W hW)) HNn.out.1 HNn.out.1).mono fun e w' ⟨b, q1, q2, q3⟩ => ⟨by rw [q1, q2 rfl], q3⟩ : Calls Tryz.prog 24 #[.slice A n1 c, .slice A1 n1 c1] W fun e w' => e = .returned (.bool true) ∧ Below W.heap.size W w'))
    have HSc := Lib.hid (fun W (hW : Below W0.heap.size W0 W) A c (hs : SK ckC 7 W A n3 cs) => ((rdsamechecks_any A _ c cs A3 _ c3 cs W hs (HAll.out.2.2.below (hw W hW)) HNn.out.2.2 HNn.out.2.2).mono fun e w' ⟨b, q1, q2, q3⟩ => ⟨by rw [q1, q2 rfl], q3⟩ : Calls Tryz.prog 26 #[.slice A n3 c, .slice A3 n3 c3] W fun e w' => e = .returned (.bool true) ∧ Below W.heap.size W w'))
    have htg : ∀ (W : World) (l' : List (Rw SvW)), SvL W l' ss → ∀ r ∈ l', Tx W r.val.A r.val.n r.val.c r.val.a.tags ∧ r.val.n ≤ 1000 := fun W l' hl r hr => ⟨hl.tx r hr, by
      have h1 : rwMap (fun v : SvW => v.a) r ∈ ss := by rw [← hl.eq]; exact List.mem_map_of_mem hr
      have h2 := tags_len ((hok.sr _ h1).2.1.tags)
      have h3 := (hl.tx r hr).len
      have : (rwMap (fun v : SvW => v.a) r).val.tags = r.val.a.tags := rfl
      rw [this] at h2
      omega⟩
    have HSs := Lib.hid (fun W (hW : Below W0.heap.size W0 W) A c l' (hs : SK svC 7 W A n2 l') (ht : SvL W l' ss) => ((rdsameservices_any A _ c l' A2 _ c2 ls W hs (HAll.out.2.1.below (hw W hW)) HNn.out.2.1 HNn.out.2.1 (htg W l' ht) (htg W ls ⟨HSs0.out, fun r hr => (HTx.out r hr).below (hw W hW)⟩)).mono fun e w' ⟨b, q1, q2, q3⟩ => ⟨by rw [q1, q2 (ht.eq.trans HSs0.out.symm)], q3⟩ : Calls Tryz.prog 25 #[.slice A n2 c, .slice A2 n2 c2] W fun e w' => e = .returned (.bool true) ∧ Below W.heap.size W w'))
    clear hok hl1 hl2 hl3 hXc hSm hw htg
    go_wp2_with fail
    have hre : ∀ w : World, ((fun a b : World => Below a.heap.size a b)) w w := (fun w => Below.refl _ w)
    have hrd : ∀ (f : Nat → Bool) w i, i ≠ 9 → (fun (_ : Nat → Bool) (wz : World) => Below W0.heap.size W0 wz) f w → (fun (_ : Nat → Bool) (wz : World) => Below W0.heap.size W0 wz) (Go.Rel.upd f i) w := (fun _ _ _ _ h => h)
    refine Go.Rel.wp_tab (by kernel_rfl) (by kernel_rfl) (fun (_ : Nat → Bool) (wz : World) => Below W0.heap.size W0 wz) ((fun a b : World => Below a.heap.size a b)) hre ((fun _ _ _ h k => h.trans (k.mono h.size))) ((⟨rfl, rfl, rfl, Nat.le_refl _, fun _ _ => rfl⟩)) ⟨rfl, rfl, rfl, Nat.le_refl _, fun _ _ => rfl⟩ (rldE B D X A1 n1 c1 A2 n2 c2 A3 n3 c3) (fun | 9, v, w => ∃ A c, v = .slice A n1 c ∧ SK ndC 4 w A n1 ns | 16, v, w => ∃ A c l', v = .slice A n2 c ∧ SK svC 7 w A n2 l' ∧ SvL w l' ss | 23, v, w => ∃ A c, v = .slice A n3 c ∧ SK ckC 7 w A n3 cs | _, _, _ => True) (fun i => ([9, 16, 23] : List Nat).contains i) (fun i => ([5, 9, 11, 12, 16, 18, 19, 23, 25, 26, 29] : List Nat).contains i) (by kernel_rfl) (fun i v w w' h g => by revert h; split <;> intro h <;> first | exact h | trivial | (obtain ⟨A, c, e, k⟩ := h; exact ⟨A, c, e, k.below g⟩) | (obtain ⟨A, c, l', e, k, t⟩ := h; exact ⟨A, c, l', e, k.below g, t.below g⟩)) 9 rfl hrd ?_ (Go.Rel.AllOf.get ?_) ?_
    · repeat (refine .cons (by first | exact Go.Rel.pure_sp rfl | exact Go.Rel.pure_yes (by kernel_rfl) (fun _ => by kernel_rfl) | exact Go.Rel.pure_no (by kernel_rfl) rfl) ?_)
      exact .nil
    · refine ⟨?_, ?_, ?_, ?_, ?_, ?_, ?_, ?_, ?_, ?_, ?_, trivial⟩
      · refine SpecOk.call 12 #[.pointer (some ⟨B, 0, none⟩), .pointer (some ⟨D, 0, none⟩)] rfl (by kernel_rfl) (fun _ => by kernel_rfl) fun _ w' hI _ _ _ _ => ?_
        refine (HSm.out w' hI).mono ?_
        rintro e9 w9 ⟨rfl, hb9⟩
        exact ⟨_, rfl, hb9, (hI.trans (hb9.mono hI.size)), rfl⟩
      · refine SpecOk.call 16 #[.pointer (some ⟨B, 0, none⟩)] rfl (by kernel_rfl) (fun _ => by kernel_rfl) fun _ w' hI _ _ _ _ => ?_
        refine (HNd.out w' hI).mono ?_
        rintro e9 w9 ⟨A9, c9, rfl, s9, hb9⟩
        exact ⟨_, rfl, hb9, (hI.trans (hb9.mono hI.size)), ⟨A9, c9, rfl, s9⟩⟩
      · exact SpecOk.ld hrd hre (q := .pointer (some ⟨X, 0, none⟩)) (h := fun _ w' hI _ _ _ _ => by have cx := HXc.out _ hI; go_simp; rfl)
      · refine SpecOk.gen (fun e => [(51, e 9), (53, .slice A1 n1 c1)]) rfl rfl (fun _ => by kernel_rfl) fun f w' e hI hf hdesc hanc hle hX K hK => ?_
        obtain ⟨A9, c9, e9, s9⟩ := hX 9 rfl rfl
        simp only [e9]
        go_simp
        refine (HSn.out w' hI A9 c9 s9).mono ?_
        rintro e9 w9 ⟨rfl, hb9⟩
        exact hK _ _ hb9 (hI.trans (hb9.mono hI.size)) rfl
      · refine SpecOk.call 17 #[.pointer (some ⟨B, 0, none⟩)] rfl (by kernel_rfl) (fun _ => by kernel_rfl) fun _ w' hI _ _ _ _ => ?_
        refine (HSv.out w' hI).mono ?_
        rintro e9 w9 ⟨A9, c9, l9, rfl, s9, t9, hb9⟩
        exact ⟨_, rfl, hb9, (hI.trans (hb9.mono hI.size)), ⟨A9, c9, l9, rfl, s9, t9⟩⟩
      · exact SpecOk.ld hrd hre (q := .pointer (some ⟨X, 1, none⟩)) (h := fun _ w' hI _ _ _ _ => by have cx := HXc.out _ hI; go_simp; rfl)
      · refine SpecOk.gen (fun e => [(58, e 16), (60, .slice A2 n2 c2)]) rfl rfl (fun _ => by kernel_rfl) fun f w' e hI hf hdesc hanc hle hX K hK => ?_
        obtain ⟨A16, c16, l16, e16, s16, t16⟩ := hX 16 rfl rfl
        simp only [e16]
        go_simp
        refine (HSs.out w' hI A16 c16 l16 s16 t16).mono ?_
        rintro e9 w9 ⟨rfl, hb9⟩
        exact hK _ _ hb9 (hI.trans (hb9.mono hI.size)) rfl
      · refine SpecOk.call 18 #[.pointer (some ⟨B, 0, none⟩)] rfl (by kernel_rfl) (fun _ => by kernel_rfl) fun _ w' hI _ _ _ _ => ?_
        refine (HCk.out w' hI).mono ?_
        rintro e9 w9 ⟨A9, c9, rfl, s9, hb9⟩
        exact ⟨_, rfl, hb9, (hI.trans (hb9.mono hI.size)), ⟨A9, c9, rfl, s9⟩⟩
      · exact SpecOk.ld hrd hre (q := .pointer (some ⟨X, 2, none⟩)) (h := fun _ w' hI _ _ _ _ => by have cx := HXc.out _ hI; go_simp; rfl)
      · refine SpecOk.gen (fun e => [(65, e 23), (67, .slice A3 n3 c3)]) rfl rfl (fun _ => by kernel_rfl) fun f w' e hI hf hdesc hanc hle hX K hK => ?_
        obtain ⟨A23, c23, e23, s23⟩ := hX 23 rfl rfl
        simp only [e23]
        go_simp
        refine (HSc.out w' hI A23 c23 s23).mono ?_
        rintro e9 w9 ⟨rfl, hb9⟩
        exact hK _ _ hb9 (hI.trans (hb9.mono hI.size)) rfl
      · refine SpecOk.call 15 #[] rfl (by kernel_rfl) (fun _ => by kernel_rfl) fun _ w' hI _ _ _ _ => ?_
        refine (HWk.out w' hI).mono ?_
        rintro e9 w9 ⟨rfl, hb9⟩
        exact ⟨_, rfl, hb9, (hI.trans (hb9.mono hI.size)), rfl⟩
    · intro f w4 e hall hJ hle hv
      have v9 := hv 31 rfl
      simp only [Go.Rel.finL, List.setIfInBounds_toArray, List.set_cons_succ, List.set_cons_zero]
      rw [show e 31 = .bool true from v9]
      have HJ := Lib.hid (HB3.out.trans (Below.mono hJ HB3.out.size))
      clear hv hall hle hJ v9
      go_wp2
      go_ret
      exact ⟨rfl, HJ.out⟩
  · have HNo := Lib.hid hno
    clear hno
    go_wp2_with fail
    refine HRd2.out.mono ?_
    rintro e w3 ⟨hb3, hl⟩
    rcases hl with ⟨hyes, -⟩ | ⟨-, rfl⟩
    case inl => exact absurd hyes HNo.out
    have HB3 := Lib.hid (HB2.out.trans (hb3.mono HB2.out.size))
    have HWk := Lib.hid (works_any w3 (HPw.out.below HB3.out))
    clear hb3 z0 z1 z2 z3 z4 z5 HRd2
    go_wp2_with fail
    refine HWk.out.mono ?_
    rintro e w4 ⟨rfl, hb4⟩
    have HJ := Lib.hid (HB3.out.trans (hb4.mono HB3.out.size))
    clear hb4
    go_wp2
    go_ret
    exact ⟨rfl, HJ.out⟩
theorem loads_walk (mo : Int) (hm : -9223372036854775808 ≤ mo ∧ mo ≤ 9223372036854775807) (x : ToldI) (w : World) (N : Nat) (h : tdI.ok w N x) (hp : PwIs w) : Calls Tryz.prog 6 #[.int .i64 mo, .agg (tdI.enc x).toArray] w fun e w' => e = .returned (.bool true) ∧ Below w.heap.size w w' := by
  obtain ⟨h1, h2, h3, h4⟩ := h
  exact loads_walk0 mo hm x.nodes.A x.services.A x.checks.A x.nodes.l.length x.services.l.length x.checks.l.length x.nodes.c x.services.c x.checks.c (x.nodes.l.map reN) (x.services.l.map reS) ((x.services.l.map reS).map (rwMap (fun v : SvW => v.a))) (x.checks.l.map reC) x.last.1 x.last.2.1 x.last.2.2 w hp
    (SK.rekey reN (fun _ => rfl) h1.1) (SK.rekey reS (fun _ => rfl) h2.1) (SK.rekey reC (fun _ => rfl) h3.1) rfl
    (fun y hy => by obtain ⟨z, hz, rfl⟩ := List.mem_map.1 hy; rfl) (fun y hy => by obtain ⟨z, hz, rfl⟩ := List.mem_map.1 hy; rfl) (fun y hy => by obtain ⟨z, hz, rfl⟩ := List.mem_map.1 hy; rfl)
    (fun y hy => by obtain ⟨z, hz, rfl⟩ := List.mem_map.1 hy; exact (h1.2.1 z hz).ld) (fun y hy => by obtain ⟨z, hz, rfl⟩ := List.mem_map.1 hy; exact (h2.2.1 z hz).ld) (fun y hy => by obtain ⟨z, hz, rfl⟩ := List.mem_map.1 hy; exact (h3.2.1 z hz).ld)
    (Nat.le_trans h1.2.2.1 h1.2.2.2.1) (Nat.le_trans h2.2.2.1 h2.2.2.2.1) (Nat.le_trans h3.2.2.1 h3.2.2.2.1) h4.1 h4.2.1 h4.2.2
end Go.Proofs.YtilkbfmaofmjoaaGreatDoor
