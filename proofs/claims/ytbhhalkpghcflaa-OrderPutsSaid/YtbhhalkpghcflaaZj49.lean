/-
  Orders as they come into layer 20's laws.
-/
import Derived.Test.YtbhhalkpghcflaaZj48
namespace Go.Proofs.Ytbhhalkpghcflaa
open Go.Joins Go.ChangeShapes Go.WideShapes Go.ChangeAt Go.RowKit
set_option linter.unusedSimpArgs false
set_option linter.unusedVariables false

structure Ord1 where
  cl : Int
  sq : Nat
  c : Cr1
set_option maxHeartbeats 4000000 in
noncomputable def orM : Came Try.prog 31 Ord1 :=
  (Came.struct (CameF.cons i64C (CameF.cons u32C (CameF.cons cmM1 (CameF.nil _)))) Try.underlying31 (by kernel_rfl) (by kernel_rfl)).re
    (fun x => ⟨x.1, x.2.1, x.2.2.1⟩) (fun x => [.int .i64 x.cl, .int .u32 (x.sq : Int), .int .i64 x.c.kind, .int .i64 x.c.node, .int .i64 x.c.port, .int .i64 x.c.status, .string x.c.id, .string x.c.name, .string x.c.svc, .string x.c.note, .string x.c.key, .string x.c.val, .string x.c.src, .string x.c.dst, .slice x.c.tags.A x.c.tags.l.length x.c.tags.c, .bool x.c.allow, .int .u64 (x.c.old : Int), .int .u64 (x.c.ses : Int), .slice x.c.subs.A x.c.subs.l.length x.c.subs.c])
    (fun W N x => i64C.ok W N x.cl ∧ u32C.ok W N x.sq ∧ cmM1.ok W N x.c) (fun _ => rfl)
    (fun h => ⟨rfl, h.1, h.2.1, h.2.2.1⟩) (fun h hb => ⟨i64C.keep h.1 hb, u32C.keep h.2.1 hb, cmM1.keep h.2.2 hb⟩)
theorem encO (s : Ord1) : orM.enc s = orC s.cl s.sq s.c.w := rfl
theorem or1_in {W : World} {N : Nat} {s : Ord1} (h : orM.ok W N s) : Cm1 W s.c.w s.c.t s.c.u := cm1_in h.2.2
theorem orcl_in {W : World} {N : Nat} {s : Ord1} (h : orM.ok W N s) : -9223372036854775808 ≤ s.cl ∧ s.cl ≤ 9223372036854775807 := wf64 h.1
theorem orsq_in {W : World} {N : Nat} {s : Ord1} (h : orM.ok W N s) : s.sq < 4294967296 := h.2.1
end Go.Proofs.Ytbhhalkpghcflaa
