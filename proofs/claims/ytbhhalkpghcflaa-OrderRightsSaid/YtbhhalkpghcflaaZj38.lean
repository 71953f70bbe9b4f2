/-
  The law OrderRights, walked (layer 20).
-/
import Derived.Test.YtbhhalkpghcflaaZj28
import Derived.Test.YtbhhalkpghcflaaZj37
namespace Go.Proofs.Ytbhhalkpghcflaa
open Go.RowKit Go.Rel
set_option linter.unusedSimpArgs false
set_option linter.unusedVariables false

def rgE (x : CmW) (R : Bool) : Nat → Value
  | 0 | 2 => .agg #[.int .i64 x.kind, .int .i64 x.node, .int .i64 x.port, .int .i64 x.status, .string ⟨x.id.toArray⟩, .string ⟨x.name.toArray⟩, .string ⟨x.svc.toArray⟩, .string ⟨x.note.toArray⟩, .string ⟨x.key.toArray⟩, .string ⟨x.val.toArray⟩, .string ⟨x.src.toArray⟩, .string ⟨x.dst.toArray⟩, .slice x.tA x.tn x.tc, .bool x.allow, .int .u64 (x.old : Int), .int .u64 (x.ses : Int), .slice x.sA x.sn x.sc]
  | 1 | 3 => .bool R
  | _ => .bool true
set_option maxRecDepth 100000 in
set_option maxHeartbeats 2000000 in
theorem rights_law (x : CmW) (tags : List (List UInt8)) (subs : List Sub) (w : World) (h : Cm1 w x tags subs) : Calls Try.prog 3 #[cmV x] w (YesB true w) := by
  have hb0 := (Below.refl _ w).alloc (Nat.le_refl _) (.cells (cmC x).toArray TCm)
  obtain ⟨w1, hw1⟩ : ∃ w1, w.alloc (.cells (cmC x).toArray TCm) = w1 := ⟨_, rfl⟩
  have HIt := Lib.hid (Bx.new w x)
  have CP := Lib.hid (fun W (hW : Below w1.heap.size w1 W) => Right_any x tags subs W ((h.below hb0).below (by rw [hw1]; exact hW)))
  have CD := Lib.hid (fun W (hW : Below w1.heap.size w1 W) => rRight_any x tags subs W ((h.below hb0).below (by rw [hw1]; exact hW)))
  have CW := Lib.hid (fun W => works_any W)
  have HB := Lib.hid hb0
  rw [hw1] at HB
  have hw2 := hw1
  unfold cmC strV at hw1
  have HW := Lib.hid hw1
  have HIx : Hid (Bx w1 w.heap.size x) := Lib.hid (by rw [← hw1]; exact HIt.out)
  have HLD : Hid (∀ W, Below w1.heap.size w1 W → (Instr.loadAt TCm (.pointer (some ⟨w.heap.size, 0, none⟩))).run Try.prog W = .ok (.agg #[.int .i64 x.kind, .int .i64 x.node, .int .i64 x.port, .int .i64 x.status, .string ⟨x.id.toArray⟩, .string ⟨x.name.toArray⟩, .string ⟨x.svc.toArray⟩, .string ⟨x.note.toArray⟩, .string ⟨x.key.toArray⟩, .string ⟨x.val.toArray⟩, .string ⟨x.src.toArray⟩, .string ⟨x.dst.toArray⟩, .slice x.tA x.tn x.tc, .bool x.allow, .int .u64 (x.old : Int), .int .u64 (x.ses : Int), .slice x.sA x.sn x.sc]) W) := Lib.hid (fun W hW => cm_load ((HIx.out.below hW HIx.out.lt).item))
  clear h hb0 hw1 hw2 HIt
  unfold cmV strV at CP CD
  unfold cmV strV
  obtain ⟨R, hR⟩ : ∃ R, cmdOk x tags subs = R := ⟨_, rfl⟩
  rw [hR] at CP CD
  clear hR
  go_enter Try.func3, Try.ntmps3
  go_wp2_with fail
  rw [HW.out]
  cases R with
  | false =>
    refine Go.Rel.wp_tabq (by kernel_rfl) (by kernel_rfl) (fun _ W => Below w1.heap.size w1 W) (fun _ _ => True) (fun _ => trivial) (fun _ _ _ _ _ => trivial) trivial (Below.refl _ w1).drew (rgE x false) (fun _ _ _ => True) (fun _ => false) (fun i => ([0, 1, 2, 3, 6] : List Nat).contains i) (by kernel_rfl) (fun _ _ _ _ h _ => h) (fun _ _ _ _ h => h) (fun _ _ => False) (fun _ _ _ _ h => h.elim) ?_ (Go.Rel.AllOf.get ?_) ?_
    · repeat (refine .cons (by first | exact Go.Rel.pure_sp rfl | exact Go.Rel.pure_yes (by kernel_rfl) (fun _ => by kernel_rfl)) ?_)
      exact .nil
    · refine ⟨?_, ?_, ?_, ?_, ?_, trivial⟩
      · exact SpecOk.q _ (SpecOk.ld (last := 9) (fun _ _ _ _ h => h) (fun _ => trivial) (h := fun f W hI _ _ _ _ => HLD.out W hI))
      · exact SpecQ.call 8 #[.agg #[.int .i64 x.kind, .int .i64 x.node, .int .i64 x.port, .int .i64 x.status, .string ⟨x.id.toArray⟩, .string ⟨x.name.toArray⟩, .string ⟨x.svc.toArray⟩, .string ⟨x.note.toArray⟩, .string ⟨x.key.toArray⟩, .string ⟨x.val.toArray⟩, .string ⟨x.src.toArray⟩, .string ⟨x.dst.toArray⟩, .slice x.tA x.tn x.tc, .bool x.allow, .int .u64 (x.old : Int), .int .u64 (x.ses : Int), .slice x.sA x.sn x.sc]] rfl (by kernel_rfl) (fun _ => by kernel_rfl) fun f W hI _ _ _ _ => (CP.out W hI).mono fun e W2 ⟨he, hb⟩ => .inl ⟨_, he, trivial, hI.trans (hb.mono hI.size), rfl⟩
      · exact SpecOk.q _ (SpecOk.ld (last := 9) (fun _ _ _ _ h => h) (fun _ => trivial) (h := fun f W hI _ _ _ _ => HLD.out W hI))
      · exact SpecQ.call 9 #[.agg #[.int .i64 x.kind, .int .i64 x.node, .int .i64 x.port, .int .i64 x.status, .string ⟨x.id.toArray⟩, .string ⟨x.name.toArray⟩, .string ⟨x.svc.toArray⟩, .string ⟨x.note.toArray⟩, .string ⟨x.key.toArray⟩, .string ⟨x.val.toArray⟩, .string ⟨x.src.toArray⟩, .string ⟨x.dst.toArray⟩, .slice x.tA x.tn x.tc, .bool x.allow, .int .u64 (x.old : Int), .int .u64 (x.ses : Int), .slice x.sA x.sn x.sc]] rfl (by kernel_rfl) (fun _ => by kernel_rfl) fun f W hI _ _ _ _ => (CD.out W hI).mono fun e W2 ⟨he, hb⟩ => .inl ⟨_, he, trivial, hI.trans (hb.mono hI.size), rfl⟩
      · exact SpecQ.call 10 #[] rfl (by kernel_rfl) (fun _ => by kernel_rfl) fun f W hI _ _ _ _ => (CW.out W).mono fun e W2 ⟨he, hb⟩ => .inl ⟨_, he, trivial, hI.trans (hb.mono hI.size), rfl⟩
    · intro f W e _ hI _ hv
      have h8 : e 8 = .bool true := hv 8 rfl
      have HBW := Lib.hid (HB.out.trans (hI.mono HB.out.size))
      simp only [Go.Rel.finL, List.setIfInBounds_toArray, List.set_cons_succ, List.set_cons_zero, h8]
      clear hv hI
      show Exit.then _ _ Exit.normal _ _
      unfold Exit.then
      go_wp2
      go_ret
      exact ⟨rfl, HBW.out⟩
  | true =>
    refine Go.Rel.wp_tabq (by kernel_rfl) (by kernel_rfl) (fun _ W => Below w1.heap.size w1 W) (fun _ _ => True) (fun _ => trivial) (fun _ _ _ _ _ => trivial) trivial (Below.refl _ w1).drew (rgE x true) (fun _ _ _ => True) (fun _ => false) (fun i => ([0, 1, 2, 3, 6] : List Nat).contains i) (by kernel_rfl) (fun _ _ _ _ h _ => h) (fun _ _ _ _ h => h) (fun _ _ => False) (fun _ _ _ _ h => h.elim) ?_ (Go.Rel.AllOf.get ?_) ?_
    · repeat (refine .cons (by first | exact Go.Rel.pure_sp rfl | exact Go.Rel.pure_yes (by kernel_rfl) (fun _ => by kernel_rfl)) ?_)
      exact .nil
    · refine ⟨?_, ?_, ?_, ?_, ?_, trivial⟩
      · exact SpecOk.q _ (SpecOk.ld (last := 9) (fun _ _ _ _ h => h) (fun _ => trivial) (h := fun f W hI _ _ _ _ => HLD.out W hI))
      · exact SpecQ.call 8 #[.agg #[.int .i64 x.kind, .int .i64 x.node, .int .i64 x.port, .int .i64 x.status, .string ⟨x.id.toArray⟩, .string ⟨x.name.toArray⟩, .string ⟨x.svc.toArray⟩, .string ⟨x.note.toArray⟩, .string ⟨x.key.toArray⟩, .string ⟨x.val.toArray⟩, .string ⟨x.src.toArray⟩, .string ⟨x.dst.toArray⟩, .slice x.tA x.tn x.tc, .bool x.allow, .int .u64 (x.old : Int), .int .u64 (x.ses : Int), .slice x.sA x.sn x.sc]] rfl (by kernel_rfl) (fun _ => by kernel_rfl) fun f W hI _ _ _ _ => (CP.out W hI).mono fun e W2 ⟨he, hb⟩ => .inl ⟨_, he, trivial, hI.trans (hb.mono hI.size), rfl⟩
      · exact SpecOk.q _ (SpecOk.ld (last := 9) (fun _ _ _ _ h => h) (fun _ => trivial) (h := fun f W hI _ _ _ _ => HLD.out W hI))
      · exact SpecQ.call 9 #[.agg #[.int .i64 x.kind, .int .i64 x.node, .int .i64 x.port, .int .i64 x.status, .string ⟨x.id.toArray⟩, .string ⟨x.name.toArray⟩, .string ⟨x.svc.toArray⟩, .string ⟨x.note.toArray⟩, .string ⟨x.key.toArray⟩, .string ⟨x.val.toArray⟩, .string ⟨x.src.toArray⟩, .string ⟨x.dst.toArray⟩, .slice x.tA x.tn x.tc, .bool x.allow, .int .u64 (x.old : Int), .int .u64 (x.ses : Int), .slice x.sA x.sn x.sc]] rfl (by kernel_rfl) (fun _ => by kernel_rfl) fun f W hI _ _ _ _ => (CD.out W hI).mono fun e W2 ⟨he, hb⟩ => .inl ⟨_, he, trivial, hI.trans (hb.mono hI.size), rfl⟩
      · exact SpecQ.call 10 #[] rfl (by kernel_rfl) (fun _ => by kernel_rfl) fun f W hI _ _ _ _ => (CW.out W).mono fun e W2 ⟨he, hb⟩ => .inl ⟨_, he, trivial, hI.trans (hb.mono hI.size), rfl⟩
    · intro f W e _ hI _ hv
      have h8 : e 8 = .bool true := hv 8 rfl
      have HBW := Lib.hid (HB.out.trans (hI.mono HB.out.size))
      simp only [Go.Rel.finL, List.setIfInBounds_toArray, List.set_cons_succ, List.set_cons_zero, h8]
      clear hv hI
      show Exit.then _ _ Exit.normal _ _
      unfold Exit.then
      go_wp2
      go_ret
      exact ⟨rfl, HBW.out⟩
end Go.Proofs.Ytbhhalkpghcflaa
