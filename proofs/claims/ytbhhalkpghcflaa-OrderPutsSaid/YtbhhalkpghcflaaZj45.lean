/-
  The law OrderPuts, walked (layer 20).
-/
import Derived.Test.YtbhhalkpghcflaaZj43
import Derived.Test.YtbhhalkpghcflaaZj44
namespace Go.Proofs.Ytbhhalkpghcflaa
open Go.RowKit Go.Rel
set_option linter.unusedSimpArgs false
set_option linter.unusedVariables false

set_option maxRecDepth 100000 in
set_option maxHeartbeats 2000000 in
theorem puts_law (cl : Int) (sq : Nat) (x : CmW) (tags : List (List UInt8)) (subs : List Sub) (w : World) (h : Cm1 w x tags subs) (hcl : -9223372036854775808 ≤ cl ∧ cl ≤ 9223372036854775807) (hsq : sq < 4294967296) : Calls Try.prog 4 #[orV cl sq x] w (YesB true w) := by
  have hb0 := (Below.refl _ w).alloc (Nat.le_refl _) (.cells #[.int .i64 cl, .int .u32 (sq : Int), .int .i64 x.kind, .int .i64 x.node, .int .i64 x.port, .int .i64 x.status, .string ⟨x.id.toArray⟩, .string ⟨x.name.toArray⟩, .string ⟨x.svc.toArray⟩, .string ⟨x.note.toArray⟩, .string ⟨x.key.toArray⟩, .string ⟨x.val.toArray⟩, .string ⟨x.src.toArray⟩, .string ⟨x.dst.toArray⟩, .slice x.tA x.tn x.tc, .bool x.allow, .int .u64 (x.old : Int), .int .u64 (x.ses : Int), .slice x.sA x.sn x.sc] TOr)
  obtain ⟨n, hn⟩ : ∃ n : Int, cond (ordOk cl x tags subs) 0 2 = n := ⟨_, rfl⟩
  obtain ⟨ys, hys⟩ : ∃ ys, cond (ordOk cl x tags subs) (ordB cl sq x tags subs) [] = ys := ⟨_, rfl⟩
  have CP : Hid (∀ W, Below w.heap.size w W → Calls Try.prog 11 #[.agg #[.int .i64 cl, .int .u32 (sq : Int), .int .i64 x.kind, .int .i64 x.node, .int .i64 x.port, .int .i64 x.status, .string ⟨x.id.toArray⟩, .string ⟨x.name.toArray⟩, .string ⟨x.svc.toArray⟩, .string ⟨x.note.toArray⟩, .string ⟨x.key.toArray⟩, .string ⟨x.val.toArray⟩, .string ⟨x.src.toArray⟩, .string ⟨x.dst.toArray⟩, .slice x.tA x.tn x.tc, .bool x.allow, .int .u64 (x.old : Int), .int .u64 (x.ses : Int), .slice x.sA x.sn x.sc]] W (PutU W n ys)) := Lib.hid (fun W hW => (Put_any cl sq x tags subs W (h.below hW) hcl hsq).mono fun e w' h => by rw [← hn, ← hys]; exact h.uni)
  have CD : Hid (∀ W, Below w.heap.size w W → Calls Try.prog 12 #[.agg #[.int .i64 cl, .int .u32 (sq : Int), .int .i64 x.kind, .int .i64 x.node, .int .i64 x.port, .int .i64 x.status, .string ⟨x.id.toArray⟩, .string ⟨x.name.toArray⟩, .string ⟨x.svc.toArray⟩, .string ⟨x.note.toArray⟩, .string ⟨x.key.toArray⟩, .string ⟨x.val.toArray⟩, .string ⟨x.src.toArray⟩, .string ⟨x.dst.toArray⟩, .slice x.tA x.tn x.tc, .bool x.allow, .int .u64 (x.old : Int), .int .u64 (x.ses : Int), .slice x.sA x.sn x.sc]] W (PutU W n ys)) := Lib.hid (fun W hW => (rPut_any cl sq x tags subs W (h.below hW) hcl hsq).mono fun e w' h => by rw [← hn, ← hys]; exact h.uni)
  have CW := Lib.hid (fun W => works_any W)
  have HOB : Hid (World.rangeAt (w.alloc (.cells #[.int .i64 cl, .int .u32 (sq : Int), .int .i64 x.kind, .int .i64 x.node, .int .i64 x.port, .int .i64 x.status, .string ⟨x.id.toArray⟩, .string ⟨x.name.toArray⟩, .string ⟨x.svc.toArray⟩, .string ⟨x.note.toArray⟩, .string ⟨x.key.toArray⟩, .string ⟨x.val.toArray⟩, .string ⟨x.src.toArray⟩, .string ⟨x.dst.toArray⟩, .slice x.tA x.tn x.tc, .bool x.allow, .int .u64 (x.old : Int), .int .u64 (x.ses : Int), .slice x.sA x.sn x.sc] TOr)) w.heap.size 0 [.int .i64 cl, .int .u32 (sq : Int), .int .i64 x.kind, .int .i64 x.node, .int .i64 x.port, .int .i64 x.status, .string ⟨x.id.toArray⟩, .string ⟨x.name.toArray⟩, .string ⟨x.svc.toArray⟩, .string ⟨x.note.toArray⟩, .string ⟨x.key.toArray⟩, .string ⟨x.val.toArray⟩, .string ⟨x.src.toArray⟩, .string ⟨x.dst.toArray⟩, .slice x.tA x.tn x.tc, .bool x.allow, .int .u64 (x.old : Int), .int .u64 (x.ses : Int), .slice x.sA x.sn x.sc]) := Lib.hid (or_box w cl sq x)
  have HB := Lib.hid hb0
  clear h hb0 hn hys hcl hsq
  unfold orV cmC strV
  go_enter Try.func4, Try.ntmps4
  go_wp2_with (refine wpList_load_mid rfl TOr (.tmp 1) rfl w.heap.size 0 rfl [.int .i64 cl, .int .u32 (sq : Int), .int .i64 x.kind, .int .i64 x.node, .int .i64 x.port, .int .i64 x.status, .string ⟨x.id.toArray⟩, .string ⟨x.name.toArray⟩, .string ⟨x.svc.toArray⟩, .string ⟨x.note.toArray⟩, .string ⟨x.key.toArray⟩, .string ⟨x.val.toArray⟩, .string ⟨x.src.toArray⟩, .string ⟨x.dst.toArray⟩, .slice x.tA x.tn x.tc, .bool x.allow, .int .u64 (x.old : Int), .int .u64 (x.ses : Int), .slice x.sA x.sn x.sc] _ HOB.out Try.underlying31 rfl (by kernel_rfl) ?_)
  refine (CP.out _ HB.out).mono ?_
  rintro e w2 ⟨v2, rfl, hv2, hb2⟩
  have HV2 := Lib.hid hv2
  have HO2 := Lib.hid (range_below HOB.out hb2 (by simp))
  have HB2 := Lib.hid (HB.out.trans (hb2.mono HB.out.size))
  clear hv2 hb2 HB HOB
  go_wp2_with (refine wpList_load_mid rfl TOr (.tmp 1) rfl w.heap.size 0 rfl [.int .i64 cl, .int .u32 (sq : Int), .int .i64 x.kind, .int .i64 x.node, .int .i64 x.port, .int .i64 x.status, .string ⟨x.id.toArray⟩, .string ⟨x.name.toArray⟩, .string ⟨x.svc.toArray⟩, .string ⟨x.note.toArray⟩, .string ⟨x.key.toArray⟩, .string ⟨x.val.toArray⟩, .string ⟨x.src.toArray⟩, .string ⟨x.dst.toArray⟩, .slice x.tA x.tn x.tc, .bool x.allow, .int .u64 (x.old : Int), .int .u64 (x.ses : Int), .slice x.sA x.sn x.sc] _ HO2.out Try.underlying31 rfl (by kernel_rfl) ?_)
  refine (CD.out _ HB2.out).mono ?_
  rintro e w3 ⟨v3, rfl, hv3, hb3⟩
  have k1 := bs_conv (HV2.out.below hb3)
  have k2 := bs_conv hv3
  have HB3 := Lib.hid (HB2.out.trans (hb3.mono HB2.out.size))
  clear hv3 hb3 HB2 HO2 HV2
  go_wp2_with (go_at_call 10; refine (CW.out _).mono ?_; rintro e w4 ⟨rfl, hb4⟩; have HB4 := Lib.hid (HB3.out.trans (hb4.mono HB3.out.size)); clear hb4)
  go_ret
  exact ⟨rfl, HB4.out⟩
end Go.Proofs.Ytbhhalkpghcflaa
