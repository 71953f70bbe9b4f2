/-
  Same and the law's same, over what is equal in plain words (layer 20).
-/
import Derived.Test.YtbhhalkpghcflaaZj21
import Derived.Test.YtbhhalkpghcflaaZj38
namespace Go.Proofs.Ytbhhalkpghcflaa
open Go.RowKit
set_option linter.unusedSimpArgs false
set_option linter.unusedVariables false

theorem eqw {x y : CmW} {tx ty : List (List UInt8)} (hk : x.kind = y.kind) (hv : x.vals tx = y.vals ty) (hx : tx.length = x.tn) (hy : ty.length = y.tn) (hsn : x.sn = y.sn) : tx = ty ∧ y = { x with tA := y.tA, tc := y.tc, sA := y.sA, sc := y.sc } := by
  unfold CmW.vals at hv
  simp only [List.cons.injEq, Fv.num.injEq, Fv.text.injEq, Fv.texts.injEq, Fv.flag.injEq, Fv.idx.injEq, and_true] at hv
  obtain ⟨h1, h2, h3, h4, h5, h6, h7, h8, h9, h10, h11, rfl, h13, h14, h15⟩ := hv
  refine ⟨rfl, ?_⟩
  have htn : x.tn = y.tn := hx.symm.trans hy
  cases x
  cases y
  simp only at hk h1 h2 h3 h4 h5 h6 h7 h8 h9 h10 h11 h13 h14 h15 hsn htn
  subst hk h1 h2 h3 h4 h5 h6 h7 h8 h9 h10 h11 h13 h14 h15 hsn htn
  rfl
theorem rsame_eq {x y : CmW} {tx ty : List (List UInt8)} {su sv : List Sub} {w : World} (h : Cm1 w x tx su) (h' : Cm1 w y ty sv) (hk : x.kind = y.kind) (hv : x.vals tx = y.vals ty) (hl : su.length = sv.length) (ht : x.tn ≤ 1000) (hsn : x.sn ≤ 1000)
    (hsub : ∀ j (h1 : j < su.length) (h2 : j < sv.length) W, Below w.heap.size w W → Calls Try.prog 32 #[cmV su[j].1, cmV sv[j].1] W (YesB true W)) : Calls Try.prog 32 #[cmV x, cmV y] w (YesB true w) := by
  obtain ⟨rfl, e⟩ := eqw hk hv h.top.len h'.top.len (h.len.symm.trans (hl.trans h'.len))
  rw [e] at h' ⊢
  exact rsame_gen x _ _ _ _ tx su sv w h h' ht hsn hsub
theorem cm1_flat {w : World} {y : Sub} (h : Cm0 w y.1 y.2) (hs : y.1.sn = 0) : Cm1 w y.1 y.2 [] := ⟨h, ⟨hs.symm, fun hn => absurd hn (by omega)⟩, fun z hz => by cases hz⟩
theorem rsame1 {x y : CmW} {tx ty : List (List UInt8)} {su sv : List Sub} {w : World} (h : Cm1 w x tx su) (h' : Cm1 w y ty sv) (hk : x.kind = y.kind) (hv : x.vals tx = y.vals ty) (hss : su.map absS = sv.map absS) (hu : ∀ z ∈ su, 0 ≤ z.1.kind ∧ z.1.sn = 0) (hv' : ∀ z ∈ sv, 0 ≤ z.1.kind ∧ z.1.sn = 0) (ht : x.tn ≤ 1000) (hsn : x.sn ≤ 1000) (hts : ∀ z ∈ su, z.1.tn ≤ 1000) : Calls Try.prog 32 #[cmV x, cmV y] w (YesB true w) := by
  have hl : su.length = sv.length := by have := congrArg List.length hss; simpa using this
  refine rsame_eq h h' hk hv hl ht hsn fun j h1 h2 W hW => ?_
  have m1 := List.getElem_mem h1
  have m2 := List.getElem_mem h2
  have e : absS su[j] = absS sv[j] := by
    have := List.getElem_of_eq hss (i := j) (by simpa using h1)
    simpa using this
  unfold absS at e
  have e1 := congrArg Prod.fst e
  have e2 := congrArg Prod.snd e
  simp only at e1 e2
  have a1 := hu _ m1
  have a2 := hv' _ m2
  exact rsame_eq (cm1_flat ((h.each _ m1).below hW) a1.2) (cm1_flat ((h'.each _ m2).below hW) a2.2) (by omega) e2 rfl (hts _ m1) (by omega) (fun j h1 => absurd h1 (by simp))
theorem tags_le {x : CmW} {tags : List (List UInt8)} {kind : Nat} (h : CmS x) (hf : (fieldsC kind).ok (x.vals tags)) : tags.length ≤ 8 := by
  have h1 := all_range ((fields_ok h kind).2 hf) (k := 11) (by decide)
  have h2 : fOk kind 11 (.texts tags) = true := h1
  unfold fOk at h2
  split at h2
  · unfold Fv.right at h2
    simp only [Bool.and_eq_true, decide_eq_true_eq] at h2
    exact h2.1
  · unfold Fv.empty at h2
    have : tags = [] := by simpa using h2
    rw [this]
    decide
/-- What is right is no longer than it may be. -/
theorem ok_small {w : World} {x : CmW} {tags : List (List UInt8)} {subs : List Sub} (h : Cm1 w x tags subs) (hok : cmdC.ok ((x.kind.toNat, x.vals tags), subs.map absS)) : x.tn ≤ 1000 ∧ x.sn ≤ 1000 ∧ ∀ z ∈ subs, z.1.tn ≤ 1000 := by
  obtain ⟨⟨_, h1⟩, h2⟩ := hok
  have h3 := tags_le h.top.small h1
  have h4 := h.top.len
  have h5 := h.len
  have h6 : (if hasB x.kind.toNat 15 then lstC.ok (subs.map absS) else subs.map absS = []) := h2
  split at h6
  · obtain ⟨h7, h8⟩ := h6
    rw [List.length_map] at h7
    refine ⟨by omega, by omega, fun z hz => ?_⟩
    have h9 : subC.ok (absS z) := h8 _ (List.mem_map_of_mem hz)
    have h10 := tags_le (h.each z hz).small h9.2
    have := (h.each z hz).len
    omega
  · have : subs = [] := by simpa using h6
    subst this
    exact ⟨by omega, by rw [← h5]; decide, fun z hz => by cases hz⟩
set_option maxRecDepth 100000 in
set_option maxHeartbeats 4000000 in
theorem lsame_any (cl : Int) (sq : Nat) (x y : CmW) (w : World) (hS : ∀ W, Below w.heap.size w W → Calls Try.prog 32 #[cmV x, cmV y] W (YesB true W)) : Calls Try.prog 15 #[.agg #[.int .i64 cl, .int .u32 (sq : Int), .int .i64 x.kind, .int .i64 x.node, .int .i64 x.port, .int .i64 x.status, .string ⟨x.id.toArray⟩, .string ⟨x.name.toArray⟩, .string ⟨x.svc.toArray⟩, .string ⟨x.note.toArray⟩, .string ⟨x.key.toArray⟩, .string ⟨x.val.toArray⟩, .string ⟨x.src.toArray⟩, .string ⟨x.dst.toArray⟩, .slice x.tA x.tn x.tc, .bool x.allow, .int .u64 (x.old : Int), .int .u64 (x.ses : Int), .slice x.sA x.sn x.sc], .agg #[.int .i64 cl, .int .u32 (sq : Int), .int .i64 y.kind, .int .i64 y.node, .int .i64 y.port, .int .i64 y.status, .string ⟨y.id.toArray⟩, .string ⟨y.name.toArray⟩, .string ⟨y.svc.toArray⟩, .string ⟨y.note.toArray⟩, .string ⟨y.key.toArray⟩, .string ⟨y.val.toArray⟩, .string ⟨y.src.toArray⟩, .string ⟨y.dst.toArray⟩, .slice y.tA y.tn y.tc, .bool y.allow, .int .u64 (y.old : Int), .int .u64 (y.ses : Int), .slice y.sA y.sn y.sc]] w (YesB true w) := by
  have hb0 : Below w.heap.size w ((w.alloc (.cells #[.int .i64 cl, .int .u32 (sq : Int), .int .i64 x.kind, .int .i64 x.node, .int .i64 x.port, .int .i64 x.status, .string ⟨x.id.toArray⟩, .string ⟨x.name.toArray⟩, .string ⟨x.svc.toArray⟩, .string ⟨x.note.toArray⟩, .string ⟨x.key.toArray⟩, .string ⟨x.val.toArray⟩, .string ⟨x.src.toArray⟩, .string ⟨x.dst.toArray⟩, .slice x.tA x.tn x.tc, .bool x.allow, .int .u64 (x.old : Int), .int .u64 (x.ses : Int), .slice x.sA x.sn x.sc] TOr)).alloc (.cells #[.int .i64 cl, .int .u32 (sq : Int), .int .i64 y.kind, .int .i64 y.node, .int .i64 y.port, .int .i64 y.status, .string ⟨y.id.toArray⟩, .string ⟨y.name.toArray⟩, .string ⟨y.svc.toArray⟩, .string ⟨y.note.toArray⟩, .string ⟨y.key.toArray⟩, .string ⟨y.val.toArray⟩, .string ⟨y.src.toArray⟩, .string ⟨y.dst.toArray⟩, .slice y.tA y.tn y.tc, .bool y.allow, .int .u64 (y.old : Int), .int .u64 (y.ses : Int), .slice y.sA y.sn y.sc] TOr)) := ((Below.refl _ w).alloc (Nat.le_refl _) _).alloc (by simp) _
  have HB := Lib.hid hb0
  have CS := Lib.hid (hS _ hb0)
  have h1 : World.rangeAt ((w.alloc (.cells #[.int .i64 cl, .int .u32 (sq : Int), .int .i64 x.kind, .int .i64 x.node, .int .i64 x.port, .int .i64 x.status, .string ⟨x.id.toArray⟩, .string ⟨x.name.toArray⟩, .string ⟨x.svc.toArray⟩, .string ⟨x.note.toArray⟩, .string ⟨x.key.toArray⟩, .string ⟨x.val.toArray⟩, .string ⟨x.src.toArray⟩, .string ⟨x.dst.toArray⟩, .slice x.tA x.tn x.tc, .bool x.allow, .int .u64 (x.old : Int), .int .u64 (x.ses : Int), .slice x.sA x.sn x.sc] TOr)).alloc (.cells #[.int .i64 cl, .int .u32 (sq : Int), .int .i64 y.kind, .int .i64 y.node, .int .i64 y.port, .int .i64 y.status, .string ⟨y.id.toArray⟩, .string ⟨y.name.toArray⟩, .string ⟨y.svc.toArray⟩, .string ⟨y.note.toArray⟩, .string ⟨y.key.toArray⟩, .string ⟨y.val.toArray⟩, .string ⟨y.src.toArray⟩, .string ⟨y.dst.toArray⟩, .slice y.tA y.tn y.tc, .bool y.allow, .int .u64 (y.old : Int), .int .u64 (y.ses : Int), .slice y.sA y.sn y.sc] TOr)) w.heap.size 0 (orC cl sq x) := range_below (or_box w cl sq x) ((Below.refl _ _).alloc (Nat.le_refl _) _) (by simp)
  have h2 : World.rangeAt ((w.alloc (.cells #[.int .i64 cl, .int .u32 (sq : Int), .int .i64 x.kind, .int .i64 x.node, .int .i64 x.port, .int .i64 x.status, .string ⟨x.id.toArray⟩, .string ⟨x.name.toArray⟩, .string ⟨x.svc.toArray⟩, .string ⟨x.note.toArray⟩, .string ⟨x.key.toArray⟩, .string ⟨x.val.toArray⟩, .string ⟨x.src.toArray⟩, .string ⟨x.dst.toArray⟩, .slice x.tA x.tn x.tc, .bool x.allow, .int .u64 (x.old : Int), .int .u64 (x.ses : Int), .slice x.sA x.sn x.sc] TOr)).alloc (.cells #[.int .i64 cl, .int .u32 (sq : Int), .int .i64 y.kind, .int .i64 y.node, .int .i64 y.port, .int .i64 y.status, .string ⟨y.id.toArray⟩, .string ⟨y.name.toArray⟩, .string ⟨y.svc.toArray⟩, .string ⟨y.note.toArray⟩, .string ⟨y.key.toArray⟩, .string ⟨y.val.toArray⟩, .string ⟨y.src.toArray⟩, .string ⟨y.dst.toArray⟩, .slice y.tA y.tn y.tc, .bool y.allow, .int .u64 (y.old : Int), .int .u64 (y.ses : Int), .slice y.sA y.sn y.sc] TOr)) (w.heap.size + 1) 0 (orC cl sq y) := by
    have := or_box (w.alloc (.cells #[.int .i64 cl, .int .u32 (sq : Int), .int .i64 x.kind, .int .i64 x.node, .int .i64 x.port, .int .i64 x.status, .string ⟨x.id.toArray⟩, .string ⟨x.name.toArray⟩, .string ⟨x.svc.toArray⟩, .string ⟨x.note.toArray⟩, .string ⟨x.key.toArray⟩, .string ⟨x.val.toArray⟩, .string ⟨x.src.toArray⟩, .string ⟨x.dst.toArray⟩, .slice x.tA x.tn x.tc, .bool x.allow, .int .u64 (x.old : Int), .int .u64 (x.ses : Int), .slice x.sA x.sn x.sc] TOr)) cl sq y
    rw [show (w.alloc (.cells #[.int .i64 cl, .int .u32 (sq : Int), .int .i64 x.kind, .int .i64 x.node, .int .i64 x.port, .int .i64 x.status, .string ⟨x.id.toArray⟩, .string ⟨x.name.toArray⟩, .string ⟨x.svc.toArray⟩, .string ⟨x.note.toArray⟩, .string ⟨x.key.toArray⟩, .string ⟨x.val.toArray⟩, .string ⟨x.src.toArray⟩, .string ⟨x.dst.toArray⟩, .slice x.tA x.tn x.tc, .bool x.allow, .int .u64 (x.old : Int), .int .u64 (x.ses : Int), .slice x.sA x.sn x.sc] TOr)).heap.size = w.heap.size + 1 by simp] at this
    exact this
  have HI1 := Lib.hid (or_item h1)
  have HI2 := Lib.hid (or_item h2)
  clear h1 h2 hb0 hS
  unfold cmV strV at CS
  go_enter Try.func15, Try.ntmps15
  go_wp2_with (first | (refine wpList_load_mid rfl TCm (.tmp 18) rfl w.heap.size 2 rfl (cmC x) _ HI1.out Try.underlying26 rfl (by kernel_rfl) ?_; unfold cmC strV) | (refine wpList_load_mid rfl TCm (.tmp 20) rfl (w.heap.size + 1) 2 rfl (cmC y) _ HI2.out Try.underlying26 rfl (by kernel_rfl) ?_; unfold cmC strV) | (go_at_call 32; refine CS.out.mono ?_; rintro e w6 ⟨rfl, hb6⟩; have HB6 := Lib.hid (HB.out.trans (hb6.mono HB.out.size)); clear hb6))
  go_ret
  exact ⟨rfl, HB6.out⟩
end Go.Proofs.Ytbhhalkpghcflaa
