/-
  The document's Same, over what is equal (layer 20).
-/
import Derived.Test.YtbhhalkpghcflaaZj14
import Derived.Test.YtbhhalkpghcflaaZj16
import Derived.Deep.QuietTactic
import Derived.BigQuiet
namespace Go.Proofs.Ytbhhalkpghcflaa
open Go.RowKit Go.Rel
set_option linter.unusedSimpArgs false
set_option linter.unusedVariables false

set_option maxHeartbeats 400000 in
theorem rsame_yes (A B : Option Addr) (n c d : Nat) (xs : List (List UInt8)) (w : World) (h : RV w A n (xs.map strV)) (k : RV w B n (xs.map strV)) (hn : n ≤ 1000) :
    Calls Try.prog 50 #[.slice A n c, .slice B n d] w (YesB true w) := by
  have hl : xs.length = n := by simpa using h.1
  have HH := Lib.hid h
  have HK := Lib.hid k
  clear h k
  go_enter Try.func50, Try.ntmps50
  go_wp2
  go_loopw [5] (fun i wr => ∃ k : Nat, k ≤ n ∧ i = .int .i64 k ∧ Below w.heap.size w wr) (fun i _ => n - (intOf i).toNat)
  case atStart => exact ⟨0, Nat.zero_le _, rfl, Below.refl _ _⟩
  case round =>
    obtain ⟨j, hj, rfl, hb⟩ := hrel
    by_cases hlt : j < n
    · obtain ⟨b1, off1, rfl, hb1, hc1⟩ := (HH.out.below hb).2 (by omega)
      obtain ⟨b2, off2, rfl, hb2, hc2⟩ := (HK.out.below hb).2 (by omega)
      have hx := hc1 j (by simpa using (by omega : j < xs.length))
      have hy := hc2 j (by simpa using (by omega : j < xs.length))
      rw [List.getElem_map] at hx hy
      obtain ⟨s, hs⟩ : ∃ s, xs[j]'(by omega) = s := ⟨_, rfl⟩
      rw [hs] at hx hy
      unfold strV at hx hy
      have g1 : (0 : Int) ≤ (j : Int) := by omega
      have g2 : (j : Int) < (n : Int) := by omega
      have t1 : ((⟨s.toArray⟩ : ByteArray).toList == (⟨s.toArray⟩ : ByteArray).toList) = true := by simp
      have HBW := Lib.hid hb
      clear hc1 hc2 hs hb
      go_wp2
      go_quiet (fail)
      go_wp2
      go_roundw
      case rel => exact ⟨j + 1, by omega, by go_num, ⟨HBW.out.os, HBW.out.tape, HBW.out.output, HBW.out.size, HBW.out.block⟩⟩
      case measure => simp [intOf]; omega
    · obtain rfl : j = n := by omega
      go_wp2
      go_ret
      exact ⟨rfl, hb⟩
def smE (N : Nat) (x : CmW) (A B : Option Addr) (c d : Nat) : Nat → Value
  | 0 => .agg #[.int .i64 x.kind, .int .i64 x.node, .int .i64 x.port, .int .i64 x.status, .string ⟨x.id.toArray⟩, .string ⟨x.name.toArray⟩, .string ⟨x.svc.toArray⟩, .string ⟨x.note.toArray⟩, .string ⟨x.key.toArray⟩, .string ⟨x.val.toArray⟩, .string ⟨x.src.toArray⟩, .string ⟨x.dst.toArray⟩, .slice x.tA x.tn x.tc, .bool x.allow, .int .u64 (x.old : Int), .int .u64 (x.ses : Int), .slice x.sA x.sn x.sc]
  | 2 => .agg #[.int .i64 x.kind, .int .i64 x.node, .int .i64 x.port, .int .i64 x.status, .string ⟨x.id.toArray⟩, .string ⟨x.name.toArray⟩, .string ⟨x.svc.toArray⟩, .string ⟨x.note.toArray⟩, .string ⟨x.key.toArray⟩, .string ⟨x.val.toArray⟩, .string ⟨x.src.toArray⟩, .string ⟨x.dst.toArray⟩, .slice A x.tn c, .bool x.allow, .int .u64 (x.old : Int), .int .u64 (x.ses : Int), .slice B x.sn d]
  | 4 | 11 => .bool true
  | 5 | 6 | 12 | 13 | 14 => .bool false
  | 7 => .pointer (some ⟨N, 12, none⟩)
  | 8 => .slice x.tA x.tn x.tc
  | 9 => .pointer (some ⟨N + 1, 12, none⟩)
  | 10 => .slice A x.tn c
  | 15 => .pointer (some ⟨N, 16, none⟩)
  | 16 => .slice x.sA x.sn x.sc
  | 17 | 20 => .int .i64 (x.sn : Int)
  | 18 => .pointer (some ⟨N + 1, 16, none⟩)
  | 19 => .slice B x.sn d
  | 21 | 22 => .bool false
  | _ => undef
def smL (N : Nat) (x y z : CmW) (k : Nat) (b1 o1 c1 b2 o2 c2 : Nat) : Nat → Value
  | 0 => .pointer (some ⟨N, 16, none⟩)
  | 1 => .slice (some ⟨b1, o1, none⟩) x.sn c1
  | 2 | 7 => .int .i64 (k : Int)
  | 3 => .pointer (some ⟨b1, o1 + k * 17, none⟩)
  | 4 => .agg #[.int .i64 y.kind, .int .i64 y.node, .int .i64 y.port, .int .i64 y.status, .string ⟨y.id.toArray⟩, .string ⟨y.name.toArray⟩, .string ⟨y.svc.toArray⟩, .string ⟨y.note.toArray⟩, .string ⟨y.key.toArray⟩, .string ⟨y.val.toArray⟩, .string ⟨y.src.toArray⟩, .string ⟨y.dst.toArray⟩, .slice y.tA y.tn y.tc, .bool y.allow, .int .u64 (y.old : Int), .int .u64 (y.ses : Int), .slice y.sA y.sn y.sc]
  | 5 => .pointer (some ⟨N + 1, 16, none⟩)
  | 6 => .slice (some ⟨b2, o2, none⟩) x.sn c2
  | 8 => .pointer (some ⟨b2, o2 + k * 17, none⟩)
  | 9 => .agg #[.int .i64 z.kind, .int .i64 z.node, .int .i64 z.port, .int .i64 z.status, .string ⟨z.id.toArray⟩, .string ⟨z.name.toArray⟩, .string ⟨z.svc.toArray⟩, .string ⟨z.note.toArray⟩, .string ⟨z.key.toArray⟩, .string ⟨z.val.toArray⟩, .string ⟨z.src.toArray⟩, .string ⟨z.dst.toArray⟩, .slice z.tA z.tn z.tc, .bool z.allow, .int .u64 (z.old : Int), .int .u64 (z.ses : Int), .slice z.sA z.sn z.sc]
  | 10 => .bool true
  | 11 => .bool false
  | _ => undef
set_option maxRecDepth 100000 in
set_option maxHeartbeats 4000000 in
theorem rsame_gen (x : CmW) (A B : Option Addr) (c d : Nat) (tags : List (List UInt8)) (su sv : List Sub) (w : World) (h : Cm1 w x tags su) (h' : Cm1 w { x with tA := A, tc := c, sA := B, sc := d } tags sv) (ht : x.tn ≤ 1000) (hsn : x.sn ≤ 1000)
    (hsub : ∀ j (h1 : j < su.length) (h2 : j < sv.length) W, Below w.heap.size w W → Calls Try.prog 32 #[cmV su[j].1, cmV sv[j].1] W (YesB true W)) : Calls Try.prog 32 #[cmV x, cmV { x with tA := A, tc := c, sA := B, sc := d }] w (YesB true w) := by
  have hb0 : Below w.heap.size w ((w.alloc (.cells (cmC x).toArray TCm)).alloc (.cells (cmC { x with tA := A, tc := c, sA := B, sc := d }).toArray TCm)) := ((Below.refl _ w).alloc (Nat.le_refl _) _).alloc (by simp) _
  obtain ⟨w1, hw1⟩ : ∃ w1, (w.alloc (.cells (cmC x).toArray TCm)).alloc (.cells (cmC { x with tA := A, tc := c, sA := B, sc := d }).toArray TCm) = w1 := ⟨_, rfl⟩
  have hx1 : Bx w1 w.heap.size x := by rw [← hw1]; exact (Bx.new w x).below ((Below.refl _ _).alloc (Nat.le_refl _) _) (by simp)
  have hy1 : Bx w1 (w.heap.size + 1) { x with tA := A, tc := c, sA := B, sc := d } := by
    rw [← hw1]
    have := Bx.new (w.alloc (.cells (cmC x).toArray TCm)) { x with tA := A, tc := c, sA := B, sc := d }
    rw [show (w.alloc (.cells (cmC x).toArray TCm)).heap.size = w.heap.size + 1 by simp] at this
    exact this
  rw [hw1] at hb0
  have HX := Lib.hid hx1
  have HY := Lib.hid hy1
  have HB0 := Lib.hid hb0
  have H1 := Lib.hid (h.below hb0)
  have H2 := Lib.hid (h'.below hb0)
  have CT : Hid (∀ W, Calls Try.prog 18 #[.agg #[.int .i64 x.kind, .int .i64 x.node, .int .i64 x.port, .int .i64 x.status, .string ⟨x.id.toArray⟩, .string ⟨x.name.toArray⟩, .string ⟨x.svc.toArray⟩, .string ⟨x.note.toArray⟩, .string ⟨x.key.toArray⟩, .string ⟨x.val.toArray⟩, .string ⟨x.src.toArray⟩, .string ⟨x.dst.toArray⟩, .slice x.tA x.tn x.tc, .bool x.allow, .int .u64 (x.old : Int), .int .u64 (x.ses : Int), .slice x.sA x.sn x.sc]] W _) := Lib.hid (fun W => rtexts_any x W)
  have CU : Hid (∀ W, Calls Try.prog 18 #[.agg #[.int .i64 x.kind, .int .i64 x.node, .int .i64 x.port, .int .i64 x.status, .string ⟨x.id.toArray⟩, .string ⟨x.name.toArray⟩, .string ⟨x.svc.toArray⟩, .string ⟨x.note.toArray⟩, .string ⟨x.key.toArray⟩, .string ⟨x.val.toArray⟩, .string ⟨x.src.toArray⟩, .string ⟨x.dst.toArray⟩, .slice A x.tn c, .bool x.allow, .int .u64 (x.old : Int), .int .u64 (x.ses : Int), .slice B x.sn d]] W _) := Lib.hid (fun W => rtexts_any { x with tA := A, tc := c, sA := B, sc := d } W)
  have HSUB := Lib.hid (fun j h1 h2 W (hW : Below w1.heap.size w1 W) => hsub j h1 h2 W (hb0.trans (hW.mono hb0.size)))
  have HLD : Hid (∀ W, Below w1.heap.size w1 W → Bx W w.heap.size x ∧ Bx W (w.heap.size + 1) { x with tA := A, tc := c, sA := B, sc := d }) := Lib.hid (fun W hW => ⟨hx1.below hW hx1.lt, hy1.below hW hy1.lt⟩)
  have hlu : su.length = x.sn := by simpa using h.row.1
  have hlv : sv.length = x.sn := by simpa using h'.row.1
  have a0 := hx1.c0
  have a1 := hx1.c1
  have a2 := hx1.c2
  have a3 := hx1.c3
  have a13 := hx1.c13
  have a14 := hx1.c14
  have a15 := hx1.c15
  have b0 := hy1.c0
  have b1 := hy1.c1
  have b2 := hy1.c2
  have b3 := hy1.c3
  have b13 := hy1.c13
  have b14 := hy1.c14
  have b15 := hy1.c15
  obtain ⟨N, hN⟩ : ∃ N, w.heap.size = N := ⟨_, rfl⟩
  rw [hN] at HX HY HLD a0 a1 a2 a3 a13 a14 a15 b0 b1 b2 b3 b13 b14 b15
  have HW1 := Lib.hid hw1
  clear h h' hb0 hx1 hy1 hsub hw1
  unfold cmC strV at HW1
  unfold cmV strV
  go_enter Try.func32, Try.ntmps32
  go_wp2_with (fail)
  rw [HW1.out]
  clear a0 a1 a2 a3 a13 a14 a15 b0 b1 b2 b3 b13 b14 b15
  refine Go.Rel.wp_tabeq (by kernel_rfl) (by kernel_rfl) (fun _ _ W => Below w1.heap.size w1 W) (fun W W' => Below W.heap.size W W') (fun W => Below.refl _ W) (fun _ _ _ h k => h.trans (k.mono h.size)) (Below.refl _ w1).drew (fun e => (Below.refl _ w1).drew) (smE N x A B c d) (fun _ v W => ∃ C, v = .slice (some ⟨C, 0, none⟩) 8 8 ∧ RV W (some ⟨C, 0, none⟩) 8 (x.texts.map strV)) (fun i => ([1, 3] : List Nat).contains i) (fun i => ([0, 1, 2, 3, 4, 8, 10, 11, 16, 19, 21] : List Nat).contains i) (by kernel_rfl) (fun i v W W' ⟨C, h1, h2⟩ hl => ⟨C, h1, h2.below hl⟩) [] (by decide) (fun f e W i v e' hi hI hp => hI) (fun _ _ => False) (fun _ _ _ _ h => h.elim) ?_ (Go.Rel.AllOf.get ?_) ?_
  · repeat (refine .cons (by first | exact Go.Rel.pure_sp rfl | exact Go.Rel.pure_yes (by kernel_rfl) (fun _ => by kernel_rfl)) ?_)
    exact .nil
  · refine ⟨?_, ?_, ?_, ?_, ?_, ?_, ?_, ?_, ?_, ?_, ?_, trivial⟩
    · exact SpecE.q _ <| SpecE.ld (mains := []) (T := TCm) (fun f e W i v e' hi hI hp => hI) (fun W => Below.refl _ W) (q := .pointer (some ⟨N, 0, none⟩)) (h := fun f W e hI _ _ _ _ => cm_load (HLD.out W hI).1.item)
    · exact SpecEQ.call 18 #[.agg #[.int .i64 x.kind, .int .i64 x.node, .int .i64 x.port, .int .i64 x.status, .string ⟨x.id.toArray⟩, .string ⟨x.name.toArray⟩, .string ⟨x.svc.toArray⟩, .string ⟨x.note.toArray⟩, .string ⟨x.key.toArray⟩, .string ⟨x.val.toArray⟩, .string ⟨x.src.toArray⟩, .string ⟨x.dst.toArray⟩, .slice x.tA x.tn x.tc, .bool x.allow, .int .u64 (x.old : Int), .int .u64 (x.ses : Int), .slice x.sA x.sn x.sc]] rfl (by kernel_rfl) (fun _ => by kernel_rfl) fun f W e hI hf hd ha _ => (CT.out W).mono fun e9 W2 ⟨⟨C, he, hC, hr⟩, hb⟩ => .inl ⟨_, he, hb, fun e' hp => hI.trans (hb.mono hI.size), C, rfl, hr⟩
    · exact SpecE.q _ <| SpecE.ld (mains := []) (T := TCm) (fun f e W i v e' hi hI hp => hI) (fun W => Below.refl _ W) (q := .pointer (some ⟨N + 1, 0, none⟩)) (h := fun f W e hI _ _ _ _ => cm_load (HLD.out W hI).2.item)
    · exact SpecEQ.call 18 #[.agg #[.int .i64 x.kind, .int .i64 x.node, .int .i64 x.port, .int .i64 x.status, .string ⟨x.id.toArray⟩, .string ⟨x.name.toArray⟩, .string ⟨x.svc.toArray⟩, .string ⟨x.note.toArray⟩, .string ⟨x.key.toArray⟩, .string ⟨x.val.toArray⟩, .string ⟨x.src.toArray⟩, .string ⟨x.dst.toArray⟩, .slice A x.tn c, .bool x.allow, .int .u64 (x.old : Int), .int .u64 (x.ses : Int), .slice B x.sn d]] rfl (by kernel_rfl) (fun _ => by kernel_rfl) fun f W e hI hf hd ha _ => (CU.out W).mono fun e9 W2 ⟨⟨C, he, hC, hr⟩, hb⟩ => .inl ⟨_, he, hb, fun e' hp => hI.trans (hb.mono hI.size), C, rfl, hr⟩
    · exact SpecE.q _ <| SpecE.gen (fun e => [(54, e 1), (56, e 3)]) rfl rfl (fun _ => by kernel_rfl) fun f W e hI hf hd ha _ hX K hK => by
        obtain ⟨C1, h1, r1⟩ := hX 1 rfl rfl
        obtain ⟨C2, h2, r2⟩ := hX 3 rfl rfl
        rw [h1, h2]
        refine (congrArg (fun r => Go.Rel.Runs Try.prog r K) (show _ = Result.ok (Next.enter 50 #[.slice (some ⟨C1, 0, none⟩) 8 8, .slice (some ⟨C2, 0, none⟩) 8 8]) W by kernel_rfl)).mpr ?_
        exact (rsame_yes (some ⟨C1, 0, none⟩) (some ⟨C2, 0, none⟩) 8 8 8 x.texts W r1 r2 (by decide)).mono fun e9 W2 ⟨he, hb⟩ => by
          subst he
          exact hK _ _ hb (fun e' hp => hI.trans (hb.mono hI.size)) rfl
    · exact SpecE.q _ <| SpecE.ld (mains := []) (T := 22) (fun f e W i v e' hi hI hp => hI) (fun W => Below.refl _ W) (q := .pointer (some ⟨N, 12, none⟩)) (h := fun f W e hI _ _ _ _ => by have hc := (HLD.out W hI).1.c12; go_simp; rfl)
    · exact SpecE.q _ <| SpecE.ld (mains := []) (T := 22) (fun f e W i v e' hi hI hp => hI) (fun W => Below.refl _ W) (q := .pointer (some ⟨N + 1, 12, none⟩)) (h := fun f W e hI _ _ _ _ => by have hc := (HLD.out W hI).2.c12; go_simp; rfl)
    · exact SpecEQ.call 50 #[.slice x.tA x.tn x.tc, .slice A x.tn c] rfl (by kernel_rfl) (fun _ => by kernel_rfl) fun f W e hI hf hd ha _ => (rsame_yes _ _ _ _ _ tags W (H1.out.below hI).top.row (H2.out.below hI).top.row ht).mono fun e9 W2 ⟨he, hb⟩ => .inl ⟨_, he, hb, fun e' hp => hI.trans (hb.mono hI.size), rfl⟩
    · exact SpecE.q _ <| SpecE.ld (mains := []) (T := 24) (fun f e W i v e' hi hI hp => hI) (fun W => Below.refl _ W) (q := .pointer (some ⟨N, 16, none⟩)) (h := fun f W e hI _ _ _ _ => by have hc := (HLD.out W hI).1.c16; go_simp; rfl)
    · exact SpecE.q _ <| SpecE.ld (mains := []) (T := 24) (fun f e W i v e' hi hI hp => hI) (fun W => Below.refl _ W) (q := .pointer (some ⟨N + 1, 16, none⟩)) (h := fun f W e hI _ _ _ _ => by have hc := (HLD.out W hI).2.c16; go_simp; rfl)
    · exact SpecE.q _ <| SpecE.gen (fun e => [(70, .int .i64 (x.sn : Int)), (73, .int .i64 (x.sn : Int))]) rfl rfl (fun _ => by kernel_rfl) fun f W e hI hf hd ha _ hX K hK => by
        have h1 := hK (.bool false) W (Below.refl _ W) (fun e' hp => hI) rfl
        refine (congrArg (fun r => Go.Rel.Runs Try.prog r K) (show _ = Result.ok (Next.value (.bool false)) W by go_simp)).mpr h1
  · intro f W e _ hI _ hv
    have h22 : e 22 = .bool false := hv 22 rfl
    have HBW := Lib.hid hI
    simp only [Go.Rel.finL, List.setIfInBounds_toArray, List.set_cons_succ, List.set_cons_zero, h22]
    clear hv hI h22
    show Exit.then _ _ Exit.normal _ _
    unfold Exit.then
    go_wp2
    go_loopw [5] (fun i wr => ∃ k : Nat, k ≤ x.sn ∧ i = .int .i64 k ∧ Below w1.heap.size w1 wr) (fun i _ => x.sn - (intOf i).toNat)
    case atStart => exact ⟨0, Nat.zero_le _, rfl, HBW.out⟩
    case round =>
      obtain ⟨k, hk, rfl, hb⟩ := hrel
      have HBr := Lib.hid hb
      have q16 := (HLD.out wr hb).1.c16
      by_cases hlt : k < x.sn
      · have k1 : k < su.length := by omega
        have k2 : k < sv.length := by omega
        obtain ⟨b1, o1, e1, hb1, hi1⟩ := (H1.out.below hb).row.at_ (j := k) hlt (by simpa using k1)
        obtain ⟨b2, o2, e2, hb2, hi2⟩ := (H2.out.below hb).row.at_ (j := k) hlt (by simpa using k2)
        rw [List.getElem_map] at hi1 hi2
        have CS := Lib.hid (fun W hW => HSUB.out k k1 k2 W hW)
        obtain ⟨y, hy⟩ : ∃ y, (su[k]'k1).1 = y := ⟨_, rfl⟩
        obtain ⟨z, hz⟩ : ∃ z, (sv[k]'k2).1 = z := ⟨_, rfl⟩
        rw [hy] at hi1
        rw [hz] at hi2
        simp only [hy, hz] at CS
        have u1 : (k : Int) < (x.sn : Int) := by omega
        have u2 : (0 : Int) ≤ (k : Int) := by omega
        have I1 : Hid (∀ W, Below wr.heap.size wr W → ItAt cmC W b1 (o1 + k * 17) y) := Lib.hid (fun W hW => hi1.of_block (hW.block b1 hb1))
        have I2 : Hid (∀ W, Below wr.heap.size wr W → ItAt cmC W b2 (o2 + k * 17) z) := Lib.hid (fun W hW => hi2.of_block (hW.block b2 hb2))
        have E1 := Lib.hid e1
        have E2 : Hid (B = some ⟨b2, o2, none⟩) := Lib.hid e2
        clear hi1 hi2 e1 e2 hb hy hz hb1 hb2 k1 k2
        go_wp2_with fail
        refine Go.Rel.wp_tabeq (by kernel_rfl) (by kernel_rfl) (fun _ _ W => Below wr.heap.size wr W) (fun W W' => Below W.heap.size W W') (fun W => Below.refl _ W) (fun _ _ _ h k => h.trans (k.mono h.size)) (Below.refl _ wr).drew (fun e => (Below.refl _ wr).drew) (smL N x y z k b1 o1 x.sc b2 o2 d) (fun _ _ _ => True) (fun _ => false) (fun i => ([1, 3, 4, 6, 8, 9, 10] : List Nat).contains i) (by kernel_rfl) (fun _ _ _ _ h _ => h) [] (by decide) (fun f e W i v e' hi hI hp => hI) (fun _ _ => False) (fun _ _ _ _ h => h.elim) ?_ (Go.Rel.AllOf.get ?_) ?_
        · repeat (refine .cons (by first | exact Go.Rel.pure_sp rfl | exact Go.Rel.pure_yes (by kernel_rfl) (fun _ => by kernel_rfl)) ?_)
          exact .nil
        · refine ⟨?_, ?_, ?_, ?_, ?_, ?_, ?_, trivial⟩
          · exact SpecE.q _ <| SpecE.ld (mains := []) (T := 24) (fun f e W i v e' hi hI hp => hI) (fun W => Below.refl _ W) (q := .pointer (some ⟨N, 16, none⟩)) (h := fun f W e hI _ _ _ _ => by have hc := (HLD.out W (HBr.out.trans (hI.mono HBr.out.size))).1.c16; rw [E1.out] at hc; go_simp; rfl)
          · exact SpecE.q _ <| SpecE.gen (fun e => [(84, .slice (some ⟨b1, o1, none⟩) x.sn x.sc), (85, .int .i64 (k : Int))]) rfl rfl (fun _ => by kernel_rfl) fun f W e hI hf hd ha _ hX K hK => by
              have h1 := hK (.pointer (some ⟨b1, o1 + k * 17, none⟩)) W (Below.refl _ W) (fun e' hp => hI) rfl
              refine (congrArg (fun r => Go.Rel.Runs Try.prog r K) (show _ = Result.ok (Next.value (.pointer (some ⟨b1, o1 + k * 17, none⟩))) W by go_simp)).mpr h1
          · exact SpecE.q _ <| SpecE.ld (mains := []) (T := TCm) (fun f e W i v e' hi hI hp => hI) (fun W => Below.refl _ W) (q := .pointer (some ⟨b1, o1 + k * 17, none⟩)) (h := fun f W e hI _ _ _ _ => cm_load (I1.out W hI))
          · exact SpecE.q _ <| SpecE.ld (mains := []) (T := 24) (fun f e W i v e' hi hI hp => hI) (fun W => Below.refl _ W) (q := .pointer (some ⟨N + 1, 16, none⟩)) (h := fun f W e hI _ _ _ _ => by have hc : W.cell? ⟨N + 1, 16, none⟩ = some (.slice B x.sn d) := (HLD.out W (HBr.out.trans (hI.mono HBr.out.size))).2.c16; rw [E2.out] at hc; go_simp; rfl)
          · exact SpecE.q _ <| SpecE.gen (fun e => [(89, .slice (some ⟨b2, o2, none⟩) x.sn d), (90, .int .i64 (k : Int))]) rfl rfl (fun _ => by kernel_rfl) fun f W e hI hf hd ha _ hX K hK => by
              have h1 := hK (.pointer (some ⟨b2, o2 + k * 17, none⟩)) W (Below.refl _ W) (fun e' hp => hI) rfl
              refine (congrArg (fun r => Go.Rel.Runs Try.prog r K) (show _ = Result.ok (Next.value (.pointer (some ⟨b2, o2 + k * 17, none⟩))) W by go_simp)).mpr h1
          · exact SpecE.q _ <| SpecE.ld (mains := []) (T := TCm) (fun f e W i v e' hi hI hp => hI) (fun W => Below.refl _ W) (q := .pointer (some ⟨b2, o2 + k * 17, none⟩)) (h := fun f W e hI _ _ _ _ => cm_load (I2.out W hI))
          · exact SpecEQ.call 32 #[.agg #[.int .i64 y.kind, .int .i64 y.node, .int .i64 y.port, .int .i64 y.status, .string ⟨y.id.toArray⟩, .string ⟨y.name.toArray⟩, .string ⟨y.svc.toArray⟩, .string ⟨y.note.toArray⟩, .string ⟨y.key.toArray⟩, .string ⟨y.val.toArray⟩, .string ⟨y.src.toArray⟩, .string ⟨y.dst.toArray⟩, .slice y.tA y.tn y.tc, .bool y.allow, .int .u64 (y.old : Int), .int .u64 (y.ses : Int), .slice y.sA y.sn y.sc], .agg #[.int .i64 z.kind, .int .i64 z.node, .int .i64 z.port, .int .i64 z.status, .string ⟨z.id.toArray⟩, .string ⟨z.name.toArray⟩, .string ⟨z.svc.toArray⟩, .string ⟨z.note.toArray⟩, .string ⟨z.key.toArray⟩, .string ⟨z.val.toArray⟩, .string ⟨z.src.toArray⟩, .string ⟨z.dst.toArray⟩, .slice z.tA z.tn z.tc, .bool z.allow, .int .u64 (z.old : Int), .int .u64 (z.ses : Int), .slice z.sA z.sn z.sc]] rfl (by kernel_rfl) (fun _ => by kernel_rfl) fun f W e hI hf hd ha _ => (CS.out W (HBr.out.trans (hI.mono HBr.out.size))).mono fun e9 W2 ⟨he, hb⟩ => .inl ⟨_, he, hb, fun e' hp => hI.trans (hb.mono hI.size), rfl⟩
        · intro f W e _ hI _ hv
          have h11 : e 11 = .bool false := hv 11 rfl
          have HBX := Lib.hid (HBr.out.trans (hI.mono HBr.out.size))
          simp only [Go.Rel.finL, List.setIfInBounds_toArray, List.set_cons_succ, List.set_cons_zero, h11]
          clear hv hI h11 q16
          show Exit.then _ _ Exit.normal _ _
          unfold Exit.then
          go_wp2
          go_roundw
          case rel => exact ⟨k + 1, by omega, by go_num, HBX.out⟩
          case measure => simp [intOf]; omega
      · obtain rfl : k = x.sn := by omega
        go_wp2
        go_ret
        exact ⟨rfl, HB0.out.trans (hb.mono HB0.out.size)⟩
end Go.Proofs.Ytbhhalkpghcflaa
