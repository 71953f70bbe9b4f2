/-
  A step of the law (layer 17): Add, Turn, Drop of both.
-/
import Derived.Test.YtmegfkclpjddgaaZj41
namespace Go.Proofs.Ytmegfkclpjddgaa
open Go.RowKit Go.Rel
set_option linter.unusedSimpArgs false
set_option linter.unusedVariables false

def is0 (Bp : Nat) (Bd : Nat) (X : Nat) (src : ByteArray) (dst : ByteArray) (allow : Bool) (old : Nat) (ix : Nat) (er : Nat) : Nat → Value
  | 0 => .pointer (some ⟨Bp, 0, none⟩)
  | 1 | 11 => .pointer (some ⟨X, 1, none⟩)
  | 2 | 12 => .string src
  | 3 | 13 => .pointer (some ⟨X, 2, none⟩)
  | 4 | 14 => .string dst
  | 5 | 15 => .pointer (some ⟨X, 3, none⟩)
  | 6 | 16 => .bool allow
  | 7 | 17 => .pointer (some ⟨X, 5, none⟩)
  | 8 | 18 => .int .u64 (ix : Int)
  | 9 | 19 => .int .i64 (er : Int)
  | 10 => .pointer (some ⟨Bd, 0, none⟩)
  | 20 | 21 => .bool true
  | _ => undef
set_option maxHeartbeats 4000000 in
set_option maxRecDepth 100000 in
theorem step_add {O : Nat → Prop} {Bp Bt Bd : Nat} {t : Im} (s : ISt) (w : World) (h : Both O w Bp Bt t Bd t) (hs : s.Ok) (hk : s.kind = 0) :
    Calls Try.prog 12 #[.pointer (some ⟨Bp, 0, none⟩), .pointer (some ⟨Bd, 0, none⟩), stV s] w (StepPost O w Bp Bt Bd ((t.addI s.src s.dst s.allow s.ix).2)) := by
  obtain ⟨kind, src, dst, allow, old, ix⟩ := s
  simp only at hk
  subst hk
  unfold stV
  simp only
  have hsr : src.size ≤ maxLen := hs.src
  have hds : dst.size ≤ maxLen := hs.dst
  have ho : old < 18446744073709551616 := hs.old
  have hi : ix < 18446744073709551616 := hs.ix
  obtain ⟨X, hX⟩ : ∃ X, w.heap.size = X := ⟨_, rfl⟩
  obtain ⟨W1, hW⟩ : ∃ W1, w.alloc (.cells #[.int .i64 0, .string src, .string dst, .bool allow, .int .u64 (old : Int), .int .u64 (ix : Int)] 30) = W1 := ⟨_, rfl⟩
  have hb0 : Below w.heap.size w W1 := by rw [← hW]; exact below1 _ _ _
  have k0 : W1.heap[X]? = some (.cells #[.int .i64 0, .string src, .string dst, .bool allow, .int .u64 (old : Int), .int .u64 (ix : Int)] 30 (0, 0)) := by rw [← hW, ← hX]; exact heap_alloc_new w _
  obtain ⟨O2, hO2⟩ : ∃ O2 : Nat → Prop, O2 = fun k => O k ∧ k ≠ X := ⟨_, rfl⟩
  have hb1 : Both O2 W1 Bp Bt t Bd t := by rw [hO2]; exact h.box hb0 (X := X) (by omega) (block_lt k0)
  have HOx : Hid (¬ O2 X) := Lib.hid (by rw [hO2]; exact fun z => z.2 rfl)
  have HOO : Hid (∀ k, O2 k → O k) := Lib.hid (by rw [hO2]; exact fun k z => z.1)
  obtain ⟨t', ht'⟩ : ∃ t', (t.addI src dst allow ix).2 = t' := ⟨_, rfl⟩
  obtain ⟨er, her⟩ : ∃ er, (t.addI src dst allow ix).1 = er := ⟨_, rfl⟩
  rw [ht']
  have HCp : Hid (∀ (f : Nat → Bool) (w' : World), StIs O2 X #[.int .i64 0, .string src, .string dst, .bool allow, .int .u64 (old : Int), .int .u64 (ix : Int)] 9 19 Bp Bt Bd t t' f w' → f 9 = false → Calls Try.prog 29 #[.pointer (some ⟨Bp, 0, none⟩), .string src, .string dst, .bool allow, .int .u64 (ix : Int)] w' fun e w2 => e = .returned (.int .i64 (er : Int)) ∧ StIs O2 X #[.int .i64 0, .string src, .string dst, .bool allow, .int .u64 (old : Int), .int .u64 (ix : Int)] 9 19 Bp Bt Bd t t' (Go.Rel.upd f 9) w2 ∧ But O2 w' w2) := Lib.hid fun f w' hI hf =>
    hI.left (by decide) hf fun S h => by rw [← ht', ← her]; exact add_any src dst allow ix h hsr hds hi
  have HCd : Hid (∀ (f : Nat → Bool) (w' : World), StIs O2 X #[.int .i64 0, .string src, .string dst, .bool allow, .int .u64 (old : Int), .int .u64 (ix : Int)] 9 19 Bp Bt Bd t t' f w' → f 19 = false → Calls Try.prog 34 #[.pointer (some ⟨Bd, 0, none⟩), .string src, .string dst, .bool allow, .int .u64 (ix : Int)] w' fun e w2 => e = .returned (.int .i64 (er : Int)) ∧ StIs O2 X #[.int .i64 0, .string src, .string dst, .bool allow, .int .u64 (old : Int), .int .u64 (ix : Int)] 9 19 Bp Bt Bd t t' (Go.Rel.upd f 19) w2 ∧ But O2 w' w2) := Lib.hid fun f w' hI hf =>
    hI.right (by decide) hf fun S h => by rw [← ht', ← her]; exact (fun hB => (riadd_any src dst allow ix w' h hsr hds hi).mono fun e w2 ⟨a, b, c⟩ => ⟨a, b, c.mono fun k e => by rw [e]; exact hB⟩)
  have HB1 := Lib.hid hb1
  have HK0 := Lib.hid k0
  have HB0 := Lib.hid hb0
  have HW := Lib.hid hW
  have HX := Lib.hid hX
  obtain ⟨d0, d1, d2, d3, d4, d5⟩ := st_blk k0
  clear h hs hsr hds ho hi hX hW hb0 k0 hO2 hb1 ht' her
  go_enter Try.func12, Try.ntmps12
  go_wp2_with fail
  rw [HW.out, HX.out]
  go_wp2_with fail
  clear d0 d1 d2 d3 d4 d5
  have hre : ∀ w : World, (But O2) w w := (fun w => But.refl _ w)
  have hrd : ∀ (ops9 : Array Oper) (f9 : Nat → Bool) (e9 : Nat → Value) (w9 : World) (i9 : Nat) (v9 : Value) (e8 : Nat → Value), [9, 19].contains i9 = false → (fun (f : Nat → Bool) (_ : Nat → Value) (w : World) => StIs O2 X #[.int .i64 0, .string src, .string dst, .bool allow, .int .u64 (old : Int), .int .u64 (ix : Int)] 9 19 Bp Bt Bd t t' f w) f9 e9 w9 → Go.Rel.Put ops9 i9 e9 v9 e8 → (fun (f : Nat → Bool) (_ : Nat → Value) (w : World) => StIs O2 X #[.int .i64 0, .string src, .string dst, .bool allow, .int .u64 (old : Int), .int .u64 (ix : Int)] 9 19 Bp Bt Bd t t' f w) (Go.Rel.upd f9 i9) e8 w9 := (fun _ _ _ _ _ _ _ hj h _ => StIs.keep hj h)
  refine Go.Rel.wp_tabe (by kernel_rfl) (by kernel_rfl) (fun (f : Nat → Bool) (_ : Nat → Value) (w : World) => StIs O2 X #[.int .i64 0, .string src, .string dst, .bool allow, .int .u64 (old : Int), .int .u64 (ix : Int)] 9 19 Bp Bt Bd t t' f w) (But O2) hre ((fun _ _ _ h k => h.trans k)) ((But.refl _ _).drew) (fun _ => StIs.start HB1.out HK0.out HOx.out) (is0 Bp Bd X src dst allow old ix er) (fun _ _ _ => True) (fun i => ([] : List Nat).contains i) (fun i => ([2, 4, 6, 8, 9, 12, 14, 16, 18, 19, 20] : List Nat).contains i) (by kernel_rfl) (fun _ _ _ _ h _ => h) [9, 19] (by decide) (hrd _) ?_ (Go.Rel.AllOf.get ?_) ?_
  · repeat (refine .cons (by first | exact Go.Rel.pure_sp rfl | exact Go.Rel.pure_yes (by kernel_rfl) (fun _ => by kernel_rfl) | exact Go.Rel.pure_no (by kernel_rfl) rfl) ?_)
    exact .nil
  · refine ⟨?_, ?_, ?_, ?_, ?_, ?_, ?_, ?_, ?_, ?_, ?_, trivial⟩
    · exact SpecE.ld (hrd _) hre (q := .pointer (some ⟨X, 1, none⟩)) (h := fun _ w' _ hI _ _ _ _ => by obtain ⟨x0, x1, x2, x3, x4, x5⟩ := st_blk hI.blk; go_simp; rfl)
    · exact SpecE.ld (hrd _) hre (q := .pointer (some ⟨X, 2, none⟩)) (h := fun _ w' _ hI _ _ _ _ => by obtain ⟨x0, x1, x2, x3, x4, x5⟩ := st_blk hI.blk; go_simp; rfl)
    · exact SpecE.ld (hrd _) hre (q := .pointer (some ⟨X, 3, none⟩)) (h := fun _ w' _ hI _ _ _ _ => by obtain ⟨x0, x1, x2, x3, x4, x5⟩ := st_blk hI.blk; go_simp; rfl)
    · exact SpecE.ld (hrd _) hre (q := .pointer (some ⟨X, 5, none⟩)) (h := fun _ w' _ hI _ _ _ _ => by obtain ⟨x0, x1, x2, x3, x4, x5⟩ := st_blk hI.blk; go_simp; rfl)
    · refine SpecE.gen (fun e => [(16, .pointer (some ⟨Bp, 0, none⟩)), (18, .string src), (20, .string dst), (22, .bool allow), (24, .int .u64 (ix : Int))]) rfl rfl (fun _ => by kernel_rfl) fun f w' e hI hf hdesc hanc hle hX K hK => ?_
      go_simp
      refine (HCp.out f w' hI hf).mono ?_
      rintro e9 w9 ⟨rfl, h9, hb9⟩
      exact hK _ _ hb9 (fun _ _ => h9) rfl
    · exact SpecE.ld (hrd _) hre (q := .pointer (some ⟨X, 1, none⟩)) (h := fun _ w' _ hI _ _ _ _ => by obtain ⟨x0, x1, x2, x3, x4, x5⟩ := st_blk hI.blk; go_simp; rfl)
    · exact SpecE.ld (hrd _) hre (q := .pointer (some ⟨X, 2, none⟩)) (h := fun _ w' _ hI _ _ _ _ => by obtain ⟨x0, x1, x2, x3, x4, x5⟩ := st_blk hI.blk; go_simp; rfl)
    · exact SpecE.ld (hrd _) hre (q := .pointer (some ⟨X, 3, none⟩)) (h := fun _ w' _ hI _ _ _ _ => by obtain ⟨x0, x1, x2, x3, x4, x5⟩ := st_blk hI.blk; go_simp; rfl)
    · exact SpecE.ld (hrd _) hre (q := .pointer (some ⟨X, 5, none⟩)) (h := fun _ w' _ hI _ _ _ _ => by obtain ⟨x0, x1, x2, x3, x4, x5⟩ := st_blk hI.blk; go_simp; rfl)
    · refine SpecE.gen (fun e => [(26, .pointer (some ⟨Bd, 0, none⟩)), (28, .string src), (30, .string dst), (32, .bool allow), (34, .int .u64 (ix : Int))]) rfl rfl (fun _ => by kernel_rfl) fun f w' e hI hf hdesc hanc hle hX K hK => ?_
      go_simp
      refine (HCd.out f w' hI hf).mono ?_
      rintro e9 w9 ⟨rfl, h9, hb9⟩
      exact hK _ _ hb9 (fun _ _ => h9) rfl
    · refine SpecE.gen (fun e => [(25, .int .i64 (er : Int)), (35, .int .i64 (er : Int))]) rfl rfl (fun _ => by kernel_rfl) fun f w' e hI hf hdesc hanc hle hX K hK => ?_
      have heq : ((er : Int) == (er : Int)) = true := beq_self_eq_true _
      go_simp
      exact hK _ _ (hre _) (fun e' hp => hrd _ f e w' 20 _ e' rfl hI hp) rfl
  · intro f w2 e hall hJ hle hv
    have hb2 := hJ.both
    rw [hall 9 (by decide), hall 19 (by decide)] at hb2
    have HB2 := Lib.hid (hb2.wide HOO.out)
    have HL := Lib.hid ((But.of_below HB0.out).trans (hle.mono HOO.out))
    have v9 := hv 21 rfl
    simp only [Go.Rel.finL, List.setIfInBounds_toArray, List.set_cons_succ, List.set_cons_zero]
    rw [show e 21 = .bool true from v9]
    clear hv hall hJ hle hb2 v9
    go_wp2
    go_ret
    exact ⟨rfl, HB2.out, HL.out⟩
def is1 (Bp : Nat) (Bd : Nat) (X : Nat) (src : ByteArray) (dst : ByteArray) (allow : Bool) (old : Nat) (ix : Nat) (er : Nat) : Nat → Value
  | 0 => .pointer (some ⟨Bp, 0, none⟩)
  | 1 | 13 => .pointer (some ⟨X, 1, none⟩)
  | 2 | 14 => .string src
  | 3 | 15 => .pointer (some ⟨X, 2, none⟩)
  | 4 | 16 => .string dst
  | 5 | 17 => .pointer (some ⟨X, 3, none⟩)
  | 6 | 18 => .bool allow
  | 7 | 19 => .pointer (some ⟨X, 4, none⟩)
  | 8 | 20 => .int .u64 (old : Int)
  | 9 | 21 => .pointer (some ⟨X, 5, none⟩)
  | 10 | 22 => .int .u64 (ix : Int)
  | 11 | 23 => .int .i64 (er : Int)
  | 12 => .pointer (some ⟨Bd, 0, none⟩)
  | 24 | 25 => .bool true
  | _ => undef
set_option maxHeartbeats 4000000 in
set_option maxRecDepth 100000 in
theorem step_turn {O : Nat → Prop} {Bp Bt Bd : Nat} {t : Im} (s : ISt) (w : World) (h : Both O w Bp Bt t Bd t) (hs : s.Ok) (hk : s.kind = 1) :
    Calls Try.prog 12 #[.pointer (some ⟨Bp, 0, none⟩), .pointer (some ⟨Bd, 0, none⟩), stV s] w (StepPost O w Bp Bt Bd ((t.turnI s.src s.dst s.allow s.old s.ix).2)) := by
  obtain ⟨kind, src, dst, allow, old, ix⟩ := s
  simp only at hk
  subst hk
  unfold stV
  simp only
  have hsr : src.size ≤ maxLen := hs.src
  have hds : dst.size ≤ maxLen := hs.dst
  have ho : old < 18446744073709551616 := hs.old
  have hi : ix < 18446744073709551616 := hs.ix
  obtain ⟨X, hX⟩ : ∃ X, w.heap.size = X := ⟨_, rfl⟩
  obtain ⟨W1, hW⟩ : ∃ W1, w.alloc (.cells #[.int .i64 1, .string src, .string dst, .bool allow, .int .u64 (old : Int), .int .u64 (ix : Int)] 30) = W1 := ⟨_, rfl⟩
  have hb0 : Below w.heap.size w W1 := by rw [← hW]; exact below1 _ _ _
  have k0 : W1.heap[X]? = some (.cells #[.int .i64 1, .string src, .string dst, .bool allow, .int .u64 (old : Int), .int .u64 (ix : Int)] 30 (0, 0)) := by rw [← hW, ← hX]; exact heap_alloc_new w _
  obtain ⟨O2, hO2⟩ : ∃ O2 : Nat → Prop, O2 = fun k => O k ∧ k ≠ X := ⟨_, rfl⟩
  have hb1 : Both O2 W1 Bp Bt t Bd t := by rw [hO2]; exact h.box hb0 (X := X) (by omega) (block_lt k0)
  have HOx : Hid (¬ O2 X) := Lib.hid (by rw [hO2]; exact fun z => z.2 rfl)
  have HOO : Hid (∀ k, O2 k → O k) := Lib.hid (by rw [hO2]; exact fun k z => z.1)
  obtain ⟨t', ht'⟩ : ∃ t', (t.turnI src dst allow old ix).2 = t' := ⟨_, rfl⟩
  obtain ⟨er, her⟩ : ∃ er, (t.turnI src dst allow old ix).1 = er := ⟨_, rfl⟩
  rw [ht']
  have HCp : Hid (∀ (f : Nat → Bool) (w' : World), StIs O2 X #[.int .i64 1, .string src, .string dst, .bool allow, .int .u64 (old : Int), .int .u64 (ix : Int)] 11 23 Bp Bt Bd t t' f w' → f 11 = false → Calls Try.prog 30 #[.pointer (some ⟨Bp, 0, none⟩), .string src, .string dst, .bool allow, .int .u64 (old : Int), .int .u64 (ix : Int)] w' fun e w2 => e = .returned (.int .i64 (er : Int)) ∧ StIs O2 X #[.int .i64 1, .string src, .string dst, .bool allow, .int .u64 (old : Int), .int .u64 (ix : Int)] 11 23 Bp Bt Bd t t' (Go.Rel.upd f 11) w2 ∧ But O2 w' w2) := Lib.hid fun f w' hI hf =>
    hI.left (by decide) hf fun S h => by rw [← ht', ← her]; exact turn_any src dst allow old ix h hsr hds ho hi
  have HCd : Hid (∀ (f : Nat → Bool) (w' : World), StIs O2 X #[.int .i64 1, .string src, .string dst, .bool allow, .int .u64 (old : Int), .int .u64 (ix : Int)] 11 23 Bp Bt Bd t t' f w' → f 23 = false → Calls Try.prog 35 #[.pointer (some ⟨Bd, 0, none⟩), .string src, .string dst, .bool allow, .int .u64 (old : Int), .int .u64 (ix : Int)] w' fun e w2 => e = .returned (.int .i64 (er : Int)) ∧ StIs O2 X #[.int .i64 1, .string src, .string dst, .bool allow, .int .u64 (old : Int), .int .u64 (ix : Int)] 11 23 Bp Bt Bd t t' (Go.Rel.upd f 23) w2 ∧ But O2 w' w2) := Lib.hid fun f w' hI hf =>
    hI.right (by decide) hf fun S h => by rw [← ht', ← her]; exact (fun hB => (riturn_any src dst allow old ix w' h hsr hds hi).mono fun e w2 ⟨a, b, c⟩ => ⟨a, b.narrow fun k _ z => .inl z, c⟩)
  have HB1 := Lib.hid hb1
  have HK0 := Lib.hid k0
  have HB0 := Lib.hid hb0
  have HW := Lib.hid hW
  have HX := Lib.hid hX
  obtain ⟨d0, d1, d2, d3, d4, d5⟩ := st_blk k0
  clear h hs hsr hds ho hi hX hW hb0 k0 hO2 hb1 ht' her
  go_enter Try.func12, Try.ntmps12
  go_wp2_with fail
  rw [HW.out, HX.out]
  go_wp2_with fail
  clear d0 d1 d2 d3 d4 d5
  have hre : ∀ w : World, (But O2) w w := (fun w => But.refl _ w)
  have hrd : ∀ (ops9 : Array Oper) (f9 : Nat → Bool) (e9 : Nat → Value) (w9 : World) (i9 : Nat) (v9 : Value) (e8 : Nat → Value), [11, 23].contains i9 = false → (fun (f : Nat → Bool) (_ : Nat → Value) (w : World) => StIs O2 X #[.int .i64 1, .string src, .string dst, .bool allow, .int .u64 (old : Int), .int .u64 (ix : Int)] 11 23 Bp Bt Bd t t' f w) f9 e9 w9 → Go.Rel.Put ops9 i9 e9 v9 e8 → (fun (f : Nat → Bool) (_ : Nat → Value) (w : World) => StIs O2 X #[.int .i64 1, .string src, .string dst, .bool allow, .int .u64 (old : Int), .int .u64 (ix : Int)] 11 23 Bp Bt Bd t t' f w) (Go.Rel.upd f9 i9) e8 w9 := (fun _ _ _ _ _ _ _ hj h _ => StIs.keep hj h)
  refine Go.Rel.wp_tabe (by kernel_rfl) (by kernel_rfl) (fun (f : Nat → Bool) (_ : Nat → Value) (w : World) => StIs O2 X #[.int .i64 1, .string src, .string dst, .bool allow, .int .u64 (old : Int), .int .u64 (ix : Int)] 11 23 Bp Bt Bd t t' f w) (But O2) hre ((fun _ _ _ h k => h.trans k)) ((But.refl _ _).drew) (fun _ => StIs.start HB1.out HK0.out HOx.out) (is1 Bp Bd X src dst allow old ix er) (fun _ _ _ => True) (fun i => ([] : List Nat).contains i) (fun i => ([2, 4, 6, 8, 10, 11, 14, 16, 18, 20, 22, 23, 24] : List Nat).contains i) (by kernel_rfl) (fun _ _ _ _ h _ => h) [11, 23] (by decide) (hrd _) ?_ (Go.Rel.AllOf.get ?_) ?_
  · repeat (refine .cons (by first | exact Go.Rel.pure_sp rfl | exact Go.Rel.pure_yes (by kernel_rfl) (fun _ => by kernel_rfl) | exact Go.Rel.pure_no (by kernel_rfl) rfl) ?_)
    exact .nil
  · refine ⟨?_, ?_, ?_, ?_, ?_, ?_, ?_, ?_, ?_, ?_, ?_, ?_, ?_, trivial⟩
    · exact SpecE.ld (hrd _) hre (q := .pointer (some ⟨X, 1, none⟩)) (h := fun _ w' _ hI _ _ _ _ => by obtain ⟨x0, x1, x2, x3, x4, x5⟩ := st_blk hI.blk; go_simp; rfl)
    · exact SpecE.ld (hrd _) hre (q := .pointer (some ⟨X, 2, none⟩)) (h := fun _ w' _ hI _ _ _ _ => by obtain ⟨x0, x1, x2, x3, x4, x5⟩ := st_blk hI.blk; go_simp; rfl)
    · exact SpecE.ld (hrd _) hre (q := .pointer (some ⟨X, 3, none⟩)) (h := fun _ w' _ hI _ _ _ _ => by obtain ⟨x0, x1, x2, x3, x4, x5⟩ := st_blk hI.blk; go_simp; rfl)
    · exact SpecE.ld (hrd _) hre (q := .pointer (some ⟨X, 4, none⟩)) (h := fun _ w' _ hI _ _ _ _ => by obtain ⟨x0, x1, x2, x3, x4, x5⟩ := st_blk hI.blk; go_simp; rfl)
    · exact SpecE.ld (hrd _) hre (q := .pointer (some ⟨X, 5, none⟩)) (h := fun _ w' _ hI _ _ _ _ => by obtain ⟨x0, x1, x2, x3, x4, x5⟩ := st_blk hI.blk; go_simp; rfl)
    · refine SpecE.gen (fun e => [(39, .pointer (some ⟨Bp, 0, none⟩)), (41, .string src), (43, .string dst), (45, .bool allow), (47, .int .u64 (old : Int)), (49, .int .u64 (ix : Int))]) rfl rfl (fun _ => by kernel_rfl) fun f w' e hI hf hdesc hanc hle hX K hK => ?_
      go_simp
      refine (HCp.out f w' hI hf).mono ?_
      rintro e9 w9 ⟨rfl, h9, hb9⟩
      exact hK _ _ hb9 (fun _ _ => h9) rfl
    · exact SpecE.ld (hrd _) hre (q := .pointer (some ⟨X, 1, none⟩)) (h := fun _ w' _ hI _ _ _ _ => by obtain ⟨x0, x1, x2, x3, x4, x5⟩ := st_blk hI.blk; go_simp; rfl)
    · exact SpecE.ld (hrd _) hre (q := .pointer (some ⟨X, 2, none⟩)) (h := fun _ w' _ hI _ _ _ _ => by obtain ⟨x0, x1, x2, x3, x4, x5⟩ := st_blk hI.blk; go_simp; rfl)
    · exact SpecE.ld (hrd _) hre (q := .pointer (some ⟨X, 3, none⟩)) (h := fun _ w' _ hI _ _ _ _ => by obtain ⟨x0, x1, x2, x3, x4, x5⟩ := st_blk hI.blk; go_simp; rfl)
    · exact SpecE.ld (hrd _) hre (q := .pointer (some ⟨X, 4, none⟩)) (h := fun _ w' _ hI _ _ _ _ => by obtain ⟨x0, x1, x2, x3, x4, x5⟩ := st_blk hI.blk; go_simp; rfl)
    · exact SpecE.ld (hrd _) hre (q := .pointer (some ⟨X, 5, none⟩)) (h := fun _ w' _ hI _ _ _ _ => by obtain ⟨x0, x1, x2, x3, x4, x5⟩ := st_blk hI.blk; go_simp; rfl)
    · refine SpecE.gen (fun e => [(51, .pointer (some ⟨Bd, 0, none⟩)), (53, .string src), (55, .string dst), (57, .bool allow), (59, .int .u64 (old : Int)), (61, .int .u64 (ix : Int))]) rfl rfl (fun _ => by kernel_rfl) fun f w' e hI hf hdesc hanc hle hX K hK => ?_
      go_simp
      refine (HCd.out f w' hI hf).mono ?_
      rintro e9 w9 ⟨rfl, h9, hb9⟩
      exact hK _ _ hb9 (fun _ _ => h9) rfl
    · refine SpecE.gen (fun e => [(50, .int .i64 (er : Int)), (62, .int .i64 (er : Int))]) rfl rfl (fun _ => by kernel_rfl) fun f w' e hI hf hdesc hanc hle hX K hK => ?_
      have heq : ((er : Int) == (er : Int)) = true := beq_self_eq_true _
      go_simp
      exact hK _ _ (hre _) (fun e' hp => hrd _ f e w' 24 _ e' rfl hI hp) rfl
  · intro f w2 e hall hJ hle hv
    have hb2 := hJ.both
    rw [hall 11 (by decide), hall 23 (by decide)] at hb2
    have HB2 := Lib.hid (hb2.wide HOO.out)
    have HL := Lib.hid ((But.of_below HB0.out).trans (hle.mono HOO.out))
    have v9 := hv 25 rfl
    simp only [Go.Rel.finL, List.setIfInBounds_toArray, List.set_cons_succ, List.set_cons_zero]
    rw [show e 25 = .bool true from v9]
    clear hv hall hJ hle hb2 v9
    go_wp2
    go_ret
    exact ⟨rfl, HB2.out, HL.out⟩
def is2 (Bp : Nat) (Bd : Nat) (X : Nat) (src : ByteArray) (dst : ByteArray) (allow : Bool) (old : Nat) (ix : Nat) (er : Nat) : Nat → Value
  | 0 => .pointer (some ⟨Bp, 0, none⟩)
  | 1 | 11 => .pointer (some ⟨X, 1, none⟩)
  | 2 | 12 => .string src
  | 3 | 13 => .pointer (some ⟨X, 2, none⟩)
  | 4 | 14 => .string dst
  | 5 | 15 => .pointer (some ⟨X, 4, none⟩)
  | 6 | 16 => .int .u64 (old : Int)
  | 7 | 17 => .pointer (some ⟨X, 5, none⟩)
  | 8 | 18 => .int .u64 (ix : Int)
  | 9 | 19 => .int .i64 (er : Int)
  | 10 => .pointer (some ⟨Bd, 0, none⟩)
  | 20 | 21 => .bool true
  | _ => undef
set_option maxHeartbeats 4000000 in
set_option maxRecDepth 100000 in
theorem step_drop {O : Nat → Prop} {Bp Bt Bd : Nat} {t : Im} (s : ISt) (w : World) (h : Both O w Bp Bt t Bd t) (hs : s.Ok) (hk : s.kind = 2) :
    Calls Try.prog 12 #[.pointer (some ⟨Bp, 0, none⟩), .pointer (some ⟨Bd, 0, none⟩), stV s] w (StepPost O w Bp Bt Bd ((t.dropI s.src s.dst s.old s.ix).2)) := by
  obtain ⟨kind, src, dst, allow, old, ix⟩ := s
  simp only at hk
  subst hk
  unfold stV
  simp only
  have hsr : src.size ≤ maxLen := hs.src
  have hds : dst.size ≤ maxLen := hs.dst
  have ho : old < 18446744073709551616 := hs.old
  have hi : ix < 18446744073709551616 := hs.ix
  obtain ⟨X, hX⟩ : ∃ X, w.heap.size = X := ⟨_, rfl⟩
  obtain ⟨W1, hW⟩ : ∃ W1, w.alloc (.cells #[.int .i64 2, .string src, .string dst, .bool allow, .int .u64 (old : Int), .int .u64 (ix : Int)] 30) = W1 := ⟨_, rfl⟩
  have hb0 : Below w.heap.size w W1 := by rw [← hW]; exact below1 _ _ _
  have k0 : W1.heap[X]? = some (.cells #[.int .i64 2, .string src, .string dst, .bool allow, .int .u64 (old : Int), .int .u64 (ix : Int)] 30 (0, 0)) := by rw [← hW, ← hX]; exact heap_alloc_new w _
  obtain ⟨O2, hO2⟩ : ∃ O2 : Nat → Prop, O2 = fun k => O k ∧ k ≠ X := ⟨_, rfl⟩
  have hb1 : Both O2 W1 Bp Bt t Bd t := by rw [hO2]; exact h.box hb0 (X := X) (by omega) (block_lt k0)
  have HOx : Hid (¬ O2 X) := Lib.hid (by rw [hO2]; exact fun z => z.2 rfl)
  have HOO : Hid (∀ k, O2 k → O k) := Lib.hid (by rw [hO2]; exact fun k z => z.1)
  obtain ⟨t', ht'⟩ : ∃ t', (t.dropI src dst old ix).2 = t' := ⟨_, rfl⟩
  obtain ⟨er, her⟩ : ∃ er, (t.dropI src dst old ix).1 = er := ⟨_, rfl⟩
  rw [ht']
  have HCp : Hid (∀ (f : Nat → Bool) (w' : World), StIs O2 X #[.int .i64 2, .string src, .string dst, .bool allow, .int .u64 (old : Int), .int .u64 (ix : Int)] 9 19 Bp Bt Bd t t' f w' → f 9 = false → Calls Try.prog 31 #[.pointer (some ⟨Bp, 0, none⟩), .string src, .string dst, .int .u64 (old : Int), .int .u64 (ix : Int)] w' fun e w2 => e = .returned (.int .i64 (er : Int)) ∧ StIs O2 X #[.int .i64 2, .string src, .string dst, .bool allow, .int .u64 (old : Int), .int .u64 (ix : Int)] 9 19 Bp Bt Bd t t' (Go.Rel.upd f 9) w2 ∧ But O2 w' w2) := Lib.hid fun f w' hI hf =>
    hI.left (by decide) hf fun S h => by rw [← ht', ← her]; exact drop_any src dst old ix h hsr hds ho hi
  have HCd : Hid (∀ (f : Nat → Bool) (w' : World), StIs O2 X #[.int .i64 2, .string src, .string dst, .bool allow, .int .u64 (old : Int), .int .u64 (ix : Int)] 9 19 Bp Bt Bd t t' f w' → f 19 = false → Calls Try.prog 36 #[.pointer (some ⟨Bd, 0, none⟩), .string src, .string dst, .int .u64 (old : Int), .int .u64 (ix : Int)] w' fun e w2 => e = .returned (.int .i64 (er : Int)) ∧ StIs O2 X #[.int .i64 2, .string src, .string dst, .bool allow, .int .u64 (old : Int), .int .u64 (ix : Int)] 9 19 Bp Bt Bd t t' (Go.Rel.upd f 19) w2 ∧ But O2 w' w2) := Lib.hid fun f w' hI hf =>
    hI.right (by decide) hf fun S h => by rw [← ht', ← her]; exact (fun hB => (ridrop_any src dst old ix w' h hsr hds hi).mono fun e w2 ⟨a, b, c⟩ => ⟨a, b, c.mono fun k e => by rw [e]; exact hB⟩)
  have HB1 := Lib.hid hb1
  have HK0 := Lib.hid k0
  have HB0 := Lib.hid hb0
  have HW := Lib.hid hW
  have HX := Lib.hid hX
  obtain ⟨d0, d1, d2, d3, d4, d5⟩ := st_blk k0
  clear h hs hsr hds ho hi hX hW hb0 k0 hO2 hb1 ht' her
  go_enter Try.func12, Try.ntmps12
  go_wp2_with fail
  rw [HW.out, HX.out]
  go_wp2_with fail
  clear d0 d1 d2 d3 d4 d5
  have hre : ∀ w : World, (But O2) w w := (fun w => But.refl _ w)
  have hrd : ∀ (ops9 : Array Oper) (f9 : Nat → Bool) (e9 : Nat → Value) (w9 : World) (i9 : Nat) (v9 : Value) (e8 : Nat → Value), [9, 19].contains i9 = false → (fun (f : Nat → Bool) (_ : Nat → Value) (w : World) => StIs O2 X #[.int .i64 2, .string src, .string dst, .bool allow, .int .u64 (old : Int), .int .u64 (ix : Int)] 9 19 Bp Bt Bd t t' f w) f9 e9 w9 → Go.Rel.Put ops9 i9 e9 v9 e8 → (fun (f : Nat → Bool) (_ : Nat → Value) (w : World) => StIs O2 X #[.int .i64 2, .string src, .string dst, .bool allow, .int .u64 (old : Int), .int .u64 (ix : Int)] 9 19 Bp Bt Bd t t' f w) (Go.Rel.upd f9 i9) e8 w9 := (fun _ _ _ _ _ _ _ hj h _ => StIs.keep hj h)
  refine Go.Rel.wp_tabe (by kernel_rfl) (by kernel_rfl) (fun (f : Nat → Bool) (_ : Nat → Value) (w : World) => StIs O2 X #[.int .i64 2, .string src, .string dst, .bool allow, .int .u64 (old : Int), .int .u64 (ix : Int)] 9 19 Bp Bt Bd t t' f w) (But O2) hre ((fun _ _ _ h k => h.trans k)) ((But.refl _ _).drew) (fun _ => StIs.start HB1.out HK0.out HOx.out) (is2 Bp Bd X src dst allow old ix er) (fun _ _ _ => True) (fun i => ([] : List Nat).contains i) (fun i => ([2, 4, 6, 8, 9, 12, 14, 16, 18, 19, 20] : List Nat).contains i) (by kernel_rfl) (fun _ _ _ _ h _ => h) [9, 19] (by decide) (hrd _) ?_ (Go.Rel.AllOf.get ?_) ?_
  · repeat (refine .cons (by first | exact Go.Rel.pure_sp rfl | exact Go.Rel.pure_yes (by kernel_rfl) (fun _ => by kernel_rfl) | exact Go.Rel.pure_no (by kernel_rfl) rfl) ?_)
    exact .nil
  · refine ⟨?_, ?_, ?_, ?_, ?_, ?_, ?_, ?_, ?_, ?_, ?_, trivial⟩
    · exact SpecE.ld (hrd _) hre (q := .pointer (some ⟨X, 1, none⟩)) (h := fun _ w' _ hI _ _ _ _ => by obtain ⟨x0, x1, x2, x3, x4, x5⟩ := st_blk hI.blk; go_simp; rfl)
    · exact SpecE.ld (hrd _) hre (q := .pointer (some ⟨X, 2, none⟩)) (h := fun _ w' _ hI _ _ _ _ => by obtain ⟨x0, x1, x2, x3, x4, x5⟩ := st_blk hI.blk; go_simp; rfl)
    · exact SpecE.ld (hrd _) hre (q := .pointer (some ⟨X, 4, none⟩)) (h := fun _ w' _ hI _ _ _ _ => by obtain ⟨x0, x1, x2, x3, x4, x5⟩ := st_blk hI.blk; go_simp; rfl)
    · exact SpecE.ld (hrd _) hre (q := .pointer (some ⟨X, 5, none⟩)) (h := fun _ w' _ hI _ _ _ _ => by obtain ⟨x0, x1, x2, x3, x4, x5⟩ := st_blk hI.blk; go_simp; rfl)
    · refine SpecE.gen (fun e => [(66, .pointer (some ⟨Bp, 0, none⟩)), (68, .string src), (70, .string dst), (72, .int .u64 (old : Int)), (74, .int .u64 (ix : Int))]) rfl rfl (fun _ => by kernel_rfl) fun f w' e hI hf hdesc hanc hle hX K hK => ?_
      go_simp
      refine (HCp.out f w' hI hf).mono ?_
      rintro e9 w9 ⟨rfl, h9, hb9⟩
      exact hK _ _ hb9 (fun _ _ => h9) rfl
    · exact SpecE.ld (hrd _) hre (q := .pointer (some ⟨X, 1, none⟩)) (h := fun _ w' _ hI _ _ _ _ => by obtain ⟨x0, x1, x2, x3, x4, x5⟩ := st_blk hI.blk; go_simp; rfl)
    · exact SpecE.ld (hrd _) hre (q := .pointer (some ⟨X, 2, none⟩)) (h := fun _ w' _ hI _ _ _ _ => by obtain ⟨x0, x1, x2, x3, x4, x5⟩ := st_blk hI.blk; go_simp; rfl)
    · exact SpecE.ld (hrd _) hre (q := .pointer (some ⟨X, 4, none⟩)) (h := fun _ w' _ hI _ _ _ _ => by obtain ⟨x0, x1, x2, x3, x4, x5⟩ := st_blk hI.blk; go_simp; rfl)
    · exact SpecE.ld (hrd _) hre (q := .pointer (some ⟨X, 5, none⟩)) (h := fun _ w' _ hI _ _ _ _ => by obtain ⟨x0, x1, x2, x3, x4, x5⟩ := st_blk hI.blk; go_simp; rfl)
    · refine SpecE.gen (fun e => [(76, .pointer (some ⟨Bd, 0, none⟩)), (78, .string src), (80, .string dst), (82, .int .u64 (old : Int)), (84, .int .u64 (ix : Int))]) rfl rfl (fun _ => by kernel_rfl) fun f w' e hI hf hdesc hanc hle hX K hK => ?_
      go_simp
      refine (HCd.out f w' hI hf).mono ?_
      rintro e9 w9 ⟨rfl, h9, hb9⟩
      exact hK _ _ hb9 (fun _ _ => h9) rfl
    · refine SpecE.gen (fun e => [(75, .int .i64 (er : Int)), (85, .int .i64 (er : Int))]) rfl rfl (fun _ => by kernel_rfl) fun f w' e hI hf hdesc hanc hle hX K hK => ?_
      have heq : ((er : Int) == (er : Int)) = true := beq_self_eq_true _
      go_simp
      exact hK _ _ (hre _) (fun e' hp => hrd _ f e w' 20 _ e' rfl hI hp) rfl
  · intro f w2 e hall hJ hle hv
    have hb2 := hJ.both
    rw [hall 9 (by decide), hall 19 (by decide)] at hb2
    have HB2 := Lib.hid (hb2.wide HOO.out)
    have HL := Lib.hid ((But.of_below HB0.out).trans (hle.mono HOO.out))
    have v9 := hv 21 rfl
    simp only [Go.Rel.finL, List.setIfInBounds_toArray, List.set_cons_succ, List.set_cons_zero]
    rw [show e 21 = .bool true from v9]
    clear hv hall hJ hle hb2 v9
    go_wp2
    go_ret
    exact ⟨rfl, HB2.out, HL.out⟩
end Go.Proofs.Ytmegfkclpjddgaa
