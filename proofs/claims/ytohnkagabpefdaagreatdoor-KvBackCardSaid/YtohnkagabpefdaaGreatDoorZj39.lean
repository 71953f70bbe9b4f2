/-
  A step of the law (layer 16): Set, Cas, Del, DelCas, Lock, Unlock of both stores.
-/
import Derived.Test.YtohnkagabpefdaaGreatDoorZj38
import Derived.Test.YtohnkagabpefdaaGreatDoorZj24
namespace Go.Proofs.YtohnkagabpefdaaGreatDoor
open Go.RowKit Go.Rel
set_option linter.unusedSimpArgs false
set_option linter.unusedVariables false

def ks0 (Bp : Nat) (Bd : Nat) (X : Nat) (key : ByteArray) (val : ByteArray) (old : Nat) (ses : Nat) (ix : Nat) (er : Nat) : Nat → Value
  | 0 => .pointer (some ⟨Bp, 0, none⟩)
  | 1 | 9 => .pointer (some ⟨X, 1, none⟩)
  | 2 | 10 => .string key
  | 3 | 11 => .pointer (some ⟨X, 2, none⟩)
  | 4 | 12 => .string val
  | 5 | 13 => .pointer (some ⟨X, 5, none⟩)
  | 6 | 14 => .int .u64 (ix : Int)
  | 7 | 15 => .int .i64 (er : Int)
  | 8 => .pointer (some ⟨Bd, 0, none⟩)
  | 16 | 17 => .bool true
  | _ => undef
set_option maxHeartbeats 4000000 in
set_option maxRecDepth 100000 in
theorem step_set {O : Nat → Prop} {Bp Bt Bd : Nat} {t : Tb Kp} (s : KSt) (w : World) (h : Both O w Bp Bt t Bd t) (hs : s.Ok) (hk : s.kind = 0) :
    Calls Tryz.prog 9 #[.pointer (some ⟨Bp, 0, none⟩), .pointer (some ⟨Bd, 0, none⟩), stV s] w (StepPost O w Bp Bt Bd (kSet t s.key s.val s.ix).2) := by
  obtain ⟨kind, key, val, old, ses, ix⟩ := s
  simp only at hk
  subst hk
  unfold stV
  simp only
  have hky : key.size ≤ maxLen := hs.key
  have hv : val.size ≤ maxLen := hs.val
  have hi : ix < 18446744073709551616 := hs.ix
  have hse : ses < 18446744073709551616 := hs.ses
  obtain ⟨X, hX⟩ : ∃ X, w.heap.size = X := ⟨_, rfl⟩
  obtain ⟨W1, hW⟩ : ∃ W1, w.alloc (.cells #[.int .i64 0, .string key, .string val, .int .u64 (old : Int), .int .u64 (ses : Int), .int .u64 (ix : Int)] TS) = W1 := ⟨_, rfl⟩
  have hb0 : Below w.heap.size w W1 := by rw [← hW]; exact below1 _ _ _
  have k0 : W1.heap[X]? = some (.cells #[.int .i64 0, .string key, .string val, .int .u64 (old : Int), .int .u64 (ses : Int), .int .u64 (ix : Int)] TS (0, 0)) := by rw [← hW, ← hX]; exact heap_alloc_new w _
  obtain ⟨O2, hO2⟩ : ∃ O2 : Nat → Prop, O2 = fun k => O k ∧ k ≠ X := ⟨_, rfl⟩
  have hb1 : Both O2 W1 Bp Bt t Bd t := by rw [hO2]; exact h.box hb0 (X := X) (by omega) (block_lt k0)
  have HOx : Hid (¬ O2 X) := Lib.hid (by rw [hO2]; exact fun z => z.2 rfl)
  have HOO : Hid (∀ k, O2 k → O k) := Lib.hid (by rw [hO2]; exact fun k z => z.1)
  have HMx := Lib.hid h.mx.2
  obtain ⟨t', ht'⟩ : ∃ t', (kSet t key val ix).2 = t' := ⟨_, rfl⟩
  obtain ⟨er, her⟩ : ∃ er, (kSet t key val ix).1 = er := ⟨_, rfl⟩
  rw [show (kSet t key val ix).2 = t' from ht']
  have HCp : Hid (∀ (f : Nat → Bool) (w' : World), StIs O2 X #[.int .i64 0, .string key, .string val, .int .u64 (old : Int), .int .u64 (ses : Int), .int .u64 (ix : Int)] 7 15 Bp Bt Bd t t' f w' → f 7 = false → Calls Tryz.prog 21 #[.pointer (some ⟨Bp, 0, none⟩), .string key, .string val, .int .u64 (ix : Int)] w' fun e w2 => e = .returned (.int .i64 (er : Int)) ∧ StIs O2 X #[.int .i64 0, .string key, .string val, .int .u64 (old : Int), .int .u64 (ses : Int), .int .u64 (ix : Int)] 7 15 Bp Bt Bd t t' (Go.Rel.upd f 7) w2 ∧ But O2 w' w2) := Lib.hid fun f w' hI hf =>
    hI.left (by decide) hf fun S h hm => by rw [← ht', ← her]; exact kset_any key val ix h hm hi hky hv
  have HCd : Hid (∀ (f : Nat → Bool) (w' : World), StIs O2 X #[.int .i64 0, .string key, .string val, .int .u64 (old : Int), .int .u64 (ses : Int), .int .u64 (ix : Int)] 7 15 Bp Bt Bd t t' f w' → f 15 = false → Calls Tryz.prog 22 #[.pointer (some ⟨Bd, 0, none⟩), .string key, .string val, .int .u64 (ix : Int)] w' fun e w2 => e = .returned (.int .i64 (er : Int)) ∧ StIs O2 X #[.int .i64 0, .string key, .string val, .int .u64 (old : Int), .int .u64 (ses : Int), .int .u64 (ix : Int)] 7 15 Bp Bt Bd t t' (Go.Rel.upd f 15) w2 ∧ But O2 w' w2) := Lib.hid fun f w' hI hf =>
    hI.right (by decide) hf fun S h => by rw [← ht', ← her]; exact krset_any key val ix w' h hi hky hv
  have HB1 := Lib.hid hb1
  have HK0 := Lib.hid k0
  have HB0 := Lib.hid hb0
  have HW := Lib.hid hW
  have HX := Lib.hid hX
  obtain ⟨d0, d1, d2, d3, d4, d5⟩ := Kt.blk k0
  clear h hs hky hv hi hse hX hW hb0 k0 hO2 hb1 ht' her
  go_enter Tryz.func9, Tryz.ntmps9
  go_wp2_with fail
  rw [HW.out, HX.out]
  go_wp2_with fail
  clear d0 d1 d2 d3 d4 d5
  have hre : ∀ w : World, (But O2) w w := (fun w => But.refl _ w)
  have hrd : ∀ (ops9 : Array Oper) (f9 : Nat → Bool) (e9 : Nat → Value) (w9 : World) (i9 : Nat) (v9 : Value) (e8 : Nat → Value), [7, 15].contains i9 = false → (fun (f : Nat → Bool) (_ : Nat → Value) (w : World) => StIs O2 X #[.int .i64 0, .string key, .string val, .int .u64 (old : Int), .int .u64 (ses : Int), .int .u64 (ix : Int)] 7 15 Bp Bt Bd t t' f w) f9 e9 w9 → Go.Rel.Put ops9 i9 e9 v9 e8 → (fun (f : Nat → Bool) (_ : Nat → Value) (w : World) => StIs O2 X #[.int .i64 0, .string key, .string val, .int .u64 (old : Int), .int .u64 (ses : Int), .int .u64 (ix : Int)] 7 15 Bp Bt Bd t t' f w) (Go.Rel.upd f9 i9) e8 w9 := (fun _ _ _ _ _ _ _ hj h _ => StIs.keep hj h)
  refine Go.Rel.wp_tabe (by kernel_rfl) (by kernel_rfl) (fun (f : Nat → Bool) (_ : Nat → Value) (w : World) => StIs O2 X #[.int .i64 0, .string key, .string val, .int .u64 (old : Int), .int .u64 (ses : Int), .int .u64 (ix : Int)] 7 15 Bp Bt Bd t t' f w) (But O2) hre ((fun _ _ _ h k => h.trans k)) ((But.refl _ _).drew) (fun _ => StIs.start HB1.out HK0.out HOx.out) (ks0 Bp Bd X key val old ses ix er) (fun _ _ _ => True) (fun i => ([] : List Nat).contains i) (fun i => ([2, 4, 6, 7, 10, 12, 14, 15, 16] : List Nat).contains i) (by kernel_rfl) (fun _ _ _ _ h _ => h) [7, 15] (by decide) (hrd _) ?_ (Go.Rel.AllOf.get ?_) ?_
  · repeat (refine .cons (by first | exact Go.Rel.pure_sp rfl | exact Go.Rel.pure_yes (by kernel_rfl) (fun _ => by kernel_rfl) | exact Go.Rel.pure_no (by kernel_rfl) rfl) ?_)
    exact .nil
  · refine ⟨?_, ?_, ?_, ?_, ?_, ?_, ?_, ?_, ?_, trivial⟩
    · exact SpecE.ld (hrd _) hre (q := .pointer (some ⟨X, 1, none⟩)) (h := fun _ w' _ hI _ _ _ _ => by obtain ⟨x0, x1, x2, x3, x4, x5⟩ := Kt.blk hI.blk; go_simp; rfl)
    · exact SpecE.ld (hrd _) hre (q := .pointer (some ⟨X, 2, none⟩)) (h := fun _ w' _ hI _ _ _ _ => by obtain ⟨x0, x1, x2, x3, x4, x5⟩ := Kt.blk hI.blk; go_simp; rfl)
    · exact SpecE.ld (hrd _) hre (q := .pointer (some ⟨X, 5, none⟩)) (h := fun _ w' _ hI _ _ _ _ => by obtain ⟨x0, x1, x2, x3, x4, x5⟩ := Kt.blk hI.blk; go_simp; rfl)
    · refine SpecE.gen (fun e => [(12, .pointer (some ⟨Bp, 0, none⟩)), (14, .string key), (16, .string val), (18, .int .u64 (ix : Int))]) rfl rfl (fun _ => by kernel_rfl) fun f w' e hI hf hdesc hanc hle hX K hK => ?_
      go_simp
      refine (HCp.out f w' hI hf).mono ?_
      rintro e9 w9 ⟨rfl, h9, hb9⟩
      exact hK _ _ hb9 (fun _ _ => h9) rfl
    · exact SpecE.ld (hrd _) hre (q := .pointer (some ⟨X, 1, none⟩)) (h := fun _ w' _ hI _ _ _ _ => by obtain ⟨x0, x1, x2, x3, x4, x5⟩ := Kt.blk hI.blk; go_simp; rfl)
    · exact SpecE.ld (hrd _) hre (q := .pointer (some ⟨X, 2, none⟩)) (h := fun _ w' _ hI _ _ _ _ => by obtain ⟨x0, x1, x2, x3, x4, x5⟩ := Kt.blk hI.blk; go_simp; rfl)
    · exact SpecE.ld (hrd _) hre (q := .pointer (some ⟨X, 5, none⟩)) (h := fun _ w' _ hI _ _ _ _ => by obtain ⟨x0, x1, x2, x3, x4, x5⟩ := Kt.blk hI.blk; go_simp; rfl)
    · refine SpecE.gen (fun e => [(20, .pointer (some ⟨Bd, 0, none⟩)), (22, .string key), (24, .string val), (26, .int .u64 (ix : Int))]) rfl rfl (fun _ => by kernel_rfl) fun f w' e hI hf hdesc hanc hle hX K hK => ?_
      go_simp
      refine (HCd.out f w' hI hf).mono ?_
      rintro e9 w9 ⟨rfl, h9, hb9⟩
      exact hK _ _ hb9 (fun _ _ => h9) rfl
    · refine SpecE.gen (fun e => [(19, .int .i64 (er : Int)), (27, .int .i64 (er : Int))]) rfl rfl (fun _ => by kernel_rfl) fun f w' e hI hf hdesc hanc hle hX K hK => ?_
      have heq : ((er : Int) == (er : Int)) = true := beq_self_eq_true _
      go_simp
      exact hK _ _ (hre _) (fun e' hp => hrd _ f e w' 16 _ e' rfl hI hp) rfl
  · intro f w2 e hall hJ hle hv
    have hb2 := hJ.both
    rw [hall 7 (by decide), hall 15 (by decide)] at hb2
    have HB2 := Lib.hid (hb2.wide HOO.out HMx.out)
    have HL := Lib.hid ((But.of_below HB0.out).trans (hle.mono HOO.out))
    have v9 := hv 17 rfl
    simp only [Go.Rel.finL, List.setIfInBounds_toArray, List.set_cons_succ, List.set_cons_zero]
    rw [show e 17 = .bool true from v9]
    clear hv hall hJ hle hb2 v9
    go_wp2
    go_ret
    exact ⟨rfl, HB2.out, HL.out⟩
def ks1 (Bp : Nat) (Bd : Nat) (X : Nat) (key : ByteArray) (val : ByteArray) (old : Nat) (ses : Nat) (ix : Nat) (er : Nat) : Nat → Value
  | 0 => .pointer (some ⟨Bp, 0, none⟩)
  | 1 | 11 => .pointer (some ⟨X, 1, none⟩)
  | 2 | 12 => .string key
  | 3 | 13 => .pointer (some ⟨X, 2, none⟩)
  | 4 | 14 => .string val
  | 5 | 15 => .pointer (some ⟨X, 3, none⟩)
  | 6 | 16 => .int .u64 (old : Int)
  | 7 | 17 => .pointer (some ⟨X, 5, none⟩)
  | 8 | 18 => .int .u64 (ix : Int)
  | 9 | 19 => .int .i64 (er : Int)
  | 10 => .pointer (some ⟨Bd, 0, none⟩)
  | 20 | 21 => .bool true
  | _ => undef
set_option maxHeartbeats 4000000 in
set_option maxRecDepth 100000 in
theorem step_cas {O : Nat → Prop} {Bp Bt Bd : Nat} {t : Tb Kp} (s : KSt) (w : World) (h : Both O w Bp Bt t Bd t) (hs : s.Ok) (hk : s.kind = 1) :
    Calls Tryz.prog 9 #[.pointer (some ⟨Bp, 0, none⟩), .pointer (some ⟨Bd, 0, none⟩), stV s] w (StepPost O w Bp Bt Bd (kCas t s.key s.val s.old s.ix).2) := by
  obtain ⟨kind, key, val, old, ses, ix⟩ := s
  simp only at hk
  subst hk
  unfold stV
  simp only
  have hky : key.size ≤ maxLen := hs.key
  have hv : val.size ≤ maxLen := hs.val
  have hi : ix < 18446744073709551616 := hs.ix
  have hse : ses < 18446744073709551616 := hs.ses
  obtain ⟨X, hX⟩ : ∃ X, w.heap.size = X := ⟨_, rfl⟩
  obtain ⟨W1, hW⟩ : ∃ W1, w.alloc (.cells #[.int .i64 1, .string key, .string val, .int .u64 (old : Int), .int .u64 (ses : Int), .int .u64 (ix : Int)] TS) = W1 := ⟨_, rfl⟩
  have hb0 : Below w.heap.size w W1 := by rw [← hW]; exact below1 _ _ _
  have k0 : W1.heap[X]? = some (.cells #[.int .i64 1, .string key, .string val, .int .u64 (old : Int), .int .u64 (ses : Int), .int .u64 (ix : Int)] TS (0, 0)) := by rw [← hW, ← hX]; exact heap_alloc_new w _
  obtain ⟨O2, hO2⟩ : ∃ O2 : Nat → Prop, O2 = fun k => O k ∧ k ≠ X := ⟨_, rfl⟩
  have hb1 : Both O2 W1 Bp Bt t Bd t := by rw [hO2]; exact h.box hb0 (X := X) (by omega) (block_lt k0)
  have HOx : Hid (¬ O2 X) := Lib.hid (by rw [hO2]; exact fun z => z.2 rfl)
  have HOO : Hid (∀ k, O2 k → O k) := Lib.hid (by rw [hO2]; exact fun k z => z.1)
  have HMx := Lib.hid h.mx.2
  obtain ⟨t', ht'⟩ : ∃ t', (kCas t key val old ix).2 = t' := ⟨_, rfl⟩
  obtain ⟨er, her⟩ : ∃ er, (kCas t key val old ix).1 = er := ⟨_, rfl⟩
  rw [show (kCas t key val old ix).2 = t' from ht']
  have HCp : Hid (∀ (f : Nat → Bool) (w' : World), StIs O2 X #[.int .i64 1, .string key, .string val, .int .u64 (old : Int), .int .u64 (ses : Int), .int .u64 (ix : Int)] 9 19 Bp Bt Bd t t' f w' → f 9 = false → Calls Tryz.prog 16 #[.pointer (some ⟨Bp, 0, none⟩), .string key, .string val, .int .u64 (old : Int), .int .u64 (ix : Int)] w' fun e w2 => e = .returned (.int .i64 (er : Int)) ∧ StIs O2 X #[.int .i64 1, .string key, .string val, .int .u64 (old : Int), .int .u64 (ses : Int), .int .u64 (ix : Int)] 9 19 Bp Bt Bd t t' (Go.Rel.upd f 9) w2 ∧ But O2 w' w2) := Lib.hid fun f w' hI hf =>
    hI.left (by decide) hf fun S h hm => by rw [← ht', ← her]; exact kcas_any key val old ix h hm hi hky hv
  have HCd : Hid (∀ (f : Nat → Bool) (w' : World), StIs O2 X #[.int .i64 1, .string key, .string val, .int .u64 (old : Int), .int .u64 (ses : Int), .int .u64 (ix : Int)] 9 19 Bp Bt Bd t t' f w' → f 19 = false → Calls Tryz.prog 23 #[.pointer (some ⟨Bd, 0, none⟩), .string key, .string val, .int .u64 (old : Int), .int .u64 (ix : Int)] w' fun e w2 => e = .returned (.int .i64 (er : Int)) ∧ StIs O2 X #[.int .i64 1, .string key, .string val, .int .u64 (old : Int), .int .u64 (ses : Int), .int .u64 (ix : Int)] 9 19 Bp Bt Bd t t' (Go.Rel.upd f 19) w2 ∧ But O2 w' w2) := Lib.hid fun f w' hI hf =>
    hI.right (by decide) hf fun S h => by rw [← ht', ← her]; exact krcas_any key val old ix w' h hi hky hv
  have HB1 := Lib.hid hb1
  have HK0 := Lib.hid k0
  have HB0 := Lib.hid hb0
  have HW := Lib.hid hW
  have HX := Lib.hid hX
  obtain ⟨d0, d1, d2, d3, d4, d5⟩ := Kt.blk k0
  clear h hs hky hv hi hse hX hW hb0 k0 hO2 hb1 ht' her
  go_enter Tryz.func9, Tryz.ntmps9
  go_wp2_with fail
  rw [HW.out, HX.out]
  go_wp2_with fail
  clear d0 d1 d2 d3 d4 d5
  have hre : ∀ w : World, (But O2) w w := (fun w => But.refl _ w)
  have hrd : ∀ (ops9 : Array Oper) (f9 : Nat → Bool) (e9 : Nat → Value) (w9 : World) (i9 : Nat) (v9 : Value) (e8 : Nat → Value), [9, 19].contains i9 = false → (fun (f : Nat → Bool) (_ : Nat → Value) (w : World) => StIs O2 X #[.int .i64 1, .string key, .string val, .int .u64 (old : Int), .int .u64 (ses : Int), .int .u64 (ix : Int)] 9 19 Bp Bt Bd t t' f w) f9 e9 w9 → Go.Rel.Put ops9 i9 e9 v9 e8 → (fun (f : Nat → Bool) (_ : Nat → Value) (w : World) => StIs O2 X #[.int .i64 1, .string key, .string val, .int .u64 (old : Int), .int .u64 (ses : Int), .int .u64 (ix : Int)] 9 19 Bp Bt Bd t t' f w) (Go.Rel.upd f9 i9) e8 w9 := (fun _ _ _ _ _ _ _ hj h _ => StIs.keep hj h)
  refine Go.Rel.wp_tabe (by kernel_rfl) (by kernel_rfl) (fun (f : Nat → Bool) (_ : Nat → Value) (w : World) => StIs O2 X #[.int .i64 1, .string key, .string val, .int .u64 (old : Int), .int .u64 (ses : Int), .int .u64 (ix : Int)] 9 19 Bp Bt Bd t t' f w) (But O2) hre ((fun _ _ _ h k => h.trans k)) ((But.refl _ _).drew) (fun _ => StIs.start HB1.out HK0.out HOx.out) (ks1 Bp Bd X key val old ses ix er) (fun _ _ _ => True) (fun i => ([] : List Nat).contains i) (fun i => ([2, 4, 6, 8, 9, 12, 14, 16, 18, 19, 20] : List Nat).contains i) (by kernel_rfl) (fun _ _ _ _ h _ => h) [9, 19] (by decide) (hrd _) ?_ (Go.Rel.AllOf.get ?_) ?_
  · repeat (refine .cons (by first | exact Go.Rel.pure_sp rfl | exact Go.Rel.pure_yes (by kernel_rfl) (fun _ => by kernel_rfl) | exact Go.Rel.pure_no (by kernel_rfl) rfl) ?_)
    exact .nil
  · refine ⟨?_, ?_, ?_, ?_, ?_, ?_, ?_, ?_, ?_, ?_, ?_, trivial⟩
    · exact SpecE.ld (hrd _) hre (q := .pointer (some ⟨X, 1, none⟩)) (h := fun _ w' _ hI _ _ _ _ => by obtain ⟨x0, x1, x2, x3, x4, x5⟩ := Kt.blk hI.blk; go_simp; rfl)
    · exact SpecE.ld (hrd _) hre (q := .pointer (some ⟨X, 2, none⟩)) (h := fun _ w' _ hI _ _ _ _ => by obtain ⟨x0, x1, x2, x3, x4, x5⟩ := Kt.blk hI.blk; go_simp; rfl)
    · exact SpecE.ld (hrd _) hre (q := .pointer (some ⟨X, 3, none⟩)) (h := fun _ w' _ hI _ _ _ _ => by obtain ⟨x0, x1, x2, x3, x4, x5⟩ := Kt.blk hI.blk; go_simp; rfl)
    · exact SpecE.ld (hrd _) hre (q := .pointer (some ⟨X, 5, none⟩)) (h := fun _ w' _ hI _ _ _ _ => by obtain ⟨x0, x1, x2, x3, x4, x5⟩ := Kt.blk hI.blk; go_simp; rfl)
    · refine SpecE.gen (fun e => [(31, .pointer (some ⟨Bp, 0, none⟩)), (33, .string key), (35, .string val), (37, .int .u64 (old : Int)), (39, .int .u64 (ix : Int))]) rfl rfl (fun _ => by kernel_rfl) fun f w' e hI hf hdesc hanc hle hX K hK => ?_
      go_simp
      refine (HCp.out f w' hI hf).mono ?_
      rintro e9 w9 ⟨rfl, h9, hb9⟩
      exact hK _ _ hb9 (fun _ _ => h9) rfl
    · exact SpecE.ld (hrd _) hre (q := .pointer (some ⟨X, 1, none⟩)) (h := fun _ w' _ hI _ _ _ _ => by obtain ⟨x0, x1, x2, x3, x4, x5⟩ := Kt.blk hI.blk; go_simp; rfl)
    · exact SpecE.ld (hrd _) hre (q := .pointer (some ⟨X, 2, none⟩)) (h := fun _ w' _ hI _ _ _ _ => by obtain ⟨x0, x1, x2, x3, x4, x5⟩ := Kt.blk hI.blk; go_simp; rfl)
    · exact SpecE.ld (hrd _) hre (q := .pointer (some ⟨X, 3, none⟩)) (h := fun _ w' _ hI _ _ _ _ => by obtain ⟨x0, x1, x2, x3, x4, x5⟩ := Kt.blk hI.blk; go_simp; rfl)
    · exact SpecE.ld (hrd _) hre (q := .pointer (some ⟨X, 5, none⟩)) (h := fun _ w' _ hI _ _ _ _ => by obtain ⟨x0, x1, x2, x3, x4, x5⟩ := Kt.blk hI.blk; go_simp; rfl)
    · refine SpecE.gen (fun e => [(41, .pointer (some ⟨Bd, 0, none⟩)), (43, .string key), (45, .string val), (47, .int .u64 (old : Int)), (49, .int .u64 (ix : Int))]) rfl rfl (fun _ => by kernel_rfl) fun f w' e hI hf hdesc hanc hle hX K hK => ?_
      go_simp
      refine (HCd.out f w' hI hf).mono ?_
      rintro e9 w9 ⟨rfl, h9, hb9⟩
      exact hK _ _ hb9 (fun _ _ => h9) rfl
    · refine SpecE.gen (fun e => [(40, .int .i64 (er : Int)), (50, .int .i64 (er : Int))]) rfl rfl (fun _ => by kernel_rfl) fun f w' e hI hf hdesc hanc hle hX K hK => ?_
      have heq : ((er : Int) == (er : Int)) = true := beq_self_eq_true _
      go_simp
      exact hK _ _ (hre _) (fun e' hp => hrd _ f e w' 20 _ e' rfl hI hp) rfl
  · intro f w2 e hall hJ hle hv
    have hb2 := hJ.both
    rw [hall 9 (by decide), hall 19 (by decide)] at hb2
    have HB2 := Lib.hid (hb2.wide HOO.out HMx.out)
    have HL := Lib.hid ((But.of_below HB0.out).trans (hle.mono HOO.out))
    have v9 := hv 21 rfl
    simp only [Go.Rel.finL, List.setIfInBounds_toArray, List.set_cons_succ, List.set_cons_zero]
    rw [show e 21 = .bool true from v9]
    clear hv hall hJ hle hb2 v9
    go_wp2
    go_ret
    exact ⟨rfl, HB2.out, HL.out⟩
def ks2 (Bp : Nat) (Bd : Nat) (X : Nat) (key : ByteArray) (val : ByteArray) (old : Nat) (ses : Nat) (ix : Nat) (er : Nat) : Nat → Value
  | 0 => .pointer (some ⟨Bp, 0, none⟩)
  | 1 | 7 => .pointer (some ⟨X, 1, none⟩)
  | 2 | 8 => .string key
  | 3 | 9 => .pointer (some ⟨X, 5, none⟩)
  | 4 | 10 => .int .u64 (ix : Int)
  | 5 | 11 => .int .i64 (er : Int)
  | 6 => .pointer (some ⟨Bd, 0, none⟩)
  | 12 | 13 => .bool true
  | _ => undef
set_option maxHeartbeats 4000000 in
set_option maxRecDepth 100000 in
theorem step_del {O : Nat → Prop} {Bp Bt Bd : Nat} {t : Tb Kp} (s : KSt) (w : World) (h : Both O w Bp Bt t Bd t) (hs : s.Ok) (hk : s.kind = 2) :
    Calls Tryz.prog 9 #[.pointer (some ⟨Bp, 0, none⟩), .pointer (some ⟨Bd, 0, none⟩), stV s] w (StepPost O w Bp Bt Bd (kDel t s.key s.ix).2) := by
  obtain ⟨kind, key, val, old, ses, ix⟩ := s
  simp only at hk
  subst hk
  unfold stV
  simp only
  have hky : key.size ≤ maxLen := hs.key
  have hv : val.size ≤ maxLen := hs.val
  have hi : ix < 18446744073709551616 := hs.ix
  have hse : ses < 18446744073709551616 := hs.ses
  obtain ⟨X, hX⟩ : ∃ X, w.heap.size = X := ⟨_, rfl⟩
  obtain ⟨W1, hW⟩ : ∃ W1, w.alloc (.cells #[.int .i64 2, .string key, .string val, .int .u64 (old : Int), .int .u64 (ses : Int), .int .u64 (ix : Int)] TS) = W1 := ⟨_, rfl⟩
  have hb0 : Below w.heap.size w W1 := by rw [← hW]; exact below1 _ _ _
  have k0 : W1.heap[X]? = some (.cells #[.int .i64 2, .string key, .string val, .int .u64 (old : Int), .int .u64 (ses : Int), .int .u64 (ix : Int)] TS (0, 0)) := by rw [← hW, ← hX]; exact heap_alloc_new w _
  obtain ⟨O2, hO2⟩ : ∃ O2 : Nat → Prop, O2 = fun k => O k ∧ k ≠ X := ⟨_, rfl⟩
  have hb1 : Both O2 W1 Bp Bt t Bd t := by rw [hO2]; exact h.box hb0 (X := X) (by omega) (block_lt k0)
  have HOx : Hid (¬ O2 X) := Lib.hid (by rw [hO2]; exact fun z => z.2 rfl)
  have HOO : Hid (∀ k, O2 k → O k) := Lib.hid (by rw [hO2]; exact fun k z => z.1)
  have HMx := Lib.hid h.mx.2
  obtain ⟨t', ht'⟩ : ∃ t', (kDel t key ix).2 = t' := ⟨_, rfl⟩
  obtain ⟨er, her⟩ : ∃ er, (kDel t key ix).1 = er := ⟨_, rfl⟩
  rw [show (kDel t key ix).2 = t' from ht']
  have HCp : Hid (∀ (f : Nat → Bool) (w' : World), StIs O2 X #[.int .i64 2, .string key, .string val, .int .u64 (old : Int), .int .u64 (ses : Int), .int .u64 (ix : Int)] 5 11 Bp Bt Bd t t' f w' → f 5 = false → Calls Tryz.prog 24 #[.pointer (some ⟨Bp, 0, none⟩), .string key, .int .u64 (ix : Int)] w' fun e w2 => e = .returned (.int .i64 (er : Int)) ∧ StIs O2 X #[.int .i64 2, .string key, .string val, .int .u64 (old : Int), .int .u64 (ses : Int), .int .u64 (ix : Int)] 5 11 Bp Bt Bd t t' (Go.Rel.upd f 5) w2 ∧ But O2 w' w2) := Lib.hid fun f w' hI hf =>
    hI.left (by decide) hf fun S h hm => by rw [← ht', ← her]; exact kdel_any key ix h hm hi hky
  have HCd : Hid (∀ (f : Nat → Bool) (w' : World), StIs O2 X #[.int .i64 2, .string key, .string val, .int .u64 (old : Int), .int .u64 (ses : Int), .int .u64 (ix : Int)] 5 11 Bp Bt Bd t t' f w' → f 11 = false → Calls Tryz.prog 25 #[.pointer (some ⟨Bd, 0, none⟩), .string key, .bool false, .int .u64 0, .int .u64 (ix : Int)] w' fun e w2 => e = .returned (.int .i64 (er : Int)) ∧ StIs O2 X #[.int .i64 2, .string key, .string val, .int .u64 (old : Int), .int .u64 (ses : Int), .int .u64 (ix : Int)] 5 11 Bp Bt Bd t t' (Go.Rel.upd f 11) w2 ∧ But O2 w' w2) := Lib.hid fun f w' hI hf =>
    hI.right (by decide) hf fun S h => by rw [← ht', ← her]; exact krdel_any key false 0 ix w' h hi hky
  have HB1 := Lib.hid hb1
  have HK0 := Lib.hid k0
  have HB0 := Lib.hid hb0
  have HW := Lib.hid hW
  have HX := Lib.hid hX
  obtain ⟨d0, d1, d2, d3, d4, d5⟩ := Kt.blk k0
  clear h hs hky hv hi hse hX hW hb0 k0 hO2 hb1 ht' her
  go_enter Tryz.func9, Tryz.ntmps9
  go_wp2_with fail
  rw [HW.out, HX.out]
  go_wp2_with fail
  clear d0 d1 d2 d3 d4 d5
  have hre : ∀ w : World, (But O2) w w := (fun w => But.refl _ w)
  have hrd : ∀ (ops9 : Array Oper) (f9 : Nat → Bool) (e9 : Nat → Value) (w9 : World) (i9 : Nat) (v9 : Value) (e8 : Nat → Value), [5, 11].contains i9 = false → (fun (f : Nat → Bool) (_ : Nat → Value) (w : World) => StIs O2 X #[.int .i64 2, .string key, .string val, .int .u64 (old : Int), .int .u64 (ses : Int), .int .u64 (ix : Int)] 5 11 Bp Bt Bd t t' f w) f9 e9 w9 → Go.Rel.Put ops9 i9 e9 v9 e8 → (fun (f : Nat → Bool) (_ : Nat → Value) (w : World) => StIs O2 X #[.int .i64 2, .string key, .string val, .int .u64 (old : Int), .int .u64 (ses : Int), .int .u64 (ix : Int)] 5 11 Bp Bt Bd t t' f w) (Go.Rel.upd f9 i9) e8 w9 := (fun _ _ _ _ _ _ _ hj h _ => StIs.keep hj h)
  refine Go.Rel.wp_tabe (by kernel_rfl) (by kernel_rfl) (fun (f : Nat → Bool) (_ : Nat → Value) (w : World) => StIs O2 X #[.int .i64 2, .string key, .string val, .int .u64 (old : Int), .int .u64 (ses : Int), .int .u64 (ix : Int)] 5 11 Bp Bt Bd t t' f w) (But O2) hre ((fun _ _ _ h k => h.trans k)) ((But.refl _ _).drew) (fun _ => StIs.start HB1.out HK0.out HOx.out) (ks2 Bp Bd X key val old ses ix er) (fun _ _ _ => True) (fun i => ([] : List Nat).contains i) (fun i => ([2, 4, 5, 8, 10, 11, 12] : List Nat).contains i) (by kernel_rfl) (fun _ _ _ _ h _ => h) [5, 11] (by decide) (hrd _) ?_ (Go.Rel.AllOf.get ?_) ?_
  · repeat (refine .cons (by first | exact Go.Rel.pure_sp rfl | exact Go.Rel.pure_yes (by kernel_rfl) (fun _ => by kernel_rfl) | exact Go.Rel.pure_no (by kernel_rfl) rfl) ?_)
    exact .nil
  · refine ⟨?_, ?_, ?_, ?_, ?_, ?_, ?_, trivial⟩
    · exact SpecE.ld (hrd _) hre (q := .pointer (some ⟨X, 1, none⟩)) (h := fun _ w' _ hI _ _ _ _ => by obtain ⟨x0, x1, x2, x3, x4, x5⟩ := Kt.blk hI.blk; go_simp; rfl)
    · exact SpecE.ld (hrd _) hre (q := .pointer (some ⟨X, 5, none⟩)) (h := fun _ w' _ hI _ _ _ _ => by obtain ⟨x0, x1, x2, x3, x4, x5⟩ := Kt.blk hI.blk; go_simp; rfl)
    · refine SpecE.gen (fun e => [(54, .pointer (some ⟨Bp, 0, none⟩)), (56, .string key), (58, .int .u64 (ix : Int))]) rfl rfl (fun _ => by kernel_rfl) fun f w' e hI hf hdesc hanc hle hX K hK => ?_
      go_simp
      refine (HCp.out f w' hI hf).mono ?_
      rintro e9 w9 ⟨rfl, h9, hb9⟩
      exact hK _ _ hb9 (fun _ _ => h9) rfl
    · exact SpecE.ld (hrd _) hre (q := .pointer (some ⟨X, 1, none⟩)) (h := fun _ w' _ hI _ _ _ _ => by obtain ⟨x0, x1, x2, x3, x4, x5⟩ := Kt.blk hI.blk; go_simp; rfl)
    · exact SpecE.ld (hrd _) hre (q := .pointer (some ⟨X, 5, none⟩)) (h := fun _ w' _ hI _ _ _ _ => by obtain ⟨x0, x1, x2, x3, x4, x5⟩ := Kt.blk hI.blk; go_simp; rfl)
    · refine SpecE.gen (fun e => [(60, .pointer (some ⟨Bd, 0, none⟩)), (62, .string key), (64, .int .u64 (ix : Int))]) rfl rfl (fun _ => by kernel_rfl) fun f w' e hI hf hdesc hanc hle hX K hK => ?_
      go_simp
      refine (HCd.out f w' hI hf).mono ?_
      rintro e9 w9 ⟨rfl, h9, hb9⟩
      exact hK _ _ hb9 (fun _ _ => h9) rfl
    · refine SpecE.gen (fun e => [(59, .int .i64 (er : Int)), (65, .int .i64 (er : Int))]) rfl rfl (fun _ => by kernel_rfl) fun f w' e hI hf hdesc hanc hle hX K hK => ?_
      have heq : ((er : Int) == (er : Int)) = true := beq_self_eq_true _
      go_simp
      exact hK _ _ (hre _) (fun e' hp => hrd _ f e w' 12 _ e' rfl hI hp) rfl
  · intro f w2 e hall hJ hle hv
    have hb2 := hJ.both
    rw [hall 5 (by decide), hall 11 (by decide)] at hb2
    have HB2 := Lib.hid (hb2.wide HOO.out HMx.out)
    have HL := Lib.hid ((But.of_below HB0.out).trans (hle.mono HOO.out))
    have v9 := hv 13 rfl
    simp only [Go.Rel.finL, List.setIfInBounds_toArray, List.set_cons_succ, List.set_cons_zero]
    rw [show e 13 = .bool true from v9]
    clear hv hall hJ hle hb2 v9
    go_wp2
    go_ret
    exact ⟨rfl, HB2.out, HL.out⟩
def ks3 (Bp : Nat) (Bd : Nat) (X : Nat) (key : ByteArray) (val : ByteArray) (old : Nat) (ses : Nat) (ix : Nat) (er : Nat) : Nat → Value
  | 0 => .pointer (some ⟨Bp, 0, none⟩)
  | 1 | 9 => .pointer (some ⟨X, 1, none⟩)
  | 2 | 10 => .string key
  | 3 | 11 => .pointer (some ⟨X, 3, none⟩)
  | 4 | 12 => .int .u64 (old : Int)
  | 5 | 13 => .pointer (some ⟨X, 5, none⟩)
  | 6 | 14 => .int .u64 (ix : Int)
  | 7 | 15 => .int .i64 (er : Int)
  | 8 => .pointer (some ⟨Bd, 0, none⟩)
  | 16 | 17 => .bool true
  | _ => undef
set_option maxHeartbeats 4000000 in
set_option maxRecDepth 100000 in
theorem step_delCas {O : Nat → Prop} {Bp Bt Bd : Nat} {t : Tb Kp} (s : KSt) (w : World) (h : Both O w Bp Bt t Bd t) (hs : s.Ok) (hk : s.kind = 3) :
    Calls Tryz.prog 9 #[.pointer (some ⟨Bp, 0, none⟩), .pointer (some ⟨Bd, 0, none⟩), stV s] w (StepPost O w Bp Bt Bd (kDelCas t s.key s.old s.ix).2) := by
  obtain ⟨kind, key, val, old, ses, ix⟩ := s
  simp only at hk
  subst hk
  unfold stV
  simp only
  have hky : key.size ≤ maxLen := hs.key
  have hv : val.size ≤ maxLen := hs.val
  have hi : ix < 18446744073709551616 := hs.ix
  have hse : ses < 18446744073709551616 := hs.ses
  obtain ⟨X, hX⟩ : ∃ X, w.heap.size = X := ⟨_, rfl⟩
  obtain ⟨W1, hW⟩ : ∃ W1, w.alloc (.cells #[.int .i64 3, .string key, .string val, .int .u64 (old : Int), .int .u64 (ses : Int), .int .u64 (ix : Int)] TS) = W1 := ⟨_, rfl⟩
  have hb0 : Below w.heap.size w W1 := by rw [← hW]; exact below1 _ _ _
  have k0 : W1.heap[X]? = some (.cells #[.int .i64 3, .string key, .string val, .int .u64 (old : Int), .int .u64 (ses : Int), .int .u64 (ix : Int)] TS (0, 0)) := by rw [← hW, ← hX]; exact heap_alloc_new w _
  obtain ⟨O2, hO2⟩ : ∃ O2 : Nat → Prop, O2 = fun k => O k ∧ k ≠ X := ⟨_, rfl⟩
  have hb1 : Both O2 W1 Bp Bt t Bd t := by rw [hO2]; exact h.box hb0 (X := X) (by omega) (block_lt k0)
  have HOx : Hid (¬ O2 X) := Lib.hid (by rw [hO2]; exact fun z => z.2 rfl)
  have HOO : Hid (∀ k, O2 k → O k) := Lib.hid (by rw [hO2]; exact fun k z => z.1)
  have HMx := Lib.hid h.mx.2
  obtain ⟨t', ht'⟩ : ∃ t', (kDelCas t key old ix).2 = t' := ⟨_, rfl⟩
  obtain ⟨er, her⟩ : ∃ er, (kDelCas t key old ix).1 = er := ⟨_, rfl⟩
  rw [show (kDelCas t key old ix).2 = t' from ht']
  have HCp : Hid (∀ (f : Nat → Bool) (w' : World), StIs O2 X #[.int .i64 3, .string key, .string val, .int .u64 (old : Int), .int .u64 (ses : Int), .int .u64 (ix : Int)] 7 15 Bp Bt Bd t t' f w' → f 7 = false → Calls Tryz.prog 26 #[.pointer (some ⟨Bp, 0, none⟩), .string key, .int .u64 (old : Int), .int .u64 (ix : Int)] w' fun e w2 => e = .returned (.int .i64 (er : Int)) ∧ StIs O2 X #[.int .i64 3, .string key, .string val, .int .u64 (old : Int), .int .u64 (ses : Int), .int .u64 (ix : Int)] 7 15 Bp Bt Bd t t' (Go.Rel.upd f 7) w2 ∧ But O2 w' w2) := Lib.hid fun f w' hI hf =>
    hI.left (by decide) hf fun S h hm => by rw [← ht', ← her]; exact kdelCas_any key old ix h hm hi hky
  have HCd : Hid (∀ (f : Nat → Bool) (w' : World), StIs O2 X #[.int .i64 3, .string key, .string val, .int .u64 (old : Int), .int .u64 (ses : Int), .int .u64 (ix : Int)] 7 15 Bp Bt Bd t t' f w' → f 15 = false → Calls Tryz.prog 25 #[.pointer (some ⟨Bd, 0, none⟩), .string key, .bool true, .int .u64 (old : Int), .int .u64 (ix : Int)] w' fun e w2 => e = .returned (.int .i64 (er : Int)) ∧ StIs O2 X #[.int .i64 3, .string key, .string val, .int .u64 (old : Int), .int .u64 (ses : Int), .int .u64 (ix : Int)] 7 15 Bp Bt Bd t t' (Go.Rel.upd f 15) w2 ∧ But O2 w' w2) := Lib.hid fun f w' hI hf =>
    hI.right (by decide) hf fun S h => by rw [← ht', ← her]; exact krdel_any key true old ix w' h hi hky
  have HB1 := Lib.hid hb1
  have HK0 := Lib.hid k0
  have HB0 := Lib.hid hb0
  have HW := Lib.hid hW
  have HX := Lib.hid hX
  obtain ⟨d0, d1, d2, d3, d4, d5⟩ := Kt.blk k0
  clear h hs hky hv hi hse hX hW hb0 k0 hO2 hb1 ht' her
  go_enter Tryz.func9, Tryz.ntmps9
  go_wp2_with fail
  rw [HW.out, HX.out]
  go_wp2_with fail
  clear d0 d1 d2 d3 d4 d5
  have hre : ∀ w : World, (But O2) w w := (fun w => But.refl _ w)
  have hrd : ∀ (ops9 : Array Oper) (f9 : Nat → Bool) (e9 : Nat → Value) (w9 : World) (i9 : Nat) (v9 : Value) (e8 : Nat → Value), [7, 15].contains i9 = false → (fun (f : Nat → Bool) (_ : Nat → Value) (w : World) => StIs O2 X #[.int .i64 3, .string key, .string val, .int .u64 (old : Int), .int .u64 (ses : Int), .int .u64 (ix : Int)] 7 15 Bp Bt Bd t t' f w) f9 e9 w9 → Go.Rel.Put ops9 i9 e9 v9 e8 → (fun (f : Nat → Bool) (_ : Nat → Value) (w : World) => StIs O2 X #[.int .i64 3, .string key, .string val, .int .u64 (old : Int), .int .u64 (ses : Int), .int .u64 (ix : Int)] 7 15 Bp Bt Bd t t' f w) (Go.Rel.upd f9 i9) e8 w9 := (fun _ _ _ _ _ _ _ hj h _ => StIs.keep hj h)
  refine Go.Rel.wp_tabe (by kernel_rfl) (by kernel_rfl) (fun (f : Nat → Bool) (_ : Nat → Value) (w : World) => StIs O2 X #[.int .i64 3, .string key, .string val, .int .u64 (old : Int), .int .u64 (ses : Int), .int .u64 (ix : Int)] 7 15 Bp Bt Bd t t' f w) (But O2) hre ((fun _ _ _ h k => h.trans k)) ((But.refl _ _).drew) (fun _ => StIs.start HB1.out HK0.out HOx.out) (ks3 Bp Bd X key val old ses ix er) (fun _ _ _ => True) (fun i => ([] : List Nat).contains i) (fun i => ([2, 4, 6, 7, 10, 12, 14, 15, 16] : List Nat).contains i) (by kernel_rfl) (fun _ _ _ _ h _ => h) [7, 15] (by decide) (hrd _) ?_ (Go.Rel.AllOf.get ?_) ?_
  · repeat (refine .cons (by first | exact Go.Rel.pure_sp rfl | exact Go.Rel.pure_yes (by kernel_rfl) (fun _ => by kernel_rfl) | exact Go.Rel.pure_no (by kernel_rfl) rfl) ?_)
    exact .nil
  · refine ⟨?_, ?_, ?_, ?_, ?_, ?_, ?_, ?_, ?_, trivial⟩
    · exact SpecE.ld (hrd _) hre (q := .pointer (some ⟨X, 1, none⟩)) (h := fun _ w' _ hI _ _ _ _ => by obtain ⟨x0, x1, x2, x3, x4, x5⟩ := Kt.blk hI.blk; go_simp; rfl)
    · exact SpecE.ld (hrd _) hre (q := .pointer (some ⟨X, 3, none⟩)) (h := fun _ w' _ hI _ _ _ _ => by obtain ⟨x0, x1, x2, x3, x4, x5⟩ := Kt.blk hI.blk; go_simp; rfl)
    · exact SpecE.ld (hrd _) hre (q := .pointer (some ⟨X, 5, none⟩)) (h := fun _ w' _ hI _ _ _ _ => by obtain ⟨x0, x1, x2, x3, x4, x5⟩ := Kt.blk hI.blk; go_simp; rfl)
    · refine SpecE.gen (fun e => [(69, .pointer (some ⟨Bp, 0, none⟩)), (71, .string key), (73, .int .u64 (old : Int)), (75, .int .u64 (ix : Int))]) rfl rfl (fun _ => by kernel_rfl) fun f w' e hI hf hdesc hanc hle hX K hK => ?_
      go_simp
      refine (HCp.out f w' hI hf).mono ?_
      rintro e9 w9 ⟨rfl, h9, hb9⟩
      exact hK _ _ hb9 (fun _ _ => h9) rfl
    · exact SpecE.ld (hrd _) hre (q := .pointer (some ⟨X, 1, none⟩)) (h := fun _ w' _ hI _ _ _ _ => by obtain ⟨x0, x1, x2, x3, x4, x5⟩ := Kt.blk hI.blk; go_simp; rfl)
    · exact SpecE.ld (hrd _) hre (q := .pointer (some ⟨X, 3, none⟩)) (h := fun _ w' _ hI _ _ _ _ => by obtain ⟨x0, x1, x2, x3, x4, x5⟩ := Kt.blk hI.blk; go_simp; rfl)
    · exact SpecE.ld (hrd _) hre (q := .pointer (some ⟨X, 5, none⟩)) (h := fun _ w' _ hI _ _ _ _ => by obtain ⟨x0, x1, x2, x3, x4, x5⟩ := Kt.blk hI.blk; go_simp; rfl)
    · refine SpecE.gen (fun e => [(77, .pointer (some ⟨Bd, 0, none⟩)), (79, .string key), (81, .int .u64 (old : Int)), (83, .int .u64 (ix : Int))]) rfl rfl (fun _ => by kernel_rfl) fun f w' e hI hf hdesc hanc hle hX K hK => ?_
      go_simp
      refine (HCd.out f w' hI hf).mono ?_
      rintro e9 w9 ⟨rfl, h9, hb9⟩
      exact hK _ _ hb9 (fun _ _ => h9) rfl
    · refine SpecE.gen (fun e => [(76, .int .i64 (er : Int)), (84, .int .i64 (er : Int))]) rfl rfl (fun _ => by kernel_rfl) fun f w' e hI hf hdesc hanc hle hX K hK => ?_
      have heq : ((er : Int) == (er : Int)) = true := beq_self_eq_true _
      go_simp
      exact hK _ _ (hre _) (fun e' hp => hrd _ f e w' 16 _ e' rfl hI hp) rfl
  · intro f w2 e hall hJ hle hv
    have hb2 := hJ.both
    rw [hall 7 (by decide), hall 15 (by decide)] at hb2
    have HB2 := Lib.hid (hb2.wide HOO.out HMx.out)
    have HL := Lib.hid ((But.of_below HB0.out).trans (hle.mono HOO.out))
    have v9 := hv 17 rfl
    simp only [Go.Rel.finL, List.setIfInBounds_toArray, List.set_cons_succ, List.set_cons_zero]
    rw [show e 17 = .bool true from v9]
    clear hv hall hJ hle hb2 v9
    go_wp2
    go_ret
    exact ⟨rfl, HB2.out, HL.out⟩
def ks4 (Bp : Nat) (Bd : Nat) (X : Nat) (key : ByteArray) (val : ByteArray) (old : Nat) (ses : Nat) (ix : Nat) (er : Nat) : Nat → Value
  | 0 => .pointer (some ⟨Bp, 0, none⟩)
  | 1 | 11 => .pointer (some ⟨X, 1, none⟩)
  | 2 | 12 => .string key
  | 3 | 13 => .pointer (some ⟨X, 2, none⟩)
  | 4 | 14 => .string val
  | 5 | 15 => .pointer (some ⟨X, 4, none⟩)
  | 6 | 16 => .int .u64 (ses : Int)
  | 7 | 17 => .pointer (some ⟨X, 5, none⟩)
  | 8 | 18 => .int .u64 (ix : Int)
  | 9 | 19 => .int .i64 (er : Int)
  | 10 => .pointer (some ⟨Bd, 0, none⟩)
  | 20 | 21 => .bool true
  | _ => undef
set_option maxHeartbeats 4000000 in
set_option maxRecDepth 100000 in
theorem step_lock {O : Nat → Prop} {Bp Bt Bd : Nat} {t : Tb Kp} (s : KSt) (w : World) (h : Both O w Bp Bt t Bd t) (hs : s.Ok) (hk : s.kind = 4) :
    Calls Tryz.prog 9 #[.pointer (some ⟨Bp, 0, none⟩), .pointer (some ⟨Bd, 0, none⟩), stV s] w (StepPost O w Bp Bt Bd (kLock t s.key s.val s.ses s.ix).2) := by
  obtain ⟨kind, key, val, old, ses, ix⟩ := s
  simp only at hk
  subst hk
  unfold stV
  simp only
  have hky : key.size ≤ maxLen := hs.key
  have hv : val.size ≤ maxLen := hs.val
  have hi : ix < 18446744073709551616 := hs.ix
  have hse : ses < 18446744073709551616 := hs.ses
  obtain ⟨X, hX⟩ : ∃ X, w.heap.size = X := ⟨_, rfl⟩
  obtain ⟨W1, hW⟩ : ∃ W1, w.alloc (.cells #[.int .i64 4, .string key, .string val, .int .u64 (old : Int), .int .u64 (ses : Int), .int .u64 (ix : Int)] TS) = W1 := ⟨_, rfl⟩
  have hb0 : Below w.heap.size w W1 := by rw [← hW]; exact below1 _ _ _
  have k0 : W1.heap[X]? = some (.cells #[.int .i64 4, .string key, .string val, .int .u64 (old : Int), .int .u64 (ses : Int), .int .u64 (ix : Int)] TS (0, 0)) := by rw [← hW, ← hX]; exact heap_alloc_new w _
  obtain ⟨O2, hO2⟩ : ∃ O2 : Nat → Prop, O2 = fun k => O k ∧ k ≠ X := ⟨_, rfl⟩
  have hb1 : Both O2 W1 Bp Bt t Bd t := by rw [hO2]; exact h.box hb0 (X := X) (by omega) (block_lt k0)
  have HOx : Hid (¬ O2 X) := Lib.hid (by rw [hO2]; exact fun z => z.2 rfl)
  have HOO : Hid (∀ k, O2 k → O k) := Lib.hid (by rw [hO2]; exact fun k z => z.1)
  have HMx := Lib.hid h.mx.2
  obtain ⟨t', ht'⟩ : ∃ t', (kLock t key val ses ix).2 = t' := ⟨_, rfl⟩
  obtain ⟨er, her⟩ : ∃ er, (kLock t key val ses ix).1 = er := ⟨_, rfl⟩
  rw [show (kLock t key val ses ix).2 = t' from ht']
  have HCp : Hid (∀ (f : Nat → Bool) (w' : World), StIs O2 X #[.int .i64 4, .string key, .string val, .int .u64 (old : Int), .int .u64 (ses : Int), .int .u64 (ix : Int)] 9 19 Bp Bt Bd t t' f w' → f 9 = false → Calls Tryz.prog 17 #[.pointer (some ⟨Bp, 0, none⟩), .string key, .string val, .int .u64 (ses : Int), .int .u64 (ix : Int)] w' fun e w2 => e = .returned (.int .i64 (er : Int)) ∧ StIs O2 X #[.int .i64 4, .string key, .string val, .int .u64 (old : Int), .int .u64 (ses : Int), .int .u64 (ix : Int)] 9 19 Bp Bt Bd t t' (Go.Rel.upd f 9) w2 ∧ But O2 w' w2) := Lib.hid fun f w' hI hf =>
    hI.left (by decide) hf fun S h hm => by rw [← ht', ← her]; exact klock_any key val ses ix h hm hi hky hv hse
  have HCd : Hid (∀ (f : Nat → Bool) (w' : World), StIs O2 X #[.int .i64 4, .string key, .string val, .int .u64 (old : Int), .int .u64 (ses : Int), .int .u64 (ix : Int)] 9 19 Bp Bt Bd t t' f w' → f 19 = false → Calls Tryz.prog 18 #[.pointer (some ⟨Bd, 0, none⟩), .string key, .string val, .int .u64 (ses : Int), .int .u64 (ix : Int)] w' fun e w2 => e = .returned (.int .i64 (er : Int)) ∧ StIs O2 X #[.int .i64 4, .string key, .string val, .int .u64 (old : Int), .int .u64 (ses : Int), .int .u64 (ix : Int)] 9 19 Bp Bt Bd t t' (Go.Rel.upd f 19) w2 ∧ But O2 w' w2) := Lib.hid fun f w' hI hf =>
    hI.right (by decide) hf fun S h => by rw [← ht', ← her]; exact krlock_any key val ses ix w' h hi hky hv
  have HB1 := Lib.hid hb1
  have HK0 := Lib.hid k0
  have HB0 := Lib.hid hb0
  have HW := Lib.hid hW
  have HX := Lib.hid hX
  obtain ⟨d0, d1, d2, d3, d4, d5⟩ := Kt.blk k0
  clear h hs hky hv hi hse hX hW hb0 k0 hO2 hb1 ht' her
  go_enter Tryz.func9, Tryz.ntmps9
  go_wp2_with fail
  rw [HW.out, HX.out]
  go_wp2_with fail
  clear d0 d1 d2 d3 d4 d5
  have hre : ∀ w : World, (But O2) w w := (fun w => But.refl _ w)
  have hrd : ∀ (ops9 : Array Oper) (f9 : Nat → Bool) (e9 : Nat → Value) (w9 : World) (i9 : Nat) (v9 : Value) (e8 : Nat → Value), [9, 19].contains i9 = false → (fun (f : Nat → Bool) (_ : Nat → Value) (w : World) => StIs O2 X #[.int .i64 4, .string key, .string val, .int .u64 (old : Int), .int .u64 (ses : Int), .int .u64 (ix : Int)] 9 19 Bp Bt Bd t t' f w) f9 e9 w9 → Go.Rel.Put ops9 i9 e9 v9 e8 → (fun (f : Nat → Bool) (_ : Nat → Value) (w : World) => StIs O2 X #[.int .i64 4, .string key, .string val, .int .u64 (old : Int), .int .u64 (ses : Int), .int .u64 (ix : Int)] 9 19 Bp Bt Bd t t' f w) (Go.Rel.upd f9 i9) e8 w9 := (fun _ _ _ _ _ _ _ hj h _ => StIs.keep hj h)
  refine Go.Rel.wp_tabe (by kernel_rfl) (by kernel_rfl) (fun (f : Nat → Bool) (_ : Nat → Value) (w : World) => StIs O2 X #[.int .i64 4, .string key, .string val, .int .u64 (old : Int), .int .u64 (ses : Int), .int .u64 (ix : Int)] 9 19 Bp Bt Bd t t' f w) (But O2) hre ((fun _ _ _ h k => h.trans k)) ((But.refl _ _).drew) (fun _ => StIs.start HB1.out HK0.out HOx.out) (ks4 Bp Bd X key val old ses ix er) (fun _ _ _ => True) (fun i => ([] : List Nat).contains i) (fun i => ([2, 4, 6, 8, 9, 12, 14, 16, 18, 19, 20] : List Nat).contains i) (by kernel_rfl) (fun _ _ _ _ h _ => h) [9, 19] (by decide) (hrd _) ?_ (Go.Rel.AllOf.get ?_) ?_
  · repeat (refine .cons (by first | exact Go.Rel.pure_sp rfl | exact Go.Rel.pure_yes (by kernel_rfl) (fun _ => by kernel_rfl) | exact Go.Rel.pure_no (by kernel_rfl) rfl) ?_)
    exact .nil
  · refine ⟨?_, ?_, ?_, ?_, ?_, ?_, ?_, ?_, ?_, ?_, ?_, trivial⟩
    · exact SpecE.ld (hrd _) hre (q := .pointer (some ⟨X, 1, none⟩)) (h := fun _ w' _ hI _ _ _ _ => by obtain ⟨x0, x1, x2, x3, x4, x5⟩ := Kt.blk hI.blk; go_simp; rfl)
    · exact SpecE.ld (hrd _) hre (q := .pointer (some ⟨X, 2, none⟩)) (h := fun _ w' _ hI _ _ _ _ => by obtain ⟨x0, x1, x2, x3, x4, x5⟩ := Kt.blk hI.blk; go_simp; rfl)
    · exact SpecE.ld (hrd _) hre (q := .pointer (some ⟨X, 4, none⟩)) (h := fun _ w' _ hI _ _ _ _ => by obtain ⟨x0, x1, x2, x3, x4, x5⟩ := Kt.blk hI.blk; go_simp; rfl)
    · exact SpecE.ld (hrd _) hre (q := .pointer (some ⟨X, 5, none⟩)) (h := fun _ w' _ hI _ _ _ _ => by obtain ⟨x0, x1, x2, x3, x4, x5⟩ := Kt.blk hI.blk; go_simp; rfl)
    · refine SpecE.gen (fun e => [(88, .pointer (some ⟨Bp, 0, none⟩)), (90, .string key), (92, .string val), (94, .int .u64 (ses : Int)), (96, .int .u64 (ix : Int))]) rfl rfl (fun _ => by kernel_rfl) fun f w' e hI hf hdesc hanc hle hX K hK => ?_
      go_simp
      refine (HCp.out f w' hI hf).mono ?_
      rintro e9 w9 ⟨rfl, h9, hb9⟩
      exact hK _ _ hb9 (fun _ _ => h9) rfl
    · exact SpecE.ld (hrd _) hre (q := .pointer (some ⟨X, 1, none⟩)) (h := fun _ w' _ hI _ _ _ _ => by obtain ⟨x0, x1, x2, x3, x4, x5⟩ := Kt.blk hI.blk; go_simp; rfl)
    · exact SpecE.ld (hrd _) hre (q := .pointer (some ⟨X, 2, none⟩)) (h := fun _ w' _ hI _ _ _ _ => by obtain ⟨x0, x1, x2, x3, x4, x5⟩ := Kt.blk hI.blk; go_simp; rfl)
    · exact SpecE.ld (hrd _) hre (q := .pointer (some ⟨X, 4, none⟩)) (h := fun _ w' _ hI _ _ _ _ => by obtain ⟨x0, x1, x2, x3, x4, x5⟩ := Kt.blk hI.blk; go_simp; rfl)
    · exact SpecE.ld (hrd _) hre (q := .pointer (some ⟨X, 5, none⟩)) (h := fun _ w' _ hI _ _ _ _ => by obtain ⟨x0, x1, x2, x3, x4, x5⟩ := Kt.blk hI.blk; go_simp; rfl)
    · refine SpecE.gen (fun e => [(98, .pointer (some ⟨Bd, 0, none⟩)), (100, .string key), (102, .string val), (104, .int .u64 (ses : Int)), (106, .int .u64 (ix : Int))]) rfl rfl (fun _ => by kernel_rfl) fun f w' e hI hf hdesc hanc hle hX K hK => ?_
      go_simp
      refine (HCd.out f w' hI hf).mono ?_
      rintro e9 w9 ⟨rfl, h9, hb9⟩
      exact hK _ _ hb9 (fun _ _ => h9) rfl
    · refine SpecE.gen (fun e => [(97, .int .i64 (er : Int)), (107, .int .i64 (er : Int))]) rfl rfl (fun _ => by kernel_rfl) fun f w' e hI hf hdesc hanc hle hX K hK => ?_
      have heq : ((er : Int) == (er : Int)) = true := beq_self_eq_true _
      go_simp
      exact hK _ _ (hre _) (fun e' hp => hrd _ f e w' 20 _ e' rfl hI hp) rfl
  · intro f w2 e hall hJ hle hv
    have hb2 := hJ.both
    rw [hall 9 (by decide), hall 19 (by decide)] at hb2
    have HB2 := Lib.hid (hb2.wide HOO.out HMx.out)
    have HL := Lib.hid ((But.of_below HB0.out).trans (hle.mono HOO.out))
    have v9 := hv 21 rfl
    simp only [Go.Rel.finL, List.setIfInBounds_toArray, List.set_cons_succ, List.set_cons_zero]
    rw [show e 21 = .bool true from v9]
    clear hv hall hJ hle hb2 v9
    go_wp2
    go_ret
    exact ⟨rfl, HB2.out, HL.out⟩
def ks5 (Bp : Nat) (Bd : Nat) (X : Nat) (key : ByteArray) (val : ByteArray) (old : Nat) (ses : Nat) (ix : Nat) (er : Nat) : Nat → Value
  | 0 => .pointer (some ⟨Bp, 0, none⟩)
  | 1 | 11 => .pointer (some ⟨X, 1, none⟩)
  | 2 | 12 => .string key
  | 3 | 13 => .pointer (some ⟨X, 2, none⟩)
  | 4 | 14 => .string val
  | 5 | 15 => .pointer (some ⟨X, 4, none⟩)
  | 6 | 16 => .int .u64 (ses : Int)
  | 7 | 17 => .pointer (some ⟨X, 5, none⟩)
  | 8 | 18 => .int .u64 (ix : Int)
  | 9 | 19 => .int .i64 (er : Int)
  | 10 => .pointer (some ⟨Bd, 0, none⟩)
  | 20 | 21 => .bool true
  | _ => undef
set_option maxHeartbeats 4000000 in
set_option maxRecDepth 100000 in
theorem step_unlock {O : Nat → Prop} {Bp Bt Bd : Nat} {t : Tb Kp} (s : KSt) (w : World) (h : Both O w Bp Bt t Bd t) (hs : s.Ok) (hk : s.kind = 5) :
    Calls Tryz.prog 9 #[.pointer (some ⟨Bp, 0, none⟩), .pointer (some ⟨Bd, 0, none⟩), stV s] w (StepPost O w Bp Bt Bd (kUnlock t s.key s.val s.ses s.ix).2) := by
  obtain ⟨kind, key, val, old, ses, ix⟩ := s
  simp only at hk
  subst hk
  unfold stV
  simp only
  have hky : key.size ≤ maxLen := hs.key
  have hv : val.size ≤ maxLen := hs.val
  have hi : ix < 18446744073709551616 := hs.ix
  have hse : ses < 18446744073709551616 := hs.ses
  obtain ⟨X, hX⟩ : ∃ X, w.heap.size = X := ⟨_, rfl⟩
  obtain ⟨W1, hW⟩ : ∃ W1, w.alloc (.cells #[.int .i64 5, .string key, .string val, .int .u64 (old : Int), .int .u64 (ses : Int), .int .u64 (ix : Int)] TS) = W1 := ⟨_, rfl⟩
  have hb0 : Below w.heap.size w W1 := by rw [← hW]; exact below1 _ _ _
  have k0 : W1.heap[X]? = some (.cells #[.int .i64 5, .string key, .string val, .int .u64 (old : Int), .int .u64 (ses : Int), .int .u64 (ix : Int)] TS (0, 0)) := by rw [← hW, ← hX]; exact heap_alloc_new w _
  obtain ⟨O2, hO2⟩ : ∃ O2 : Nat → Prop, O2 = fun k => O k ∧ k ≠ X := ⟨_, rfl⟩
  have hb1 : Both O2 W1 Bp Bt t Bd t := by rw [hO2]; exact h.box hb0 (X := X) (by omega) (block_lt k0)
  have HOx : Hid (¬ O2 X) := Lib.hid (by rw [hO2]; exact fun z => z.2 rfl)
  have HOO : Hid (∀ k, O2 k → O k) := Lib.hid (by rw [hO2]; exact fun k z => z.1)
  have HMx := Lib.hid h.mx.2
  obtain ⟨t', ht'⟩ : ∃ t', (kUnlock t key val ses ix).2 = t' := ⟨_, rfl⟩
  obtain ⟨er, her⟩ : ∃ er, (kUnlock t key val ses ix).1 = er := ⟨_, rfl⟩
  rw [show (kUnlock t key val ses ix).2 = t' from ht']
  have HCp : Hid (∀ (f : Nat → Bool) (w' : World), StIs O2 X #[.int .i64 5, .string key, .string val, .int .u64 (old : Int), .int .u64 (ses : Int), .int .u64 (ix : Int)] 9 19 Bp Bt Bd t t' f w' → f 9 = false → Calls Tryz.prog 27 #[.pointer (some ⟨Bp, 0, none⟩), .string key, .string val, .int .u64 (ses : Int), .int .u64 (ix : Int)] w' fun e w2 => e = .returned (.int .i64 (er : Int)) ∧ StIs O2 X #[.int .i64 5, .string key, .string val, .int .u64 (old : Int), .int .u64 (ses : Int), .int .u64 (ix : Int)] 9 19 Bp Bt Bd t t' (Go.Rel.upd f 9) w2 ∧ But O2 w' w2) := Lib.hid fun f w' hI hf =>
    hI.left (by decide) hf fun S h hm => by rw [← ht', ← her]; exact kunlock_any key val ses ix h hm hi hky hv
  have HCd : Hid (∀ (f : Nat → Bool) (w' : World), StIs O2 X #[.int .i64 5, .string key, .string val, .int .u64 (old : Int), .int .u64 (ses : Int), .int .u64 (ix : Int)] 9 19 Bp Bt Bd t t' f w' → f 19 = false → Calls Tryz.prog 28 #[.pointer (some ⟨Bd, 0, none⟩), .string key, .string val, .int .u64 (ses : Int), .int .u64 (ix : Int)] w' fun e w2 => e = .returned (.int .i64 (er : Int)) ∧ StIs O2 X #[.int .i64 5, .string key, .string val, .int .u64 (old : Int), .int .u64 (ses : Int), .int .u64 (ix : Int)] 9 19 Bp Bt Bd t t' (Go.Rel.upd f 19) w2 ∧ But O2 w' w2) := Lib.hid fun f w' hI hf =>
    hI.right (by decide) hf fun S h => by rw [← ht', ← her]; exact krunlock_any key val ses ix w' h hi hky hv
  have HB1 := Lib.hid hb1
  have HK0 := Lib.hid k0
  have HB0 := Lib.hid hb0
  have HW := Lib.hid hW
  have HX := Lib.hid hX
  obtain ⟨d0, d1, d2, d3, d4, d5⟩ := Kt.blk k0
  clear h hs hky hv hi hse hX hW hb0 k0 hO2 hb1 ht' her
  go_enter Tryz.func9, Tryz.ntmps9
  go_wp2_with fail
  rw [HW.out, HX.out]
  go_wp2_with fail
  clear d0 d1 d2 d3 d4 d5
  have hre : ∀ w : World, (But O2) w w := (fun w => But.refl _ w)
  have hrd : ∀ (ops9 : Array Oper) (f9 : Nat → Bool) (e9 : Nat → Value) (w9 : World) (i9 : Nat) (v9 : Value) (e8 : Nat → Value), [9, 19].contains i9 = false → (fun (f : Nat → Bool) (_ : Nat → Value) (w : World) => StIs O2 X #[.int .i64 5, .string key, .string val, .int .u64 (old : Int), .int .u64 (ses : Int), .int .u64 (ix : Int)] 9 19 Bp Bt Bd t t' f w) f9 e9 w9 → Go.Rel.Put ops9 i9 e9 v9 e8 → (fun (f : Nat → Bool) (_ : Nat → Value) (w : World) => StIs O2 X #[.int .i64 5, .string key, .string val, .int .u64 (old : Int), .int .u64 (ses : Int), .int .u64 (ix : Int)] 9 19 Bp Bt Bd t t' f w) (Go.Rel.upd f9 i9) e8 w9 := (fun _ _ _ _ _ _ _ hj h _ => StIs.keep hj h)
  refine Go.Rel.wp_tabe (by kernel_rfl) (by kernel_rfl) (fun (f : Nat → Bool) (_ : Nat → Value) (w : World) => StIs O2 X #[.int .i64 5, .string key, .string val, .int .u64 (old : Int), .int .u64 (ses : Int), .int .u64 (ix : Int)] 9 19 Bp Bt Bd t t' f w) (But O2) hre ((fun _ _ _ h k => h.trans k)) ((But.refl _ _).drew) (fun _ => StIs.start HB1.out HK0.out HOx.out) (ks5 Bp Bd X key val old ses ix er) (fun _ _ _ => True) (fun i => ([] : List Nat).contains i) (fun i => ([2, 4, 6, 8, 9, 12, 14, 16, 18, 19, 20] : List Nat).contains i) (by kernel_rfl) (fun _ _ _ _ h _ => h) [9, 19] (by decide) (hrd _) ?_ (Go.Rel.AllOf.get ?_) ?_
  · repeat (refine .cons (by first | exact Go.Rel.pure_sp rfl | exact Go.Rel.pure_yes (by kernel_rfl) (fun _ => by kernel_rfl) | exact Go.Rel.pure_no (by kernel_rfl) rfl) ?_)
    exact .nil
  · refine ⟨?_, ?_, ?_, ?_, ?_, ?_, ?_, ?_, ?_, ?_, ?_, trivial⟩
    · exact SpecE.ld (hrd _) hre (q := .pointer (some ⟨X, 1, none⟩)) (h := fun _ w' _ hI _ _ _ _ => by obtain ⟨x0, x1, x2, x3, x4, x5⟩ := Kt.blk hI.blk; go_simp; rfl)
    · exact SpecE.ld (hrd _) hre (q := .pointer (some ⟨X, 2, none⟩)) (h := fun _ w' _ hI _ _ _ _ => by obtain ⟨x0, x1, x2, x3, x4, x5⟩ := Kt.blk hI.blk; go_simp; rfl)
    · exact SpecE.ld (hrd _) hre (q := .pointer (some ⟨X, 4, none⟩)) (h := fun _ w' _ hI _ _ _ _ => by obtain ⟨x0, x1, x2, x3, x4, x5⟩ := Kt.blk hI.blk; go_simp; rfl)
    · exact SpecE.ld (hrd _) hre (q := .pointer (some ⟨X, 5, none⟩)) (h := fun _ w' _ hI _ _ _ _ => by obtain ⟨x0, x1, x2, x3, x4, x5⟩ := Kt.blk hI.blk; go_simp; rfl)
    · refine SpecE.gen (fun e => [(111, .pointer (some ⟨Bp, 0, none⟩)), (113, .string key), (115, .string val), (117, .int .u64 (ses : Int)), (119, .int .u64 (ix : Int))]) rfl rfl (fun _ => by kernel_rfl) fun f w' e hI hf hdesc hanc hle hX K hK => ?_
      go_simp
      refine (HCp.out f w' hI hf).mono ?_
      rintro e9 w9 ⟨rfl, h9, hb9⟩
      exact hK _ _ hb9 (fun _ _ => h9) rfl
    · exact SpecE.ld (hrd _) hre (q := .pointer (some ⟨X, 1, none⟩)) (h := fun _ w' _ hI _ _ _ _ => by obtain ⟨x0, x1, x2, x3, x4, x5⟩ := Kt.blk hI.blk; go_simp; rfl)
    · exact SpecE.ld (hrd _) hre (q := .pointer (some ⟨X, 2, none⟩)) (h := fun _ w' _ hI _ _ _ _ => by obtain ⟨x0, x1, x2, x3, x4, x5⟩ := Kt.blk hI.blk; go_simp; rfl)
    · exact SpecE.ld (hrd _) hre (q := .pointer (some ⟨X, 4, none⟩)) (h := fun _ w' _ hI _ _ _ _ => by obtain ⟨x0, x1, x2, x3, x4, x5⟩ := Kt.blk hI.blk; go_simp; rfl)
    · exact SpecE.ld (hrd _) hre (q := .pointer (some ⟨X, 5, none⟩)) (h := fun _ w' _ hI _ _ _ _ => by obtain ⟨x0, x1, x2, x3, x4, x5⟩ := Kt.blk hI.blk; go_simp; rfl)
    · refine SpecE.gen (fun e => [(121, .pointer (some ⟨Bd, 0, none⟩)), (123, .string key), (125, .string val), (127, .int .u64 (ses : Int)), (129, .int .u64 (ix : Int))]) rfl rfl (fun _ => by kernel_rfl) fun f w' e hI hf hdesc hanc hle hX K hK => ?_
      go_simp
      refine (HCd.out f w' hI hf).mono ?_
      rintro e9 w9 ⟨rfl, h9, hb9⟩
      exact hK _ _ hb9 (fun _ _ => h9) rfl
    · refine SpecE.gen (fun e => [(120, .int .i64 (er : Int)), (130, .int .i64 (er : Int))]) rfl rfl (fun _ => by kernel_rfl) fun f w' e hI hf hdesc hanc hle hX K hK => ?_
      have heq : ((er : Int) == (er : Int)) = true := beq_self_eq_true _
      go_simp
      exact hK _ _ (hre _) (fun e' hp => hrd _ f e w' 20 _ e' rfl hI hp) rfl
  · intro f w2 e hall hJ hle hv
    have hb2 := hJ.both
    rw [hall 9 (by decide), hall 19 (by decide)] at hb2
    have HB2 := Lib.hid (hb2.wide HOO.out HMx.out)
    have HL := Lib.hid ((But.of_below HB0.out).trans (hle.mono HOO.out))
    have v9 := hv 21 rfl
    simp only [Go.Rel.finL, List.setIfInBounds_toArray, List.set_cons_succ, List.set_cons_zero]
    rw [show e 21 = .bool true from v9]
    clear hv hall hJ hle hb2 v9
    go_wp2
    go_ret
    exact ⟨rfl, HB2.out, HL.out⟩
end Go.Proofs.YtohnkagabpefdaaGreatDoor
