/-
  works (layer 16), walked.
-/
import Derived.Test.YtohnkagabpefdaaGreatDoorZj28
import Derived.Test.YtohnkagabpefdaaGreatDoorZj33
import Derived.Test.YtohnkagabpefdaaGreatDoorZj39
namespace Go.Proofs.YtohnkagabpefdaaGreatDoor
open Go.RowKit
set_option linter.unusedSimpArgs false
set_option linter.unusedVariables false

theorem works_put : kSet ⟨9, [], 0⟩ ⟨#[97]⟩ ⟨#[49]⟩ 3 = (0, ⟨9, [⟨⟨#[97]⟩, ⟨⟨#[49]⟩, 0, 0⟩, 3, 3⟩], 3⟩) := by
  have h : firstE ((keyB (⟨#[97]⟩ : ByteArray).data.toList, 10) :: [shortC ⟨#[49]⟩]) = none := by
    rw [firstE_cons, show keyB (⟨#[97]⟩ : ByteArray).data.toList = true by decide, if_pos rfl, shortC, firstE_cons, decide_eq_true (by decide), if_pos rfl]
    rfl
  unfold kSet
  rw [modK_put h]
  rfl
theorem works_got : entO ⟨9, [⟨⟨#[97]⟩, ⟨⟨#[49]⟩, 0, 0⟩, 3, 3⟩], 3⟩ ⟨#[97]⟩ = ⟨⟨#[97]⟩, ⟨⟨#[49]⟩, 0, 0⟩, 3, 3⟩ ∧ isO ⟨9, [⟨⟨#[97]⟩, ⟨⟨#[49]⟩, 0, 0⟩, 3, 3⟩], 3⟩ ⟨#[97]⟩ = true := by
  unfold entO isO
  rw [getR_cons, if_pos rfl]
  exact ⟨rfl, rfl⟩
theorem works_any (w : World) (hM : MaxIs w) : Calls Tryz.prog 15 #[] w fun e w' => e = .returned (.bool true) ∧ Below w.heap.size w w' := by
  have HN := Lib.hid (knew_any 9 w (by decide))
  have HM := Lib.hid hM
  clear hM
  go_enter Tryz.func15, Tryz.ntmps15
  go_wp2_with fail
  refine HN.out.mono ?_
  rintro e w1 ⟨B, Bt, rfl, hk1, hb1⟩
  have HS := Lib.hid (kset_any ⟨#[97]⟩ ⟨#[49]⟩ 3 hk1 (HM.out.keep hb1) (by decide) (by decide) (by decide))
  rw [show mostT 9 = 9 from rfl, works_put] at HS
  have hBt := hk1.tmine.1
  have HB1 := Lib.hid hb1
  have HBt := Lib.hid hBt
  clear hk1 hb1 hBt HN
  go_wp2_with fail
  refine HS.out.mono ?_
  rintro e w2 ⟨rfl, hk2, hb2⟩
  have HG := Lib.hid (kget_any ⟨#[97]⟩ hk2)
  rw [works_got.1, works_got.2] at HG
  have HB2 : Hid (Below w.heap.size w w2) := Lib.hid (HB1.out.trans (hb2.below HB1.out.size fun k hk e => by have := HBt.out; have : k = Bt := e; omega))
  unfold enV Kt.trV at HG
  have ue := en_eq ⟨⟨#[97]⟩, ⟨⟨#[49]⟩, 0, 0⟩, 3, 3⟩ ⟨⟨#[97]⟩, ⟨⟨#[49]⟩, 0, 0⟩, 3, 3⟩
  rw [(eqE_iff _ _).2 rfl] at ue
  unfold enV Kt.trV at ue
  have ug := en_guard
  clear hk2 hb2 HS
  go_wp2_with fail
  refine HG.out.mono ?_
  rintro e w3 ⟨rfl, hb3⟩
  have HB3 := Lib.hid (HB2.out.trans (hb3.mono HB2.out.size))
  clear hb3 HG
  go_wp2
  go_ret
  exact ⟨rfl, HB3.out.alloc HB3.out.size _⟩
end Go.Proofs.YtohnkagabpefdaaGreatDoor
/-
  works; a step of the law (layer 16): Free and List of both stores.
-/
namespace Go.Proofs.YtohnkagabpefdaaGreatDoor
open Go.RowKit Go.Rel
set_option linter.unusedSimpArgs false
set_option linter.unusedVariables false

/-! ### Free -/
/-- A slice's block. -/
def tbk (v : Value) (k : Nat) : Prop := ∃ off n c, v = .slice (some ⟨k, off, none⟩) n c
def KeysV (w : World) (ks : List ByteArray) (v : Value) : Prop := ∃ A c, v = .slice A ks.length c ∧ SK kyC 1 w A ks.length ks
theorem KeysV.but {S : Nat → Prop} {w w' : World} {ks : List ByteArray} {v : Value} (h : KeysV w ks v) (hb : But S w w') (hs : ∀ k, tbk v k → ¬ S k) : KeysV w' ks v := by
  obtain ⟨A, c, rfl, h1⟩ := h
  exact ⟨A, c, rfl, h1.but hb fun b off e _ => hs b ⟨off, _, _, by rw [e]⟩⟩
/-- Within a step that frees of both stores: j1 is the program's call, j2 the document's. -/
structure StFr (O : Nat → Prop) (X : Nat) (cs : Array Value) (j1 j2 Bp Bt Bd : Nat) (t t' : Tb Kp) (ks : List ByteArray) (f : Nat → Bool) (e : Nat → Value) (w : World) : Prop where
  both : Both (fun k => O k ∧ (f j1 = true → ¬ tbk (e j1) k) ∧ (f j2 = true → ¬ tbk (e j2) k)) w Bp Bt (if f j1 then t' else t) Bd (if f j2 then t' else t)
  blk : w.heap[X]? = some (.cells cs TS (0, 0))
  out : ¬ O X
  k1 : f j1 = true → KeysV w ks (e j1)
  k2 : f j2 = true → KeysV w ks (e j2)
section
variable {ops : Array Oper} {O : Nat → Prop} {X : Nat} {cs : Array Value} {j1 j2 Bp Bt Bd : Nat} {t t' : Tb Kp} {ks : List ByteArray} {f : Nat → Bool} {e e' : Nat → Value} {w w' : World} {v : Value}
theorem StFr.start (h : Both O w Bp Bt t Bd t) (hx : w.heap[X]? = some (.cells cs TS (0, 0))) (ho : ¬ O X) (e : Nat → Value) : StFr O X cs j1 j2 Bp Bt Bd t t' ks (fun _ => false) e { w with drawn := w.drawn + 1 } :=
  ⟨(h.below (w' := { w with drawn := w.drawn + 1 }) ⟨rfl, rfl, rfl, Nat.le_refl _, fun _ _ => rfl⟩).wide (O' := fun k => O k ∧ (false = true → ¬ tbk (e j1) k) ∧ (false = true → ¬ tbk (e j2) k)) (fun k hk => ⟨hk, (fun z => by cases z), (fun z => by cases z)⟩) (fun z => h.mx.2 z.1), hx, ho, (fun z => by cases z), (fun z => by cases z)⟩
theorem StFr.below (h : StFr O X cs j1 j2 Bp Bt Bd t t' ks f e w) (hb : Below w.heap.size w w') : StFr O X cs j1 j2 Bp Bt Bd t t' ks f e w' :=
  ⟨h.both.below hb, (hb.block X (block_lt h.blk)).trans h.blk, h.out, fun z => (h.k1 z).but (S := fun _ => False) (But.of_below hb) (fun _ _ z => z), fun z => (h.k2 z).but (S := fun _ => False) (But.of_below hb) (fun _ _ z => z)⟩
theorem StFr.keep {j : Nat} (hj : [j1, j2].contains j = false) (h : StFr O X cs j1 j2 Bp Bt Bd t t' ks f e w) (hp : Go.Rel.Put ops j e v e') : StFr O X cs j1 j2 Bp Bt Bd t t' ks (Go.Rel.upd f j) e' w := by
  simp only [List.contains_cons, List.contains_nil, Bool.or_false, Bool.or_eq_false_iff, beq_eq_false_iff_ne] at hj
  have e1 := hp.1 j1 (Ne.symm hj.1)
  have e2 := hp.1 j2 (Ne.symm hj.2)
  refine ⟨?_, h.blk, h.out, ?_, ?_⟩
  · rw [ale_off hj.1, ale_off hj.2, e1, e2]; exact h.both
  · rw [ale_off hj.1, e1]; exact h.k1
  · rw [ale_off hj.2, e2]; exact h.k2
theorem StFr.left (h : StFr O X cs j1 j2 Bp Bt Bd t t' ks f e w) (hj : j1 ≠ j2) (hf : f j1 = false) {fn : Nat} {args : Array Value}
    (C : ∀ S, KvAt S w Bp Bt t → MaxIs w → ¬ 0 = Bt → Calls Tryz.prog fn args w fun e w' => ∃ A c, e = .returned (.slice A ks.length c) ∧ SK kyC 1 w' A ks.length ks ∧ (∀ b off, A = some ⟨b, off, none⟩ → w.heap.size ≤ b ∧ b < w'.heap.size) ∧ ∃ S', KvAt S' w' Bp Bt t' ∧ (∀ k, S' k → (S k ∨ w.heap.size ≤ k) ∧ k < w'.heap.size) ∧ (∀ b off, A = some ⟨b, off, none⟩ → ¬ S' b) ∧ But (· = Bt) w w') :
    Calls Tryz.prog fn args w fun r w' => ∃ v, r = .returned v ∧ (∀ e', (∀ m, m ≠ j1 → e' m = e m) → e' j1 = v → StFr O X cs j1 j2 Bp Bt Bd t t' ks (Go.Rel.upd f j1) e' w') ∧ But O w w' := by
  have hb := h.both
  rw [hf] at hb
  obtain ⟨Sp, k1, k2, k3, k4⟩ := hb.left
  refine (C Sp k1 k2 k3).mono ?_
  rintro r w' ⟨A, c, rfl, sk, hA, S', q1, q2, q3, q4⟩
  obtain ⟨g1, g2⟩ := k4 w' t' S' (tbk (.slice A ks.length c)) q1 (fun k z => (q2 k z).1) (fun k ⟨off, n, c', z⟩ => by
    cases z
    exact ⟨(hA k off rfl).1, (hA k off rfl).2, q3 k off rfl⟩) q4
  refine ⟨_, rfl, fun e' he hv => ⟨?_, (g2.block X (block_lt h.blk) fun z => h.out z.1).trans h.blk, h.out, fun _ => ⟨A, c, hv, sk⟩, fun z => ?_⟩, g2.mono fun k z => z.1⟩
  · rw [ale_on, ale_off hj, hv, he j2 (Ne.symm hj)]
    exact g1.wide (fun k z => ⟨z.1.1, fun _ => z.2, z.1.2.2⟩) (fun z => hb.mx.2 ⟨z.1, (fun y => by cases y), z.2.2⟩)
  · rw [ale_off hj] at z
    rw [he j2 (Ne.symm hj)]
    exact (h.k2 z).but g2 fun k y x => x.2.2 z y
theorem StFr.right (h : StFr O X cs j1 j2 Bp Bt Bd t t' ks f e w) (hj : j2 ≠ j1) (hf : f j2 = false) {fn : Nat} {args : Array Value}
    (C : ∀ S, KrAt S w Bd t → Calls Tryz.prog fn args w fun e w' => ∃ A c, e = .returned (.slice A ks.length c) ∧ SK kyC 1 w' A ks.length ks ∧ (∀ b off, A = some ⟨b, off, none⟩ → w.heap.size ≤ b ∧ b < w'.heap.size) ∧ ∃ S', KrAt S' w' Bd t' ∧ (∀ k, S' k → (S k ∨ w.heap.size ≤ k) ∧ k < w'.heap.size) ∧ (∀ b off, A = some ⟨b, off, none⟩ → ¬ S' b) ∧ But (· = Bd) w w') :
    Calls Tryz.prog fn args w fun r w' => ∃ v, r = .returned v ∧ (∀ e', (∀ m, m ≠ j2 → e' m = e m) → e' j2 = v → StFr O X cs j1 j2 Bp Bt Bd t t' ks (Go.Rel.upd f j2) e' w') ∧ But O w w' := by
  have hb := h.both
  rw [hf] at hb
  obtain ⟨Sd, k1, k4⟩ := hb.right
  refine (C Sd k1).mono ?_
  rintro r w' ⟨A, c, rfl, sk, hA, S', q1, q2, q3, q4⟩
  obtain ⟨g1, g2⟩ := k4 w' t' S' (tbk (.slice A ks.length c)) q1 (fun k z => (q2 k z).1) (fun k ⟨off, n, c', z⟩ => by
    cases z
    exact ⟨(hA k off rfl).1, (hA k off rfl).2, q3 k off rfl⟩) q4
  refine ⟨_, rfl, fun e' he hv => ⟨?_, (g2.block X (block_lt h.blk) fun z => h.out z.1).trans h.blk, h.out, fun z => ?_, fun _ => ⟨A, c, hv, sk⟩⟩, g2.mono fun k z => z.1⟩
  · rw [ale_on, ale_off hj, hv, he j1 (Ne.symm hj)]
    exact g1.wide (fun k z => ⟨z.1.1, z.1.2.1, fun _ => z.2⟩) (fun z => hb.mx.2 ⟨z.1, z.2.1, (fun y => by cases y)⟩)
  · rw [ale_off hj] at z
    rw [he j1 (Ne.symm hj)]
    exact (h.k1 z).but g2 fun k y x => x.2.1 z y
end
def ksF (Bp : Nat) (Bd : Nat) (X : Nat) (key : ByteArray) (val : ByteArray) (old : Nat) (ses : Nat) (ix : Nat) : Nat → Value
  | 0 => .pointer (some ⟨Bp, 0, none⟩)
  | 1 | 7 => .pointer (some ⟨X, 4, none⟩)
  | 2 | 8 => .int .u64 (ses : Int)
  | 3 | 9 => .pointer (some ⟨X, 5, none⟩)
  | 4 | 10 => .int .u64 (ix : Int)
  | 6 => .pointer (some ⟨Bd, 0, none⟩)
  | 12 | 13 => .bool true
  | _ => undef
set_option maxHeartbeats 4000000 in
set_option maxRecDepth 100000 in
theorem step_free {O : Nat → Prop} {Bp Bt Bd : Nat} {t : Tb Kp} (s : KSt) (w : World) (h : Both O w Bp Bt t Bd t) (hs : s.Ok) (hk : s.kind = 6) :
    Calls Tryz.prog 9 #[.pointer (some ⟨Bp, 0, none⟩), .pointer (some ⟨Bd, 0, none⟩), stV s] w (StepPost O w Bp Bt Bd (kFree t s.ses s.ix)) := by
  obtain ⟨kind, key, val, old, ses, ix⟩ := s
  simp only at hk
  subst hk
  unfold stV
  simp only
  have hky : key.size ≤ maxLen := hs.key
  have hv : val.size ≤ maxLen := hs.val
  have hi : ix < 18446744073709551616 := hs.ix
  obtain ⟨X, hX⟩ : ∃ X, w.heap.size = X := ⟨_, rfl⟩
  obtain ⟨W1, hW⟩ : ∃ W1, w.alloc (.cells #[.int .i64 6, .string key, .string val, .int .u64 (old : Int), .int .u64 (ses : Int), .int .u64 (ix : Int)] TS) = W1 := ⟨_, rfl⟩
  have hb0 : Below w.heap.size w W1 := by rw [← hW]; exact below1 _ _ _
  have k0 : W1.heap[X]? = some (.cells #[.int .i64 6, .string key, .string val, .int .u64 (old : Int), .int .u64 (ses : Int), .int .u64 (ix : Int)] TS (0, 0)) := by rw [← hW, ← hX]; exact heap_alloc_new w _
  obtain ⟨O2, hO2⟩ : ∃ O2 : Nat → Prop, O2 = fun k => O k ∧ k ≠ X := ⟨_, rfl⟩
  have hb1 : Both O2 W1 Bp Bt t Bd t := by rw [hO2]; exact h.box hb0 (X := X) (by omega) (block_lt k0)
  have HOx : Hid (¬ O2 X) := Lib.hid (by rw [hO2]; exact fun z => z.2 rfl)
  have HOO : Hid (∀ k, O2 k → O k) := Lib.hid (by rw [hO2]; exact fun k z => z.1)
  have HMx := Lib.hid h.mx.2
  obtain ⟨t', ht'⟩ : ∃ t', kFree t ses ix = t' := ⟨_, rfl⟩
  obtain ⟨ks, hks⟩ : ∃ ks, heldBy t ses = ks := ⟨_, rfl⟩
  have HMl : Hid (ks.length ≤ maxLen) := Lib.hid (by
    obtain ⟨Sp, k1⟩ := h.read
    have h1 := k1.ok.ok.len
    have h2 := k1.ok.ok.most
    have h3 := heldL_length t.l ses
    rw [← hks, heldBy_eq]
    unfold maxLen
    omega)
  have HOk : Hid (KvOk t) := Lib.hid (by obtain ⟨Sp, k1⟩ := h.read; exact k1.ok)
  rw [ht']
  have HCp : Hid (∀ (f : Nat → Bool) (e : Nat → Value) (w' : World), StFr O2 X #[.int .i64 6, .string key, .string val, .int .u64 (old : Int), .int .u64 (ses : Int), .int .u64 (ix : Int)] 5 11 Bp Bt Bd t t' ks f e w' → f 5 = false → Calls Tryz.prog 30 #[.pointer (some ⟨Bp, 0, none⟩), .int .u64 (ses : Int), .int .u64 (ix : Int)] w' fun r w2 => ∃ v, r = .returned v ∧ (∀ e', (∀ m, m ≠ 5 → e' m = e m) → e' 5 = v → StFr O2 X #[.int .i64 6, .string key, .string val, .int .u64 (old : Int), .int .u64 (ses : Int), .int .u64 (ix : Int)] 5 11 Bp Bt Bd t t' ks (Go.Rel.upd f 5) e' w2) ∧ But O2 w' w2) := Lib.hid fun f e w' hI hf =>
    hI.left (by decide) hf fun S h hm hb => by rw [← ht', ← hks]; exact kfree_any ses ix h hm hb hi
  have HCd : Hid (∀ (f : Nat → Bool) (e : Nat → Value) (w' : World), StFr O2 X #[.int .i64 6, .string key, .string val, .int .u64 (old : Int), .int .u64 (ses : Int), .int .u64 (ix : Int)] 5 11 Bp Bt Bd t t' ks f e w' → f 11 = false → Calls Tryz.prog 31 #[.pointer (some ⟨Bd, 0, none⟩), .int .u64 (ses : Int), .int .u64 (ix : Int)] w' fun r w2 => ∃ v, r = .returned v ∧ (∀ e', (∀ m, m ≠ 11 → e' m = e m) → e' 11 = v → StFr O2 X #[.int .i64 6, .string key, .string val, .int .u64 (old : Int), .int .u64 (ses : Int), .int .u64 (ix : Int)] 5 11 Bp Bt Bd t t' ks (Go.Rel.upd f 11) e' w2) ∧ But O2 w' w2) := Lib.hid fun f e w' hI hf =>
    hI.right (by decide) hf fun S h => by rw [← ht', ← hks]; exact krfree_any ses ix w' h HOk.out hi
  have HB1 := Lib.hid hb1
  have HK0 := Lib.hid k0
  have HB0 := Lib.hid hb0
  have HW := Lib.hid hW
  have HX := Lib.hid hX
  obtain ⟨d0, d1, d2, d3, d4, d5⟩ := Kt.blk k0
  clear h hs hky hv hi hX hW hb0 k0 hO2 hb1 ht' hks
  go_enter Tryz.func9, Tryz.ntmps9
  go_wp2_with fail
  rw [HW.out, HX.out]
  go_wp2_with fail
  clear d0 d1 d2 d3 d4 d5
  have hre : ∀ w : World, (But O2) w w := (fun w => But.refl _ w)
  have hrd : ∀ (ops9 : Array Oper) (f9 : Nat → Bool) (e9 : Nat → Value) (w9 : World) (i9 : Nat) (v9 : Value) (e8 : Nat → Value), [5, 11].contains i9 = false → (fun (f : Nat → Bool) (e : Nat → Value) (w : World) => StFr O2 X #[.int .i64 6, .string key, .string val, .int .u64 (old : Int), .int .u64 (ses : Int), .int .u64 (ix : Int)] 5 11 Bp Bt Bd t t' ks f e w) f9 e9 w9 → Go.Rel.Put ops9 i9 e9 v9 e8 → (fun (f : Nat → Bool) (e : Nat → Value) (w : World) => StFr O2 X #[.int .i64 6, .string key, .string val, .int .u64 (old : Int), .int .u64 (ses : Int), .int .u64 (ix : Int)] 5 11 Bp Bt Bd t t' ks f e w) (Go.Rel.upd f9 i9) e8 w9 := (fun _ _ _ _ _ _ _ hj h hp => StFr.keep hj h hp)
  refine Go.Rel.wp_tabe (by kernel_rfl) (by kernel_rfl) (fun (f : Nat → Bool) (e : Nat → Value) (w : World) => StFr O2 X #[.int .i64 6, .string key, .string val, .int .u64 (old : Int), .int .u64 (ses : Int), .int .u64 (ix : Int)] 5 11 Bp Bt Bd t t' ks f e w) (But O2) hre ((fun _ _ _ h k => h.trans k)) ((But.refl _ _).drew) (fun e => StFr.start HB1.out HK0.out HOx.out e) (ksF Bp Bd X key val old ses ix) (fun | 5, v, w => True | 11, v, w => True | _, _, _ => True) (fun i => ([5, 11] : List Nat).contains i) (fun i => ([2, 4, 5, 8, 10, 11, 12] : List Nat).contains i) (by kernel_rfl) (fun i v w w' h g => by revert h; split <;> exact id) [5, 11] (by decide) (hrd _) ?_ (Go.Rel.AllOf.get ?_) ?_
  · repeat (refine .cons (by first | exact Go.Rel.pure_sp rfl | exact Go.Rel.pure_yes (by kernel_rfl) (fun _ => by kernel_rfl) | exact Go.Rel.pure_no (by kernel_rfl) rfl) ?_)
    exact .nil
  · refine ⟨?_, ?_, ?_, ?_, ?_, ?_, ?_, trivial⟩
    · exact SpecE.ld (hrd _) hre (q := .pointer (some ⟨X, 4, none⟩)) (h := fun _ w' _ hI _ _ _ _ => by obtain ⟨x0, x1, x2, x3, x4, x5⟩ := Kt.blk hI.blk; go_simp; rfl)
    · exact SpecE.ld (hrd _) hre (q := .pointer (some ⟨X, 5, none⟩)) (h := fun _ w' _ hI _ _ _ _ => by obtain ⟨x0, x1, x2, x3, x4, x5⟩ := Kt.blk hI.blk; go_simp; rfl)
    · refine SpecE.gen (fun e => [(134, .pointer (some ⟨Bp, 0, none⟩)), (136, .int .u64 (ses : Int)), (138, .int .u64 (ix : Int))]) rfl rfl (fun _ => by kernel_rfl) fun f w' e hI hf hdesc hanc hle hX K hK => ?_
      go_simp
      refine (HCp.out f e w' hI hf).mono ?_
      rintro e9 w9 ⟨v9, rfl, h9, hb9⟩
      exact hK _ _ hb9 (fun e' hp => h9 e' (fun m hm => hp.1 m hm) (hp.2 rfl)) trivial
    · exact SpecE.ld (hrd _) hre (q := .pointer (some ⟨X, 4, none⟩)) (h := fun _ w' _ hI _ _ _ _ => by obtain ⟨x0, x1, x2, x3, x4, x5⟩ := Kt.blk hI.blk; go_simp; rfl)
    · exact SpecE.ld (hrd _) hre (q := .pointer (some ⟨X, 5, none⟩)) (h := fun _ w' _ hI _ _ _ _ => by obtain ⟨x0, x1, x2, x3, x4, x5⟩ := Kt.blk hI.blk; go_simp; rfl)
    · refine SpecE.gen (fun e => [(140, .pointer (some ⟨Bd, 0, none⟩)), (142, .int .u64 (ses : Int)), (144, .int .u64 (ix : Int))]) rfl rfl (fun _ => by kernel_rfl) fun f w' e hI hf hdesc hanc hle hX K hK => ?_
      go_simp
      refine (HCd.out f e w' hI hf).mono ?_
      rintro e9 w9 ⟨v9, rfl, h9, hb9⟩
      exact hK _ _ hb9 (fun e' hp => h9 e' (fun m hm => hp.1 m hm) (hp.2 rfl)) trivial
    · refine SpecE.gen (fun e => [(139, e 5), (145, e 11)]) rfl rfl (fun _ => by kernel_rfl) fun f w' e hI hf hdesc hanc hle hX K hK => ?_
      obtain ⟨A1, c1, q1, s1⟩ := hI.k1 (hanc 60 5 (by kernel_rfl))
      obtain ⟨A2, c2, q2, s2⟩ := hI.k2 (hanc 60 11 (by kernel_rfl))
      simp only [q1, q2]
      go_simp
      refine (rsameK_any A1 _ c1 ks A2 c2 w' s1 s2 HMl.out).mono ?_
      rintro e9 w9 ⟨rfl, hb9⟩
      exact hK _ _ (But.of_below hb9) (fun e' hp => (hI.below hb9).keep (by decide) hp) rfl
  · intro f w2 e hall hJ hle hv
    have hb2 := hJ.both
    rw [hall 5 (by decide), hall 11 (by decide)] at hb2
    have HB2 := Lib.hid (hb2.wide (fun k z => HOO.out k z.1) HMx.out)
    have HL := Lib.hid ((But.of_below HB0.out).trans (hle.mono HOO.out))
    have v9 := hv 13 rfl
    simp only [Go.Rel.finL, List.setIfInBounds_toArray, List.set_cons_succ, List.set_cons_zero]
    rw [show e 13 = .bool true from v9]
    clear hv hall hJ hle hb2 v9
    go_wp2
    go_ret
    exact ⟨rfl, HB2.out, HL.out⟩
def ksL (Bp : Nat) (Bd : Nat) (X : Nat) (key : ByteArray) (val : ByteArray) (old : Nat) (ses : Nat) (ix : Nat) (m : List En) : Nat → Value
  | 0 => .pointer (some ⟨Bp, 0, none⟩)
  | 1 | 5 => .pointer (some ⟨X, 1, none⟩)
  | 2 | 6 => .string key
  | 4 => .pointer (some ⟨Bd, 0, none⟩)
  | 8 | 9 => .bool true
  | _ => undef
set_option maxHeartbeats 4000000 in
set_option maxRecDepth 100000 in
theorem step_list {O : Nat → Prop} {Bp Bt Bd : Nat} {t : Tb Kp} (s : KSt) (w : World) (h : Both O w Bp Bt t Bd t) (hs : s.Ok) (hk : s.kind = 7) :
    Calls Tryz.prog 9 #[.pointer (some ⟨Bp, 0, none⟩), .pointer (some ⟨Bd, 0, none⟩), stV s] w (StepPost O w Bp Bt Bd t) := by
  obtain ⟨kind, key, val, old, ses, ix⟩ := s
  simp only at hk
  subst hk
  unfold stV
  simp only
  have hky : key.size ≤ maxLen := hs.key
  have hv : val.size ≤ maxLen := hs.val
  have hi : ix < 18446744073709551616 := hs.ix
  obtain ⟨X, hX⟩ : ∃ X, w.heap.size = X := ⟨_, rfl⟩
  obtain ⟨W1, hW⟩ : ∃ W1, w.alloc (.cells #[.int .i64 7, .string key, .string val, .int .u64 (old : Int), .int .u64 (ses : Int), .int .u64 (ix : Int)] TS) = W1 := ⟨_, rfl⟩
  have hb0 : Below w.heap.size w W1 := by rw [← hW]; exact below1 _ _ _
  have k0 : W1.heap[X]? = some (.cells #[.int .i64 7, .string key, .string val, .int .u64 (old : Int), .int .u64 (ses : Int), .int .u64 (ix : Int)] TS (0, 0)) := by rw [← hW, ← hX]; exact heap_alloc_new w _
  obtain ⟨O2, hO2⟩ : ∃ O2 : Nat → Prop, O2 = fun k => O k ∧ k ≠ X := ⟨_, rfl⟩
  have hb1 : Both O2 W1 Bp Bt t Bd t := by rw [hO2]; exact h.box hb0 (X := X) (by omega) (block_lt k0)
  have HOx : Hid (¬ O2 X) := Lib.hid (by rw [hO2]; exact fun z => z.2 rfl)
  have HOO : Hid (∀ k, O2 k → O k) := Lib.hid (by rw [hO2]; exact fun k z => z.1)
  have HMx := Lib.hid h.mx.2
  obtain ⟨m, hm⟩ : ∃ m, undR t.l key = m := ⟨_, rfl⟩
  have HMl : Hid (m.length ≤ maxLen) := Lib.hid (by
    obtain ⟨Sp, k1⟩ := h.read
    have h1 := k1.ok.ok.len
    have h2 := k1.ok.ok.most
    have h3 := und_length t.l key
    rw [← hm]
    unfold maxLen
    omega)
  have HCp : Hid (∀ w', Below W1.heap.size W1 w' → Calls Tryz.prog 14 #[.pointer (some ⟨Bp, 0, none⟩), .string key] w' fun e w2 => ∃ A c, e = .returned (.slice A m.length c) ∧ SK enC 6 w2 A m.length m ∧ Below w'.heap.size w' w2) := Lib.hid fun w' hw => by
    obtain ⟨Sp, k1⟩ := hb1.read
    refine (klist_any key (k1.below hw) hky).mono ?_
    rw [hm]
    rintro e w2 ⟨A, c, e1, s1, _, _, _, b1⟩
    exact ⟨A, c, e1, s1, b1⟩
  have HCd : Hid (∀ w', Below W1.heap.size W1 w' → Calls Tryz.prog 32 #[.pointer (some ⟨Bd, 0, none⟩), .string key] w' fun e w2 => ∃ A c, e = .returned (.slice A m.length c) ∧ SK enC 6 w2 A m.length m ∧ Below w'.heap.size w' w2) := Lib.hid fun w' hw => by
    obtain ⟨Sd, A, c, k0, k1⟩ := hb1.ref
    refine (krlist_any key w' ⟨k0, A, c, k1.below hw⟩ hky).mono ?_
    rw [hm]
    rintro e w2 ⟨v, e1, s1, b1⟩
    obtain ⟨A2, c2, rfl, s2, _⟩ := SK.of_row Kt.trC_len s1
    exact ⟨A2, c2, e1, s2, b1⟩
  have HB1 := Lib.hid hb1
  have HK0 := Lib.hid k0
  have HB0 := Lib.hid hb0
  have HW := Lib.hid hW
  have HX := Lib.hid hX
  obtain ⟨d0, d1, d2, d3, d4, d5⟩ := Kt.blk k0
  clear h hs hky hv hi hX hW hb0 k0 hO2 hb1 hm
  go_enter Tryz.func9, Tryz.ntmps9
  go_wp2_with fail
  rw [HW.out, HX.out]
  go_wp2_with fail
  clear d0 d1 d2 d3 d4 d5
  have hre : ∀ w : World, ((fun a b : World => Below a.heap.size a b)) w w := (fun w => Below.refl _ w)
  have hrd : ∀ (f : Nat → Bool) w i, i ≠ 3 → (fun (_ : Nat → Bool) (w : World) => Below W1.heap.size W1 w) f w → (fun (_ : Nat → Bool) (w : World) => Below W1.heap.size W1 w) (Go.Rel.upd f i) w := (fun _ _ _ _ h => h)
  refine Go.Rel.wp_tab (by kernel_rfl) (by kernel_rfl) (fun (_ : Nat → Bool) (w : World) => Below W1.heap.size W1 w) ((fun a b : World => Below a.heap.size a b)) hre ((fun _ _ _ h k => h.trans (k.mono h.size))) ((⟨rfl, rfl, rfl, Nat.le_refl _, fun _ _ => rfl⟩)) ⟨rfl, rfl, rfl, Nat.le_refl _, fun _ _ => rfl⟩ (ksL Bp Bd X key val old ses ix m) (fun | 3, v, w => ∃ A c, v = .slice A m.length c ∧ SK enC 6 w A m.length m | 7, v, w => ∃ A c, v = .slice A m.length c ∧ SK enC 6 w A m.length m | _, _, _ => True) (fun i => ([3, 7] : List Nat).contains i) (fun i => ([2, 3, 6, 7, 8] : List Nat).contains i) (by kernel_rfl) (fun i v w w' h g => by revert h; split <;> intro h <;> first | exact h | trivial | (obtain ⟨A, c, e, k⟩ := h; exact ⟨A, c, e, k.below g⟩)) 3 rfl hrd ?_ (Go.Rel.AllOf.get ?_) ?_
  · repeat (refine .cons (by first | exact Go.Rel.pure_sp rfl | exact Go.Rel.pure_yes (by kernel_rfl) (fun _ => by kernel_rfl) | exact Go.Rel.pure_no (by kernel_rfl) rfl) ?_)
    exact .nil
  · refine ⟨?_, ?_, ?_, ?_, ?_, trivial⟩
    · exact SpecOk.ld hrd hre (q := .pointer (some ⟨X, 1, none⟩)) (h := fun _ w' hI _ _ _ _ => by obtain ⟨x0, x1, x2, x3, x4, x5⟩ := Kt.blk ((hI.block X (block_lt HK0.out)).trans HK0.out); go_simp; rfl)
    · refine SpecOk.call 14 #[.pointer (some ⟨Bp, 0, none⟩), .string key] rfl (by kernel_rfl) (fun _ => by kernel_rfl) fun _ w' hI _ _ _ _ => ?_
      refine (HCp.out w' hI).mono ?_
      rintro e9 w9 ⟨A9, c9, rfl, s9, hb9⟩
      exact ⟨_, rfl, hb9, (hI.trans (hb9.mono hI.size)), ⟨A9, c9, rfl, s9⟩⟩
    · exact SpecOk.ld hrd hre (q := .pointer (some ⟨X, 1, none⟩)) (h := fun _ w' hI _ _ _ _ => by obtain ⟨x0, x1, x2, x3, x4, x5⟩ := Kt.blk ((hI.block X (block_lt HK0.out)).trans HK0.out); go_simp; rfl)
    · refine SpecOk.call 32 #[.pointer (some ⟨Bd, 0, none⟩), .string key] rfl (by kernel_rfl) (fun _ => by kernel_rfl) fun _ w' hI _ _ _ _ => ?_
      refine (HCd.out w' hI).mono ?_
      rintro e9 w9 ⟨A9, c9, rfl, s9, hb9⟩
      exact ⟨_, rfl, hb9, (hI.trans (hb9.mono hI.size)), ⟨A9, c9, rfl, s9⟩⟩
    · refine SpecOk.gen (fun e => [(152, e 3), (156, e 7)]) rfl rfl (fun _ => by kernel_rfl) fun f w' e hI hf hdesc hanc hle hX K hK => ?_
      obtain ⟨A3, c3, e3, s3⟩ := hX 3 rfl rfl
      obtain ⟨A7, c7, e7, s7⟩ := hX 7 rfl rfl
      simp only [e3, e7]
      go_simp
      refine (rsame_any A3 _ c3 m A7 c7 w' s3 s7 HMl.out).mono ?_
      rintro e9 w9 ⟨rfl, hb9⟩
      exact hK _ _ hb9 (hI.trans (hb9.mono hI.size)) rfl
  · intro f w2 e hall hJ hle hv
    have HB2 := Lib.hid ((HB1.out.below hJ).wide HOO.out HMx.out)
    have HL : Hid (But O w w2) := Lib.hid (But.of_below (HB0.out.trans (hJ.mono HB0.out.size)))
    have v9 := hv 9 rfl
    simp only [Go.Rel.finL, List.setIfInBounds_toArray, List.set_cons_succ, List.set_cons_zero]
    rw [show e 9 = .bool true from v9]
    clear hv hall hJ hle v9
    go_wp2
    go_ret
    exact ⟨rfl, HB2.out, HL.out⟩
end Go.Proofs.YtohnkagabpefdaaGreatDoor
