/-
  part of the program's reader of messages, walked (layer 13).
-/
import Derived.Test.YtjbemjnofnifaaaZj32
namespace Go.Proofs.Ytjbemjnofnifaaa
open Go.RowKit
set_option linter.unusedSimpArgs false
set_option linter.unusedVariables false

/-- What a part's reading does to the reader's state and to the message. -/
def partS (p : Nat) (s : St) : St := match p with
  | 0 => (itNum 4294967295).next s
  | 1 => (itNum 255).next s
  | 2 => (itNum 255).next s
  | 3 => itFlag.next s
  | _ => upsNext ((itNum 16).out s) ((itNum 16).next s)
def partM (p : Nat) (s : St) (x : Ms) : Ms := match p with
  | 0 => { x with seq := (itNum 4294967295).out s }
  | 1 => { x with src := ((itNum 255).out s : Int) }
  | 2 => { x with tgt := ((itNum 255).out s : Int) }
  | 3 => { x with rep := itFlag.out s }
  | _ => { x with us := upsOut ((itNum 16).out s) ((itNum 16).next s) }
/-- A message in block M that is being read: its updates lie in new memory, from base on. -/
structure MgIs (w : World) (M base : Nat) (x : Mi) (m : Ms) : Prop where
  at_ : MiB w M x
  m : x.m = m
  us : UsOk w x.us
  new : ∀ b off, x.us.A = some ⟨b, off, none⟩ → base ≤ b
  ty : TyU w x.us
theorem UsOk.but {S : Nat → Prop} {w w' : World} {s : Sl Up} (h : UsOk w s) (hb : But S w w') (hs : ∀ b off, s.A = some ⟨b, off, .none⟩ → ¬ S b) : UsOk w' s :=
  ⟨⟨h.us.1, fun hn => by
    obtain ⟨b, off, e, hlt, hc⟩ := h.us.2 hn
    exact ⟨b, off, e, Nat.lt_of_lt_of_le hlt hb.size, fun j hj => (hc j hj).of_block (hb.block b hlt (hs b off e))⟩⟩, h.le, h.max, h.nil⟩
theorem MgIs.but {S : Nat → Prop} {w w' : World} {M base : Nat} {x : Mi} {m : Ms} (h : MgIs w M base x m) (hb : But S w w') (hM : ¬ S M) (hs : ∀ k, base ≤ k → ¬ S k) : MgIs w' M base x m :=
  ⟨(hb.block M h.at_.lt hM).trans h.at_, h.m, h.us.but hb (fun b off e => hs b (h.new b off e)), h.new, h.ty.but hb (fun b off e => hs b (h.new b off e))⟩
def PartPost (S : Nat → Prop) (B M base : Nat) (w : World) (s : St) (m : Ms) (e : Ending) (w' : World) : Prop :=
  e = .returned (.tuple #[]) ∧ RdAt S w' B s ∧ (∃ x, MgIs w' M base x m) ∧ But (fun k => k = B ∨ k = M) w w'
theorem part_fin {S : Nat → Prop} {B M base : Nat} {w w1 : World} {s' : St} {x x' : Mi} {m' : Ms} {i : Nat} {v : Value} (hr : RdAt S w1 B s') (hset : MiB (w1.setCell ⟨M, i, none⟩ v) M x') (hm : x'.m = m') (hu : UsOk w1 x'.us) (ht : TyU w1 x'.us)
    (hn : ∀ b off, x'.us.A = some ⟨b, off, none⟩ → base ≤ b) (hb : But (fun k => k = B) w w1) (hBM : B ≠ M) (hMb : M < base) (hSM : S M) : PartPost S B M base w s' m' (.returned (.tuple #[])) (w1.setCell ⟨M, i, none⟩ v) := by
  have hbt : But (fun k => k = M) w1 (w1.setCell ⟨M, i, none⟩ v) := But.set (S := fun k => k = M) w1 (p := ⟨M, i, none⟩) rfl v
  refine ⟨rfl, hr.but hbt (fun k hk => hk ▸ hSM) hBM, ⟨x', hset, hm, hu.but hbt (fun b off e => ?_), hn, ht.but hbt (fun b off e => ?_)⟩, (hb.mono (fun k h => .inl h)).trans (hbt.mono (fun k h => .inr h))⟩
  all_goals
    have := hn b off e
    omega
set_option maxHeartbeats 8000000 in
theorem part_0 (S : Nat → Prop) (B M base : Nat) (s : St) (x : Mi) (m : Ms) (w : World) (h : RdAt S w B s) (hM : MgIs w M base x m) (hBM : B ≠ M) (hMb : M < base) (hBb : B < base) (hSM : S M) :
    Calls Try.prog 33 #[rdV B, .pointer (some ⟨M, 0, none⟩), .int .i64 0] w (PartPost S B M base w (partS 0 s) (partM 0 s m)) := by
  have hb0 : Below w.heap.size w (w.alloc (.cells #[.pointer (some ⟨B, 0, none⟩)] 73)) := below1 _ _
  have S1 := Lib.hid (wide_any S B s _ (h.below hb0))
  have HF : Hid (∀ w1, Reads S B (w.alloc (.cells #[.pointer (some ⟨B, 0, none⟩)] 73)) (.int .u32 ((itNum 4294967295).out s : Int)) (partS 0 s) (.returned (.int .u32 ((itNum 4294967295).out s : Int))) w1 → MiB w1 M x ∧ PartPost S B M base w (partS 0 s) (partM 0 s m) (.returned (.tuple #[])) (w1.setCell ⟨M, 1, none⟩ (.int .u32 ((itNum 4294967295).out s : Int)))) := Lib.hid (fun w1 hr => by
    obtain ⟨_, h2, h3⟩ := hr
    have h4 : But (fun k => k = B) w w1 := (But.of_below hb0).trans h3
    have h5 := hM.but h4 (fun e => hBM e.symm) (fun k hk e => by omega)
    refine ⟨h5.at_, part_fin (x := x) (x' := { x with seq := (itNum 4294967295).out s }) h2 (block_set h5.at_ 1 _) ?_ h5.us h5.ty h5.new h4 hBM hMb hSM⟩
    rw [← h5.m]
    rfl)
  have e : partS 0 s = (itNum 4294967295).next s := rfl
  rw [← e] at S1
  obtain ⟨z, hz⟩ : ∃ z, (itNum 4294967295).out s = z := ⟨_, rfl⟩
  rw [hz] at S1 HF
  obtain ⟨PO, hPO⟩ : ∃ PO, PartPost S B M base w (partS 0 s) (partM 0 s m) = PO := ⟨_, rfl⟩
  obtain ⟨s2, hs2⟩ : ∃ t, partS 0 s = t := ⟨_, rfl⟩
  rw [hPO] at HF ⊢
  rw [hs2] at S1 HF
  unfold rdV at *
  clear h hM hb0 e hz hPO hs2
  go_enter Try.func33, Try.ntmps33
  go_wp2_with fail
  refine S1.out.mono ?_
  rintro e w1 hr
  obtain rfl := hr.1
  obtain ⟨hm, hp⟩ := HF.out w1 hr
  have HP := Lib.hid hp
  have g0 := blk_froz hm 1
  obtain ⟨m0, m1, m2, m3, m4, m5⟩ := hm.cells
  clear hr hm hp
  go_wp2
  refine bodyPost_end (results_none rfl _ _ _) rfl ?_
  exact HP.out
set_option maxHeartbeats 8000000 in
theorem part_1 (S : Nat → Prop) (B M base : Nat) (s : St) (x : Mi) (m : Ms) (w : World) (h : RdAt S w B s) (hM : MgIs w M base x m) (hBM : B ≠ M) (hMb : M < base) (hBb : B < base) (hSM : S M) :
    Calls Try.prog 33 #[rdV B, .pointer (some ⟨M, 0, none⟩), .int .i64 1] w (PartPost S B M base w (partS 1 s) (partM 1 s m)) := by
  have hb0 : Below w.heap.size w (w.alloc (.cells #[.pointer (some ⟨B, 0, none⟩)] 73)) := below1 _ _
  have S1 := Lib.hid (small_any S B s _ (h.below hb0))
  have HF : Hid (∀ w1, Reads S B (w.alloc (.cells #[.pointer (some ⟨B, 0, none⟩)] 73)) (.int .i64 ((itNum 255).out s : Int)) (partS 1 s) (.returned (.int .i64 ((itNum 255).out s : Int))) w1 → MiB w1 M x ∧ PartPost S B M base w (partS 1 s) (partM 1 s m) (.returned (.tuple #[])) (w1.setCell ⟨M, 2, none⟩ (.int .i64 ((itNum 255).out s : Int)))) := Lib.hid (fun w1 hr => by
    obtain ⟨_, h2, h3⟩ := hr
    have h4 : But (fun k => k = B) w w1 := (But.of_below hb0).trans h3
    have h5 := hM.but h4 (fun e => hBM e.symm) (fun k hk e => by omega)
    refine ⟨h5.at_, part_fin (x := x) (x' := { x with src := ((itNum 255).out s : Int) }) h2 (block_set h5.at_ 2 _) ?_ h5.us h5.ty h5.new h4 hBM hMb hSM⟩
    rw [← h5.m]
    rfl)
  have e : partS 1 s = (itNum 255).next s := rfl
  rw [← e] at S1
  obtain ⟨z, hz⟩ : ∃ z, (itNum 255).out s = z := ⟨_, rfl⟩
  rw [hz] at S1 HF
  obtain ⟨PO, hPO⟩ : ∃ PO, PartPost S B M base w (partS 1 s) (partM 1 s m) = PO := ⟨_, rfl⟩
  obtain ⟨s2, hs2⟩ : ∃ t, partS 1 s = t := ⟨_, rfl⟩
  rw [hPO] at HF ⊢
  rw [hs2] at S1 HF
  unfold rdV at *
  clear h hM hb0 e hz hPO hs2
  go_enter Try.func33, Try.ntmps33
  go_wp2_with fail
  refine S1.out.mono ?_
  rintro e w1 hr
  obtain rfl := hr.1
  obtain ⟨hm, hp⟩ := HF.out w1 hr
  have HP := Lib.hid hp
  have g0 := blk_froz hm 2
  obtain ⟨m0, m1, m2, m3, m4, m5⟩ := hm.cells
  clear hr hm hp
  go_wp2
  refine bodyPost_end (results_none rfl _ _ _) rfl ?_
  exact HP.out
set_option maxHeartbeats 8000000 in
theorem part_2 (S : Nat → Prop) (B M base : Nat) (s : St) (x : Mi) (m : Ms) (w : World) (h : RdAt S w B s) (hM : MgIs w M base x m) (hBM : B ≠ M) (hMb : M < base) (hBb : B < base) (hSM : S M) :
    Calls Try.prog 33 #[rdV B, .pointer (some ⟨M, 0, none⟩), .int .i64 2] w (PartPost S B M base w (partS 2 s) (partM 2 s m)) := by
  have hb0 : Below w.heap.size w (w.alloc (.cells #[.pointer (some ⟨B, 0, none⟩)] 73)) := below1 _ _
  have S1 := Lib.hid (small_any S B s _ (h.below hb0))
  have HF : Hid (∀ w1, Reads S B (w.alloc (.cells #[.pointer (some ⟨B, 0, none⟩)] 73)) (.int .i64 ((itNum 255).out s : Int)) (partS 2 s) (.returned (.int .i64 ((itNum 255).out s : Int))) w1 → MiB w1 M x ∧ PartPost S B M base w (partS 2 s) (partM 2 s m) (.returned (.tuple #[])) (w1.setCell ⟨M, 3, none⟩ (.int .i64 ((itNum 255).out s : Int)))) := Lib.hid (fun w1 hr => by
    obtain ⟨_, h2, h3⟩ := hr
    have h4 : But (fun k => k = B) w w1 := (But.of_below hb0).trans h3
    have h5 := hM.but h4 (fun e => hBM e.symm) (fun k hk e => by omega)
    refine ⟨h5.at_, part_fin (x := x) (x' := { x with tgt := ((itNum 255).out s : Int) }) h2 (block_set h5.at_ 3 _) ?_ h5.us h5.ty h5.new h4 hBM hMb hSM⟩
    rw [← h5.m]
    rfl)
  have e : partS 2 s = (itNum 255).next s := rfl
  rw [← e] at S1
  obtain ⟨z, hz⟩ : ∃ z, (itNum 255).out s = z := ⟨_, rfl⟩
  rw [hz] at S1 HF
  obtain ⟨PO, hPO⟩ : ∃ PO, PartPost S B M base w (partS 2 s) (partM 2 s m) = PO := ⟨_, rfl⟩
  obtain ⟨s2, hs2⟩ : ∃ t, partS 2 s = t := ⟨_, rfl⟩
  rw [hPO] at HF ⊢
  rw [hs2] at S1 HF
  unfold rdV at *
  clear h hM hb0 e hz hPO hs2
  go_enter Try.func33, Try.ntmps33
  go_wp2_with fail
  refine S1.out.mono ?_
  rintro e w1 hr
  obtain rfl := hr.1
  obtain ⟨hm, hp⟩ := HF.out w1 hr
  have HP := Lib.hid hp
  have g0 := blk_froz hm 3
  obtain ⟨m0, m1, m2, m3, m4, m5⟩ := hm.cells
  clear hr hm hp
  go_wp2
  refine bodyPost_end (results_none rfl _ _ _) rfl ?_
  exact HP.out
set_option maxHeartbeats 8000000 in
theorem part_3 (S : Nat → Prop) (B M base : Nat) (s : St) (x : Mi) (m : Ms) (w : World) (h : RdAt S w B s) (hM : MgIs w M base x m) (hBM : B ≠ M) (hMb : M < base) (hBb : B < base) (hSM : S M) :
    Calls Try.prog 33 #[rdV B, .pointer (some ⟨M, 0, none⟩), .int .i64 3] w (PartPost S B M base w (partS 3 s) (partM 3 s m)) := by
  have hb0 : Below w.heap.size w (w.alloc (.cells #[.pointer (some ⟨B, 0, none⟩)] 73)) := below1 _ _
  have S1 := Lib.hid (rFlag_any S B s _ (h.below hb0))
  have HF : Hid (∀ w1, Reads S B (w.alloc (.cells #[.pointer (some ⟨B, 0, none⟩)] 73)) (.bool (itFlag.out s)) (partS 3 s) (.returned (.bool (itFlag.out s))) w1 → MiB w1 M x ∧ PartPost S B M base w (partS 3 s) (partM 3 s m) (.returned (.tuple #[])) (w1.setCell ⟨M, 4, none⟩ (.bool (itFlag.out s)))) := Lib.hid (fun w1 hr => by
    obtain ⟨_, h2, h3⟩ := hr
    have h4 : But (fun k => k = B) w w1 := (But.of_below hb0).trans h3
    have h5 := hM.but h4 (fun e => hBM e.symm) (fun k hk e => by omega)
    refine ⟨h5.at_, part_fin (x := x) (x' := { x with rep := itFlag.out s }) h2 (block_set h5.at_ 4 _) ?_ h5.us h5.ty h5.new h4 hBM hMb hSM⟩
    rw [← h5.m]
    rfl)
  have e : partS 3 s = itFlag.next s := rfl
  rw [← e] at S1
  obtain ⟨z, hz⟩ : ∃ z, itFlag.out s = z := ⟨_, rfl⟩
  rw [hz] at S1 HF
  obtain ⟨PO, hPO⟩ : ∃ PO, PartPost S B M base w (partS 3 s) (partM 3 s m) = PO := ⟨_, rfl⟩
  obtain ⟨s2, hs2⟩ : ∃ t, partS 3 s = t := ⟨_, rfl⟩
  rw [hPO] at HF ⊢
  rw [hs2] at S1 HF
  unfold rdV at *
  clear h hM hb0 e hz hPO hs2
  go_enter Try.func33, Try.ntmps33
  go_wp2_with fail
  refine S1.out.mono ?_
  rintro e w1 hr
  obtain rfl := hr.1
  obtain ⟨hm, hp⟩ := HF.out w1 hr
  have HP := Lib.hid hp
  have g0 := blk_froz hm 4
  obtain ⟨m0, m1, m2, m3, m4, m5⟩ := hm.cells
  clear hr hm hp
  go_wp2
  refine bodyPost_end (results_none rfl _ _ _) rfl ?_
  exact HP.out
set_option maxHeartbeats 8000000 in
theorem part_4 (S : Nat → Prop) (B M base : Nat) (s : St) (x : Mi) (m : Ms) (w : World) (h : RdAt S w B s) (hM : MgIs w M base x m) (hBM : B ≠ M) (hMb : M < base) (hBb : B < base) (hSM : S M) (hbw : base ≤ w.heap.size) :
    Calls Try.prog 33 #[rdV B, .pointer (some ⟨M, 0, none⟩), .int .i64 4] w (PartPost S B M base w (partS 4 s) (partM 4 s m)) := by
  have hb0 : Below w.heap.size w (w.alloc (.cells #[.pointer (some ⟨B, 0, none⟩)] 73)) := below1 _ _
  have S1 := Lib.hid (list_any S B s _ (h.below hb0))
  have e : partS 4 s = upsNext ((itNum 16).out s) ((itNum 16).next s) := rfl
  have e2 : partM 4 s m = { m with us := upsOut ((itNum 16).out s) ((itNum 16).next s) } := rfl
  rw [← e] at S1
  obtain ⟨l, hl⟩ : ∃ l, upsOut ((itNum 16).out s) ((itNum 16).next s) = l := ⟨_, rfl⟩
  rw [hl] at S1 e2
  have HF : Hid (∀ w1 A c, (UsOk w1 ⟨A, c, l⟩ ∧ (∀ b off, A = some ⟨b, off, none⟩ → (w.alloc (.cells #[.pointer (some ⟨B, 0, none⟩)] 73)).heap.size ≤ b) ∧ TyU w1 ⟨A, c, l⟩) → RdAt S w1 B (partS 4 s) → But (fun k => k = B) (w.alloc (.cells #[.pointer (some ⟨B, 0, none⟩)] 73)) w1 → MiB w1 M x ∧ PartPost S B M base w (partS 4 s) (partM 4 s m) (.returned (.tuple #[])) (w1.setCell ⟨M, 5, none⟩ (.slice A l.length c))) := Lib.hid (fun w1 A c h1 h2 h3 => by
    have h4 : But (fun k => k = B) w w1 := (But.of_below hb0).trans h3
    have h5 := hM.but h4 (fun e => hBM e.symm) (fun k hk e => by omega)
    refine ⟨h5.at_, part_fin (x := x) (x' := { x with us := ⟨A, c, l⟩ }) h2 (block_set h5.at_ 5 _) ?_ h1.1 h1.2.2 (fun b off e => by have := h1.2.1 b off e; rw [World.size_alloc] at this; omega) h4 hBM hMb hSM⟩
    rw [e2, ← h5.m]
    rfl)
  obtain ⟨PO, hPO⟩ : ∃ PO, PartPost S B M base w (partS 4 s) (partM 4 s m) = PO := ⟨_, rfl⟩
  obtain ⟨s2, hs2⟩ : ∃ t, partS 4 s = t := ⟨_, rfl⟩
  rw [hPO] at HF ⊢
  rw [hs2] at S1 HF
  unfold rdV at *
  clear h hM hb0 e e2 hl hPO hs2
  go_enter Try.func33, Try.ntmps33
  go_wp2_with fail
  refine S1.out.mono ?_
  rintro e w1 ⟨A, c, rfl, h1, h2, h3⟩
  obtain ⟨hm, hp⟩ := HF.out w1 A c h1 h2 h3
  have HP := Lib.hid hp
  have g0 := blk_froz hm 5
  obtain ⟨m0, m1, m2, m3, m4, m5⟩ := hm.cells
  clear hm hp h1 h2 h3
  go_wp2
  refine bodyPost_end (results_none rfl _ _ _) rfl ?_
  exact HP.out
theorem part_any (S : Nat → Prop) (B M base : Nat) (s : St) (x : Mi) (m : Ms) (p : Nat) (hp : p < 5) (w : World) (h : RdAt S w B s) (hM : MgIs w M base x m) (hBM : B ≠ M) (hMb : M < base) (hBb : B < base) (hSM : S M) (hbw : base ≤ w.heap.size) :
    Calls Try.prog 33 #[rdV B, .pointer (some ⟨M, 0, none⟩), .int .i64 (p : Int)] w (PartPost S B M base w (partS p s) (partM p s m)) := by
  match p, hp with
  | 0, _ => exact part_0 S B M base s x m w h hM hBM hMb hBb hSM
  | 1, _ => exact part_1 S B M base s x m w h hM hBM hMb hBb hSM
  | 2, _ => exact part_2 S B M base s x m w h hM hBM hMb hBb hSM
  | 3, _ => exact part_3 S B M base s x m w h hM hBM hMb hBb hSM
  | 4, _ => exact part_4 S B M base s x m w h hM hBM hMb hBb hSM hbw
end Go.Proofs.Ytjbemjnofnifaaa

/-
  Reading a message part by part (layer 13): the parts in their order are the document's reading. Plain.
-/
namespace Go.Proofs.Ytjbemjnofnifaaa
set_option linter.unusedSimpArgs false

def stepP (a : St × Ms) (p : Int) : St × Ms := (partS p.toNat a.1, partM p.toNat a.1 a.2)
def startM (k : Int) : Ms := ⟨k, 0, 0, 0, false, []⟩
theorem fold_parts (k : Int) (h1 : 1 ≤ k) (h6 : k ≤ 6) (s : St) : (partsL k).foldl stepP (s, startM k) = (rS6 k s, rM k s) := by
  by_cases c1 : k = 1
  · subst c1; simp [partsL, stepP, startM, partS, partM, rS6, rM, rS5, rS4, rS3, rS2, rS1]
  by_cases c2 : k = 2
  · subst c2; simp [partsL, stepP, startM, partS, partM, rS6, rM, rS5, rS4, rS3, rS2, rS1]
  by_cases c3 : k = 3
  · subst c3; simp [partsL, stepP, startM, partS, partM, rS6, rM, rS5, rS4, rS3, rS2, rS1]
  by_cases c4 : k = 4
  · subst c4; simp [partsL, stepP, startM, partS, partM, rS6, rM, rS5, rS4, rS3, rS2, rS1]
  by_cases c5 : k = 5
  · subst c5; simp [partsL, stepP, startM, partS, partM, rS6, rM, rS5, rS4, rS3, rS2, rS1, rN]
  by_cases c6 : k = 6
  · subst c6; simp [partsL, stepP, startM, partS, partM, rS6, rM, rS5, rS4, rS3, rS2, rS1, rN]
  exact absurd h1 (by omega)
/-- As far as the first j parts. -/
def uptoP (k : Int) (s : St) (j : Nat) : St × Ms := ((partsL k).take j).foldl stepP (s, startM k)
theorem uptoP_snoc {k : Int} {s : St} {j : Nat} (hj : j < (partsL k).length) {p : Nat} (hp : (partsL k)[j] = (p : Int)) : uptoP k s (j + 1) = (partS p (uptoP k s j).1, partM p (uptoP k s j).1 (uptoP k s j).2) := by
  unfold uptoP
  rw [List.take_succ_eq_append_getElem hj, List.foldl_append, hp]
  rfl
theorem uptoP_all {k : Int} (h1 : 1 ≤ k) (h6 : k ≤ 6) (s : St) {j : Nat} (hj : (partsL k).length ≤ j) : uptoP k s j = (rS6 k s, rM k s) := by
  unfold uptoP
  rw [List.take_of_length_le hj]
  exact fold_parts k h1 h6 s
end Go.Proofs.Ytjbemjnofnifaaa
