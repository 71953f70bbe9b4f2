/-
  lay: an entry put into the table, walked (layer 16).
-/
import Derived.Test.YtohnkagabpefdaaDoorZj31
import Derived.Test.YtohnkagabpefdaaDoorZj32
namespace Go.Proofs.YtohnkagabpefdaaDoor
open Go.RowKit Go.Rel
set_option linter.unusedSimpArgs false
set_option linter.unusedVariables false

/-- The row that Put tells, and its error. -/
def rowP (t : Tb Kp) (k : ByteArray) (v : Kp) (i : Nat) : En := if t.fullB k then noEn else t.row k v i
theorem putV_eq (t : Tb Kp) (k : ByteArray) (v : Kp) (i : Nat) : Kt.putV t k v i = .tuple #[Kt.trV (rowP t k v i), .int .i64 ((putK t k v i).1 : Int)] := by
  unfold Kt.putV rowP putK
  split <;> rfl
theorem putT_eq (t : Tb Kp) (k : ByteArray) (v : Kp) (i : Nat) : t.putT k v i = (putK t k v i).2 := by
  unfold Tb.putT putK
  split <;> rfl
def layE (B : Nat) (Bt : Nat) (Y : Nat) (e0 : En) (i : Nat) (r : En) (er : Nat) : Nat → Value
  | 0 | 1 | 2 => .pointer (some ⟨B, 0, none⟩)
  | 3 => .pointer (some ⟨Bt, 0, none⟩)
  | 4 => .pointer (some ⟨Y, 0, none⟩)
  | 5 => .string e0.key
  | 6 => .pointer (some ⟨Y, 1, none⟩)
  | 7 => .string e0.val.v
  | 8 => .pointer (some ⟨Y, 2, none⟩)
  | 9 => .int .u64 (e0.val.ses : Int)
  | 10 => .pointer (some ⟨Y, 3, none⟩)
  | 11 => .int .u64 (e0.val.lck : Int)
  | 12 => .agg #[.string e0.val.v, .int .u64 (e0.val.ses : Int), .int .u64 (e0.val.lck : Int)]
  | 13 => .int .u64 (i : Int)
  | 14 | 15 => .tuple #[.agg #[.string r.key, .string r.val.v, .int .u64 (r.val.ses : Int), .int .u64 (r.val.lck : Int), .int .u64 (r.made : Int), .int .u64 (r.ix : Int)], .int .i64 (er : Int)]
  | 16 => .agg #[.string r.key, .string r.val.v, .int .u64 (r.val.ses : Int), .int .u64 (r.val.lck : Int), .int .u64 (r.made : Int), .int .u64 (r.ix : Int)]
  | 17 | 20 => .int .i64 (er : Int)
  | _ => undef
set_option maxHeartbeats 4000000 in
set_option maxRecDepth 100000 in
theorem lay_any {S : Nat → Prop} {w : World} {B Bt : Nat} {t : Tb Kp} (e0 : En) (i : Nat) (h : KvAt S w B Bt t) (hi : i < 18446744073709551616) (hk : e0.key.size ≤ maxLen) (hok : KvOk (putK t e0.key e0.val i).2) :
    Calls Tryd.prog 24 #[.pointer (some ⟨B, 0, none⟩), enV e0, .int .u64 (i : Int)] w fun e w' => e = .returned (.int .i64 ((putK t e0.key e0.val i).1 : Int)) ∧ KvAt (fun k => S k ∨ w.heap.size ≤ k) w' B Bt (putK t e0.key e0.val i).2 ∧ But (· = Bt) w w' := by
  obtain ⟨Y, hY⟩ : ∃ Y, w.heap.size = Y := ⟨_, rfl⟩
  obtain ⟨W1, hW1⟩ : ∃ W1, w.alloc (.cells #[.string e0.key, .string e0.val.v, .int .u64 (e0.val.ses : Int), .int .u64 (e0.val.lck : Int), .int .u64 (e0.made : Int), .int .u64 (e0.ix : Int)] TEn) = W1 := ⟨_, rfl⟩
  have hb1 : Below w.heap.size w W1 := by rw [← hW1]; exact below1 _ _ _
  have HKy : Hid (W1.heap[Y]? = some (.cells #[.string e0.key, .string e0.val.v, .int .u64 (e0.val.ses : Int), .int .u64 (e0.val.lck : Int), .int .u64 (e0.made : Int), .int .u64 (e0.ix : Int)] TEn (0, 0))) := Lib.hid (by rw [← hW1, ← hY]; exact heap_alloc_new w _)
  obtain ⟨hk0, hm, kb, ht⟩ := h
  have hlb := block_lt kb
  obtain ⟨S0, hS0⟩ : ∃ S0 : Nat → Prop, S0 = fun k => (S k ∧ k ≠ B) ∧ k < w.heap.size := ⟨_, rfl⟩
  have ht0 : Kt.TAt S0 w Bt t := ht.narrow fun k hk z => by rw [hS0]; exact ⟨z, hk⟩
  have ht1 := ht0.below hb1
  have HKb := Lib.hid ((hb1.block B hlb).trans kb)
  obtain ⟨r, hr⟩ : ∃ r, rowP t e0.key e0.val i = r := ⟨_, rfl⟩
  obtain ⟨er, her⟩ : ∃ er, (putK t e0.key e0.val i).1 = er := ⟨_, rfl⟩
  have HPut := Lib.hid (fun W (hw : Below W1.heap.size W1 W) => (by
    have := Kt.put_any e0.key e0.val i (ht1.below hw) hi hk
    rw [putV_eq, putT_eq, hr, her] at this
    exact this : Calls Tryd.prog 52 #[.pointer (some ⟨Bt, 0, none⟩), .string e0.key, .agg #[.string e0.val.v, .int .u64 (e0.val.ses : Int), .int .u64 (e0.val.lck : Int)], .int .u64 (i : Int)] W fun e w' => e = .returned (.tuple #[Kt.trV r, .int .i64 (er : Int)]) ∧ Kt.TAt (fun k => S0 k ∨ W.heap.size ≤ k) w' Bt (putK t e0.key e0.val i).2 ∧ But (· = Bt) W w'))
  have HS0 : Hid (∀ k, S0 k → k < W1.heap.size) := Lib.hid fun k hk => by rw [hS0] at hk; exact Nat.lt_of_lt_of_le hk.2 hb1.size
  have HMi : Hid (S0 Bt) := Lib.hid ht0.mine
  have HS : Hid (∀ k, S0 k → (S k ∧ k ≠ B) ∧ k < w.heap.size) := Lib.hid fun k hk => by rw [hS0] at hk; exact hk
  have HB1 := Lib.hid hb1
  have HW1 := Lib.hid hW1
  have HY := Lib.hid hY
  have HOk := Lib.hid hok
  have HM := Lib.hid hm
  have HLb := Lib.hid hlb
  rw [her]
  unfold enV Kt.trV at *
  clear hY hW1 hb1 hk0 hm kb ht hS0 ht0 ht1 hr her hok hi hk hlb
  go_enter Tryd.func24, Tryd.ntmps24
  go_wp2_with fail
  rw [HW1.out, HY.out]
  clear HW1
  have hre : ∀ w : World, ((fun _ _ : World => True)) w w := (fun _ => trivial)
  have hrd : ∀ (ops9 : Array Oper) (f9 : Nat → Bool) (e9 : Nat → Value) (w9 : World) (i9 : Nat) (v9 : Value) (e8 : Nat → Value), [14, 18, 19].contains i9 = false → (AlE 14 18 19 #[.string ⟨#[]⟩, .string ⟨#[]⟩, .int .u64 0, .int .u64 0, .int .u64 0, .int .u64 0] #[.string r.key, .string r.val.v, .int .u64 (r.val.ses : Int), .int .u64 (r.val.lck : Int), .int .u64 (r.made : Int), .int .u64 (r.ix : Int)] 70 W1 S0 (· = Bt) (fun Sx w => Kt.TAt Sx w Bt (putK t e0.key e0.val i).2)) f9 e9 w9 → Go.Rel.Put ops9 i9 e9 v9 e8 → (AlE 14 18 19 #[.string ⟨#[]⟩, .string ⟨#[]⟩, .int .u64 0, .int .u64 0, .int .u64 0, .int .u64 0] #[.string r.key, .string r.val.v, .int .u64 (r.val.ses : Int), .int .u64 (r.val.lck : Int), .int .u64 (r.made : Int), .int .u64 (r.ix : Int)] 70 W1 S0 (· = Bt) (fun Sx w => Kt.TAt Sx w Bt (putK t e0.key e0.val i).2)) (Go.Rel.upd f9 i9) e8 w9 := (fun _ _ _ _ _ _ _ hj h hp => h.keep hj hp)
  refine Go.Rel.wp_tabe (by kernel_rfl) (by kernel_rfl) (AlE 14 18 19 #[.string ⟨#[]⟩, .string ⟨#[]⟩, .int .u64 0, .int .u64 0, .int .u64 0, .int .u64 0] #[.string r.key, .string r.val.v, .int .u64 (r.val.ses : Int), .int .u64 (r.val.lck : Int), .int .u64 (r.made : Int), .int .u64 (r.ix : Int)] 70 W1 S0 (· = Bt) (fun Sx w => Kt.TAt Sx w Bt (putK t e0.key e0.val i).2)) ((fun _ _ : World => True)) hre ((fun _ _ _ _ _ => trivial)) (trivial) AlE.start (layE B Bt Y e0 i r er) (fun | 18, v, w => True | 19, v, w => True | _, _, _ => True) (fun i => ([18, 19] : List Nat).contains i) (fun i => ([3, 5, 7, 9, 11, 14, 18, 19] : List Nat).contains i) (by kernel_rfl) (fun i v w w' h g => by revert h; split <;> exact id) [14, 18, 19] (by decide) (hrd _) ?_ (Go.Rel.AllOf.get ?_) ?_
  · repeat (refine .cons (by first | exact Go.Rel.pure_sp rfl | exact Go.Rel.pure_yes (by kernel_rfl) (fun _ => by kernel_rfl) | exact Go.Rel.pure_no (by kernel_rfl) rfl) ?_)
    exact .nil
  · refine ⟨?_, ?_, ?_, ?_, ?_, ?_, ?_, ?_, trivial⟩
    · exact SpecE.ld (hrd _) hre (q := .pointer (some ⟨B, 0, none⟩)) (h := fun _ w' _ hI _ hdesc _ _ => by have cb := cellsN ((hI.ahead (hdesc 60 14 (by kernel_rfl))).block B (block_lt HKb.out) |>.trans HKb.out) 0 _ rfl; go_simp; rfl)
    · exact SpecE.ld (hrd _) hre (q := .pointer (some ⟨Y, 0, none⟩)) (h := fun _ w' _ hI _ hdesc _ _ => by obtain ⟨y0, y1, y2, y3, y4, y5⟩ := Kt.blk (((hI.ahead (hdesc 60 14 (by kernel_rfl))).block Y (block_lt HKy.out)).trans HKy.out); go_simp; rfl)
    · exact SpecE.ld (hrd _) hre (q := .pointer (some ⟨Y, 1, none⟩)) (h := fun _ w' _ hI _ hdesc _ _ => by obtain ⟨y0, y1, y2, y3, y4, y5⟩ := Kt.blk (((hI.ahead (hdesc 60 14 (by kernel_rfl))).block Y (block_lt HKy.out)).trans HKy.out); go_simp; rfl)
    · exact SpecE.ld (hrd _) hre (q := .pointer (some ⟨Y, 2, none⟩)) (h := fun _ w' _ hI _ hdesc _ _ => by obtain ⟨y0, y1, y2, y3, y4, y5⟩ := Kt.blk (((hI.ahead (hdesc 60 14 (by kernel_rfl))).block Y (block_lt HKy.out)).trans HKy.out); go_simp; rfl)
    · exact SpecE.ld (hrd _) hre (q := .pointer (some ⟨Y, 3, none⟩)) (h := fun _ w' _ hI _ hdesc _ _ => by obtain ⟨y0, y1, y2, y3, y4, y5⟩ := Kt.blk (((hI.ahead (hdesc 60 14 (by kernel_rfl))).block Y (block_lt HKy.out)).trans HKy.out); go_simp; rfl)
    · refine SpecE.gen (fun e => [(13, .pointer (some ⟨Bt, 0, none⟩)), (15, .string e0.key), (22, .agg #[.string e0.val.v, .int .u64 (e0.val.ses : Int), .int .u64 (e0.val.lck : Int)]), (23, .int .u64 (i : Int))]) rfl rfl (fun _ => by kernel_rfl) fun f w' e hI hf hdesc hanc hle hX K hK => ?_
      go_simp
      have zS : f 19 = false := hdesc 60 19 (by kernel_rfl)
      refine (HPut.out w' (hI.ahead hf)).mono ?_
      rintro e9 w9 ⟨rfl, ht9, hb9⟩
      exact hK _ _ trivial (fun e' hp => hI.call (by decide) hf zS HS0.out (fun k e => by rw [e]; exact HS0.out _ HMi.out) hb9 (ht9.narrow fun k hk hs => ⟨hs, hk⟩) hp) rfl
    · refine SpecE.gen (fun e => []) rfl rfl (fun _ => by kernel_rfl) fun f w' e hI hf hdesc hanc hle hX K hK => ?_
      have zS : f 19 = false := hdesc 60 19 (by kernel_rfl)
      go_simp
      exact hK _ _ trivial (fun e' hp => hI.alloc (by decide) zS (fun _ _ _ _ h k z => h.but k z) rfl hp) trivial
    · refine SpecE.gen (fun e => [(7, e 18), (25, .agg #[.string r.key, .string r.val.v, .int .u64 (r.val.ses : Int), .int .u64 (r.val.lck : Int), .int .u64 (r.made : Int), .int .u64 (r.ix : Int)])]) rfl rfl (fun _ => by kernel_rfl) fun f w' e hI hf hdesc hanc hle hX K hK => ?_
      have zA : f 18 = true := hanc 60 18 (by kernel_rfl)
      have zC : f 14 = true := hanc 60 14 (by kernel_rfl)
      obtain ⟨Z, k1, k2, k3⟩ := hI.laid zA hf
      simp only [k1]
      obtain ⟨d0, d1, d2, d3, d4, d5⟩ := Kt.blk k3
      have z0 := blk_froz k3 0
      have z1 := blk_froz k3 1
      have z2 := blk_froz k3 2
      have z3 := blk_froz k3 3
      have z4 := blk_froz k3 4
      have z5 := blk_froz k3 5
      have hzl := block_lt k3
      go_simp
      exact hK undef _ trivial (fun e' hp => hI.store (by decide) zA zC (fun _ _ _ _ h k z => h.but k z) k1 k2 ⟨but_setL Z [.string r.key, .string r.val.v, .int .u64 (r.val.ses : Int), .int .u64 (r.val.lck : Int), .int .u64 (r.made : Int), .int .u64 (r.ix : Int)] 0 w', setL_all k3 [.string r.key, .string r.val.v, .int .u64 (r.val.ses : Int), .int .u64 (r.val.lck : Int), .int .u64 (r.made : Int), .int .u64 (r.ix : Int)] rfl⟩ hp) trivial
  · intro f w2 e hall hJ hle hv
    have HJ := Lib.hid (hJ.done_ (hall 14 (by decide)))
    have v8 := hv 20 rfl
    simp only [Go.Rel.finL, List.setIfInBounds_toArray, List.set_cons_succ, List.set_cons_zero]
    rw [show e 20 = .int .i64 (er : Int) from v8]
    clear hv hall hle hJ v8
    go_wp2
    go_ret
    obtain ⟨Sx, h1, h2, h3, _⟩ := HJ.out
    refine ⟨rfl, ⟨HOk.out, .inl HM.out, (h3.block B (block_lt HKb.out) fun e => (HS.out Bt HMi.out).1.2 e.symm).trans HKb.out, h1.narrow fun k _ z => ?_⟩, (But.of_below HB1.out).trans h3⟩
    rcases (h2 k z).2 with z | z
    · exact ⟨.inl (HS.out k z).1.1, (HS.out k z).1.2⟩
    · have := HB1.out.size
      have := HLb.out
      exact ⟨.inr (by omega), by omega⟩
end Go.Proofs.YtohnkagabpefdaaDoor
