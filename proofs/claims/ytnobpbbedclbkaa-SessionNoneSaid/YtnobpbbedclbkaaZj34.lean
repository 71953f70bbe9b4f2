/-
  Open, walked (layer 18).
-/
import Derived.Test.YtnobpbbedclbkaaZj30
import Derived.Test.YtnobpbbedclbkaaZj33
namespace Go.Proofs.Ytnobpbbedclbkaa
open Go.RowKit Go.Rel
set_option linter.unusedSimpArgs false
set_option linter.unusedVariables false

def sopE (B : Nat) (Bt : Nat) (i : Nat) (k : ByteArray) (r : Rw Int) (b : Bool) : Nat → Value
  | 0 | 1 | 2 => .pointer (some ⟨B, 0, none⟩)
  | 3 => .pointer (some ⟨Bt, 0, none⟩)
  | 4 => .int .u64 (i : Int)
  | 5 => .string k
  | 6 | 7 => .tuple #[.agg #[.string r.key, .int .i64 r.val, .int .u64 (r.made : Int), .int .u64 (r.ix : Int)], .bool b]
  | 8 => .agg #[.string r.key, .int .i64 r.val, .int .u64 (r.made : Int), .int .u64 (r.ix : Int)]
  | 9 | 12 => .bool b
  | _ => undef
def spuE (B : Nat) (Bt : Nat) (i : Nat) (k : ByteArray) (r : Rw Int) (er : Nat) (node : Int) : Nat → Value
  | 0 | 1 | 2 => .pointer (some ⟨B, 0, none⟩)
  | 3 => .pointer (some ⟨Bt, 0, none⟩)
  | 4 | 7 => .int .u64 (i : Int)
  | 5 => .string k
  | 6 => .int .i64 node
  | 8 | 9 => .tuple #[.agg #[.string r.key, .int .i64 r.val, .int .u64 (r.made : Int), .int .u64 (r.ix : Int)], .int .i64 (er : Int)]
  | 10 => .agg #[.string r.key, .int .i64 r.val, .int .u64 (r.made : Int), .int .u64 (r.ix : Int)]
  | 11 | 14 => .int .i64 (er : Int)
  | _ => undef
section
variable {S : Nat → Prop} {w : World} {B Bt : Nat} {t : Sm}
theorem sopen_no {p : Option Addr} (node : Int) (i : Nat) (h : NoS w p) : Calls Try.prog 9 #[.pointer p, .int .i64 node, .int .u64 (i : Int)] w fun e w' => e = .returned (.tuple #[.int .u64 0, .int .i64 1]) ∧ Below w.heap.size w w' := by
  have HT := Lib.hid (table_no h)
  clear h
  go_enter Try.func9, Try.ntmps9
  go_wp2_with fail
  refine HT.out.mono ?_
  rintro e w' ⟨rfl, rfl⟩
  go_wp2
  go_ret2
  exact ⟨rfl, Below.refl _ _⟩
theorem sopen_bad (node : Int) (i : Nat) (h : SAt S w B Bt t) (hb : nodeB node = false ∨ i = 0) : Calls Try.prog 9 #[.pointer (some ⟨B, 0, none⟩), .int .i64 node, .int .u64 (i : Int)] w fun e w' => e = .returned (.tuple #[.int .u64 0, .int .i64 2]) ∧ w = w' := by
  have HT := Lib.hid (table_is h.ptr)
  clear h
  by_cases h1 : node < 0
  · clear hb
    go_enter Try.func9, Try.ntmps9
    go_wp2_with fail
    refine HT.out.mono ?_
    rintro e w' ⟨rfl, rfl⟩
    go_wp2
    go_ret2
    exact ⟨rfl, rfl⟩
  · by_cases h2 : 8 ≤ node
    · clear hb
      go_enter Try.func9, Try.ntmps9
      go_wp2_with fail
      refine HT.out.mono ?_
      rintro e w' ⟨rfl, rfl⟩
      go_wp2
      go_ret2
      exact ⟨rfl, rfl⟩
    · obtain rfl : i = 0 := by
        rcases hb with hb | hb
        · unfold nodeB at hb
          rw [decide_eq_true (by omega : 0 ≤ node), decide_eq_true (by omega : node ≤ 7)] at hb
          cases hb
        · exact hb
      clear hb
      have q0 : (((0 : Nat) : Int) == 0) = true := rfl
      go_enter Try.func9, Try.ntmps9
      go_wp2_with fail
      refine HT.out.mono ?_
      rintro e w' ⟨rfl, rfl⟩
      go_wp2
      go_ret2
      exact ⟨rfl, rfl⟩
set_option maxHeartbeats 8000000 in
set_option maxRecDepth 100000 in
theorem sopen_any (node : Int) (i : Nat) (h : SAt S w B Bt t) (hi : i < 18446744073709551616) : Calls Try.prog 9 #[.pointer (some ⟨B, 0, none⟩), .int .i64 node, .int .u64 (i : Int)] w fun e w' => e = .returned (.tuple #[.int .u64 ((t.openS node i).1.1 : Int), .int .i64 ((t.openS node i).1.2 : Int)]) ∧ SAt (fun k => S k ∨ w.heap.size ≤ k) w' B Bt (t.openS node i).2 ∧ But (· = Bt) w w' := by
  by_cases hbad : nodeB node = false ∨ i = 0
  · refine (sopen_bad node i h hbad).mono ?_
    rintro e w' ⟨rfl, rfl⟩
    have e1 : t.openS node i = ((0, 2), t) := by unfold Ls.openS; rw [if_pos hbad]
    rw [e1]
    exact ⟨rfl, h.wide (Below.refl _ _), But.refl _ _⟩
  · have hnb : nodeB node = true := by
      cases e : nodeB node with
      | true => rfl
      | false => exact absurd (.inl e) hbad
    have hi0 : i ≠ 0 := fun e => hbad (.inr e)
    have hn0 : ¬ node < 0 ∧ ¬ 8 ≤ node := by
      unfold nodeB at hnb
      simp only [Bool.and_eq_true, decide_eq_true_eq] at hnb
      omega
    have q0 : ((i : Int) == 0) = false := by rw [beq_eq_false_iff_ne]; omega
    have HAt := Lib.hid h
    have HT := Lib.hid (table_is h.ptr)
    obtain ⟨hm, kb, T, hr, ht⟩ := h
    have hlb := block_lt kb
    obtain ⟨k, hk⟩ : ∃ k, keyS digH i = k := ⟨_, rfl⟩
    have HKey := Lib.hid (fun W => key_any i W hi)
    have hks : k.size ≤ maxLen := by rw [← hk, keyS_size]; unfold maxLen; omega
    have hget := hr.get digH_lt hi
    have hput := fun hg => hr.put digH_lt (v := node) hi hnb hi0 hg
    rw [hk] at HKey hget hput
    have hop : getS t.l i = none → t.openS node i = if t.most ≤ t.l.length then ((0, 5), t) else ((i, 0), Ls.raise { t with l := insS (newS node i) t.l } i) := fun e => by unfold Ls.openS; rw [if_neg hbad, e]
    obtain ⟨r, b, hg, hb1, hb2⟩ : ∃ (r : Rw Int) (b : Bool), Sx.gotR (getR T.l k) = .tuple #[Sx.trV r, .bool b] ∧ (b = true → t.openS node i = ((0, 20), t)) ∧ (b = false → getS t.l i = none) := by
      rw [← hget]
      cases e : getR T.l k with
      | none => exact ⟨Sx.noRw, false, rfl, (fun z => by cases z), fun _ => rfl⟩
      | some r =>
        refine ⟨r, true, rfl, fun _ => ?_, (fun z => by cases z)⟩
        rw [e] at hget
        unfold Ls.openS
        rw [if_neg hbad, ← hget]
        rfl
    have HB1 := Lib.hid hb1
    have HB2 := Lib.hid hb2
    have HPt := Lib.hid hput
    have HGet := Lib.hid (fun W (hw : Below w.heap.size w W) => (by
      have := Sx.get_any k (ht.below hw)
      rw [hg] at this
      exact this : Calls Try.prog 27 #[.pointer (some ⟨Bt, 0, none⟩), .string k] W fun e w' => e = .returned (.tuple #[Sx.trV r, .bool b]) ∧ Below W.heap.size W w'))
    have HKb := Lib.hid kb
    have HTt := Lib.hid ht
    have HM := Lib.hid hm
    have HLb := Lib.hid hlb
    have HI := Lib.hid hi
    have HKs := Lib.hid hks
    have HR := Lib.hid hr
    have hn1 := hn0.1
    have hn2 := hn0.2
    unfold Sx.trV at HGet
    clear hop hbad hnb hi0 hn0 hm kb hr ht hlb hk hks hget hput hg hb1 hb2 hi
    go_enter Try.func9, Try.ntmps9
    go_wp2_with fail
    refine HT.out.mono ?_
    rintro e w' ⟨rfl, rfl⟩
    go_wp2_with fail
    have hre : ∀ w : World, ((fun _ _ : World => True)) w w := (fun _ => trivial)
    have hrd : ∀ (ops9 : Array Oper) (f9 : Nat → Bool) (e9 : Nat → Value) (w9 : World) (i9 : Nat) (v9 : Value) (e8 : Nat → Value), [6, 10, 11].contains i9 = false → (AlE 6 10 11 #[.string ⟨#[]⟩, .int .i64 0, .int .u64 0, .int .u64 0] #[.string r.key, .int .i64 r.val, .int .u64 (r.made : Int), .int .u64 (r.ix : Int)] 65 w (fun _ => False) (fun _ => False) (fun _ _ => True)) f9 e9 w9 → Go.Rel.Put ops9 i9 e9 v9 e8 → (AlE 6 10 11 #[.string ⟨#[]⟩, .int .i64 0, .int .u64 0, .int .u64 0] #[.string r.key, .int .i64 r.val, .int .u64 (r.made : Int), .int .u64 (r.ix : Int)] 65 w (fun _ => False) (fun _ => False) (fun _ _ => True)) (Go.Rel.upd f9 i9) e8 w9 := (fun _ _ _ _ _ _ _ hj h hp => h.keep hj hp)
    refine Go.Rel.wp_tabe (by kernel_rfl) (by kernel_rfl) (AlE 6 10 11 #[.string ⟨#[]⟩, .int .i64 0, .int .u64 0, .int .u64 0] #[.string r.key, .int .i64 r.val, .int .u64 (r.made : Int), .int .u64 (r.ix : Int)] 65 w (fun _ => False) (fun _ => False) (fun _ _ => True)) ((fun _ _ : World => True)) hre ((fun _ _ _ _ _ => trivial)) (trivial) AlE.start (sopE B Bt i k r b) (fun | 10, v, w => True | 11, v, w => True | _, _, _ => True) (fun i => ([10, 11] : List Nat).contains i) (fun i => ([3, 5, 6, 10, 11] : List Nat).contains i) (by kernel_rfl) (fun i v w w' h g => by revert h; split <;> exact id) [6, 10, 11] (by decide) (hrd _) ?_ (Go.Rel.AllOf.get ?_) ?_
    · repeat (refine .cons (by first | exact Go.Rel.pure_sp rfl | exact Go.Rel.pure_yes (by kernel_rfl) (fun _ => by kernel_rfl) | exact Go.Rel.pure_no (by kernel_rfl) rfl) ?_)
      exact .nil
    · refine ⟨?_, ?_, ?_, ?_, ?_, trivial⟩
      · exact SpecE.ld (hrd _) hre (q := .pointer (some ⟨B, 0, none⟩)) (h := fun _ w' _ hI _ hdesc _ _ => by have cb := cellsN ((hI.ahead (hdesc 60 6 (by kernel_rfl))).block B (block_lt HKb.out) |>.trans HKb.out) 0 _ rfl; go_simp; rfl)
      · refine SpecE.gen (fun e => [(30, .int .u64 (i : Int))]) rfl rfl (fun _ => by kernel_rfl) fun f w' e hI hf hdesc hanc hle hX K hK => ?_
        go_simp
        have zC : f 6 = false := hdesc 60 6 (by kernel_rfl)
        refine (HKey.out w').mono ?_
        rintro e9 w9 ⟨rfl, hb9⟩
        exact hK _ _ trivial (fun e' hp => hI.quiet (by decide) zC hb9 hp) rfl
      · refine SpecE.gen (fun e => [(29, .pointer (some ⟨Bt, 0, none⟩)), (31, .string k)]) rfl rfl (fun _ => by kernel_rfl) fun f w' e hI hf hdesc hanc hle hX K hK => ?_
        go_simp
        have zS : f 11 = false := hdesc 60 11 (by kernel_rfl)
        refine (HGet.out w' (hI.ahead hf)).mono ?_
        rintro e9 w9 ⟨rfl, hb9⟩
        exact hK _ _ trivial (fun e' hp => hI.call (by decide) hf zS (fun _ z => z.elim) (fun _ z => z.elim) (But.of_below hb9) trivial hp) rfl
      · refine SpecE.gen (fun e => []) rfl rfl (fun _ => by kernel_rfl) fun f w' e hI hf hdesc hanc hle hX K hK => ?_
        have zS : f 11 = false := hdesc 60 11 (by kernel_rfl)
        go_simp
        exact hK _ _ trivial (fun e' hp => hI.alloc (by decide) zS (fun _ _ _ _ _ _ _ => trivial) rfl hp) trivial
      · refine SpecE.gen (fun e => [(8, e 10), (33, .agg #[.string r.key, .int .i64 r.val, .int .u64 (r.made : Int), .int .u64 (r.ix : Int)])]) rfl rfl (fun _ => by kernel_rfl) fun f w' e hI hf hdesc hanc hle hX K hK => ?_
        have zA : f 10 = true := hanc 60 10 (by kernel_rfl)
        have zC : f 6 = true := hanc 60 6 (by kernel_rfl)
        obtain ⟨Z, k1, k2, k3⟩ := hI.laid zA hf
        simp only [k1]
        obtain ⟨d0, d1, d2, d3⟩ := Sx.blk k3
        have z0 := blk_froz k3 0
        have z1 := blk_froz k3 1
        have z2 := blk_froz k3 2
        have z3 := blk_froz k3 3
        have hzl := block_lt k3
        go_simp
        exact hK undef _ trivial (fun e' hp => hI.store (by decide) zA zC (fun _ _ _ _ _ _ _ => trivial) k1 k2 ⟨but_setL Z [.string r.key, .int .i64 r.val, .int .u64 (r.made : Int), .int .u64 (r.ix : Int)] 0 w', setL_all k3 [.string r.key, .int .i64 r.val, .int .u64 (r.made : Int), .int .u64 (r.ix : Int)] rfl⟩ hp) trivial
    · intro f w2 e hall hJ hle hv
      obtain ⟨_, _, _, hbw, _⟩ := hJ.done_ (hall 6 (by decide))
      obtain ⟨Z, k1, k2, k3⟩ := hJ.fin (hall 11 (by decide))
      have v8 := hv 12 rfl
      have HBw := Lib.hid (hbw.below (Nat.le_refl _) (fun _ _ z => z.elim))
      simp only [Go.Rel.finL, List.setIfInBounds_toArray, List.set_cons_succ, List.set_cons_zero]
      rw [show e 12 = .bool b from v8, k1]
      clear hv hall hle hJ v8 k1 k2 k3 hbw HGet HT
      cases b with
      | true =>
        have HO := Lib.hid (HB1.out rfl)
        clear HPt HB1 HB2
        go_wp2
        go_ret2
        rw [HO.out]
        exact ⟨rfl, HAt.out.wide HBw.out, But.of_below HBw.out⟩
      | false =>
        have hgs := HB2.out rfl
        obtain ⟨t', ht'⟩ : ∃ t', (t.openS node i).2 = t' := ⟨_, rfl⟩
        obtain ⟨nn, hnn⟩ : ∃ nn, (t.openS node i).1.1 = nn := ⟨_, rfl⟩
        obtain ⟨er, her⟩ : ∃ er, (t.openS node i).1.2 = er := ⟨_, rfl⟩
        obtain ⟨r2, T', hpv, hpt, hrel, hen⟩ : ∃ (r2 : Rw Int) (T' : Tb Int), Sx.putV T k node i = .tuple #[Sx.trV r2, .int .i64 (er : Int)] ∧ T.putT k node i = T' ∧ SsRel digH (fun v : Int => v) T' t' ∧ ((er = 5 ∧ nn = 0) ∨ (er = 0 ∧ nn = i)) := by
          rcases HPt.out hgs with ⟨e1, e2⟩ | ⟨e1, e2, e3⟩
          · refine ⟨Sx.noRw, T, ?_, ?_, ?_, .inl ?_⟩
            · unfold Sx.putV
              rw [if_pos e1, ← her, e2]
              rfl
            · unfold Tb.putT
              rw [if_pos e1]
            · rw [← ht', e2]; exact HR.out
            · rw [← her, ← hnn, e2]; exact ⟨rfl, rfl⟩
          · refine ⟨T.row k node i, T.put k node i, ?_, ?_, ?_, .inr ?_⟩
            · unfold Sx.putV
              rw [if_neg (by rw [e1]; simp), ← her, e2]
              rfl
            · unfold Tb.putT
              rw [if_neg (by rw [e1]; simp)]
            · rw [← ht']; exact e3
            · rw [← her, ← hnn, e2]; exact ⟨rfl, rfl⟩
        obtain ⟨S0, hS0⟩ : ∃ S0 : Nat → Prop, S0 = fun k => (S k ∧ k ≠ B) ∧ k < w.heap.size := ⟨_, rfl⟩
        obtain ⟨W1, hW1⟩ : ∃ W1, w2 = W1 := ⟨_, rfl⟩
        rw [hW1] at HBw ⊢
        have ht0 : Sx.TAt S0 w Bt T := HTt.out.narrow fun k hk z => by rw [hS0]; exact ⟨z, hk⟩
        have ht1 := ht0.below HBw.out
        have HKb1 := Lib.hid ((HBw.out.block B HLb.out).trans HKb.out)
        have HPut := Lib.hid (fun W (hw : Below W1.heap.size W1 W) => (by
          have := Sx.put_any k node i (ht1.below hw) HI.out HKs.out
          rw [hpv, hpt] at this
          exact this : Calls Try.prog 29 #[.pointer (some ⟨Bt, 0, none⟩), .string k, .int .i64 node, .int .u64 (i : Int)] W fun e w' => e = .returned (.tuple #[Sx.trV r2, .int .i64 (er : Int)]) ∧ Sx.TAt (fun k => S0 k ∨ W.heap.size ≤ k) w' Bt T' ∧ But (· = Bt) W w'))
        have HS0 : Hid (∀ k, S0 k → k < W1.heap.size) := Lib.hid fun k hk => by rw [hS0] at hk; exact Nat.lt_of_lt_of_le hk.2 HBw.out.size
        have HMi : Hid (S0 Bt) := Lib.hid ht0.mine
        have HS : Hid (∀ k, S0 k → (S k ∧ k ≠ B) ∧ k < w.heap.size) := Lib.hid fun k hk => by rw [hS0] at hk; exact hk
        have HRel := Lib.hid hrel
        have HEn := Lib.hid hen
        have HO : Hid (t.openS node i = ((nn, er), t')) := Lib.hid (by rw [← hnn, ← her, ← ht'])
        unfold Sx.trV at HPut
        clear hgs ht' hnn her hpv hpt hrel hen hS0 hW1 ht0 ht1 HPt HR HTt HB1 HB2 HKb
        go_wp2_with fail
        have hre : ∀ w : World, ((fun _ _ : World => True)) w w := (fun _ => trivial)
        have hrd : ∀ (ops9 : Array Oper) (f9 : Nat → Bool) (e9 : Nat → Value) (w9 : World) (i9 : Nat) (v9 : Value) (e8 : Nat → Value), [8, 12, 13].contains i9 = false → (AlE 8 12 13 #[.string ⟨#[]⟩, .int .i64 0, .int .u64 0, .int .u64 0] #[.string r2.key, .int .i64 r2.val, .int .u64 (r2.made : Int), .int .u64 (r2.ix : Int)] 65 W1 S0 (· = Bt) (fun Sy w => Sx.TAt Sy w Bt T')) f9 e9 w9 → Go.Rel.Put ops9 i9 e9 v9 e8 → (AlE 8 12 13 #[.string ⟨#[]⟩, .int .i64 0, .int .u64 0, .int .u64 0] #[.string r2.key, .int .i64 r2.val, .int .u64 (r2.made : Int), .int .u64 (r2.ix : Int)] 65 W1 S0 (· = Bt) (fun Sy w => Sx.TAt Sy w Bt T')) (Go.Rel.upd f9 i9) e8 w9 := (fun _ _ _ _ _ _ _ hj h hp => h.keep hj hp)
        refine Go.Rel.wp_tabe (by kernel_rfl) (by kernel_rfl) (AlE 8 12 13 #[.string ⟨#[]⟩, .int .i64 0, .int .u64 0, .int .u64 0] #[.string r2.key, .int .i64 r2.val, .int .u64 (r2.made : Int), .int .u64 (r2.ix : Int)] 65 W1 S0 (· = Bt) (fun Sy w => Sx.TAt Sy w Bt T')) ((fun _ _ : World => True)) hre ((fun _ _ _ _ _ => trivial)) (trivial) AlE.start (spuE B Bt i k r2 er node) (fun | 12, v, w => True | 13, v, w => True | _, _, _ => True) (fun i => ([12, 13] : List Nat).contains i) (fun i => ([3, 5, 8, 12, 13] : List Nat).contains i) (by kernel_rfl) (fun i v w w' h g => by revert h; split <;> exact id) [8, 12, 13] (by decide) (hrd _) ?_ (Go.Rel.AllOf.get ?_) ?_
        · repeat (refine .cons (by first | exact Go.Rel.pure_sp rfl | exact Go.Rel.pure_yes (by kernel_rfl) (fun _ => by kernel_rfl) | exact Go.Rel.pure_no (by kernel_rfl) rfl) ?_)
          exact .nil
        · refine ⟨?_, ?_, ?_, ?_, ?_, trivial⟩
          · exact SpecE.ld (hrd _) hre (q := .pointer (some ⟨B, 0, none⟩)) (h := fun _ w' _ hI _ hdesc _ _ => by have cb := cellsN ((hI.ahead (hdesc 60 8 (by kernel_rfl))).block B (block_lt HKb1.out) |>.trans HKb1.out) 0 _ rfl; go_simp; rfl)
          · refine SpecE.gen (fun e => [(41, .int .u64 (i : Int))]) rfl rfl (fun _ => by kernel_rfl) fun f w' e hI hf hdesc hanc hle hX K hK => ?_
            go_simp
            have zC : f 8 = false := hdesc 60 8 (by kernel_rfl)
            refine (HKey.out w').mono ?_
            rintro e9 w9 ⟨rfl, hb9⟩
            exact hK _ _ trivial (fun e' hp => hI.quiet (by decide) zC hb9 hp) rfl
          · refine SpecE.gen (fun e => [(40, .pointer (some ⟨Bt, 0, none⟩)), (42, .string k), (43, .int .i64 node), (44, .int .u64 (i : Int))]) rfl rfl (fun _ => by kernel_rfl) fun f w' e hI hf hdesc hanc hle hX K hK => ?_
            go_simp
            have zS : f 13 = false := hdesc 60 13 (by kernel_rfl)
            refine (HPut.out w' (hI.ahead hf)).mono ?_
            rintro e9 w9 ⟨rfl, ht9, hb9⟩
            exact hK _ _ trivial (fun e' hp => hI.call (by decide) hf zS HS0.out (fun k e => by rw [e]; exact HS0.out _ HMi.out) hb9 (ht9.narrow fun k hk hs => ⟨hs, hk⟩) hp) rfl
          · refine SpecE.gen (fun e => []) rfl rfl (fun _ => by kernel_rfl) fun f w' e hI hf hdesc hanc hle hX K hK => ?_
            have zS : f 13 = false := hdesc 60 13 (by kernel_rfl)
            go_simp
            exact hK _ _ trivial (fun e' hp => hI.alloc (by decide) zS (fun _ _ _ _ h k z => h.but k z) rfl hp) trivial
          · refine SpecE.gen (fun e => [(10, e 12), (46, .agg #[.string r2.key, .int .i64 r2.val, .int .u64 (r2.made : Int), .int .u64 (r2.ix : Int)])]) rfl rfl (fun _ => by kernel_rfl) fun f w' e hI hf hdesc hanc hle hX K hK => ?_
            have zA : f 12 = true := hanc 60 12 (by kernel_rfl)
            have zC : f 8 = true := hanc 60 8 (by kernel_rfl)
            obtain ⟨Z, k1, k2, k3⟩ := hI.laid zA hf
            simp only [k1]
            obtain ⟨d0, d1, d2, d3⟩ := Sx.blk k3
            have z0 := blk_froz k3 0
            have z1 := blk_froz k3 1
            have z2 := blk_froz k3 2
            have z3 := blk_froz k3 3
            have hzl := block_lt k3
            go_simp
            exact hK undef _ trivial (fun e' hp => hI.store (by decide) zA zC (fun _ _ _ _ h k z => h.but k z) k1 k2 ⟨but_setL Z [.string r2.key, .int .i64 r2.val, .int .u64 (r2.made : Int), .int .u64 (r2.ix : Int)] 0 w', setL_all k3 [.string r2.key, .int .i64 r2.val, .int .u64 (r2.made : Int), .int .u64 (r2.ix : Int)] rfl⟩ hp) trivial
        · intro f w3 e hall hJ hle hv
          have HJ := Lib.hid (hJ.done_ (hall 8 (by decide)))
          have v8 := hv 14 rfl
          have k1 := (hJ.fin (hall 13 (by decide)))
          obtain ⟨Z2, k1, k2, k3⟩ := k1
          simp only [Go.Rel.finL, List.setIfInBounds_toArray, List.set_cons_succ, List.set_cons_zero]
          rw [show e 14 = .int .i64 (er : Int) from v8, k1]
          have HFin : Hid (SAt (fun k => S k ∨ w.heap.size ≤ k) w3 B Bt t' ∧ But (· = Bt) w w3) := Lib.hid (by
            obtain ⟨Sy, h1, h2, h3, _⟩ := HJ.out
            refine ⟨⟨.inl HM.out, (h3.block B (block_lt HKb1.out) fun e => (HS.out Bt HMi.out).1.2 e.symm).trans HKb1.out, T', HRel.out, h1.narrow fun k _ z => ?_⟩, (But.of_below HBw.out).trans h3⟩
            rcases (h2 k z).2 with z | z
            · exact ⟨.inl (HS.out k z).1.1, (HS.out k z).1.2⟩
            · have := HBw.out.size
              have := HLb.out
              exact ⟨.inr (by omega), by omega⟩)
          clear hv hall hle hJ HJ v8 k1 k2 k3 HPut HRel
          rcases HEn.out with ⟨rfl, rfl⟩ | ⟨rfl, rfl⟩
          · go_wp2
            go_ret2
            rw [HO.out]
            exact ⟨rfl, HFin.out⟩
          · go_wp2
            go_ret2
            rw [HO.out]
            exact ⟨rfl, HFin.out⟩
end
end Go.Proofs.Ytnobpbbedclbkaa
