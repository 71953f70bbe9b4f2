/-
  lay, Add, Turn, Drop, walked (layer 17).
-/
import Derived.Test.YtmegfkclpjddgaaZj41
import Derived.Test.YtmegfkclpjddgaaZj29
import Derived.Test.YtmegfkclpjddgaaZj28
namespace Go.Proofs.Ytmegfkclpjddgaa
open Go.RowKit Go.Rel
set_option linter.unusedSimpArgs false
set_option linter.unusedVariables false

def ilyE (B : Nat) (Bt : Nat) (Y : Nat) (x : Ir) (i : Nat) (k : ByteArray) (r : Rw Rl) (er : Nat) : Nat → Value
  | 0 | 1 | 2 => .pointer (some ⟨B, 0, none⟩)
  | 3 => .pointer (some ⟨Bt, 0, none⟩)
  | 4 | 9 => .pointer (some ⟨Y, 0, none⟩)
  | 5 | 10 => .string x.src
  | 6 | 11 => .pointer (some ⟨Y, 1, none⟩)
  | 7 | 12 => .string x.dst
  | 8 => .string k
  | 13 => .pointer (some ⟨Y, 2, none⟩)
  | 14 => .bool x.allow
  | 15 => .agg #[.string x.src, .string x.dst, .bool x.allow]
  | 16 => .int .u64 (i : Int)
  | 17 | 18 => .tuple #[.agg #[.string r.key, .string r.val.src, .string r.val.dst, .bool r.val.allow, .int .u64 (r.made : Int), .int .u64 (r.ix : Int)], .int .i64 (er : Int)]
  | 19 => .agg #[.string r.key, .string r.val.src, .string r.val.dst, .bool r.val.allow, .int .u64 (r.made : Int), .int .u64 (r.ix : Int)]
  | 20 | 23 => .int .i64 (er : Int)
  | _ => undef
section
variable {S : Nat → Prop} {w : World} {B Bt : Nat} {t : Im}
set_option maxHeartbeats 4000000 in
set_option maxRecDepth 100000 in
theorem lay_any (x : Ir) (i : Nat) (h : InAt S w B Bt t) (hp : patsI x.src x.dst = true) (hi : i < 18446744073709551616) :
    Calls Try.prog 49 #[.pointer (some ⟨B, 0, none⟩), irV x, .int .u64 (i : Int)] w fun e w' => e = .returned (.int .i64 ((t.layI x.src x.dst x.allow i).1 : Int)) ∧ InAt (fun k => S k ∨ w.heap.size ≤ k) w' B Bt (t.layI x.src x.dst x.allow i).2 ∧ But (· = Bt) w w' := by
  have hsz := patsI_size hp
  obtain ⟨Y, hY⟩ : ∃ Y, w.heap.size = Y := ⟨_, rfl⟩
  obtain ⟨W1, hW1⟩ : ∃ W1, w.alloc (.cells #[.string x.src, .string x.dst, .bool x.allow, .int .u64 (x.made : Int), .int .u64 (x.ix : Int)] TIn) = W1 := ⟨_, rfl⟩
  have hb1 : Below w.heap.size w W1 := by rw [← hW1]; exact below1 _ _ _
  have HKy : Hid (W1.heap[Y]? = some (.cells #[.string x.src, .string x.dst, .bool x.allow, .int .u64 (x.made : Int), .int .u64 (x.ix : Int)] TIn (0, 0))) := Lib.hid (by rw [← hW1, ← hY]; exact heap_alloc_new w _)
  obtain ⟨hm, kb, T, hr, ht⟩ := h
  have hlb := block_lt kb
  obtain ⟨k, hk⟩ : ∃ k, keyI x.src x.dst = k := ⟨_, rfl⟩
  have HKey := Lib.hid (fun W => key_any x.src x.dst W (by omega) (by omega))
  rw [hk] at HKey
  have hks : k.size ≤ maxLen := by rw [← hk, keyI_size]; unfold maxLen; omega
  obtain ⟨S0, hS0⟩ : ∃ S0 : Nat → Prop, S0 = fun k => (S k ∧ k ≠ B) ∧ k < w.heap.size := ⟨_, rfl⟩
  have ht0 : It.TAt S0 w Bt T := ht.narrow fun k hk z => by rw [hS0]; exact ⟨z, hk⟩
  have ht1 := ht0.below hb1
  have HKb := Lib.hid ((hb1.block B hlb).trans kb)
  obtain ⟨t', ht'⟩ : ∃ t', (t.layI x.src x.dst x.allow i).2 = t' := ⟨_, rfl⟩
  obtain ⟨er, her⟩ : ∃ er, (t.layI x.src x.dst x.allow i).1 = er := ⟨_, rfl⟩
  obtain ⟨r, T', hpv, hpt, hrel⟩ : ∃ (r : Rw Rl) (T' : Tb Rl), It.putV T k ⟨x.src, x.dst, x.allow⟩ i = .tuple #[It.trV r, .int .i64 (er : Int)] ∧ T.putT k ⟨x.src, x.dst, x.allow⟩ i = T' ∧ InRel T' t' := by
    rcases hr.lay hp x.allow hi with ⟨e1, e2⟩ | ⟨e1, e2, e3⟩
    · rw [hk] at e1
      refine ⟨It.noRw, T, ?_, ?_, ?_⟩
      · unfold It.putV
        rw [if_pos e1, ← her, e2]
        rfl
      · unfold Tb.putT
        rw [if_pos e1]
      · rw [← ht', e2]; exact hr
    · rw [hk] at e1 e3
      refine ⟨T.row k ⟨x.src, x.dst, x.allow⟩ i, T.put k ⟨x.src, x.dst, x.allow⟩ i, ?_, ?_, ?_⟩
      · unfold It.putV
        rw [if_neg (by rw [e1]; simp), ← her, e2]
        rfl
      · unfold Tb.putT
        rw [if_neg (by rw [e1]; simp)]
      · rw [← ht']; exact e3
  have HPut := Lib.hid (fun W (hw : Below W1.heap.size W1 W) => (by
    have := It.put_any k ⟨x.src, x.dst, x.allow⟩ i (ht1.below hw) hi hks
    rw [hpv, hpt] at this
    exact this : Calls Try.prog 72 #[.pointer (some ⟨Bt, 0, none⟩), .string k, .agg #[.string x.src, .string x.dst, .bool x.allow], .int .u64 (i : Int)] W fun e w' => e = .returned (.tuple #[It.trV r, .int .i64 (er : Int)]) ∧ It.TAt (fun k => S0 k ∨ W.heap.size ≤ k) w' Bt T' ∧ But (· = Bt) W w'))
  have HS0 : Hid (∀ k, S0 k → k < W1.heap.size) := Lib.hid fun k hk => by rw [hS0] at hk; exact Nat.lt_of_lt_of_le hk.2 hb1.size
  have HMi : Hid (S0 Bt) := Lib.hid ht0.mine
  have HS : Hid (∀ k, S0 k → (S k ∧ k ≠ B) ∧ k < w.heap.size) := Lib.hid fun k hk => by rw [hS0] at hk; exact hk
  have HB1 := Lib.hid hb1
  have HW1 := Lib.hid hW1
  have HY := Lib.hid hY
  have HRel := Lib.hid hrel
  have HM := Lib.hid hm
  have HLb := Lib.hid hlb
  rw [her, ht']
  unfold It.trV at HPut
  unfold irV
  clear hp hsz hY hW1 hb1 hm kb ht hS0 ht0 ht1 hr her ht' hrel hpv hpt hi hk hks hlb
  go_enter Try.func49, Try.ntmps49
  go_wp2_with fail
  rw [HW1.out, HY.out]
  clear HW1
  have hre : ∀ w : World, ((fun _ _ : World => True)) w w := (fun _ => trivial)
  have hrd : ∀ (ops9 : Array Oper) (f9 : Nat → Bool) (e9 : Nat → Value) (w9 : World) (i9 : Nat) (v9 : Value) (e8 : Nat → Value), [17, 21, 22].contains i9 = false → (AlE 17 21 22 #[.string ⟨#[]⟩, .string ⟨#[]⟩, .string ⟨#[]⟩, .bool false, .int .u64 0, .int .u64 0] #[.string r.key, .string r.val.src, .string r.val.dst, .bool r.val.allow, .int .u64 (r.made : Int), .int .u64 (r.ix : Int)] 78 W1 S0 (· = Bt) (fun Sx w => It.TAt Sx w Bt T')) f9 e9 w9 → Go.Rel.Put ops9 i9 e9 v9 e8 → (AlE 17 21 22 #[.string ⟨#[]⟩, .string ⟨#[]⟩, .string ⟨#[]⟩, .bool false, .int .u64 0, .int .u64 0] #[.string r.key, .string r.val.src, .string r.val.dst, .bool r.val.allow, .int .u64 (r.made : Int), .int .u64 (r.ix : Int)] 78 W1 S0 (· = Bt) (fun Sx w => It.TAt Sx w Bt T')) (Go.Rel.upd f9 i9) e8 w9 := (fun _ _ _ _ _ _ _ hj h hp => h.keep hj hp)
  refine Go.Rel.wp_tabe (by kernel_rfl) (by kernel_rfl) (AlE 17 21 22 #[.string ⟨#[]⟩, .string ⟨#[]⟩, .string ⟨#[]⟩, .bool false, .int .u64 0, .int .u64 0] #[.string r.key, .string r.val.src, .string r.val.dst, .bool r.val.allow, .int .u64 (r.made : Int), .int .u64 (r.ix : Int)] 78 W1 S0 (· = Bt) (fun Sx w => It.TAt Sx w Bt T')) ((fun _ _ : World => True)) hre ((fun _ _ _ _ _ => trivial)) (trivial) AlE.start (ilyE B Bt Y x i k r er) (fun | 21, v, w => True | 22, v, w => True | _, _, _ => True) (fun i => ([21, 22] : List Nat).contains i) (fun i => ([3, 5, 7, 8, 10, 12, 14, 17, 21, 22] : List Nat).contains i) (by kernel_rfl) (fun i v w w' h g => by revert h; split <;> exact id) [17, 21, 22] (by decide) (hrd _) ?_ (Go.Rel.AllOf.get ?_) ?_
  · repeat (refine .cons (by first | exact Go.Rel.pure_sp rfl | exact Go.Rel.pure_yes (by kernel_rfl) (fun _ => by kernel_rfl) | exact Go.Rel.pure_no (by kernel_rfl) rfl) ?_)
    exact .nil
  · refine ⟨?_, ?_, ?_, ?_, ?_, ?_, ?_, ?_, ?_, ?_, trivial⟩
    · exact SpecE.ld (hrd _) hre (q := .pointer (some ⟨B, 0, none⟩)) (h := fun _ w' _ hI _ hdesc _ _ => by have cb := cellsN ((hI.ahead (hdesc 60 17 (by kernel_rfl))).block B (block_lt HKb.out) |>.trans HKb.out) 0 _ rfl; go_simp; rfl)
    · exact SpecE.ld (hrd _) hre (q := .pointer (some ⟨Y, 0, none⟩)) (h := fun _ w' _ hI _ hdesc _ _ => by obtain ⟨y0, y1, y2, y3, y4⟩ := ir_blk (((hI.ahead (hdesc 60 17 (by kernel_rfl))).block Y (block_lt HKy.out)).trans HKy.out); go_simp; rfl)
    · exact SpecE.ld (hrd _) hre (q := .pointer (some ⟨Y, 1, none⟩)) (h := fun _ w' _ hI _ hdesc _ _ => by obtain ⟨y0, y1, y2, y3, y4⟩ := ir_blk (((hI.ahead (hdesc 60 17 (by kernel_rfl))).block Y (block_lt HKy.out)).trans HKy.out); go_simp; rfl)
    · refine SpecE.gen (fun e => [(15, .string x.src), (17, .string x.dst)]) rfl rfl (fun _ => by kernel_rfl) fun f w' e hI hf hdesc hanc hle hX K hK => ?_
      go_simp
      refine (HKey.out w').mono ?_
      rintro e9 w9 ⟨rfl, rfl⟩
      exact hK _ _ trivial (fun e' hp => hI.keep (by decide) hp) rfl
    · exact SpecE.ld (hrd _) hre (q := .pointer (some ⟨Y, 0, none⟩)) (h := fun _ w' _ hI _ hdesc _ _ => by obtain ⟨y0, y1, y2, y3, y4⟩ := ir_blk (((hI.ahead (hdesc 60 17 (by kernel_rfl))).block Y (block_lt HKy.out)).trans HKy.out); go_simp; rfl)
    · exact SpecE.ld (hrd _) hre (q := .pointer (some ⟨Y, 1, none⟩)) (h := fun _ w' _ hI _ hdesc _ _ => by obtain ⟨y0, y1, y2, y3, y4⟩ := ir_blk (((hI.ahead (hdesc 60 17 (by kernel_rfl))).block Y (block_lt HKy.out)).trans HKy.out); go_simp; rfl)
    · exact SpecE.ld (hrd _) hre (q := .pointer (some ⟨Y, 2, none⟩)) (h := fun _ w' _ hI _ hdesc _ _ => by obtain ⟨y0, y1, y2, y3, y4⟩ := ir_blk (((hI.ahead (hdesc 60 17 (by kernel_rfl))).block Y (block_lt HKy.out)).trans HKy.out); go_simp; rfl)
    · refine SpecE.gen (fun e => [(13, .pointer (some ⟨Bt, 0, none⟩)), (18, .string k), (25, .agg #[.string x.src, .string x.dst, .bool x.allow]), (26, .int .u64 (i : Int))]) rfl rfl (fun _ => by kernel_rfl) fun f w' e hI hf hdesc hanc hle hX K hK => ?_
      go_simp
      have zS : f 22 = false := hdesc 60 22 (by kernel_rfl)
      refine (HPut.out w' (hI.ahead hf)).mono ?_
      rintro e9 w9 ⟨rfl, ht9, hb9⟩
      exact hK _ _ trivial (fun e' hp => hI.call (by decide) hf zS HS0.out (fun k e => by rw [e]; exact HS0.out _ HMi.out) hb9 (ht9.narrow fun k hk hs => ⟨hs, hk⟩) hp) rfl
    · refine SpecE.gen (fun e => []) rfl rfl (fun _ => by kernel_rfl) fun f w' e hI hf hdesc hanc hle hX K hK => ?_
      have zS : f 22 = false := hdesc 60 22 (by kernel_rfl)
      go_simp
      exact hK _ _ trivial (fun e' hp => hI.alloc (by decide) zS (fun _ _ _ _ h k z => h.but k z) rfl hp) trivial
    · refine SpecE.gen (fun e => [(7, e 21), (28, .agg #[.string r.key, .string r.val.src, .string r.val.dst, .bool r.val.allow, .int .u64 (r.made : Int), .int .u64 (r.ix : Int)])]) rfl rfl (fun _ => by kernel_rfl) fun f w' e hI hf hdesc hanc hle hX K hK => ?_
      have zA : f 21 = true := hanc 60 21 (by kernel_rfl)
      have zC : f 17 = true := hanc 60 17 (by kernel_rfl)
      obtain ⟨Z, k1, k2, k3⟩ := hI.laid zA hf
      simp only [k1]
      obtain ⟨d0, d1, d2, d3, d4, d5⟩ := It.blk k3
      have z0 := blk_froz k3 0
      have z1 := blk_froz k3 1
      have z2 := blk_froz k3 2
      have z3 := blk_froz k3 3
      have z4 := blk_froz k3 4
      have z5 := blk_froz k3 5
      have hzl := block_lt k3
      go_simp
      exact hK undef _ trivial (fun e' hp => hI.store (by decide) zA zC (fun _ _ _ _ h k z => h.but k z) k1 k2 ⟨but_setL Z [.string r.key, .string r.val.src, .string r.val.dst, .bool r.val.allow, .int .u64 (r.made : Int), .int .u64 (r.ix : Int)] 0 w', setL_all k3 [.string r.key, .string r.val.src, .string r.val.dst, .bool r.val.allow, .int .u64 (r.made : Int), .int .u64 (r.ix : Int)] rfl⟩ hp) trivial
  · intro f w2 e hall hJ hle hv
    have HJ := Lib.hid (hJ.done_ (hall 17 (by decide)))
    have v8 := hv 23 rfl
    simp only [Go.Rel.finL, List.setIfInBounds_toArray, List.set_cons_succ, List.set_cons_zero]
    rw [show e 23 = .int .i64 (er : Int) from v8]
    clear hv hall hle hJ v8
    go_wp2
    go_ret
    obtain ⟨Sx, h1, h2, h3, _⟩ := HJ.out
    refine ⟨rfl, ⟨.inl HM.out, (h3.block B (block_lt HKb.out) fun e => (HS.out Bt HMi.out).1.2 e.symm).trans HKb.out, T', HRel.out, h1.narrow fun k _ z => ?_⟩, (But.of_below HB1.out).trans h3⟩
    rcases (h2 k z).2 with z | z
    · exact ⟨.inl (HS.out k z).1.1, (HS.out k z).1.2⟩
    · have := HB1.out.size
      have := HLb.out
      exact ⟨.inr (by omega), by omega⟩
theorem InAt.wide (h : InAt S w B Bt t) {w' : World} (hb : Below w.heap.size w w') {m : Nat} : InAt (fun k => S k ∨ m ≤ k) w' B Bt t := (h.below hb).narrow fun _ _ z => .inl z
set_option maxHeartbeats 1000000 in
theorem add_any (s d : ByteArray) (b : Bool) (i : Nat) (h : InAt S w B Bt t) (hs : s.size ≤ maxLen) (hd : d.size ≤ maxLen) (hi : i < 18446744073709551616) :
    Calls Try.prog 29 #[.pointer (some ⟨B, 0, none⟩), .string s, .string d, .bool b, .int .u64 (i : Int)] w fun e w' => e = .returned (.int .i64 ((t.addI s d b i).1 : Int)) ∧ InAt (fun k => S k ∨ w.heap.size ≤ k) w' B Bt (t.addI s d b i).2 ∧ But (· = Bt) w w' := by
  cases hp : patsI s d with
  | false =>
    have HF := Lib.hid (find_wrong s d h hs hd hp)
    have e1 : t.addI s d b i = (10, t) := by unfold Ls.addI; rw [if_pos hp]
    rw [e1]
    have H := Lib.hid h
    clear h hs hd hp e1
    go_enter Try.func29, Try.ntmps29
    go_wp2_with fail
    refine HF.out.mono ?_
    rintro e w' ⟨rfl, rfl⟩
    go_wp2
    go_ret
    exact ⟨rfl, H.out.wide (Below.refl _ _), But.refl _ _⟩
  | true =>
    have HF := Lib.hid (find_any s d h hp)
    have H := Lib.hid h
    cases hf : findI t.l s d with
    | some k =>
      have e1 : t.addI s d b i = (20, t) := by unfold Ls.addI; rw [if_neg (by rw [hp]; simp), hf]
      rw [e1]
      rw [hf] at HF
      simp only [Option.isSome_some] at HF
      clear h hs hd hp e1 hf
      go_enter Try.func29, Try.ntmps29
      go_wp2_with fail
      refine HF.out.mono ?_
      rintro e w' ⟨rfl, hb⟩
      have HB := Lib.hid hb
      clear hb
      go_wp2
      go_ret
      exact ⟨rfl, H.out.wide HB.out, But.of_below HB.out⟩
    | none =>
      have e1 : t.addI s d b i = t.layI s d b i := by
        unfold Ls.addI Ls.layI
        rw [if_neg (by rw [hp]; simp), hf]
      rw [e1]
      rw [hf] at HF
      simp only [Option.isSome_none] at HF
      have HLy := Lib.hid (fun (w' : World) (hb : Below w.heap.size w w') => (lay_any ⟨s, d, b, 0, 0⟩ i (h.below hb) hp hi : Calls Try.prog 49 #[.pointer (some ⟨B, 0, none⟩), .agg #[.string s, .string d, .bool b, .int .u64 0, .int .u64 0], .int .u64 (i : Int)] w' fun e w2 => e = .returned (.int .i64 ((t.layI s d b i).1 : Int)) ∧ InAt (fun k => S k ∨ w'.heap.size ≤ k) w2 B Bt (t.layI s d b i).2 ∧ But (· = Bt) w' w2))
      obtain ⟨t', ht'⟩ : ∃ t', t.layI s d b i = t' := ⟨_, rfl⟩
      rw [ht'] at HLy ⊢
      clear h hs hd hp e1 hf ht'
      go_enter Try.func29, Try.ntmps29
      go_wp2_with fail
      refine HF.out.mono ?_
      rintro e w' ⟨rfl, hb⟩
      have HB := Lib.hid hb
      clear hb
      go_wp2_with fail
      refine (HLy.out w' HB.out).mono ?_
      rintro e w2 ⟨rfl, h2, hb2⟩
      have H2 := Lib.hid h2
      have HB2 := Lib.hid hb2
      clear h2 hb2 HLy
      go_wp2
      go_ret
      exact ⟨rfl, H2.out.narrow fun k _ z => z.imp id fun z => Nat.le_trans HB.out.size z, (But.of_below HB.out).trans HB2.out⟩
theorem add_no {p : Option Addr} (s d : ByteArray) (b : Bool) (i : Nat) (h : NoIn w p) : Calls Try.prog 29 #[.pointer p, .string s, .string d, .bool b, .int .u64 (i : Int)] w fun e w' => e = .returned (.int .i64 1) ∧ w = w' := by
  have HF := Lib.hid (find_no s d h)
  clear h
  go_enter Try.func29, Try.ntmps29
  go_wp2_with fail
  refine HF.out.mono ?_
  rintro e w' ⟨rfl, rfl⟩
  go_wp2
  go_ret
  exact ⟨rfl, rfl⟩
set_option maxHeartbeats 1000000 in
theorem turn_any (s d : ByteArray) (b : Bool) (old i : Nat) (h : InAt S w B Bt t) (hs : s.size ≤ maxLen) (hd : d.size ≤ maxLen) (ho : old < 18446744073709551616) (hi : i < 18446744073709551616) :
    Calls Try.prog 30 #[.pointer (some ⟨B, 0, none⟩), .string s, .string d, .bool b, .int .u64 (old : Int), .int .u64 (i : Int)] w fun e w' => e = .returned (.int .i64 ((t.turnI s d b old i).1 : Int)) ∧ InAt (fun k => S k ∨ w.heap.size ≤ k) w' B Bt (t.turnI s d b old i).2 ∧ But (· = Bt) w w' := by
  have HF := Lib.hid (told_any s d old h hs hd ho)
  have H := Lib.hid h
  by_cases ha : (t.askI s d old).2 = 0
  · have hp := ask_pats ha
    have hf := ask_place ha
    have e1 : t.turnI s d b old i = t.layI s d b i := by
      unfold Ls.turnI Ls.layI
      rw [if_pos ha, hf]
    rw [e1]
    rw [ha] at HF
    have HLy := Lib.hid (fun (w' : World) (hb : Below w.heap.size w w') => (lay_any ⟨s, d, b, 0, 0⟩ i (h.below hb) hp hi : Calls Try.prog 49 #[.pointer (some ⟨B, 0, none⟩), .agg #[.string s, .string d, .bool b, .int .u64 0, .int .u64 0], .int .u64 (i : Int)] w' fun e w2 => e = .returned (.int .i64 ((t.layI s d b i).1 : Int)) ∧ InAt (fun k => S k ∨ w'.heap.size ≤ k) w2 B Bt (t.layI s d b i).2 ∧ But (· = Bt) w' w2))
    obtain ⟨t', ht'⟩ : ∃ t', t.layI s d b i = t' := ⟨_, rfl⟩
    rw [ht'] at HLy ⊢
    clear h hs hd hp e1 hf ht' ha
    go_enter Try.func30, Try.ntmps30
    go_wp2_with fail
    refine HF.out.mono ?_
    rintro e w' ⟨rfl, hb⟩
    have HB := Lib.hid hb
    clear hb
    go_wp2_with fail
    refine (HLy.out w' HB.out).mono ?_
    rintro e w2 ⟨rfl, h2, hb2⟩
    have H2 := Lib.hid h2
    have HB2 := Lib.hid hb2
    clear h2 hb2 HLy
    go_wp2
    go_ret
    exact ⟨rfl, H2.out.narrow fun k _ z => z.imp id fun z => Nat.le_trans HB.out.size z, (But.of_below HB.out).trans HB2.out⟩
  · have e1 : t.turnI s d b old i = ((t.askI s d old).2, t) := by unfold Ls.turnI; rw [if_neg ha]
    rw [e1]
    obtain ⟨er, her⟩ : ∃ er, (t.askI s d old).2 = er := ⟨_, rfl⟩
    rw [her] at HF ha ⊢
    have q0 : ((er : Int) != 0) = true := by rw [bne_iff_ne]; omega
    clear h hs hd e1 her ha
    go_enter Try.func30, Try.ntmps30
    go_wp2_with fail
    refine HF.out.mono ?_
    rintro e w' ⟨rfl, hb⟩
    have HB := Lib.hid hb
    clear hb
    go_wp2
    go_ret
    exact ⟨rfl, H.out.wide HB.out, But.of_below HB.out⟩
theorem turn_no {p : Option Addr} (s d : ByteArray) (b : Bool) (old i : Nat) (h : NoIn w p) : Calls Try.prog 30 #[.pointer p, .string s, .string d, .bool b, .int .u64 (old : Int), .int .u64 (i : Int)] w fun e w' => e = .returned (.int .i64 1) ∧ w = w' := by
  have HF := Lib.hid (told_no s d old h)
  clear h
  go_enter Try.func30, Try.ntmps30
  go_wp2_with fail
  refine HF.out.mono ?_
  rintro e w' ⟨rfl, rfl⟩
  go_wp2
  go_ret
  exact ⟨rfl, rfl⟩
theorem drop_no {p : Option Addr} (s d : ByteArray) (old i : Nat) (h : NoIn w p) : Calls Try.prog 31 #[.pointer p, .string s, .string d, .int .u64 (old : Int), .int .u64 (i : Int)] w fun e w' => e = .returned (.int .i64 1) ∧ w = w' := by
  have HF := Lib.hid (told_no s d old h)
  clear h
  go_enter Try.func31, Try.ntmps31
  go_wp2_with fail
  refine HF.out.mono ?_
  rintro e w' ⟨rfl, rfl⟩
  go_wp2
  go_ret
  exact ⟨rfl, rfl⟩
end
def idrE (B : Nat) (Bt : Nat) (s : ByteArray) (d : ByteArray) (i : Nat) (k : ByteArray) : Nat → Value
  | 0 | 1 | 2 => .pointer (some ⟨B, 0, none⟩)
  | 3 => .pointer (some ⟨Bt, 0, none⟩)
  | 4 => .string s
  | 5 => .string d
  | 6 => .string k
  | 7 => .int .u64 (i : Int)
  | _ => undef
set_option maxHeartbeats 4000000 in
set_option maxRecDepth 100000 in
theorem drop_any {S : Nat → Prop} {w : World} {B Bt : Nat} {t : Im} (s d : ByteArray) (old i : Nat) (h : InAt S w B Bt t) (hs : s.size ≤ maxLen) (hd : d.size ≤ maxLen) (ho : old < 18446744073709551616) (hi : i < 18446744073709551616) :
    Calls Try.prog 31 #[.pointer (some ⟨B, 0, none⟩), .string s, .string d, .int .u64 (old : Int), .int .u64 (i : Int)] w fun e w' => e = .returned (.int .i64 ((t.dropI s d old i).1 : Int)) ∧ InAt (fun k => S k ∨ w.heap.size ≤ k) w' B Bt (t.dropI s d old i).2 ∧ But (· = Bt) w w' := by
  have HF := Lib.hid (told_any s d old h hs hd ho)
  have H := Lib.hid h
  by_cases ha : (t.askI s d old).2 = 0
  · have hp := ask_pats ha
    have hf := ask_place ha
    have hsz := patsI_size hp
    obtain ⟨t', ht'⟩ : ∃ t', t.dropI s d old i = t' := ⟨_, rfl⟩
    have e1 : t' = (0, Ls.raise { t with l := t.l.eraseIdx (t.askI s d old).1 } i) := by
      rw [← ht']
      unfold Ls.dropI
      rw [if_pos ha]
    rw [ht']
    rw [ha] at HF
    obtain ⟨k, hk⟩ : ∃ k, keyI s d = k := ⟨_, rfl⟩
    have HKey := Lib.hid (fun W => key_any s d W (by omega) (by omega))
    rw [hk] at HKey
    obtain ⟨hm, kb, T, hr, ht⟩ := h
    have hlb := block_lt kb
    obtain ⟨S0, hS0⟩ : ∃ S0 : Nat → Prop, S0 = fun k => (S k ∧ k ≠ B) ∧ k < w.heap.size := ⟨_, rfl⟩
    have ht0 : It.TAt S0 w Bt T := ht.narrow fun k hk z => by rw [hS0]; exact ⟨z, hk⟩
    have HMi : Hid (S0 Bt) := Lib.hid ht0.mine
    have HS : Hid (∀ k, S0 k → (S k ∧ k ≠ B) ∧ k < w.heap.size) := Lib.hid fun k hk => by rw [hS0] at hk; exact hk
    have HT0 := Lib.hid ht0
    have HKb0 := Lib.hid kb
    have HM := Lib.hid hm
    have hrel := hr.drop_ hp hf hi
    obtain ⟨T', hT'⟩ : ∃ T', T.dropT k i = T' := ⟨_, rfl⟩
    have HRel : Hid (InRel T' t'.2) := Lib.hid (by
      rcases hr.find_ hp with ⟨_, z⟩ | ⟨r, _, _, z, _⟩
      · rw [z] at hf; cases hf
      · rw [← hT', ← hk]
        unfold Tb.dropT
        rw [z, Option.isSome_some, if_pos rfl, e1]
        exact hrel)
    have HDr0 := Lib.hid (fun W (hw : Below w.heap.size w W) => (by
      have := It.drop_any k i (ht0.below hw) hi
      rw [hT'] at this
      exact this : Calls Try.prog 56 #[.pointer (some ⟨Bt, 0, none⟩), .string k, .int .u64 (i : Int)] W fun e w' => e = .returned (.bool (getR T.l k).isSome) ∧ It.TAt (fun k => S0 k ∨ W.heap.size ≤ k) w' Bt T' ∧ But (· = Bt) W w'))
    have e2 : t'.1 = 0 := by rw [e1]
    rw [e2]
    obtain ⟨t2, ht2⟩ : ∃ t2, t'.2 = t2 := ⟨_, rfl⟩
    rw [ht2] at HRel ⊢
    clear hs hd hp hf hsz ht' e1 e2 hk hm kb hr ht hS0 ht0 hrel hT' hi ho ha ht2 H
    go_enter Try.func31, Try.ntmps31
    go_wp2_with fail
    refine HF.out.mono ?_
    rintro e W0 ⟨rfl, hb⟩
    have HB0 := Lib.hid hb
    have HKb := Lib.hid ((hb.block B hlb).trans HKb0.out)
    have HDr := Lib.hid (fun W (hw : Below W0.heap.size W0 W) => HDr0.out W (hb.trans (hw.mono hb.size)))
    have HMu : Hid (∀ k, k = Bt → k < W0.heap.size) := Lib.hid fun k e => by rw [e]; exact Nat.lt_of_lt_of_le (HS.out Bt HMi.out).2 hb.size
    have HLb := Lib.hid hlb
    clear hb hlb
    go_wp2_with fail
    have hre : ∀ w : World, (But (OldB W0)) w w := (fun w => But.refl _ w)
    have hrd : ∀ (f : Nat → Bool) w i, i ≠ 8 → (TI 8 W0 (fun w => It.TAt (fun k => (S0 k ∨ W0.heap.size ≤ k) ∧ k < w.heap.size) w Bt T' ∧ But (· = Bt) W0 w)) f w → (TI 8 W0 (fun w => It.TAt (fun k => (S0 k ∨ W0.heap.size ≤ k) ∧ k < w.heap.size) w Bt T' ∧ But (· = Bt) W0 w)) (Go.Rel.upd f i) w := (fun _ _ _ hi h => h.read hi)
    refine Go.Rel.wp_tab (by kernel_rfl) (by kernel_rfl) (TI 8 W0 (fun w => It.TAt (fun k => (S0 k ∨ W0.heap.size ≤ k) ∧ k < w.heap.size) w Bt T' ∧ But (· = Bt) W0 w)) (But (OldB W0)) hre ((fun _ _ _ h k => h.trans k)) (OldB.drew) TI.start (idrE B Bt s d i k) (fun | 8, v, w => True | _, _, _ => True) (fun i => ([8] : List Nat).contains i) (fun i => ([3, 6, 8] : List Nat).contains i) (by kernel_rfl) (fun i v w w' h g => by revert h; split <;> exact id) 8 rfl hrd ?_ (Go.Rel.AllOf.get ?_) ?_
    · repeat (refine .cons (by first | exact Go.Rel.pure_sp rfl | exact Go.Rel.pure_yes (by kernel_rfl) (fun _ => by kernel_rfl) | exact Go.Rel.pure_no (by kernel_rfl) rfl) ?_)
      exact .nil
    · refine ⟨?_, ?_, ?_, trivial⟩
      · exact SpecOk.ld hrd hre (q := .pointer (some ⟨B, 0, none⟩)) (h := fun _ w' hI _ hdesc _ _ => by have cb := cellsN ((hI.ahead (hdesc 60 8 (by kernel_rfl))).block B (block_lt HKb.out) |>.trans HKb.out) 0 _ rfl; go_simp; rfl)
      · refine SpecOk.call 57 #[.string s, .string d] rfl (by kernel_rfl) (fun _ => by kernel_rfl) fun f w' hI _ _ _ _ => ?_
        refine (HKey.out w').mono ?_
        rintro e w2 ⟨rfl, rfl⟩
        exact ⟨_, rfl, (hre _), (hrd f w' 6 (by decide) hI), rfl⟩
      · refine SpecOk.call 56 #[.pointer (some ⟨Bt, 0, none⟩), .string k, .int .u64 (i : Int)] rfl (by kernel_rfl) (fun _ => by kernel_rfl) fun _ w' hI hf _ _ _ => ?_
        refine (HDr.out w' (hI.ahead hf)).mono ?_
        rintro e9 w9 ⟨rfl, h9, hb9⟩
        exact ⟨_, rfl, (But.oldB hb9 HMu.out), (TI.last ⟨h9.narrow fun k hk z => ⟨z.imp id fun z => Nat.le_trans (hI.ahead hf).size z, hk⟩, (But.of_below (hI.ahead hf)).trans hb9⟩), trivial⟩
    · intro f w2 e hall hJ hle hv
      have HJ := Lib.hid (hJ.done_ (hall 8 (by decide)))
      simp only [Go.Rel.finL, List.setIfInBounds_toArray, List.set_cons_succ, List.set_cons_zero]
      clear hv hall hle hJ
      go_wp2
      go_ret
      obtain ⟨h1, h3⟩ := HJ.out
      refine ⟨rfl, ⟨.inl HM.out, (h3.block B (block_lt HKb.out) fun e => (HS.out Bt HMi.out).1.2 e.symm).trans HKb.out, T', HRel.out, h1.narrow fun k _ z => ?_⟩, (But.of_below HB0.out).trans h3⟩
      rcases z.1 with z | z
      · exact ⟨.inl (HS.out k z).1.1, (HS.out k z).1.2⟩
      · have := HB0.out.size
        have := HLb.out
        exact ⟨.inr (by omega), by omega⟩
  · have e1 : t.dropI s d old i = ((t.askI s d old).2, t) := by unfold Ls.dropI; rw [if_neg ha]
    rw [e1]
    obtain ⟨er, her⟩ : ∃ er, (t.askI s d old).2 = er := ⟨_, rfl⟩
    rw [her] at HF ha ⊢
    have q0 : ((er : Int) != 0) = true := by rw [bne_iff_ne]; omega
    clear h hs hd e1 her ha
    go_enter Try.func31, Try.ntmps31
    go_wp2_with fail
    refine HF.out.mono ?_
    rintro e w' ⟨rfl, hb⟩
    have HB := Lib.hid hb
    clear hb
    go_wp2
    go_ret
    exact ⟨rfl, H.out.wide HB.out, But.of_below HB.out⟩
end Go.Proofs.Ytmegfkclpjddgaa
