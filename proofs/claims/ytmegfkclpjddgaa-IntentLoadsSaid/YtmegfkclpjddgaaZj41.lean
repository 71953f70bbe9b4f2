/-
  find, asTold, walked (layer 17).
-/
import Derived.Test.YtmegfkclpjddgaaZj32
import Derived.Test.YtmegfkclpjddgaaZj17
import Derived.Test.YtmegfkclpjddgaaZj40
namespace Go.Proofs.Ytmegfkclpjddgaa
open Go.RowKit Go.Rel
set_option linter.unusedSimpArgs false
set_option linter.unusedVariables false

def finE (B : Nat) (Bt : Nat) (s : ByteArray) (d : ByteArray) (k : ByteArray) (r : Rw Rl) (b : Bool) : Nat → Value
  | 0 | 1 | 2 => .pointer (some ⟨B, 0, none⟩)
  | 3 => .pointer (some ⟨Bt, 0, none⟩)
  | 4 => .string s
  | 5 => .string d
  | 6 => .string k
  | 7 | 8 => .tuple #[.agg #[.string r.key, .string r.val.src, .string r.val.dst, .bool r.val.allow, .int .u64 (r.made : Int), .int .u64 (r.ix : Int)], .bool b]
  | 9 => .agg #[.string r.key, .string r.val.src, .string r.val.dst, .bool r.val.allow, .int .u64 (r.made : Int), .int .u64 (r.ix : Int)]
  | 10 | 13 => .bool b
  | _ => undef
/-- The index of an intention, 0 where there is none. -/
def Ls.ixI (t : Im) (s d : ByteArray) : Nat := match findI t.l s d with | some k => (t.l.map (·.ix)).getD k 0 | none => 0
section
variable {S : Nat → Prop} {w : World} {B Bt : Nat} {t : Im}
theorem find_no {p : Option Addr} (s d : ByteArray) (h : NoIn w p) : Calls Try.prog 54 #[.pointer p, .string s, .string d] w fun e w' => e = .returned (.tuple #[.int .u64 0, .bool false, .int .i64 1]) ∧ w = w' := by
  have HT := Lib.hid (table_no h)
  clear h
  go_enter Try.func54, Try.ntmps54
  go_wp2_with fail
  refine HT.out.mono ?_
  rintro e w' ⟨rfl, rfl⟩
  go_wp2
  exact bodyPost_ret (v := .tuple #[.int .u64 0, .bool false, .int .i64 1]) (by simp [results, Try.results54, go_sem]) rfl ⟨rfl, rfl⟩
set_option maxHeartbeats 1000000 in
theorem find_wrong (s d : ByteArray) (h : InAt S w B Bt t) (hs : s.size ≤ maxLen) (hd : d.size ≤ maxLen) (hp : patsI s d = false) : Calls Try.prog 54 #[.pointer (some ⟨B, 0, none⟩), .string s, .string d] w fun e w' => e = .returned (.tuple #[.int .u64 0, .bool false, .int .i64 10]) ∧ w = w' := by
  have HT := Lib.hid (table_is h.ptr)
  have HPs := Lib.hid (pattern_any s w hs)
  have HPd := Lib.hid (pattern_any d w hd)
  unfold patsI at hp
  obtain ⟨ps, hps⟩ : ∃ ps, patternB s.data.toList = ps := ⟨_, rfl⟩
  obtain ⟨pd, hpd⟩ : ∃ pd, patternB d.data.toList = pd := ⟨_, rfl⟩
  rw [hps] at hp HPs
  rw [hpd] at hp HPd
  clear h hs hd hps hpd
  cases ps with
  | false =>
    clear hp
    go_enter Try.func54, Try.ntmps54
    go_wp2_with fail
    refine HT.out.mono ?_
    rintro e w' ⟨rfl, rfl⟩
    go_wp2_with fail
    refine HPs.out.mono ?_
    rintro e w' ⟨rfl, rfl⟩
    go_wp2
    exact bodyPost_ret (v := .tuple #[.int .u64 0, .bool false, .int .i64 10]) (by simp [results, Try.results54, go_sem]) rfl ⟨rfl, rfl⟩
  | true =>
    obtain rfl : pd = false := hp
    go_enter Try.func54, Try.ntmps54
    go_wp2_with fail
    refine HT.out.mono ?_
    rintro e w' ⟨rfl, rfl⟩
    go_wp2_with fail
    refine HPs.out.mono ?_
    rintro e w' ⟨rfl, rfl⟩
    go_wp2_with fail
    refine HPd.out.mono ?_
    rintro e w' ⟨rfl, rfl⟩
    go_wp2
    exact bodyPost_ret (v := .tuple #[.int .u64 0, .bool false, .int .i64 10]) (by simp [results, Try.results54, go_sem]) rfl ⟨rfl, rfl⟩
set_option maxHeartbeats 4000000 in
set_option maxRecDepth 100000 in
theorem find_any (s d : ByteArray) (h : InAt S w B Bt t) (hp : patsI s d = true) : Calls Try.prog 54 #[.pointer (some ⟨B, 0, none⟩), .string s, .string d] w fun e w' => e = .returned (.tuple #[.int .u64 (t.ixI s d : Int), .bool (findI t.l s d).isSome, .int .i64 0]) ∧ Below w.heap.size w w' := by
  have hsz := patsI_size hp
  have HT := Lib.hid (table_is h.ptr)
  have HPs := Lib.hid (pattern_any s w (by unfold maxLen; omega))
  have HPd := Lib.hid (pattern_any d w (by unfold maxLen; omega))
  have hpp := hp
  unfold patsI at hpp
  rw [Bool.and_eq_true] at hpp
  rw [hpp.1] at HPs
  rw [hpp.2] at HPd
  obtain ⟨k, hk⟩ : ∃ k, keyI s d = k := ⟨_, rfl⟩
  have HKey := Lib.hid (fun W => key_any s d W (by omega) (by omega))
  rw [hk] at HKey
  obtain ⟨T, hr, ht⟩ := h.tab
  obtain ⟨r, b, hg, hix, hb⟩ : ∃ (r : Rw Rl) (b : Bool), It.gotR (getR T.l k) = .tuple #[It.trV r, .bool b] ∧ (r.ix : Int) = (t.ixI s d : Int) ∧ b = (findI t.l s d).isSome := by
    rcases hr.find_ hp with ⟨e1, e2⟩ | ⟨r, j, hj, e1, e2, e3⟩
    · refine ⟨It.noRw, false, ?_, ?_, ?_⟩
      · rw [← hk, e1]; rfl
      · unfold Ls.ixI; rw [e2]; rfl
      · rw [e2]; rfl
    · refine ⟨r, true, ?_, ?_, ?_⟩
      · rw [← hk, e1]; rfl
      · unfold Ls.ixI
        rw [e2]
        have : (t.l.map (·.ix)).getD j 0 = r.ix := by
          rw [List.getD_eq_getElem?_getD, List.getElem?_map, List.getElem?_eq_getElem hj, e3]; rfl
        simp only [this]
      · rw [e2]; rfl
  have HGet := Lib.hid (fun W (hw : Below w.heap.size w W) => (by
    have := It.get_any k (ht.below hw)
    rw [hg] at this
    exact this : Calls Try.prog 73 #[.pointer (some ⟨Bt, 0, none⟩), .string k] W fun e w' => e = .returned (.tuple #[It.trV r, .bool b]) ∧ Below W.heap.size W w'))
  have HKb := Lib.hid h.ptr
  rw [← hb, ← hix]
  unfold It.trV at HGet
  clear h hp hsz hpp hk hr ht hg hix hb
  go_enter Try.func54, Try.ntmps54
  go_wp2_with fail
  refine HT.out.mono ?_
  rintro e w' ⟨rfl, rfl⟩
  go_wp2_with fail
  refine HPs.out.mono ?_
  rintro e w' ⟨rfl, rfl⟩
  go_wp2_with fail
  refine HPd.out.mono ?_
  rintro e w' ⟨rfl, rfl⟩
  go_wp2_with fail
  have hre : ∀ w : World, ((fun _ _ : World => True)) w w := (fun _ => trivial)
  have hrd : ∀ (ops9 : Array Oper) (f9 : Nat → Bool) (e9 : Nat → Value) (w9 : World) (i9 : Nat) (v9 : Value) (e8 : Nat → Value), [7, 11, 12].contains i9 = false → (AlE 7 11 12 #[.string ⟨#[]⟩, .string ⟨#[]⟩, .string ⟨#[]⟩, .bool false, .int .u64 0, .int .u64 0] #[.string r.key, .string r.val.src, .string r.val.dst, .bool r.val.allow, .int .u64 (r.made : Int), .int .u64 (r.ix : Int)] 78 w (fun _ => False) (fun _ => False) (fun _ _ => True)) f9 e9 w9 → Go.Rel.Put ops9 i9 e9 v9 e8 → (AlE 7 11 12 #[.string ⟨#[]⟩, .string ⟨#[]⟩, .string ⟨#[]⟩, .bool false, .int .u64 0, .int .u64 0] #[.string r.key, .string r.val.src, .string r.val.dst, .bool r.val.allow, .int .u64 (r.made : Int), .int .u64 (r.ix : Int)] 78 w (fun _ => False) (fun _ => False) (fun _ _ => True)) (Go.Rel.upd f9 i9) e8 w9 := (fun _ _ _ _ _ _ _ hj h hp => h.keep hj hp)
  refine Go.Rel.wp_tabe (by kernel_rfl) (by kernel_rfl) (AlE 7 11 12 #[.string ⟨#[]⟩, .string ⟨#[]⟩, .string ⟨#[]⟩, .bool false, .int .u64 0, .int .u64 0] #[.string r.key, .string r.val.src, .string r.val.dst, .bool r.val.allow, .int .u64 (r.made : Int), .int .u64 (r.ix : Int)] 78 w (fun _ => False) (fun _ => False) (fun _ _ => True)) ((fun _ _ : World => True)) hre ((fun _ _ _ _ _ => trivial)) (trivial) AlE.start (finE B Bt s d k r b) (fun | 11, v, w => True | 12, v, w => True | _, _, _ => True) (fun i => ([11, 12] : List Nat).contains i) (fun i => ([3, 6, 7, 11, 12] : List Nat).contains i) (by kernel_rfl) (fun i v w w' h g => by revert h; split <;> exact id) [7, 11, 12] (by decide) (hrd _) ?_ (Go.Rel.AllOf.get ?_) ?_
  · repeat (refine .cons (by first | exact Go.Rel.pure_sp rfl | exact Go.Rel.pure_yes (by kernel_rfl) (fun _ => by kernel_rfl) | exact Go.Rel.pure_no (by kernel_rfl) rfl) ?_)
    exact .nil
  · refine ⟨?_, ?_, ?_, ?_, ?_, trivial⟩
    · exact SpecE.ld (hrd _) hre (q := .pointer (some ⟨B, 0, none⟩)) (h := fun _ w' _ hI _ hdesc _ _ => by have cb := cellsN ((hI.ahead (hdesc 60 7 (by kernel_rfl))).block B (block_lt HKb.out) |>.trans HKb.out) 0 _ rfl; go_simp; rfl)
    · refine SpecE.gen (fun e => [(27, .string s), (28, .string d)]) rfl rfl (fun _ => by kernel_rfl) fun f w' e hI hf hdesc hanc hle hX K hK => ?_
      go_simp
      refine (HKey.out w').mono ?_
      rintro e9 w9 ⟨rfl, rfl⟩
      exact hK _ _ trivial (fun e' hp => hI.keep (by decide) hp) rfl
    · refine SpecE.gen (fun e => [(26, .pointer (some ⟨Bt, 0, none⟩)), (29, .string k)]) rfl rfl (fun _ => by kernel_rfl) fun f w' e hI hf hdesc hanc hle hX K hK => ?_
      go_simp
      have zS : f 12 = false := hdesc 60 12 (by kernel_rfl)
      refine (HGet.out w' (hI.ahead hf)).mono ?_
      rintro e9 w9 ⟨rfl, hb9⟩
      exact hK _ _ trivial (fun e' hp => hI.call (by decide) hf zS (fun _ z => z.elim) (fun _ z => z.elim) (But.of_below hb9) trivial hp) rfl
    · refine SpecE.gen (fun e => []) rfl rfl (fun _ => by kernel_rfl) fun f w' e hI hf hdesc hanc hle hX K hK => ?_
      have zS : f 12 = false := hdesc 60 12 (by kernel_rfl)
      go_simp
      exact hK _ _ trivial (fun e' hp => hI.alloc (by decide) zS (fun _ _ _ _ _ _ _ => trivial) rfl hp) trivial
    · refine SpecE.gen (fun e => [(9, e 11), (31, .agg #[.string r.key, .string r.val.src, .string r.val.dst, .bool r.val.allow, .int .u64 (r.made : Int), .int .u64 (r.ix : Int)])]) rfl rfl (fun _ => by kernel_rfl) fun f w' e hI hf hdesc hanc hle hX K hK => ?_
      have zA : f 11 = true := hanc 60 11 (by kernel_rfl)
      have zC : f 7 = true := hanc 60 7 (by kernel_rfl)
      obtain ⟨Z, k1, k2, k3⟩ := hI.laid zA hf
      simp only [k1]
      obtain ⟨d0, d1, d2, d3, d4, d5⟩ := It.blk k3
      have z0 := blk_froz k3 0
      have z1 := blk_froz k3 1
      have z2 := blk_froz k3 2
      have z3 := blk_froz k3 3
      have z4 := blk_froz k3 4
      have z5 := blk_froz k3 5
      have hzl := block_lt k3
      go_simp
      exact hK undef _ trivial (fun e' hp => hI.store (by decide) zA zC (fun _ _ _ _ _ _ _ => trivial) k1 k2 ⟨but_setL Z [.string r.key, .string r.val.src, .string r.val.dst, .bool r.val.allow, .int .u64 (r.made : Int), .int .u64 (r.ix : Int)] 0 w', setL_all k3 [.string r.key, .string r.val.src, .string r.val.dst, .bool r.val.allow, .int .u64 (r.made : Int), .int .u64 (r.ix : Int)] rfl⟩ hp) trivial
  · intro f w2 e hall hJ hle hv
    obtain ⟨_, _, _, hb2, _⟩ := hJ.done_ (hall 7 (by decide))
    obtain ⟨Z, k1, k2, k3⟩ := hJ.fin (hall 12 (by decide))
    have v8 := hv 13 rfl
    have HB := Lib.hid (hb2.below (Nat.le_refl _) (fun _ _ z => z.elim))
    have hzl := block_lt k3
    have c5 := (It.blk k3).2.2.2.2.2
    simp only [Go.Rel.finL, List.setIfInBounds_toArray, List.set_cons_succ, List.set_cons_zero]
    rw [show e 13 = .bool b from v8, k1]
    clear hv hall hle hJ v8 k1 k3 hb2
    go_wp2
    exact bodyPost_ret (v := .tuple #[.int .u64 (r.ix : Int), .bool b, .int .i64 0]) (by simp [results, Try.results54, go_sem]) rfl ⟨rfl, HB.out⟩
/-- What stands against an intention's being turned or let go. -/
theorem told_any (s d : ByteArray) (old : Nat) (h : InAt S w B Bt t) (hs : s.size ≤ maxLen) (hd : d.size ≤ maxLen) (hold : old < 18446744073709551616) : Calls Try.prog 55 #[.pointer (some ⟨B, 0, none⟩), .string s, .string d, .int .u64 (old : Int)] w fun e w' => e = .returned (.int .i64 ((t.askI s d old).2 : Int)) ∧ Below w.heap.size w w' := by
  cases hp : patsI s d with
  | false =>
    have HF := Lib.hid (find_wrong s d h hs hd hp)
    have HA : Hid ((t.askI s d old).2 = 10) := Lib.hid (by unfold Ls.askI; rw [if_pos hp])
    rw [HA.out]
    clear h hs hd hp HA
    go_enter Try.func55, Try.ntmps55
    go_wp2_with fail
    refine HF.out.mono ?_
    rintro e w' ⟨rfl, rfl⟩
    go_wp2
    go_ret
    exact ⟨rfl, Below.refl _ _⟩
  | true =>
    have HF := Lib.hid (find_any s d h hp)
    cases hf : findI t.l s d with
    | none =>
      have HA : Hid ((t.askI s d old).2 = 4) := Lib.hid (by unfold Ls.askI; rw [if_neg (by rw [hp]; simp), hf])
      rw [HA.out]
      rw [hf] at HF
      clear h hs hd hp HA hf
      go_enter Try.func55, Try.ntmps55
      go_wp2_with fail
      refine HF.out.mono ?_
      rintro e w' ⟨rfl, hb⟩
      have HB := Lib.hid hb
      clear hb
      go_wp2
      go_ret
      exact ⟨rfl, HB.out⟩
    | some k =>
      obtain ⟨ix, hix⟩ : ∃ ix, t.ixI s d = ix := ⟨_, rfl⟩
      have hix2 : (t.l.map (·.ix)).getD k 0 = ix := by rw [← hix]; unfold Ls.ixI; rw [hf]
      have ha : (t.askI s d old).2 = if old ≠ 0 ∧ ix ≠ old then 21 else 0 := by
        unfold Ls.askI
        rw [if_neg (by rw [hp]; simp), hf]
        simp only
        rw [hix2]
        split <;> rfl
      rw [ha]
      rw [hf, hix] at HF
      simp only [Option.isSome_some] at HF
      clear h hs hd hp hf hix hix2 ha
      by_cases h0 : old = 0
      · subst h0
        have q0 : (((0 : Nat) : Int) != 0) = false := by decide
        rw [if_neg (by simp)]
        go_enter Try.func55, Try.ntmps55
        go_wp2_with fail
        refine HF.out.mono ?_
        rintro e w' ⟨rfl, hb⟩
        have HB := Lib.hid hb
        clear hb
        go_wp2
        go_ret
        exact ⟨rfl, HB.out⟩
      · have q0 : ((old : Int) != 0) = true := by rw [bne_iff_ne]; omega
        by_cases h1 : ix = old
        · have q1 : ((old : Int) != (ix : Int)) = false := by rw [h1]; simp
          rw [if_neg (by simp [h1])]
          go_enter Try.func55, Try.ntmps55
          go_wp2_with fail
          refine HF.out.mono ?_
          rintro e w' ⟨rfl, hb⟩
          have HB := Lib.hid hb
          clear hb
          go_wp2
          go_ret
          exact ⟨rfl, HB.out⟩
        · have q1 : ((old : Int) != (ix : Int)) = true := by rw [bne_iff_ne]; omega
          rw [if_pos ⟨h0, h1⟩]
          go_enter Try.func55, Try.ntmps55
          go_wp2_with fail
          refine HF.out.mono ?_
          rintro e w' ⟨rfl, hb⟩
          have HB := Lib.hid hb
          clear hb
          go_wp2
          go_ret
          exact ⟨rfl, HB.out⟩
theorem told_no {p : Option Addr} (s d : ByteArray) (old : Nat) (h : NoIn w p) : Calls Try.prog 55 #[.pointer p, .string s, .string d, .int .u64 (old : Int)] w fun e w' => e = .returned (.int .i64 1) ∧ w = w' := by
  have HF := Lib.hid (find_no s d h)
  clear h
  go_enter Try.func55, Try.ntmps55
  go_wp2_with fail
  refine HF.out.mono ?_
  rintro e w' ⟨rfl, rfl⟩
  go_wp2
  go_ret
  exact ⟨rfl, rfl⟩
end
end Go.Proofs.Ytmegfkclpjddgaa
