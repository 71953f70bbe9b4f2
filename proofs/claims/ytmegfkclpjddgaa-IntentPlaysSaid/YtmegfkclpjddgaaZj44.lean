/-
  A step of the law (layer 17): Decide, Copy; any step.
-/
import Derived.Test.YtmegfkclpjddgaaZj42
import Derived.Test.YtmegfkclpjddgaaZj43
import Derived.Test.YtmegfkclpjddgaaZj32
import Derived.Lib.QuietBelow
import Derived.BigQuiet
namespace Go.Proofs.Ytmegfkclpjddgaa
open Go.RowKit Go.Rel Go.Sort
set_option linter.unusedSimpArgs false
set_option linter.unusedVariables false

theorem DecPost.is {w w' : World} {l : List Ir} {s d : ByteArray} {b : Bool} {e : Ending} {o : Option Nat} (h : DecPost w l s d b e w') (ho : Chosen l s d o) : e = .returned (.tuple #[.bool (cA l b o), .bool o.isSome]) ∧ Below w.heap.size w w' := by
  obtain ⟨o2, h1, h2, h3⟩ := h
  obtain rfl := h1.uniq ho
  exact ⟨h2, h3⟩
set_option maxHeartbeats 4000000 in
set_option maxRecDepth 100000 in
theorem step_decide {O : Nat → Prop} {Bp Bt Bd : Nat} {t : Im} (s : ISt) (w : World) (h : Both O w Bp Bt t Bd t) (hs : s.Ok) (hk : s.kind = 3) :
    Calls Try.prog 12 #[.pointer (some ⟨Bp, 0, none⟩), .pointer (some ⟨Bd, 0, none⟩), stV s] w (StepPost O w Bp Bt Bd (t)) := by
  obtain ⟨kind, src, dst, allow, old, ix⟩ := s
  simp only at hk
  subst hk
  unfold stV
  simp only
  have hsr : src.size ≤ maxLen := hs.src
  have hds : dst.size ≤ maxLen := hs.dst
  have ho : old < 18446744073709551616 := hs.old
  have hi : ix < 18446744073709551616 := hs.ix
  obtain ⟨X, hX⟩ : ∃ X, w.heap.size = X := ⟨_, rfl⟩
  obtain ⟨W1, hW⟩ : ∃ W1, w.alloc (.cells #[.int .i64 3, .string src, .string dst, .bool allow, .int .u64 (old : Int), .int .u64 (ix : Int)] 30) = W1 := ⟨_, rfl⟩
  have hb0 : Below w.heap.size w W1 := by rw [← hW]; exact below1 _ _ _
  have k0 : W1.heap[X]? = some (.cells #[.int .i64 3, .string src, .string dst, .bool allow, .int .u64 (old : Int), .int .u64 (ix : Int)] 30 (0, 0)) := by rw [← hW, ← hX]; exact heap_alloc_new w _
  obtain ⟨O2, hO2⟩ : ∃ O2 : Nat → Prop, O2 = fun k => O k ∧ k ≠ X := ⟨_, rfl⟩
  have hb1 : Both O2 W1 Bp Bt t Bd t := by rw [hO2]; exact h.box hb0 (X := X) (by omega) (block_lt k0)
  have HOx : Hid (¬ O2 X) := Lib.hid (by rw [hO2]; exact fun z => z.2 rfl)
  have HOO : Hid (∀ k, O2 k → O k) := Lib.hid (by rw [hO2]; exact fun k z => z.1)
  obtain ⟨o, ho⟩ := chosen_ex t.l src dst
  obtain ⟨av, hav⟩ : ∃ a, cA t.l allow o = a := ⟨_, rfl⟩
  have HCp : Hid (Calls Try.prog 28 #[.pointer (some ⟨Bp, 0, none⟩), .string src, .string dst, .bool allow] W1 fun e w2 => e = .returned (.tuple #[.bool av, .bool o.isSome]) ∧ Below W1.heap.size W1 w2) := Lib.hid (by
    obtain ⟨Sp, k1⟩ := hb1.read
    rw [← hav]
    exact (decide_any src dst allow k1 hsr hds).mono fun e w2 h9 => h9.is ho)
  have HCd : Hid (∀ (A : Option Addr) (n c : Nat) (W : World), SK irC 5 W A n t.l → n ≤ maxLen → Calls Try.prog 20 #[.slice A n c, .string src, .string dst, .bool allow] W fun e w2 => e = .returned (.tuple #[.bool av, .int .i64 (cK o)]) ∧ Below W.heap.size W w2) := Lib.hid fun A n c W h9 h8 => by
    rw [← hav]
    exact (rchoose_any A n c t.l src dst allow W h9 h8 hsr hds).mono fun e w2 h7 => h7.is ho
  have HB1 := Lib.hid hb1
  have HK0 := Lib.hid k0
  have HB0 := Lib.hid hb0
  have HW := Lib.hid hW
  have HX := Lib.hid hX
  obtain ⟨d0, d1, d2, d3, d4, d5⟩ := st_blk k0
  clear h hs hsr hds ho hi hX hW hb0 k0 hO2 hb1 hav
  go_enter Try.func12, Try.ntmps12
  go_wp2_with fail
  rw [HW.out, HX.out]
  go_wp2_with fail
  clear d0 d1 d2 d3 d4 d5
  refine HCp.out.mono ?_
  rintro e w2 ⟨rfl, hb2⟩
  have hx2 := (hb2.block X (block_lt HK0.out)).trans HK0.out
  have hbo := HB1.out.below hb2
  have HBo := Lib.hid hbo
  have HB02 := Lib.hid (HB0.out.trans (hb2.mono HB0.out.size))
  obtain ⟨Sd, Ad, cd, hok, hri⟩ := hbo.ref
  have c1 := hri.c1
  have q1 := cell_regrown c1
  obtain ⟨f0, f1, f2, f3, f4, f5⟩ := st_blk hx2
  have p1 := cell_regrown f1
  have p2 := cell_regrown f2
  have p3 := cell_regrown f3
  have HRc : Hid (∀ dd os, Calls Try.prog 20 #[.slice Ad t.l.length cd, .string src, .string dst, .bool allow] (grow (redrawn w2 dd) os) fun e w3 => e = .returned (.tuple #[.bool av, .int .i64 (cK o)]) ∧ ∃ p : Regrown, w3 = grow (redrawn w2 p.d) p.os) := Lib.hid fun dd os => Calls.regrown_of (HCd.out Ad t.l.length cd _ (hri.row.below (below_regrown w2 dd os)) (by have := hok.len; have := hok.most.2; unfold maxLen; omega))
  obtain ⟨L, hL⟩ : ∃ L, t.l.length = L := ⟨_, rfl⟩
  rw [hL] at HRc q1
  clear hb2 hx2 hbo hok hri c1 f0 f1 f2 f3 f4 f5 hL HCp HCd
  go_wp2_with fail
  refine wp_region_quiet_below (by kernel_rfl) (by kernel_rfl) ?_
  repeat (go_big_quiet_step (exact HRc.out _ _))
  refine wpQuiet_nil ?_
  rintro _ ⟨⟨dq, osq⟩, rfl⟩
  have HL : Hid (But O w (grow (redrawn w2 dq) osq)) := Lib.hid (But.of_below (HB02.out.trans ((below_regrown w2 dq osq).mono HB02.out.size)))
  have HB3 := Lib.hid ((HBo.out.below (below_regrown w2 dq osq)).wide HOO.out)
  clear q1 p1 p2 p3 HRc
  cases o with
  | none =>
    have hk : cK none = -1 := rfl
    rw [hk]
    go_wp2
    go_ret
    exact ⟨rfl, HB3.out, HL.out⟩
  | some k =>
    have hk : cK (some k) = (k : Int) := rfl
    rw [hk]
    have z1 : decide ((k : Int) ≥ 0) = true := decide_eq_true (by omega)
    have z2 : (0 : Int) ≤ (k : Int) := by omega
    go_wp2
    go_ret
    exact ⟨rfl, HB3.out, HL.out⟩
/-- What changes of none that was. -/
theorem But.of_new {S : Nat → Prop} {w w' : World} {n : Nat} (h : But (fun k => n ≤ k) w w') (hn : w.heap.size ≤ n) : But S w w' := But.of_below (h.below (Nat.le_refl _) fun k hk e => by omega)
/-- Something else has changed. -/
theorem Both.apart {O : Nat → Prop} {Bp Bt Bd : Nat} {tp td : Im} {w w' : World} {Y : Nat} (h : Both O w Bp Bt tp Bd td) (hb : But (· = Y) w w') (hY : ¬ O Y) : Both O w' Bp Bt tp Bd td := by
  obtain ⟨Sp, Sd, h1, h2, h3, h4, h5⟩ := h
  have hz := hb.size
  exact ⟨Sp, Sd, h1.but hb fun k e z => hY (by rw [← show k = Y from e]; exact (h3 k z).1), h2.but hb fun k e z => hY (by rw [← show k = Y from e]; exact (h4 k z).1), fun k hk => ⟨(h3 k hk).1, by have := (h3 k hk).2.1; omega, (h3 k hk).2.2⟩, fun k hk => ⟨(h4 k hk).1, by have := (h4 k hk).2; omega⟩, fun k hk => h5 k (by omega)⟩
def icpC (Bc : Nat) (Bd : Nat) (Ad : Option Addr) (cd : Nat) (lst : Nat) (m : List Ir) : Nat → Value
  | 0 | 9 => .pointer (some ⟨Bc, 0, none⟩)
  | 2 | 3 | 11 | 12 => .pointer (some ⟨Bd, 0, none⟩)
  | 4 => .pointer (some ⟨Bd, 1, none⟩)
  | 5 => .slice Ad m.length cd
  | 6 => .bool true
  | 7 | 8 | 15 | 16 => .bool false
  | 10 | 14 => .int .u64 (lst : Int)
  | 13 => .pointer (some ⟨Bd, 2, none⟩)
  | _ => undef
set_option maxHeartbeats 4000000 in
set_option maxRecDepth 100000 in
theorem step_copy {O : Nat → Prop} {Bp Bt Bd : Nat} {t : Im} (s : ISt) (w : World) (h : Both O w Bp Bt t Bd t) (hs : s.Ok) (hk : s.kind = 4) :
    Calls Try.prog 12 #[.pointer (some ⟨Bp, 0, none⟩), .pointer (some ⟨Bd, 0, none⟩), stV s] w (StepPost O w Bp Bt Bd (t)) := by
  obtain ⟨kind, src, dst, allow, old, ix⟩ := s
  simp only at hk
  subst hk
  unfold stV
  simp only
  have hsr : src.size ≤ maxLen := hs.src
  have hds : dst.size ≤ maxLen := hs.dst
  have ho : old < 18446744073709551616 := hs.old
  have hi : ix < 18446744073709551616 := hs.ix
  obtain ⟨X, hX⟩ : ∃ X, w.heap.size = X := ⟨_, rfl⟩
  obtain ⟨W1, hW⟩ : ∃ W1, w.alloc (.cells #[.int .i64 4, .string src, .string dst, .bool allow, .int .u64 (old : Int), .int .u64 (ix : Int)] 30) = W1 := ⟨_, rfl⟩
  have hb0 : Below w.heap.size w W1 := by rw [← hW]; exact below1 _ _ _
  have k0 : W1.heap[X]? = some (.cells #[.int .i64 4, .string src, .string dst, .bool allow, .int .u64 (old : Int), .int .u64 (ix : Int)] 30 (0, 0)) := by rw [← hW, ← hX]; exact heap_alloc_new w _
  obtain ⟨O2, hO2⟩ : ∃ O2 : Nat → Prop, O2 = fun k => O k ∧ k ≠ X := ⟨_, rfl⟩
  have hb1 : Both O2 W1 Bp Bt t Bd t := by rw [hO2]; exact h.box hb0 (X := X) (by omega) (block_lt k0)
  have HOx : Hid (¬ O2 X) := Lib.hid (by rw [hO2]; exact fun z => z.2 rfl)
  have HOO : Hid (∀ k, O2 k → O k) := Lib.hid (by rw [hO2]; exact fun k z => z.1)
  obtain ⟨m, hm⟩ : ∃ m, t.l = m := ⟨_, rfl⟩
  obtain ⟨lst, hlst⟩ : ∃ lst, t.last = lst := ⟨_, rfl⟩
  have HMl : Hid (m.length ≤ maxLen) := Lib.hid (by
    obtain ⟨Sp, k1⟩ := h.read
    have h1 := k1.ok.len
    have h2 := k1.ok.most
    rw [← hm]
    unfold maxLen
    omega)
  have HTm := Lib.hid hm
  have HLst := Lib.hid hlst
  have HSr := Lib.hid hsr
  have HDs := Lib.hid hds
  have hxl : X < W1.heap.size := block_lt k0
  have HXl := Lib.hid hxl
  have HCp : Hid (Calls Try.prog 32 #[.pointer (some ⟨Bp, 0, none⟩)] W1 fun e w2 => ∃ Bc Btc Sc, e = .returned (.pointer (some ⟨Bc, 0, none⟩)) ∧ W1.heap.size ≤ Bc ∧ W1.heap.size ≤ Btc ∧ InAt Sc w2 Bc Btc t ∧ Below W1.heap.size W1 w2) := Lib.hid (by
    obtain ⟨Sp, k1⟩ := hb1.read
    refine (icopy_any k1).mono ?_
    rintro e w2 ⟨Bc, Btc, e1, g1, g2, g3, g4⟩
    exact ⟨Bc, Btc, _, e1, g1, g2, g3, g4⟩)
  have HB1 := Lib.hid hb1
  have HK0 := Lib.hid k0
  have HB0 := Lib.hid hb0
  have HW := Lib.hid hW
  have HX := Lib.hid hX
  obtain ⟨d0, d1, d2, d3, d4, d5⟩ := st_blk k0
  clear h hs hsr hds ho hi hX hW hb0 k0 hO2 hb1 hm hlst hxl
  go_enter Try.func12, Try.ntmps12
  go_wp2_with fail
  rw [HW.out, HX.out]
  go_wp2_with fail
  clear d0 d1 d2 d3 d4 d5
  refine HCp.out.mono ?_
  rintro e W2 ⟨Bc, Btc, Sc, rfl, hBc, hBtc, hkc, hb2⟩
  have hbo : Both (fun k => O2 k ∧ k ≠ Btc) W2 Bp Bt t Bd t := HB1.out.box hb2 hBtc hkc.tlt
  obtain ⟨Sd, Ad, cd, -, hri⟩ := hbo.ref
  have HRf := Lib.hid hri
  have HKc := Lib.hid hkc
  have HBo := Lib.hid hbo
  have HX2 := Lib.hid ((hb2.block X (HXl.out)).trans HK0.out)
  have HBtc := Lib.hid hBtc
  have HB02 : Hid (Below w.heap.size w W2) := Lib.hid (HB0.out.trans (hb2.mono HB0.out.size))
  have HCl : Hid (∀ w', Below W2.heap.size W2 w' → Calls Try.prog 17 #[.pointer (some ⟨Bc, 0, none⟩)] w' fun e w2 => ∃ A c, e = .returned (.slice A m.length c) ∧ SK irC 5 w2 A m.length m ∧ Below w'.heap.size w' w2) := Lib.hid fun w' hw => by
    refine (ilist_any (hkc.below hw)).mono ?_
    rw [HTm.out]
    rintro e w2 ⟨v, e1, s1, b1⟩
    obtain ⟨A, c, rfl, s2, _⟩ := SK.of_row irC_len s1
    exact ⟨A, c, e1, s2, b1⟩
  have HLa : Hid (∀ w', Below W2.heap.size W2 w' → Calls Try.prog 16 #[.pointer (some ⟨Bc, 0, none⟩)] w' fun e w2 => e = .returned (.int .u64 (lst : Int)) ∧ w' = w2) := Lib.hid fun w' hw => by
    rw [← HLst.out]
    exact ilast_any (hkc.below hw)
  clear hbo hri hkc hb2 hBc hBtc HCp
  go_wp2_with fail
  have hre : ∀ w : World, ((fun a b : World => Below a.heap.size a b)) w w := (fun w => Below.refl _ w)
  have hrd : ∀ (f : Nat → Bool) w i, i ≠ 1 → (fun (_ : Nat → Bool) (w : World) => Below W2.heap.size W2 w) f w → (fun (_ : Nat → Bool) (w : World) => Below W2.heap.size W2 w) (Go.Rel.upd f i) w := (fun _ _ _ _ h => h)
  refine Go.Rel.wp_tab (by kernel_rfl) (by kernel_rfl) (fun (_ : Nat → Bool) (w : World) => Below W2.heap.size W2 w) ((fun a b : World => Below a.heap.size a b)) hre ((fun _ _ _ h k => h.trans (k.mono h.size))) ((⟨rfl, rfl, rfl, Nat.le_refl _, fun _ _ => rfl⟩)) ⟨rfl, rfl, rfl, Nat.le_refl _, fun _ _ => rfl⟩ (icpC Bc Bd Ad cd lst m) (fun | 1, v, w => ∃ A c, v = .slice A m.length c ∧ SK irC 5 w A m.length m | _, _, _ => True) (fun i => ([1] : List Nat).contains i) (fun i => ([1, 5, 6, 10, 14, 15] : List Nat).contains i) (by kernel_rfl) (fun i v w w' h g => by revert h; split <;> intro h <;> first | exact h | trivial | (obtain ⟨A, c, e, k⟩ := h; exact ⟨A, c, e, k.below g⟩)) 1 rfl hrd ?_ (Go.Rel.AllOf.get ?_) ?_
  · repeat (refine .cons (by first | exact Go.Rel.pure_sp rfl | exact Go.Rel.pure_yes (by kernel_rfl) (fun _ => by kernel_rfl) | exact Go.Rel.pure_no (by kernel_rfl) rfl) ?_)
    exact .nil
  · refine ⟨?_, ?_, ?_, ?_, ?_, ?_, trivial⟩
    · refine SpecOk.call 17 #[.pointer (some ⟨Bc, 0, none⟩)] rfl (by kernel_rfl) (fun _ => by kernel_rfl) fun _ w' hI _ _ _ _ => ?_
      refine (HCl.out w' hI).mono ?_
      rintro e9 w9 ⟨A9, c9, rfl, s9, hb9⟩
      exact ⟨_, rfl, hb9, (hI.trans (hb9.mono hI.size)), ⟨A9, c9, rfl, s9⟩⟩
    · exact SpecOk.ld hrd hre (q := .pointer (some ⟨Bd, 1, none⟩)) (h := fun _ w' hI _ _ _ _ => by have hri := HRf.out.below hI; have c1 := hri.c1; rw [HTm.out] at c1; go_simp; rfl)
    · refine SpecOk.gen (fun e => [(128, e 1), (132, .slice Ad m.length cd)]) rfl rfl (fun _ => by kernel_rfl) fun f w' e hI hf hdesc hanc hle hX K hK => ?_
      obtain ⟨A3, c3, e3, s3⟩ := hX 1 rfl rfl
      have hri := HRf.out.below hI
      have s5 := hri.row
      rw [HTm.out] at s5
      go_simp
      refine (risame_any A3 _ c3 m Ad cd w' s3 s5 HMl.out).mono ?_
      rintro e9 w9 ⟨rfl, hb9⟩
      exact hK _ _ hb9 (hI.trans (hb9.mono hI.size)) rfl
    · refine SpecOk.call 16 #[.pointer (some ⟨Bc, 0, none⟩)] rfl (by kernel_rfl) (fun _ => by kernel_rfl) fun _ w' hI _ _ _ _ => ?_
      refine (HLa.out w' hI).mono ?_
      rintro e9 w9 ⟨rfl, rfl⟩
      exact ⟨_, rfl, (Below.refl _ _), hI, rfl⟩
    · exact SpecOk.ld hrd hre (q := .pointer (some ⟨Bd, 2, none⟩)) (h := fun _ w' hI _ _ _ _ => by have hri := HRf.out.below hI; have c2 := hri.c2; rw [HLst.out] at c2; go_simp; rfl)
    · refine SpecOk.gen (fun e => [(137, .int .u64 (lst : Int)), (141, .int .u64 (lst : Int))]) rfl rfl (fun _ => by kernel_rfl) fun f w' e hI hf hdesc hanc hle hX K hK => ?_
      have hq : ((lst : Int) != (lst : Int)) = false := by simp
      go_simp
      exact hK _ _ (hre _) (hrd f w' 15 (by decide) hI) rfl
  · intro f w3 e hall hJ hle hv
    have HJ := Lib.hid hJ
    have v9 := hv 16 rfl
    simp only [Go.Rel.finL, List.setIfInBounds_toArray, List.set_cons_succ, List.set_cons_zero]
    rw [show e 16 = .bool false from v9]
    have hk3 := HKc.out.below hJ
    have hbo3 := HBo.out.below hJ
    have HBo3 := Lib.hid hbo3
    have hx3 := (hJ.block X (block_lt HX2.out)).trans HX2.out
    have HX3 := Lib.hid hx3
    obtain ⟨f0, f1, f2, f3, f4, f5⟩ := st_blk hx3
    have HAdd := Lib.hid (add_any src dst allow 99 hk3 HSr.out HDs.out (by decide))
    obtain ⟨r1, hr1⟩ : ∃ r, t.addI src dst allow 99 = r := ⟨_, rfl⟩
    rw [hr1] at HAdd
    have HXB : Hid (¬ X = Btc) := Lib.hid fun e => by have h1 := HXl.out; have h2 := HBtc.out; omega
    clear hv hall hJ hle v9 hk3 hbo3 hx3 hr1
    go_wp2_with fail
    refine HAdd.out.mono ?_
    rintro e w4 ⟨rfl, hk4, hb4⟩
    have hbo4 := HBo3.out.apart hb4 (fun z => z.2 rfl)
    have hx4 := (hb4.block X (block_lt HX3.out) HXB.out).trans HX3.out
    have HBo4 := Lib.hid hbo4
    have HDrop := Lib.hid (drop_any src dst 0 18446744073709551615 hk4 HSr.out HDs.out (by decide) (by decide) : Calls Try.prog 31 #[.pointer (some ⟨Bc, 0, none⟩), .string src, .string dst, .int .u64 0, .int .u64 18446744073709551615] w4 _)
    obtain ⟨r2, hr2⟩ : ∃ r, r1.2.dropI src dst 0 18446744073709551615 = r := ⟨_, rfl⟩
    rw [hr2] at HDrop
    have HB4 := Lib.hid hb4
    clear f0 f1 f2 f3 f4 f5
    obtain ⟨f0, f1, f2, f3, f4, f5⟩ := st_blk hx4
    clear hk4 hb4 hbo4 hx4 HAdd hr2
    go_wp2_with fail
    refine HDrop.out.mono ?_
    rintro e w6 ⟨rfl, -, hb6⟩
    have HBo6 := Lib.hid ((HBo4.out.apart hb6 (fun z => z.2 rfl)).wide (fun k z => HOO.out k z.1))
    have HL : Hid (But O w w6) := Lib.hid (by
      have q3 : But (fun k => W1.heap.size ≤ k) w w6 := (But.of_below (HB02.out.trans (HJ.out.mono HB02.out.size))).trans ((HB4.out.trans hb6).mono fun k e => by rw [show k = Btc from e]; exact HBtc.out)
      exact q3.of_new HB0.out.size)
    clear hb6 HDrop f0 f1 f2 f3 f4 f5
    go_wp2
    go_ret
    exact ⟨rfl, HBo6.out, HL.out⟩
set_option maxHeartbeats 4000000 in
set_option maxRecDepth 100000 in
theorem step_rest {O : Nat → Prop} {Bp Bt Bd : Nat} {t : Im} (s : ISt) (w : World) (h : Both O w Bp Bt t Bd t) (hs : s.Ok) (hk : s.kind < 0 ∨ 4 < s.kind) :
    Calls Try.prog 12 #[.pointer (some ⟨Bp, 0, none⟩), .pointer (some ⟨Bd, 0, none⟩), stV s] w (StepPost O w Bp Bt Bd (t)) := by
  obtain ⟨kind, src, dst, allow, old, ix⟩ := s
  simp only at hk
  unfold stV
  simp only
  have hsr : src.size ≤ maxLen := hs.src
  have hds : dst.size ≤ maxLen := hs.dst
  have ho : old < 18446744073709551616 := hs.old
  have hi : ix < 18446744073709551616 := hs.ix
  obtain ⟨X, hX⟩ : ∃ X, w.heap.size = X := ⟨_, rfl⟩
  obtain ⟨W1, hW⟩ : ∃ W1, w.alloc (.cells #[.int .i64 kind, .string src, .string dst, .bool allow, .int .u64 (old : Int), .int .u64 (ix : Int)] 30) = W1 := ⟨_, rfl⟩
  have hb0 : Below w.heap.size w W1 := by rw [← hW]; exact below1 _ _ _
  have k0 : W1.heap[X]? = some (.cells #[.int .i64 kind, .string src, .string dst, .bool allow, .int .u64 (old : Int), .int .u64 (ix : Int)] 30 (0, 0)) := by rw [← hW, ← hX]; exact heap_alloc_new w _
  obtain ⟨O2, hO2⟩ : ∃ O2 : Nat → Prop, O2 = fun k => O k ∧ k ≠ X := ⟨_, rfl⟩
  have hb1 : Both O2 W1 Bp Bt t Bd t := by rw [hO2]; exact h.box hb0 (X := X) (by omega) (block_lt k0)
  have HOx : Hid (¬ O2 X) := Lib.hid (by rw [hO2]; exact fun z => z.2 rfl)
  have HOO : Hid (∀ k, O2 k → O k) := Lib.hid (by rw [hO2]; exact fun k z => z.1)
  have hn : ∀ j : Int, 0 ≤ j → j ≤ 4 → (kind == j) = false := fun j h1 h2 => by rw [beq_eq_false_iff_ne]; omega
  have n0 := hn 0 (by decide) (by decide)
  have n1 := hn 1 (by decide) (by decide)
  have n2 := hn 2 (by decide) (by decide)
  have n3 := hn 3 (by decide) (by decide)
  have n4 := hn 4 (by decide) (by decide)
  have HB1 := Lib.hid hb1
  have HK0 := Lib.hid k0
  have HB0 := Lib.hid hb0
  have HW := Lib.hid hW
  have HX := Lib.hid hX
  obtain ⟨d0, d1, d2, d3, d4, d5⟩ := st_blk k0
  clear h hs hsr hds ho hi hX hW k0 hO2 hk hn
  go_enter Try.func12, Try.ntmps12
  go_wp2_with fail
  rw [HW.out, HX.out]
  go_wp2
  go_ret
  exact ⟨rfl, hb1.wide HOO.out, But.of_below hb0⟩
/-- What a step makes of intentions. -/
def ISt.after (s : ISt) (t : Im) : Im := if s.kind = 0 then (t.addI s.src s.dst s.allow s.ix).2 else if s.kind = 1 then (t.turnI s.src s.dst s.allow s.old s.ix).2 else if s.kind = 2 then (t.dropI s.src s.dst s.old s.ix).2 else t
theorem step_any {O : Nat → Prop} {Bp Bt Bd : Nat} {t : Im} (s : ISt) (w : World) (h : Both O w Bp Bt t Bd t) (hs : s.Ok) :
    Calls Try.prog 12 #[.pointer (some ⟨Bp, 0, none⟩), .pointer (some ⟨Bd, 0, none⟩), stV s] w (StepPost O w Bp Bt Bd (s.after t)) := by
  unfold ISt.after
  by_cases h0 : s.kind = 0
  · rw [if_pos h0]; exact step_add s w h hs h0
  · rw [if_neg h0]
    by_cases h1 : s.kind = 1
    · rw [if_pos h1]; exact step_turn s w h hs h1
    · rw [if_neg h1]
      by_cases h2 : s.kind = 2
      · rw [if_pos h2]; exact step_drop s w h hs h2
      · rw [if_neg h2]
        by_cases h3 : s.kind = 3
        · exact step_decide s w h hs h3
        · by_cases h4 : s.kind = 4
          · exact step_copy s w h hs h4
          · exact step_rest s w h hs (by omega)
end Go.Proofs.Ytmegfkclpjddgaa
