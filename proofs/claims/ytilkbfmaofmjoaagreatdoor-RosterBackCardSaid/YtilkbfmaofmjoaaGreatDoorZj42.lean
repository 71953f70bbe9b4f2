import Derived.Test.YtilkbfmaofmjoaaGreatDoorZj41
import Derived.Test.YtilkbfmaofmjoaaGreatDoorZj37
import Derived.Laws.StructEq
import Derived.ChangeKeysEq
import Derived.Test.YtilkbfmaofmjoaaGreatDoorZj40
import Derived.BigQuiet
import Derived.RegionTactic
import Derived.BigRegion
import Derived.ChangeAlike
namespace Go.Proofs.YtilkbfmaofmjoaaGreatDoor
open Go.RowKit Go.Rel
set_option linter.unusedSimpArgs false
set_option linter.unusedVariables false
theorem undR_len {α : Type} (l : List (Rw α)) (k : ByteArray) : (undR l k).length ≤ l.length := List.length_filter_le _ _
theorem und_dropsC {m : Nat} {d : Ro} {T : Tb CkW} (h : RoOk m d) (e : cA T = d.c) (node : Int) (q : CkA → Bool) (i : Nat) : cA (T.drops i (((undR T.l (keyO node noT)).filter fun r => q r.val.a).map (·.key))) = d.c.cut (fun v => decide (v.node = node) && q v) i := by
  have h1 : ((undR T.l (keyO node noT)).filter fun r => q r.val.a).map (·.key) = (d.c.l.filter fun r => decide (r.val.node = node) && q r.val).map (·.key) := by
    have h2 := h.und_c node
    rw [← e] at h2
    have h3 : undR (cA T).l (keyO node noT) = (undR T.l (keyO node noT)).map (rwMap (·.a)) := undR_map _ _ _
    rw [h3] at h2
    have h4 : (((undR T.l (keyO node noT)).map (rwMap (·.a))).filter fun r => q r.val).map (·.key) = ((undR T.l (keyO node noT)).filter fun r => q r.val.a).map (·.key) := by
      rw [List.filter_map, List.map_map]
      rfl
    rw [← h4, h2]
    unfold Ro.chkOf
    rw [List.filter_filter]
    refine congrArg _ (List.filter_congr fun r _ => ?_)
    exact Bool.and_comm _ _
  rw [h1]
  refine (Tb.drops_map _ i _ T).symm.trans ?_
  rw [show Tb.map (fun x => x.a) T = d.c from e]
  exact drops_cut h.cok.rise (fun v => decide (v.node = node) && q v) i
theorem und_dropsS {m : Nat} {d : Ro} {T : Tb SvW} (h : RoOk m d) (e : sA T = d.s) (node : Int) (i : Nat) : sA (T.drops i ((undR T.l (keyO node noT)).map (·.key))) = d.s.cut (fun v => decide (v.node = node)) i := by
  have h1 : (undR T.l (keyO node noT)).map (·.key) = (d.s.l.filter fun r => decide (r.val.node = node)).map (·.key) := by
    have h2 := h.und_s node
    rw [← e] at h2
    have h3 : undR (sA T).l (keyO node noT) = (undR T.l (keyO node noT)).map (rwMap (·.a)) := undR_map _ _ _
    rw [h3] at h2
    have h4 : ((undR T.l (keyO node noT)).map (rwMap (·.a))).map (·.key) = (undR T.l (keyO node noT)).map (·.key) := by
      rw [List.map_map]
      rfl
    rw [← h4, h2]
    rfl
  rw [h1]
  refine (Tb.drops_map _ i _ T).symm.trans ?_
  rw [show Tb.map (fun x => x.a) T = d.s from e]
  exact drops_cut h.sok.rise (fun v => decide (v.node = node)) i
def rdsE (B : Nat) (B2 : Nat) (node : Int) (nid : ByteArray) (ii : Nat) (k : ByteArray) (b : Bool) : Nat → Value
  | 0 | 1 => .pointer (some ⟨B, 0, none⟩)
  | 2 => .pointer (some ⟨B, 1, none⟩)
  | 3 => .pointer (some ⟨B2, 0, none⟩)
  | 4 => .func (.func 52) #[.int .i64 node] #[]
  | 5 => .string nid
  | 6 => .string k
  | 7 => .int .u64 (ii : Int)
  | 8 => .bool b
  | 9 => .bool (!b)
  | _ => undef
def rdsU (B : Nat) (B3 : Nat) (node : Int) (kk : ByteArray) (L : Nat) : Nat → Value
  | 0 | 1 => .pointer (some ⟨B, 0, none⟩)
  | 2 => .pointer (some ⟨B, 2, none⟩)
  | 3 => .pointer (some ⟨B3, 0, none⟩)
  | 4 => .func (.func 52) #[.int .i64 node] #[]
  | 5 => .string kk
  | 7 => .int .i64 (L : Int)
  | 8 => .int .i64 0
  | _ => undef
def rdsF (B : Nat) (B3 : Nat) (X : Nat) (ii : Nat) (kx : ByteArray) (bb : Bool) : Nat → Value
  | 0 | 1 => .pointer (some ⟨B, 0, none⟩)
  | 2 => .pointer (some ⟨B, 2, none⟩)
  | 3 => .pointer (some ⟨B3, 0, none⟩)
  | 4 => .pointer (some ⟨X, 0, none⟩)
  | 5 => .string kx
  | 6 => .int .u64 (ii : Int)
  | 7 => .bool bb
  | _ => undef
set_option maxHeartbeats 4000000 in
set_option maxRecDepth 100000 in
theorem rdropservice_any {S : Nat → Prop} {w : World} {B B1 B2 B3 m : Nat} {d : Ro} (node : Int) (nid : ByteArray) (ii : Nat) (h : RoAt S w B B1 B2 B3 m d) (hn : -9223372036854775808 ≤ node ∧ node ≤ 9223372036854775807) (hs : nid.size ≤ 140737488355328) (hi : ii < 18446744073709551616) : Calls Tryz.prog 31 #[.pointer (some ⟨B, 0, none⟩), .int .i64 node, .string nid, .int .u64 (ii : Int)] w fun e w' => e = .returned (.int .i64 ((d.dropS node nid ii).1 : Int)) ∧ RoAt (fun k => S k ∨ w.heap.size ≤ k) w' B B1 B2 B3 m (d.dropS node nid ii).2 ∧ But (Ch3 B1 B2 B3) w w' := by
  have HAt := Lib.hid h
  obtain ⟨hok, T1, T2, T3, h, e1, e2, e3⟩ := h
  have HMd := Lib.hid (made_is h.ptr)
  have HI := Lib.hid hi
  have HIs := Lib.hid h
  have HE := Lib.hid (And.intro e1 (And.intro e2 e3))
  have HOk := Lib.hid hok
  have hok2 := hok.dropS (node := node) (id := nid) hi
  obtain ⟨S1, hS1⟩ : ∃ S1 : Nat → Prop, S1 = fun k => S k ∨ w.heap.size ≤ k := ⟨_, rfl⟩
  rw [← hS1]
  have HS1 : Hid (∀ k, S k → S1 k) := Lib.hid fun k z => by rw [hS1]; exact .inl z
  have HS1b : Hid (∀ k, w.heap.size ≤ k → S1 k) := Lib.hid fun k z => by rw [hS1]; exact .inr z
  obtain ⟨kk, hkk⟩ : ∃ kk, keyO node noT = kk := ⟨_, rfl⟩
  have HKs : Hid (kk.size ≤ maxLen) := Lib.hid (by rw [← hkk]; exact key_sz hn)
  have HKk := Lib.hid hkk
  obtain ⟨k, hk⟩ : ∃ k, keyO node nid = k := ⟨_, rfl⟩
  obtain ⟨b, hb⟩ : ∃ b, (getR T2.l k).isSome = b := ⟨_, rfl⟩
  have hhas : d.has node nid = b := by
    unfold Ro.has
    rw [hk, ← e2]
    exact (has_map _ T2 k).trans hb
  have e5 : sA (T2.dropT k ii) = d.s.dropT k ii := by rw [← e2]; exact (Tb.dropT_map _ T2 k ii).symm
  have e6 : b = false → d.s.dropT k ii = d.s := fun z => by
    have : (getR d.s.l k).isSome = false := by rw [← e2]; exact (has_map _ T2 k).trans (hb.trans z)
    unfold Tb.dropT
    rw [this]
    rfl
  have hcut : cA (T3.drops ii (((undR T3.l (keyO node noT)).filter fun r => r.val.a.svc.toList == nid.toList).map (·.key))) = d.c.cut (ofSvc node nid) ii := und_dropsC hok e3 node (fun v => v.svc.toList == nid.toList) ii
  have hd : d.dropS node nid ii = if b then (0, ⟨d.n, sA (T2.dropT k ii), d.c.cut (ofSvc node nid) ii⟩) else (4, d) := by
    unfold Ro.dropS
    rw [hhas, hk, e5]
    cases b <;> rfl
  have HCut := Lib.hid hcut
  have HE5 := Lib.hid e5
  have HE6 := Lib.hid e6
  rw [hd] at hok2 ⊢
  have HOk2 := Lib.hid hok2
  have HKy := Lib.hid (fun W (hW : PwIs W) => rkey_any node nid W hn hs hW)
  have HKy2 := Lib.hid (fun W (hW : PwIs W) => rkey_any node noT W hn (by decide) hW)
  have HHk := Lib.hid hk
  have HHb := Lib.hid hb
  clear h e1 e2 e3 hok hi hn hs hk hb hd hok2 hhas e5 e6 hcut hkk hS1
  go_enter Tryz.func31, Tryz.ntmps31
  go_wp2_with fail
  refine HMd.out.mono ?_
  rintro e W0 ⟨rfl, hb⟩
  have hA := HIs.out.below hb
  have HB := Lib.hid hb
  have HKb := Lib.hid hA.ptr
  have HLb := Lib.hid hA.lt
  have HMu : Hid (∀ k, k = B2 → k < W0.heap.size) := Lib.hid fun k e => by rw [e]; exact hA.lts.2.1
  have HKey := Lib.hid (fun W (hW : Below W0.heap.size W0 W) => (by
    have := HKy.out W (hA.pw.below hW)
    rw [HHk.out] at this
    exact this : Calls Tryz.prog 52 #[.int .i64 node, .string nid] W fun e w' => e = .returned (.string k) ∧ Below W.heap.size W w'))
  have HDr := Lib.hid (fun W (hW : Below W0.heap.size W0 W) => (by
    have := drop2_ro (hA.below hW) k ii HI.out
    rw [HHb.out] at this
    exact this.mono fun e w' ⟨q1, q2, q3⟩ => ⟨q1, q2.narrow fun k _ z => z.elim (fun z => HS1.out k z) fun z => HS1b.out k (Nat.le_trans HB.out.size (Nat.le_trans hW.size z)), q3⟩ : Calls Tryz.prog 73 #[.pointer (some ⟨B2, 0, none⟩), .string k, .int .u64 (ii : Int)] W fun e w' => e = .returned (.bool b) ∧ RoIs S1 w' B B1 B2 B3 T1 (T2.dropT k ii) T3 ∧ But (· = B2) W w'))
  clear hA hb HMd HIs HKy
  go_wp2_with fail
  have hre : ∀ w : World, (But (OldB W0)) w w := (fun w => But.refl _ w)
  have hrd : ∀ (f : Nat → Bool) w i, i ≠ 8 → (TI 8 W0 (fun w => RoIs S1 w B B1 B2 B3 T1 (T2.dropT k ii) T3 ∧ But (· = B2) W0 w)) f w → (TI 8 W0 (fun w => RoIs S1 w B B1 B2 B3 T1 (T2.dropT k ii) T3 ∧ But (· = B2) W0 w)) (Go.Rel.upd f i) w := (fun _ _ _ hi h => h.read hi)
  refine Go.Rel.wp_tab (by kernel_rfl) (by kernel_rfl) (TI 8 W0 (fun w => RoIs S1 w B B1 B2 B3 T1 (T2.dropT k ii) T3 ∧ But (· = B2) W0 w)) (But (OldB W0)) hre ((fun _ _ _ h k => h.trans k)) (OldB.drew) TI.start (rdsE B B2 node nid ii k b) (fun _ _ _ => True) (fun i => ([] : List Nat).contains i) (fun i => ([3, 6, 8] : List Nat).contains i) (by kernel_rfl) (fun _ _ _ _ h _ => h) 8 rfl hrd ?_ (Go.Rel.AllOf.get ?_) ?_
  · repeat (refine .cons (by first | exact Go.Rel.pure_sp rfl | exact Go.Rel.pure_yes (by kernel_rfl) (fun _ => by kernel_rfl) | exact Go.Rel.pure_no (by kernel_rfl) rfl) ?_)
    exact .nil
  · refine ⟨?_, ?_, ?_, trivial⟩
    · exact SpecOk.ld hrd hre (q := .pointer (some ⟨B, 1, none⟩)) (h := fun _ w' hI _ hdesc _ _ => by have cb := ro_ptrs (((hI.ahead (hdesc 60 8 (by kernel_rfl))).block B HLb.out).trans HKb.out); go_simp; rfl)
    · refine SpecOk.gen (fun e => [(21, .func (.func 52) #[.int .i64 node] #[]), (22, .string nid)]) rfl rfl (fun _ => by kernel_rfl) fun f w' e hI hf hdesc hanc hle hX K hK => ?_
      go_simp
      have zL : f 8 = false := hdesc 60 8 (by kernel_rfl)
      refine (HKey.out w' (hI.ahead zL)).mono ?_
      rintro e2 w2 ⟨rfl, hb9⟩
      exact hK _ _ (But.of_below hb9) (hI.below zL hb9 (by decide)) rfl
    · refine SpecOk.call 73 #[.pointer (some ⟨B2, 0, none⟩), .string k, .int .u64 (ii : Int)] rfl (by kernel_rfl) (fun _ => by kernel_rfl) fun _ w' hI hf _ _ _ => ?_
      refine (HDr.out w' (hI.ahead hf)).mono ?_
      rintro e9 w9 ⟨rfl, h9, hb9⟩
      exact ⟨_, rfl, (But.oldB hb9 HMu.out), (TI.last ⟨h9, (But.of_below (hI.ahead hf)).trans hb9⟩), rfl⟩
  · intro f w3 e hall hJ hle hv
    have HJ := Lib.hid (hJ.done_ (hall 8 (by decide)))
    have v9 := hv 9 rfl
    simp only [Go.Rel.finL, List.setIfInBounds_toArray, List.set_cons_succ, List.set_cons_zero]
    rw [show e 9 = .bool (!b) from v9]
    have HBw : Hid (But (Ch3 B1 B2 B3) w w3) := Lib.hid ((But.of_below HB.out).trans (but2 HJ.out.2))
    have HR := Lib.hid HJ.out.1
    clear hv hall hle hJ v9 HJ
    cases b with
    | false =>
      go_wp2
      go_ret
      have := HE6.out (by first | rfl | trivial)
      exact ⟨rfl, ⟨HOk2.out, _, _, _, HR.out, HE.out.1, by rw [HE5.out, this], HE.out.2.2⟩, HBw.out⟩
    | true =>
      obtain ⟨T2d, hT2d⟩ : ∃ T, T2.dropT k ii = T := ⟨_, rfl⟩
      rw [hT2d] at HR
      have HT2d := Lib.hid hT2d
      clear hT2d HDr HKey HKb HLb HMu HHb
      have HKb := Lib.hid HR.out.ptr
      have HLb := Lib.hid HR.out.lt
      have HBj := Lib.hid HR.out.lts.2.2
      have HKey2 := Lib.hid (fun W (hW : Below w3.heap.size w3 W) => (by
        have := HKy2.out W (HR.out.pw.below hW)
        rw [HKk.out] at this
        exact this : Calls Tryz.prog 52 #[.int .i64 node, .string noT] W fun e w' => e = .returned (.string kk) ∧ Below W.heap.size W w'))
      obtain ⟨lv, hlv⟩ : ∃ lv, undR T3.l kk = lv := ⟨_, rfl⟩
      obtain ⟨L, hL⟩ : ∃ L, lv.length = L := ⟨_, rfl⟩
      have HLv := Lib.hid hlv
      have HL := Lib.hid hL
      have hL64 : L ≤ 64 := by rw [← hL, ← hlv]; exact Nat.le_trans (undR_len _ _) (Nat.le_trans HR.out.t3.1.len HR.out.t3.1.most.2)
      have HUn := Lib.hid (fun W (hW : Below w3.heap.size w3 W) => (by
        refine (Ct.under_t kk (HR.out.t3.below hW) HKs.out).mono fun e w' ⟨A, c, q1, q2, _, _, q4, q3⟩ => ?_
        rw [HLv.out, HL.out] at q1 q2
        exact ⟨A, c, q1, q2, fun b off e => Nat.le_trans hW.size (q4 b off e), q3⟩ : Calls Tryz.prog 54 #[.pointer (some ⟨B3, 0, none⟩), .string kk] W fun e w' => ∃ A c, e = .returned (.slice A L c) ∧ SK Ct.trC 10 w' A L lv ∧ (∀ b off, A = some ⟨b, off, none⟩ → w3.heap.size ≤ b) ∧ Below W.heap.size W w'))
      clear hlv hL
      go_wp2_with fail
      have hre : ∀ w : World, ((fun a b : World => Below a.heap.size a b)) w w := (fun w => Below.refl _ w)
      have hrd : ∀ (f : Nat → Bool) w i, i ≠ 6 → (fun (_ : Nat → Bool) (w : World) => Below w3.heap.size w3 w) f w → (fun (_ : Nat → Bool) (w : World) => Below w3.heap.size w3 w) (Go.Rel.upd f i) w := (fun _ _ _ _ h => h)
      refine Go.Rel.wp_tab (by kernel_rfl) (by kernel_rfl) (fun (_ : Nat → Bool) (w : World) => Below w3.heap.size w3 w) ((fun a b : World => Below a.heap.size a b)) hre ((fun _ _ _ h k => h.trans (k.mono h.size))) ((⟨rfl, rfl, rfl, Nat.le_refl _, fun _ _ => rfl⟩)) ⟨rfl, rfl, rfl, Nat.le_refl _, fun _ _ => rfl⟩ (rdsU B B3 node kk L) (fun | 6, v, w => ∃ A c, v = .slice A L c ∧ SK Ct.trC 10 w A L lv ∧ ∀ b off, A = some ⟨b, off, none⟩ → w3.heap.size ≤ b | _, _, _ => True) (fun i => ([6] : List Nat).contains i) (fun i => ([3, 5, 6, 7] : List Nat).contains i) (by kernel_rfl) (fun i v w w' h g => by revert h; split <;> intro h <;> first | exact h | trivial | (obtain ⟨A, c, e, k, z⟩ := h; exact ⟨A, c, e, k.below g, z⟩)) 6 rfl hrd ?_ (Go.Rel.AllOf.get ?_) ?_
      · repeat (refine .cons (by first | exact Go.Rel.pure_sp rfl | exact Go.Rel.pure_yes (by kernel_rfl) (fun _ => by kernel_rfl) | exact Go.Rel.pure_no (by kernel_rfl) rfl) ?_)
        exact .nil
      · refine ⟨?_, ?_, ?_, ?_, trivial⟩
        · exact SpecOk.ld hrd hre (q := .pointer (some ⟨B, 2, none⟩)) (h := fun _ w' hI _ _ _ _ => by have cb := ro_ptrs ((hI.block B HLb.out).trans HKb.out); go_simp; rfl)
        · refine SpecOk.gen (fun e => [(31, .func (.func 52) #[.int .i64 node] #[])]) rfl rfl (fun _ => by kernel_rfl) fun f w' e hI hf hdesc hanc hle hX K hK => ?_
          go_simp
          refine (HKey2.out w' hI).mono ?_
          rintro e2 w2 ⟨rfl, hb9⟩
          exact hK _ _ hb9 (hI.trans (hb9.mono hI.size)) rfl
        · refine SpecOk.call 54 #[.pointer (some ⟨B3, 0, none⟩), .string kk] rfl (by kernel_rfl) (fun _ => by kernel_rfl) fun _ w' hI _ _ _ _ => ?_
          refine (HUn.out w' hI).mono ?_
          rintro e9 w9 ⟨A9, c9, rfl, s9, g9, hb9⟩
          exact ⟨_, rfl, hb9, (hI.trans (hb9.mono hI.size)), ⟨A9, c9, rfl, s9, g9⟩⟩
        · refine SpecOk.gen (fun e => [(33, e 6)]) rfl rfl (fun _ => by kernel_rfl) fun f w' e hI hf hdesc hanc hle hX K hK => ?_
          obtain ⟨A6, c6, e6, s6, g6⟩ := hX 6 rfl rfl
          simp only [e6]
          go_simp
          exact hK _ _ (Below.refl _ _) hI rfl
      · intro f w4 e hall hJ hle hv
        obtain ⟨A, c, v1, s1, g1⟩ := hv 6 rfl
        have v2 := hv 7 rfl
        have v3 := hv 8 rfl
        simp only [Go.Rel.finL, List.setIfInBounds_toArray, List.set_cons_succ, List.set_cons_zero]
        rw [show e 6 = .slice A L c from v1, show e 7 = .int .i64 (L : Int) from v2, show e 8 = .int .i64 0 from v3]
        have HS := Lib.hid s1
        have HG := Lib.hid g1
        have HR4 := Lib.hid (HR.out.below hJ)
        have HB4 := Lib.hid (HBw.out.trans (But.of_below hJ))
        have HSz4 := Lib.hid hJ.size
        clear hv hall hle hJ v1 v2 v3 s1 g1 HUn HKey2 HKb HLb
        go_wp2_with fail
        go_loopw [35] (fun iv wr => ∃ (k : Nat) (dk : List ByteArray), k ≤ L ∧ iv = .int .i64 (k : Int) ∧ Hid (dk = ((lv.take k).filter (fun r : Rw CkW => r.val.a.svc.toList == nid.toList)).map (·.key)) ∧ Hid (RoIs S1 wr B B1 B2 B3 T1 T2d (T3.drops ii dk)) ∧ Hid (But (· = B3) w4 wr)) (fun iv _ => L - (intOf iv).toNat)
        case atStart => exact ⟨0, [], Nat.zero_le _, rfl, Lib.hid rfl, HR4, Lib.hid (But.refl _ _)⟩
        case round =>
          obtain ⟨k, dk, hk, rfl, hdk, hro, hb⟩ := hrel
          by_cases hlt : k < L
          · have hkl : k < lv.length := by rw [HL.out]; exact hlt
            have hs := HS.out.but hb.out (fun b off e _ q => by have q2 : b = B3 := q; have := HG.out b off e; have := HBj.out; omega)
            obtain ⟨b, off, rfl, hbl, hit⟩ := hs.at_ hlt hkl
            have hst : lv.take (k + 1) = lv.take k ++ [lv[k]] := List.take_succ_eq_append_getElem hkl
            obtain ⟨x, hx⟩ : ∃ x, lv[k] = x := ⟨_, rfl⟩
            rw [hx] at hit hst
            cases q0 : (x.val.a.svc.toList == nid.toList) with
            | true =>
              obtain ⟨c0, c1, c2, c3, c4, c5, c6, c7, c8, c9⟩ := Ct.tr_cells hit
              have kx0 := heap_alloc_new wr (.cells #[.string x.key, .int .i64 x.val.a.node, .string x.val.a.id, .string x.val.a.svc, .string x.val.a.note, .int .i64 x.val.a.status, .int .u64 (x.val.jm : Int), .int .u64 (x.val.ji : Int), .int .u64 (x.made : Int), .int .u64 (x.ix : Int)] 120)
              have bx := below1 wr #[.string x.key, .int .i64 x.val.a.node, .string x.val.a.id, .string x.val.a.svc, .string x.val.a.note, .int .i64 x.val.a.status, .int .u64 (x.val.jm : Int), .int .u64 (x.val.ji : Int), .int .u64 (x.made : Int), .int .u64 (x.ix : Int)] 120
              obtain ⟨W2, hW2⟩ : ∃ W2, wr.alloc (.cells #[.string x.key, .int .i64 x.val.a.node, .string x.val.a.id, .string x.val.a.svc, .string x.val.a.note, .int .i64 x.val.a.status, .int .u64 (x.val.jm : Int), .int .u64 (x.val.ji : Int), .int .u64 (x.made : Int), .int .u64 (x.ix : Int)] 120) = W2 := ⟨_, rfl⟩
              rw [hW2] at bx kx0
              obtain ⟨X, hX⟩ : ∃ X, wr.heap.size = X := ⟨_, rfl⟩
              rw [hX] at kx0
              obtain ⟨kx, hkx⟩ : ∃ kx, x.key = kx := ⟨_, rfl⟩
              obtain ⟨bb, hbb⟩ : ∃ bb, (getR (T3.drops ii dk).l kx).isSome = bb := ⟨_, rfl⟩
              have hA := hro.out.below bx
              have HKb := Lib.hid hA.ptr
              have HLb := Lib.hid hA.lt
              have HKx := Lib.hid kx0
              have HLx := Lib.hid (block_lt kx0)
              have HMu : Hid (∀ k, k = B3 → k < W2.heap.size) := Lib.hid fun k e => by rw [e]; exact hA.lts.2.2
              have HB2 : Hid (But (· = B3) w4 W2) := Lib.hid (hb.out.trans (But.of_below bx))
              have HDk := hdk
              have HHb := Lib.hid hbb
              have HSz : Hid (w.heap.size ≤ W2.heap.size) := Lib.hid (Nat.le_trans HB4.out.size HB2.out.size)
              have HDr := Lib.hid (fun W (hW : Below W2.heap.size W2 W) => (by
                have := drop3_ro (hA.below hW) kx ii HI.out
                rw [HHb.out] at this
                exact this.mono fun e w' ⟨q1, q2, q3⟩ => ⟨q1, q2.narrow fun k _ z => z.elim (fun z => z) fun z => HS1b.out k (Nat.le_trans HSz.out (Nat.le_trans hW.size z)), q3⟩ : Calls Tryz.prog 62 #[.pointer (some ⟨B3, 0, none⟩), .string kx, .int .u64 (ii : Int)] W fun e w' => e = .returned (.bool bb) ∧ RoIs S1 w' B B1 B2 B3 T1 T2d ((T3.drops ii dk).dropT kx ii) ∧ But (· = B3) W w'))
              rw [hkx] at HKx
              have HW2 := Lib.hid hW2
              have HX := Lib.hid hX
              have HKey2 := Lib.hid hkx
              have HSt := Lib.hid hst
              clear hs hit hst hx kx0 bx hW2 hX hkx hbb hA hdk hro hb
              have qx : (x.val.a.svc.toList == nid.toList) = true := q0
              have HDk2 : Hid (dk ++ [kx] = ((lv.take (k + 1)).filter (fun r : Rw CkW => r.val.a.svc.toList == nid.toList)).map (·.key)) := Lib.hid (by rw [HSt.out, List.filter_append, List.map_append, ← HDk.out, List.filter_cons_of_pos (by exact qx), List.filter_nil]; simp [HKey2.out])
              go_wp2_with fail
              rw [HW2.out, HX.out]
              clear c0 c1 c2 c3 c4 c5 c6 c7 c8 c9
              have hre : ∀ w : World, (But (OldB W2)) w w := (fun w => But.refl _ w)
              have hrd : ∀ (f : Nat → Bool) w i, i ≠ 7 → (TI 7 W2 (fun w => RoIs S1 w B B1 B2 B3 T1 T2d ((T3.drops ii dk).dropT kx ii) ∧ But (· = B3) W2 w)) f w → (TI 7 W2 (fun w => RoIs S1 w B B1 B2 B3 T1 T2d ((T3.drops ii dk).dropT kx ii) ∧ But (· = B3) W2 w)) (Go.Rel.upd f i) w := (fun _ _ _ hi h => h.read hi)
              refine Go.Rel.wp_tab (by kernel_rfl) (by kernel_rfl) (TI 7 W2 (fun w => RoIs S1 w B B1 B2 B3 T1 T2d ((T3.drops ii dk).dropT kx ii) ∧ But (· = B3) W2 w)) (But (OldB W2)) hre ((fun _ _ _ h k => h.trans k)) (OldB.drew) TI.start (rdsF B B3 X ii kx bb) (fun _ _ _ => True) (fun i => ([] : List Nat).contains i) (fun i => ([3, 5, 7] : List Nat).contains i) (by kernel_rfl) (fun _ _ _ _ h _ => h) 7 rfl hrd ?_ (Go.Rel.AllOf.get ?_) ?_
              · repeat (refine .cons (by first | exact Go.Rel.pure_sp rfl | exact Go.Rel.pure_yes (by kernel_rfl) (fun _ => by kernel_rfl) | exact Go.Rel.pure_no (by kernel_rfl) rfl) ?_)
                exact .nil
              · refine ⟨?_, ?_, ?_, trivial⟩
                · exact SpecOk.ld hrd hre (q := .pointer (some ⟨B, 2, none⟩)) (h := fun _ w' hI _ hdesc _ _ => by have cb := ro_ptrs (((hI.ahead (hdesc 60 7 (by kernel_rfl))).block B HLb.out).trans HKb.out); go_simp; rfl)
                · exact SpecOk.ld hrd hre (q := .pointer (some ⟨X, 0, none⟩)) (h := fun f w' hI _ hdesc _ _ => by have zx : f 7 = false := hdesc 60 7 (by kernel_rfl); have cx := cellsN (((hI.ahead zx).block X HLx.out).trans HKx.out) 0 _ rfl; go_simp; rfl)
                · refine SpecOk.call 62 #[.pointer (some ⟨B3, 0, none⟩), .string kx, .int .u64 (ii : Int)] rfl (by kernel_rfl) (fun _ => by kernel_rfl) fun _ w' hI hf _ _ _ => ?_
                  refine (HDr.out w' (hI.ahead hf)).mono ?_
                  rintro e9 w9 ⟨rfl, h9, hb9⟩
                  exact ⟨_, rfl, (But.oldB hb9 HMu.out), (TI.last ⟨h9, (But.of_below (hI.ahead hf)).trans hb9⟩), rfl⟩
              · intro f w5 e hall hJ hle hv
                have HJ := Lib.hid (hJ.done_ (hall 7 (by decide)))
                simp only [Go.Rel.finL, List.setIfInBounds_toArray, List.set_cons_succ, List.set_cons_zero]
                have HB5 := Lib.hid (HB2.out.trans HJ.out.2)
                have HR5 := Lib.hid HJ.out.1
                rw [← drops_snoc] at HR5
                clear hv hall hle hJ
                go_wp2
                go_roundw
                case rel => exact ⟨k + 1, dk ++ [kx], by omega, by go_num, HDk2, HR5, HB5⟩
                case measure => simp [intOf]; omega
            | false =>
              have HDk2 : Hid (dk = ((lv.take (k + 1)).filter (fun r : Rw CkW => r.val.a.svc.toList == nid.toList)).map (·.key)) := Lib.hid (by rw [hst, List.filter_append, List.map_append, ← hdk.out, List.filter_cons_of_neg (by simpa using q0)]; simp)
              obtain ⟨c0, c1, c2, c3, c4, c5, c6, c7, c8, c9⟩ := Ct.tr_cells hit
              have bx := below1 wr #[.string x.key, .int .i64 x.val.a.node, .string x.val.a.id, .string x.val.a.svc, .string x.val.a.note, .int .i64 x.val.a.status, .int .u64 (x.val.jm : Int), .int .u64 (x.val.ji : Int), .int .u64 (x.made : Int), .int .u64 (x.ix : Int)] 120
              have kx0 := heap_alloc_new wr (.cells #[.string x.key, .int .i64 x.val.a.node, .string x.val.a.id, .string x.val.a.svc, .string x.val.a.note, .int .i64 x.val.a.status, .int .u64 (x.val.jm : Int), .int .u64 (x.val.ji : Int), .int .u64 (x.made : Int), .int .u64 (x.ix : Int)] 120)
              have HR5 := Lib.hid (hro.out.below bx)
              have HB5 := Lib.hid (hb.out.trans (But.of_below bx))
              clear hs hit hst hx bx hdk hro hb kx0
              go_wp2
              go_roundw
              case rel => exact ⟨k + 1, dk, by omega, by go_num, HDk2, HR5, HB5⟩
              case measure => simp [intOf]; omega
          · obtain rfl : k = L := by omega
            have ht : lv.take k = lv := List.take_of_length_le (by rw [HL.out]; omega)
            rw [ht, ← HLv.out] at hdk
            clear ht
            have HF := Lib.hid hdk
            have HR6 := hro
            have HB6 := Lib.hid (HB4.out.trans (but3 hb.out))
            clear hdk hro hb
            go_wp2
            go_ret
            refine ⟨rfl, ⟨HOk2.out, _, _, _, HR6.out, HE.out.1, by rw [HT2d.out], ?_⟩, HB6.out⟩
            rw [HF.out, ← HKk.out]
            exact HCut.out
end Go.Proofs.YtilkbfmaofmjoaaGreatDoor
namespace Go.Proofs.YtilkbfmaofmjoaaGreatDoor
open Go.RowKit Go.Rel
set_option linter.unusedSimpArgs false
set_option linter.unusedVariables false
def rdnF (B : Nat) (B2 : Nat) (X : Nat) (ii : Nat) (kx : ByteArray) (bb : Bool) : Nat → Value
  | 0 | 1 => .pointer (some ⟨B, 0, none⟩)
  | 2 => .pointer (some ⟨B, 1, none⟩)
  | 3 => .pointer (some ⟨B2, 0, none⟩)
  | 4 => .pointer (some ⟨X, 0, none⟩)
  | 5 => .string kx
  | 6 => .int .u64 (ii : Int)
  | 7 => .bool bb
  | _ => undef
def rdnG (B : Nat) (B3 : Nat) (X : Nat) (ii : Nat) (kx : ByteArray) (bb : Bool) : Nat → Value
  | 0 | 1 => .pointer (some ⟨B, 0, none⟩)
  | 2 => .pointer (some ⟨B, 2, none⟩)
  | 3 => .pointer (some ⟨B3, 0, none⟩)
  | 4 => .pointer (some ⟨X, 0, none⟩)
  | 5 => .string kx
  | 6 => .int .u64 (ii : Int)
  | 7 => .bool bb
  | _ => undef
theorem und_dropsC0 {m : Nat} {d : Ro} {T : Tb CkW} (h : RoOk m d) (e : cA T = d.c) (node : Int) (i : Nat) : cA (T.drops i ((undR T.l (keyO node noT)).map (·.key))) = d.c.cut (fun v => decide (v.node = node)) i := by
  have h1 := und_dropsC h e node (fun _ => true) i
  rw [List.filter_eq_self.2 (fun _ _ => rfl)] at h1
  simpa only [Bool.and_true] using h1
set_option maxHeartbeats 4000000 in
set_option maxRecDepth 100000 in
theorem rdropnode_any {S : Nat → Prop} {w : World} {B B1 B2 B3 m : Nat} {d : Ro} (node : Int) (ii : Nat) (h : RoAt S w B B1 B2 B3 m d) (hn : -9223372036854775808 ≤ node ∧ node ≤ 9223372036854775807) (hi : ii < 18446744073709551616) : Calls Tryz.prog 29 #[.pointer (some ⟨B, 0, none⟩), .int .i64 node, .int .u64 (ii : Int)] w fun e w' => e = .returned (.int .i64 ((d.dropN node ii).1 : Int)) ∧ RoAt (fun k => S k ∨ w.heap.size ≤ k) w' B B1 B2 B3 m (d.dropN node ii).2 ∧ But (Ch3 B1 B2 B3) w w' := by
  have HAt := Lib.hid h
  obtain ⟨hok, T1, T2, T3, h, e1, e2, e3⟩ := h
  have HMd := Lib.hid (made_is h.ptr)
  have HI := Lib.hid hi
  have HIs := Lib.hid h
  have HE := Lib.hid (And.intro e1 (And.intro e2 e3))
  have HOk := Lib.hid hok
  have hok2 := hok.dropN (node := node) hi
  obtain ⟨S1, hS1⟩ : ∃ S1 : Nat → Prop, S1 = fun k => S k ∨ w.heap.size ≤ k := ⟨_, rfl⟩
  rw [← hS1]
  have HS1 : Hid (∀ k, S k → S1 k) := Lib.hid fun k z => by rw [hS1]; exact .inl z
  have HS1b : Hid (∀ k, w.heap.size ≤ k → S1 k) := Lib.hid fun k z => by rw [hS1]; exact .inr z
  obtain ⟨kk, hkk⟩ : ∃ kk, keyO node noT = kk := ⟨_, rfl⟩
  have HKs : Hid (kk.size ≤ maxLen) := Lib.hid (by rw [← hkk]; exact key_sz hn)
  have HKk := Lib.hid hkk
  obtain ⟨b, hb⟩ : ∃ b, (getR T1.l kk).isSome = b := ⟨_, rfl⟩
  have hth : d.there node = b := by
    unfold Ro.there
    rw [hkk, ← e1]
    exact (has_map _ T1 kk).trans hb
  have e5 : nA (T1.dropT kk ii) = d.n.dropT kk ii := by rw [← e1]; exact (Tb.dropT_map _ T1 kk ii).symm
  have e6 : b = false → d.n.dropT kk ii = d.n := fun z => by
    have : (getR d.n.l kk).isSome = false := by rw [← e1]; exact (has_map _ T1 kk).trans (hb.trans z)
    unfold Tb.dropT
    rw [this]
    rfl
  have hd : d.dropN node ii = if b then (0, ⟨nA (T1.dropT kk ii), d.s.cut (fun v => decide (v.node = node)) ii, d.c.cut (fun v => decide (v.node = node)) ii⟩) else (4, d) := by
    unfold Ro.dropN
    rw [hth, hkk, e5]
    cases b <;> rfl
  have HCutS := Lib.hid (und_dropsS hok e2 node ii)
  have HCutC := Lib.hid (und_dropsC0 hok e3 node ii)
  have HE5 := Lib.hid e5
  have HE6 := Lib.hid e6
  rw [hd] at hok2 ⊢
  have HOk2 := Lib.hid hok2
  have HKy2 := Lib.hid (fun W (hW : PwIs W) => rkey_any node noT W hn (by decide) hW)
  have HHb := Lib.hid hb
  clear h e1 e2 e3 hok hi hn hb hd hok2 hth e5 e6 hkk hS1
  go_enter Tryz.func29, Tryz.ntmps29
  go_wp2_with fail
  refine HMd.out.mono ?_
  rintro e W0 ⟨rfl, hb⟩
  have hA := HIs.out.below hb
  have hky := HKy2.out W0 hA.pw
  rw [HKk.out] at hky
  have HKey2 := Lib.hid hky
  have HA := Lib.hid hA
  have HB := Lib.hid hb
  clear hA hky hb HMd HIs HKy2
  go_wp2_with fail
  refine HKey2.out.mono ?_
  rintro e W1 ⟨rfl, hb⟩
  have hA := HA.out.below hb
  have HB1 := Lib.hid (HB.out.trans (hb.mono HB.out.size))
  have HKb := Lib.hid hA.ptr
  have hl := hA.lt
  have cb := ro_ptrs hA.ptr
  have HDr := Lib.hid (by
    have := drop1_ro hA kk ii HI.out
    rw [HHb.out] at this
    exact this.mono fun e w' ⟨q1, q2, q3⟩ => ⟨q1, q2.narrow fun k _ z => z.elim (fun z => HS1.out k z) fun z => HS1b.out k (Nat.le_trans HB1.out.size z), q3⟩ : Calls Tryz.prog 72 #[.pointer (some ⟨B1, 0, none⟩), .string kk, .int .u64 (ii : Int)] W1 fun e w' => e = .returned (.bool b) ∧ RoIs S1 w' B B1 B2 B3 (T1.dropT kk ii) T2 T3 ∧ But (· = B1) W1 w')
  clear hA hb HKey2 HA
  go_wp2_with fail
  refine HDr.out.mono ?_
  rintro e w3 ⟨rfl, h3, hb3⟩
  have HBw : Hid (But (Ch3 B1 B2 B3) w w3) := Lib.hid ((But.of_below HB1.out).trans (but1 hb3))
  have HR := Lib.hid h3
  clear cb hl h3 hb3 HDr HKb
  cases b with
  | false =>
    go_wp2
    go_ret
    have := HE6.out (by first | rfl | trivial)
    exact ⟨rfl, ⟨HOk2.out, _, _, _, HR.out, by rw [HE5.out, this], HE.out.2⟩, HBw.out⟩
  | true =>
    obtain ⟨T1d, hT1d⟩ : ∃ T, T1.dropT kk ii = T := ⟨_, rfl⟩
    rw [hT1d] at HR
    have HT1d := Lib.hid hT1d
    clear hT1d HHb
    obtain ⟨lv, hlv⟩ : ∃ lv, undR T2.l kk = lv := ⟨_, rfl⟩
    obtain ⟨L, hL⟩ : ∃ L, lv.length = L := ⟨_, rfl⟩
    have HLv := Lib.hid hlv
    have HL := Lib.hid hL
    have hL64 : L ≤ 64 := by rw [← hL, ← hlv]; exact Nat.le_trans (undR_len _ _) (Nat.le_trans HR.out.t2.1.len HR.out.t2.1.most.2)
    have HUn := Lib.hid (fun W (hW : Below w3.heap.size w3 W) => (by
      refine (Vt.under_t kk (HR.out.t2.below hW) HKs.out).mono fun e w' ⟨A, c, q1, q2, _, _, q4, q3⟩ => ?_
      rw [HLv.out, HL.out] at q1 q2
      exact ⟨A, c, q1, q2, fun b off e => Nat.le_trans hW.size (q4 b off e), q3⟩ : Calls Tryz.prog 53 #[.pointer (some ⟨B2, 0, none⟩), .string kk] W fun e w' => ∃ A c, e = .returned (.slice A L c) ∧ SK Vt.trC 10 w' A L lv ∧ (∀ b off, A = some ⟨b, off, none⟩ → w3.heap.size ≤ b) ∧ Below W.heap.size W w'))
    clear hlv hL
    have HBj := Lib.hid HR.out.lts.2.1
    have hl := HR.out.lt
    have cb := ro_ptrs HR.out.ptr
    go_wp2_with fail
    refine (HUn.out w3 (Below.refl _ _)).mono ?_
    rintro e w4 ⟨A, c, rfl, hs, hg, hb⟩
    have HS := Lib.hid hs
    have HG := Lib.hid hg
    have HR4 := Lib.hid (HR.out.below hb)
    have HB4 := Lib.hid (HBw.out.trans (But.of_below hb))
    have HSz4 := Lib.hid hb.size
    clear hs hg hb hl cb HUn HR
    go_wp2_with fail
    go_loopw [32] (fun iv wr => ∃ (k : Nat) (dk : List ByteArray), k ≤ L ∧ iv = .int .i64 (k : Int) ∧ Hid (dk = ((lv.take k)).map (·.key)) ∧ Hid (RoIs S1 wr B B1 B2 B3 T1d (T2.drops ii dk) T3) ∧ Hid (But (· = B2) w4 wr)) (fun iv _ => L - (intOf iv).toNat)
    case atStart => exact ⟨0, [], Nat.zero_le _, rfl, Lib.hid rfl, HR4, Lib.hid (But.refl _ _)⟩
    case round =>
      obtain ⟨k, dk, hk, rfl, hdk, hro, hb⟩ := hrel
      by_cases hlt : k < L
      · have hkl : k < lv.length := by rw [HL.out]; exact hlt
        have hs := HS.out.but hb.out (fun b off e _ q => by have q2 : b = B2 := q; have := HG.out b off e; have := HBj.out; omega)
        obtain ⟨b, off, rfl, hbl, hit⟩ := hs.at_ hlt hkl
        have hst : lv.take (k + 1) = lv.take k ++ [lv[k]] := List.take_succ_eq_append_getElem hkl
        obtain ⟨x, hx⟩ : ∃ x, lv[k] = x := ⟨_, rfl⟩
        rw [hx] at hit hst
        obtain ⟨c0, c1, c2, c3, c4, c5, c6, c7, c8, c9⟩ := Vt.tr_cells hit
        have kx0 := heap_alloc_new wr (.cells #[.string x.key, .int .i64 x.val.a.node, .string x.val.a.id, .string x.val.a.name, .slice x.val.A x.val.n x.val.c, .int .i64 x.val.a.port, .int .u64 (x.val.jm : Int), .int .u64 (x.val.ji : Int), .int .u64 (x.made : Int), .int .u64 (x.ix : Int)] 132)
        have bx := below1 wr #[.string x.key, .int .i64 x.val.a.node, .string x.val.a.id, .string x.val.a.name, .slice x.val.A x.val.n x.val.c, .int .i64 x.val.a.port, .int .u64 (x.val.jm : Int), .int .u64 (x.val.ji : Int), .int .u64 (x.made : Int), .int .u64 (x.ix : Int)] 132
        obtain ⟨W2, hW2⟩ : ∃ W2, wr.alloc (.cells #[.string x.key, .int .i64 x.val.a.node, .string x.val.a.id, .string x.val.a.name, .slice x.val.A x.val.n x.val.c, .int .i64 x.val.a.port, .int .u64 (x.val.jm : Int), .int .u64 (x.val.ji : Int), .int .u64 (x.made : Int), .int .u64 (x.ix : Int)] 132) = W2 := ⟨_, rfl⟩
        rw [hW2] at bx kx0
        obtain ⟨X, hX⟩ : ∃ X, wr.heap.size = X := ⟨_, rfl⟩
        rw [hX] at kx0
        obtain ⟨kx, hkx⟩ : ∃ kx, x.key = kx := ⟨_, rfl⟩
        obtain ⟨bb, hbb⟩ : ∃ bb, (getR (T2.drops ii dk).l kx).isSome = bb := ⟨_, rfl⟩
        have hA := hro.out.below bx
        have HKb := Lib.hid hA.ptr
        have HLb := Lib.hid hA.lt
        have HKx := Lib.hid kx0
        have HLx := Lib.hid (block_lt kx0)
        have HMu : Hid (∀ k, k = B2 → k < W2.heap.size) := Lib.hid fun k e => by rw [e]; exact hA.lts.2.1
        have HB2 : Hid (But (· = B2) w4 W2) := Lib.hid (hb.out.trans (But.of_below bx))
        have HDk := hdk
        have HHb := Lib.hid hbb
        have HSz : Hid (w.heap.size ≤ W2.heap.size) := Lib.hid (Nat.le_trans HB4.out.size HB2.out.size)
        have HDr := Lib.hid (fun W (hW : Below W2.heap.size W2 W) => (by
          have := drop2_ro (hA.below hW) kx ii HI.out
          rw [HHb.out] at this
          exact this.mono fun e w' ⟨q1, q2, q3⟩ => ⟨q1, q2.narrow fun k _ z => z.elim (fun z => z) fun z => HS1b.out k (Nat.le_trans HSz.out (Nat.le_trans hW.size z)), q3⟩ : Calls Tryz.prog 73 #[.pointer (some ⟨B2, 0, none⟩), .string kx, .int .u64 (ii : Int)] W fun e w' => e = .returned (.bool bb) ∧ RoIs S1 w' B B1 B2 B3 T1d ((T2.drops ii dk).dropT kx ii) T3 ∧ But (· = B2) W w'))
        rw [hkx] at HKx
        have HW2 := Lib.hid hW2
        have HX := Lib.hid hX
        have HKey2 := Lib.hid hkx
        have HSt := Lib.hid hst
        clear hs hit hst hx kx0 bx hW2 hX hkx hbb hA hdk hro hb
        have HDk2 : Hid (dk ++ [kx] = (lv.take (k + 1)).map (·.key)) := Lib.hid (by rw [HSt.out, List.map_append, ← HDk.out]; simp [HKey2.out])
        go_wp2_with fail
        rw [HW2.out, HX.out]
        clear c0 c1 c2 c3 c4 c5 c6 c7 c8 c9
        have hre : ∀ w : World, (But (OldB W2)) w w := (fun w => But.refl _ w)
        have hrd : ∀ (f : Nat → Bool) w i, i ≠ 7 → (TI 7 W2 (fun w => RoIs S1 w B B1 B2 B3 T1d ((T2.drops ii dk).dropT kx ii) T3 ∧ But (· = B2) W2 w)) f w → (TI 7 W2 (fun w => RoIs S1 w B B1 B2 B3 T1d ((T2.drops ii dk).dropT kx ii) T3 ∧ But (· = B2) W2 w)) (Go.Rel.upd f i) w := (fun _ _ _ hi h => h.read hi)
        refine Go.Rel.wp_tab (by kernel_rfl) (by kernel_rfl) (TI 7 W2 (fun w => RoIs S1 w B B1 B2 B3 T1d ((T2.drops ii dk).dropT kx ii) T3 ∧ But (· = B2) W2 w)) (But (OldB W2)) hre ((fun _ _ _ h k => h.trans k)) (OldB.drew) TI.start (rdnF B B2 X ii kx bb) (fun _ _ _ => True) (fun i => ([] : List Nat).contains i) (fun i => ([3, 5, 7] : List Nat).contains i) (by kernel_rfl) (fun _ _ _ _ h _ => h) 7 rfl hrd ?_ (Go.Rel.AllOf.get ?_) ?_
        · repeat (refine .cons (by first | exact Go.Rel.pure_sp rfl | exact Go.Rel.pure_yes (by kernel_rfl) (fun _ => by kernel_rfl) | exact Go.Rel.pure_no (by kernel_rfl) rfl) ?_)
          exact .nil
        · refine ⟨?_, ?_, ?_, trivial⟩
          · exact SpecOk.ld hrd hre (q := .pointer (some ⟨B, 1, none⟩)) (h := fun _ w' hI _ hdesc _ _ => by have cb := ro_ptrs (((hI.ahead (hdesc 60 7 (by kernel_rfl))).block B HLb.out).trans HKb.out); go_simp; rfl)
          · exact SpecOk.ld hrd hre (q := .pointer (some ⟨X, 0, none⟩)) (h := fun f w' hI _ hdesc _ _ => by have zx : f 7 = false := hdesc 60 7 (by kernel_rfl); have cx := cellsN (((hI.ahead zx).block X HLx.out).trans HKx.out) 0 _ rfl; go_simp; rfl)
          · refine SpecOk.call 73 #[.pointer (some ⟨B2, 0, none⟩), .string kx, .int .u64 (ii : Int)] rfl (by kernel_rfl) (fun _ => by kernel_rfl) fun _ w' hI hf _ _ _ => ?_
            refine (HDr.out w' (hI.ahead hf)).mono ?_
            rintro e9 w9 ⟨rfl, h9, hb9⟩
            exact ⟨_, rfl, (But.oldB hb9 HMu.out), (TI.last ⟨h9, (But.of_below (hI.ahead hf)).trans hb9⟩), rfl⟩
        · intro f w5 e hall hJ hle hv
          have HJ := Lib.hid (hJ.done_ (hall 7 (by decide)))
          simp only [Go.Rel.finL, List.setIfInBounds_toArray, List.set_cons_succ, List.set_cons_zero]
          have HB5 := Lib.hid (HB2.out.trans HJ.out.2)
          have HR5 := Lib.hid HJ.out.1
          rw [← drops_snoc] at HR5
          clear hv hall hle hJ
          go_wp2
          go_roundw
          case rel => exact ⟨k + 1, dk ++ [kx], by omega, by go_num, HDk2, HR5, HB5⟩
          case measure => simp [intOf]; omega
      · obtain rfl : k = L := by omega
        have ht : lv.take k = lv := List.take_of_length_le (by rw [HL.out]; omega)
        rw [ht, ← HLv.out] at hdk
        clear ht
        have HF1 := Lib.hid hdk
        have HR := hro
        have HBx := Lib.hid (HB4.out.trans (but2 hb.out))
        obtain ⟨w5, hw5⟩ : ∃ W, wr = W := ⟨_, rfl⟩
        rw [hw5] at HR HBx ⊢
        obtain ⟨T2d, hT2d⟩ : ∃ T, T2.drops ii dk = T := ⟨_, rfl⟩
        rw [hT2d] at HR
        have HT2d := Lib.hid hT2d
        have HLv2 := HLv
        clear hT2d hdk hro hb HR4 HB4 HS HG HSz4 HL hL64 HLv HBj
        obtain ⟨lv, hlv⟩ : ∃ lv, undR T3.l kk = lv := ⟨_, rfl⟩
        obtain ⟨L, hL⟩ : ∃ L, lv.length = L := ⟨_, rfl⟩
        have HLv := Lib.hid hlv
        have HL := Lib.hid hL
        have hL64 : L ≤ 64 := by rw [← hL, ← hlv]; exact Nat.le_trans (undR_len _ _) (Nat.le_trans HR.out.t3.1.len HR.out.t3.1.most.2)
        have HUn := Lib.hid (fun W (hW : Below w5.heap.size w5 W) => (by
          refine (Ct.under_t kk (HR.out.t3.below hW) HKs.out).mono fun e w' ⟨A, c, q1, q2, _, _, q4, q3⟩ => ?_
          rw [HLv.out, HL.out] at q1 q2
          exact ⟨A, c, q1, q2, fun b off e => Nat.le_trans hW.size (q4 b off e), q3⟩ : Calls Tryz.prog 54 #[.pointer (some ⟨B3, 0, none⟩), .string kk] W fun e w' => ∃ A c, e = .returned (.slice A L c) ∧ SK Ct.trC 10 w' A L lv ∧ (∀ b off, A = some ⟨b, off, none⟩ → w5.heap.size ≤ b) ∧ Below W.heap.size W w'))
        clear hlv hL
        have HBj := Lib.hid HR.out.lts.2.2
        have hl := HR.out.lt
        have cb := ro_ptrs HR.out.ptr
        go_wp2_with fail
        refine (HUn.out w5 (Below.refl _ _)).mono ?_
        rintro e w6 ⟨A, c, rfl, hs, hg, hb⟩
        have HS := Lib.hid hs
        have HG := Lib.hid hg
        have HR4 := Lib.hid (HR.out.below hb)
        have HB4 := Lib.hid (HBx.out.trans (But.of_below hb))
        have HSz4 := Lib.hid hb.size
        clear hs hg hb hl cb HUn HR
        go_wp2_with fail
        go_loopw [52] (fun iv wr => ∃ (k : Nat) (dk : List ByteArray), k ≤ L ∧ iv = .int .i64 (k : Int) ∧ Hid (dk = ((lv.take k)).map (·.key)) ∧ Hid (RoIs S1 wr B B1 B2 B3 T1d T2d (T3.drops ii dk)) ∧ Hid (But (· = B3) w6 wr)) (fun iv _ => L - (intOf iv).toNat)
        case atStart => exact ⟨0, [], Nat.zero_le _, rfl, Lib.hid rfl, HR4, Lib.hid (But.refl _ _)⟩
        case round =>
          obtain ⟨k, dk, hk, rfl, hdk, hro, hb⟩ := hrel
          by_cases hlt : k < L
          · have hkl : k < lv.length := by rw [HL.out]; exact hlt
            have hs := HS.out.but hb.out (fun b off e _ q => by have q2 : b = B3 := q; have := HG.out b off e; have := HBj.out; omega)
            obtain ⟨b, off, rfl, hbl, hit⟩ := hs.at_ hlt hkl
            have hst : lv.take (k + 1) = lv.take k ++ [lv[k]] := List.take_succ_eq_append_getElem hkl
            obtain ⟨x, hx⟩ : ∃ x, lv[k] = x := ⟨_, rfl⟩
            rw [hx] at hit hst
            obtain ⟨c0, c1, c2, c3, c4, c5, c6, c7, c8, c9⟩ := Ct.tr_cells hit
            have kx0 := heap_alloc_new wr (.cells #[.string x.key, .int .i64 x.val.a.node, .string x.val.a.id, .string x.val.a.svc, .string x.val.a.note, .int .i64 x.val.a.status, .int .u64 (x.val.jm : Int), .int .u64 (x.val.ji : Int), .int .u64 (x.made : Int), .int .u64 (x.ix : Int)] 120)
            have bx := below1 wr #[.string x.key, .int .i64 x.val.a.node, .string x.val.a.id, .string x.val.a.svc, .string x.val.a.note, .int .i64 x.val.a.status, .int .u64 (x.val.jm : Int), .int .u64 (x.val.ji : Int), .int .u64 (x.made : Int), .int .u64 (x.ix : Int)] 120
            obtain ⟨W2, hW2⟩ : ∃ W2, wr.alloc (.cells #[.string x.key, .int .i64 x.val.a.node, .string x.val.a.id, .string x.val.a.svc, .string x.val.a.note, .int .i64 x.val.a.status, .int .u64 (x.val.jm : Int), .int .u64 (x.val.ji : Int), .int .u64 (x.made : Int), .int .u64 (x.ix : Int)] 120) = W2 := ⟨_, rfl⟩
            rw [hW2] at bx kx0
            obtain ⟨X, hX⟩ : ∃ X, wr.heap.size = X := ⟨_, rfl⟩
            rw [hX] at kx0
            obtain ⟨kx, hkx⟩ : ∃ kx, x.key = kx := ⟨_, rfl⟩
            obtain ⟨bb, hbb⟩ : ∃ bb, (getR (T3.drops ii dk).l kx).isSome = bb := ⟨_, rfl⟩
            have hA := hro.out.below bx
            have HKb := Lib.hid hA.ptr
            have HLb := Lib.hid hA.lt
            have HKx := Lib.hid kx0
            have HLx := Lib.hid (block_lt kx0)
            have HMu : Hid (∀ k, k = B3 → k < W2.heap.size) := Lib.hid fun k e => by rw [e]; exact hA.lts.2.2
            have HB2 : Hid (But (· = B3) w6 W2) := Lib.hid (hb.out.trans (But.of_below bx))
            have HDk := hdk
            have HHb := Lib.hid hbb
            have HSz : Hid (w.heap.size ≤ W2.heap.size) := Lib.hid (Nat.le_trans HB4.out.size HB2.out.size)
            have HDr := Lib.hid (fun W (hW : Below W2.heap.size W2 W) => (by
              have := drop3_ro (hA.below hW) kx ii HI.out
              rw [HHb.out] at this
              exact this.mono fun e w' ⟨q1, q2, q3⟩ => ⟨q1, q2.narrow fun k _ z => z.elim (fun z => z) fun z => HS1b.out k (Nat.le_trans HSz.out (Nat.le_trans hW.size z)), q3⟩ : Calls Tryz.prog 62 #[.pointer (some ⟨B3, 0, none⟩), .string kx, .int .u64 (ii : Int)] W fun e w' => e = .returned (.bool bb) ∧ RoIs S1 w' B B1 B2 B3 T1d T2d ((T3.drops ii dk).dropT kx ii) ∧ But (· = B3) W w'))
            rw [hkx] at HKx
            have HW2 := Lib.hid hW2
            have HX := Lib.hid hX
            have HKey2 := Lib.hid hkx
            have HSt := Lib.hid hst
            clear hs hit hst hx kx0 bx hW2 hX hkx hbb hA hdk hro hb
            have HDk2 : Hid (dk ++ [kx] = (lv.take (k + 1)).map (·.key)) := Lib.hid (by rw [HSt.out, List.map_append, ← HDk.out]; simp [HKey2.out])
            go_wp2_with fail
            rw [HW2.out, HX.out]
            clear c0 c1 c2 c3 c4 c5 c6 c7 c8 c9
            have hre : ∀ w : World, (But (OldB W2)) w w := (fun w => But.refl _ w)
            have hrd : ∀ (f : Nat → Bool) w i, i ≠ 7 → (TI 7 W2 (fun w => RoIs S1 w B B1 B2 B3 T1d T2d ((T3.drops ii dk).dropT kx ii) ∧ But (· = B3) W2 w)) f w → (TI 7 W2 (fun w => RoIs S1 w B B1 B2 B3 T1d T2d ((T3.drops ii dk).dropT kx ii) ∧ But (· = B3) W2 w)) (Go.Rel.upd f i) w := (fun _ _ _ hi h => h.read hi)
            refine Go.Rel.wp_tab (by kernel_rfl) (by kernel_rfl) (TI 7 W2 (fun w => RoIs S1 w B B1 B2 B3 T1d T2d ((T3.drops ii dk).dropT kx ii) ∧ But (· = B3) W2 w)) (But (OldB W2)) hre ((fun _ _ _ h k => h.trans k)) (OldB.drew) TI.start (rdnG B B3 X ii kx bb) (fun _ _ _ => True) (fun i => ([] : List Nat).contains i) (fun i => ([3, 5, 7] : List Nat).contains i) (by kernel_rfl) (fun _ _ _ _ h _ => h) 7 rfl hrd ?_ (Go.Rel.AllOf.get ?_) ?_
            · repeat (refine .cons (by first | exact Go.Rel.pure_sp rfl | exact Go.Rel.pure_yes (by kernel_rfl) (fun _ => by kernel_rfl) | exact Go.Rel.pure_no (by kernel_rfl) rfl) ?_)
              exact .nil
            · refine ⟨?_, ?_, ?_, trivial⟩
              · exact SpecOk.ld hrd hre (q := .pointer (some ⟨B, 2, none⟩)) (h := fun _ w' hI _ hdesc _ _ => by have cb := ro_ptrs (((hI.ahead (hdesc 60 7 (by kernel_rfl))).block B HLb.out).trans HKb.out); go_simp; rfl)
              · exact SpecOk.ld hrd hre (q := .pointer (some ⟨X, 0, none⟩)) (h := fun f w' hI _ hdesc _ _ => by have zx : f 7 = false := hdesc 60 7 (by kernel_rfl); have cx := cellsN (((hI.ahead zx).block X HLx.out).trans HKx.out) 0 _ rfl; go_simp; rfl)
              · refine SpecOk.call 62 #[.pointer (some ⟨B3, 0, none⟩), .string kx, .int .u64 (ii : Int)] rfl (by kernel_rfl) (fun _ => by kernel_rfl) fun _ w' hI hf _ _ _ => ?_
                refine (HDr.out w' (hI.ahead hf)).mono ?_
                rintro e9 w9 ⟨rfl, h9, hb9⟩
                exact ⟨_, rfl, (But.oldB hb9 HMu.out), (TI.last ⟨h9, (But.of_below (hI.ahead hf)).trans hb9⟩), rfl⟩
            · intro f w5 e hall hJ hle hv
              have HJ := Lib.hid (hJ.done_ (hall 7 (by decide)))
              simp only [Go.Rel.finL, List.setIfInBounds_toArray, List.set_cons_succ, List.set_cons_zero]
              have HB5 := Lib.hid (HB2.out.trans HJ.out.2)
              have HR5 := Lib.hid HJ.out.1
              rw [← drops_snoc] at HR5
              clear hv hall hle hJ
              go_wp2
              go_roundw
              case rel => exact ⟨k + 1, dk ++ [kx], by omega, by go_num, HDk2, HR5, HB5⟩
              case measure => simp [intOf]; omega
          · obtain rfl : k = L := by omega
            have ht : lv.take k = lv := List.take_of_length_le (by rw [HL.out]; omega)
            rw [ht, ← HLv.out] at hdk
            clear ht
            have HF := Lib.hid hdk
            have HR6 := hro
            have HB6 := Lib.hid (HB4.out.trans (but3 hb.out))
            clear hdk hro hb
            go_wp2
            go_ret
            refine ⟨rfl, ⟨HOk2.out, _, _, _, HR6.out, by rw [HT1d.out], ?_, ?_⟩, HB6.out⟩
            · rw [← HT2d.out, HF1.out, ← HKk.out]
              exact HCutS.out
            · rw [HF.out, ← HKk.out]
              exact HCutC.out
end Go.Proofs.YtilkbfmaofmjoaaGreatDoor
namespace Go.Proofs.YtilkbfmaofmjoaaGreatDoor
open Go.RowKit Go.Rel
set_option linter.unusedSimpArgs false
set_option linter.unusedVariables false
theorem ne_types {w : World} {a b : Nat} {c1 c2 : Array Value} {t1 t2 : TypeId} {f1 f2 : Nat × Nat} (h1 : w.heap[a]? = some (.cells c1 t1 f1)) (h2 : w.heap[b]? = some (.cells c2 t2 f2)) (hT : t1 ≠ t2) : a ≠ b := by
  rintro rfl
  rw [h1] at h2
  simp only [Option.some.injEq, Obj.cells.injEq] at h2
  exact hT h2.2.1
theorem t1_blk {S : Nat → Prop} {w : World} {B : Nat} {t : Tb NdW} (h : Nt.TAt S w B t) : ∃ c, w.heap[B]? = some (.cells c 139 (0, 0)) := by
  obtain ⟨_, A, c, h⟩ := h
  exact ⟨_, h.blk⟩
theorem copy1_ro {S : Nat → Prop} {w : World} {B : Nat} {t : Tb NdW} (h : Nt.TAt S w B t) : Calls Tryz.prog 76 #[.pointer (some ⟨B, 0, none⟩)] w fun e w' => ∃ B', e = .returned (.pointer (some ⟨B', 0, none⟩)) ∧ w.heap.size ≤ B' ∧ Nt.TAt (fun k => S k ∨ k = B') w' B' t ∧ Below w.heap.size w w' := by
  have HM := Lib.hid (Nt.made_yes h)
  obtain ⟨hok, A, c, h⟩ := h
  have c0 := h.c0
  have c1 := h.c1
  have c2 := h.c2
  have HN := Lib.hid (PtAt.narrow (S' := fun k => S k ∨ k = w.heap.size) (h.copied hok) (fun k hk z => z.imp id fun z => by simp at hk; omega))
  obtain ⟨L, hL⟩ : ∃ L, t.l.length = L := ⟨_, rfl⟩
  rw [hL] at c2 HN
  clear hok h hL
  go_enter Tryz.func76, Tryz.ntmps76
  go_wp2_with fail
  refine HM.out.mono ?_
  rintro e w' ⟨rfl, rfl⟩
  go_wp2
  go_ret
  exact ⟨_, rfl, Nat.le_refl _, HN.out, below1 _ _ _⟩
theorem t2_blk {S : Nat → Prop} {w : World} {B : Nat} {t : Tb SvW} (h : Vt.TAt S w B t) : ∃ c, w.heap[B]? = some (.cells c 141 (0, 0)) := by
  obtain ⟨_, A, c, h⟩ := h
  exact ⟨_, h.blk⟩
theorem copy2_ro {S : Nat → Prop} {w : World} {B : Nat} {t : Tb SvW} (h : Vt.TAt S w B t) : Calls Tryz.prog 77 #[.pointer (some ⟨B, 0, none⟩)] w fun e w' => ∃ B', e = .returned (.pointer (some ⟨B', 0, none⟩)) ∧ w.heap.size ≤ B' ∧ Vt.TAt (fun k => S k ∨ k = B') w' B' t ∧ Below w.heap.size w w' := by
  have HM := Lib.hid (Vt.made_yes h)
  obtain ⟨hok, A, c, h⟩ := h
  have c0 := h.c0
  have c1 := h.c1
  have c2 := h.c2
  have HN := Lib.hid (PtAt.narrow (S' := fun k => S k ∨ k = w.heap.size) (h.copied hok) (fun k hk z => z.imp id fun z => by simp at hk; omega))
  obtain ⟨L, hL⟩ : ∃ L, t.l.length = L := ⟨_, rfl⟩
  rw [hL] at c2 HN
  clear hok h hL
  go_enter Tryz.func77, Tryz.ntmps77
  go_wp2_with fail
  refine HM.out.mono ?_
  rintro e w' ⟨rfl, rfl⟩
  go_wp2
  go_ret
  exact ⟨_, rfl, Nat.le_refl _, HN.out, below1 _ _ _⟩
theorem t3_blk {S : Nat → Prop} {w : World} {B : Nat} {t : Tb CkW} (h : Ct.TAt S w B t) : ∃ c, w.heap[B]? = some (.cells c 143 (0, 0)) := by
  obtain ⟨_, A, c, h⟩ := h
  exact ⟨_, h.blk⟩
theorem copy3_ro {S : Nat → Prop} {w : World} {B : Nat} {t : Tb CkW} (h : Ct.TAt S w B t) : Calls Tryz.prog 78 #[.pointer (some ⟨B, 0, none⟩)] w fun e w' => ∃ B', e = .returned (.pointer (some ⟨B', 0, none⟩)) ∧ w.heap.size ≤ B' ∧ Ct.TAt (fun k => S k ∨ k = B') w' B' t ∧ Below w.heap.size w w' := by
  have HM := Lib.hid (Ct.made_yes h)
  obtain ⟨hok, A, c, h⟩ := h
  have c0 := h.c0
  have c1 := h.c1
  have c2 := h.c2
  have HN := Lib.hid (PtAt.narrow (S' := fun k => S k ∨ k = w.heap.size) (h.copied hok) (fun k hk z => z.imp id fun z => by simp at hk; omega))
  obtain ⟨L, hL⟩ : ∃ L, t.l.length = L := ⟨_, rfl⟩
  rw [hL] at c2 HN
  clear hok h hL
  go_enter Tryz.func78, Tryz.ntmps78
  go_wp2_with fail
  refine HM.out.mono ?_
  rintro e w' ⟨rfl, rfl⟩
  go_wp2
  go_ret
  exact ⟨_, rfl, Nat.le_refl _, HN.out, below1 _ _ _⟩
structure CpAll (P1 P2 P3 : Nat → Prop) (Z : Nat) (w : World) (b1 b2 b3 : Nat) (T1 : Tb NdW) (T2 : Tb SvW) (T3 : Tb CkW) : Prop where
  z : Z ≤ b1 ∧ Z ≤ b2 ∧ Z ≤ b3
  t1 : Nt.TAt (fun k => P1 k ∨ k = b1) w b1 T1
  t2 : Vt.TAt (fun k => P2 k ∨ k = b2) w b2 T2
  t3 : Ct.TAt (fun k => P3 k ∨ k = b3) w b3 T3
theorem CpAll.below {P1 P2 P3 : Nat → Prop} {Z : Nat} {w w' : World} {b1 b2 b3 : Nat} {T1 : Tb NdW} {T2 : Tb SvW} {T3 : Tb CkW} (h : CpAll P1 P2 P3 Z w b1 b2 b3 T1 T2 T3) (hb : Below w.heap.size w w') : CpAll P1 P2 P3 Z w' b1 b2 b3 T1 T2 T3 := ⟨h.z, h.t1.below hb, h.t2.below hb, h.t3.below hb⟩
theorem CpAll.ro {S : Nat → Prop} {W0 w : World} {B B1 B2 B3 b0 b1 b2 b3 : Nat} {T1 : Tb NdW} {T2 : Tb SvW} {T3 : Tb CkW} (h0 : RoIs S W0 B B1 B2 B3 T1 T2 T3) (hb : Below W0.heap.size W0 w) (h : CpAll (fun k => Sub S B B2 B3 k ∧ k < W0.heap.size) (fun k => Sub S B B1 B3 k ∧ k < W0.heap.size) (fun k => Sub S B B1 B2 k ∧ k < W0.heap.size) W0.heap.size w b1 b2 b3 T1 T2 T3)
    (hz : W0.heap.size ≤ b0) (hk : w.heap[b0]? = some (.cells #[.pointer (some ⟨b1, 0, none⟩), .pointer (some ⟨b2, 0, none⟩), .pointer (some ⟨b3, 0, none⟩)] TRo (0, 0))) : RoIs (fun k => S k ∨ W0.heap.size ≤ k) w b0 b1 b2 b3 T1 T2 T3 := by
  obtain ⟨z1, z2, z3⟩ := h.z
  obtain ⟨x1, k1⟩ := t1_blk h.t1
  obtain ⟨x2, k2⟩ := t2_blk h.t2
  obtain ⟨x3, k3⟩ := t3_blk h.t3
  have d01 := ne_types hk k1 (by decide)
  have d02 := ne_types hk k2 (by decide)
  have d03 := ne_types hk k3 (by decide)
  have d12 := ne_types k1 k2 (by decide)
  have d13 := ne_types k1 k3 (by decide)
  have d23 := ne_types k2 k3 (by decide)
  have hp := h0.pw.lt
  refine ⟨h0.pw.below hb, .inl h0.sg, ⟨.inr hz, by omega⟩, hk, h.t1.narrow fun k _ z => ?_, h.t2.narrow fun k _ z => ?_, h.t3.narrow fun k _ z => ?_, fun r hr => ((h0.tg r hr).narrow (S' := fun k => S k ∧ k < W0.heap.size) fun k hk z => ⟨z.1, hk⟩).below hb |>.narrow fun k _ z => ⟨.inl z.1, by omega, by omega, by omega⟩⟩
  · rcases z with ⟨z, zz⟩ | z
    · exact ⟨.inl z.1, by omega, by omega, by omega, z.2.2.2.2⟩
    · exact ⟨.inr (by omega), by omega, by omega, by omega, by omega⟩
  · rcases z with ⟨z, zz⟩ | z
    · exact ⟨.inl z.1, by omega, by omega, by omega, z.2.2.2.2⟩
    · exact ⟨.inr (by omega), by omega, by omega, by omega, by omega⟩
  · rcases z with ⟨z, zz⟩ | z
    · exact ⟨.inl z.1, by omega, by omega, by omega, z.2.2.2.2⟩
    · exact ⟨.inr (by omega), by omega, by omega, by omega, by omega⟩
def CopyPost (S : Nat → Prop) (w : World) (m : Nat) (d : Ro) (e : Ending) (w' : World) : Prop := ∃ b0 b1 b2 b3, e = .returned (.pointer (some ⟨b0, 0, none⟩)) ∧ RoAt (fun k => S k ∨ w.heap.size ≤ k) w' b0 b1 b2 b3 m d ∧ (w.heap.size ≤ b0 ∧ w.heap.size ≤ b1 ∧ w.heap.size ≤ b2 ∧ w.heap.size ≤ b3) ∧ Below w.heap.size w w'
def rcpE (B : Nat) (B1 : Nat) (B2 : Nat) (B3 : Nat) : Nat → Value
  | 0 | 1 | 2 | 5 | 6 | 10 | 11 => .pointer (some ⟨B, 0, none⟩)
  | 3 => .pointer (some ⟨B1, 0, none⟩)
  | 7 => .pointer (some ⟨B, 1, none⟩)
  | 8 => .pointer (some ⟨B2, 0, none⟩)
  | 12 => .pointer (some ⟨B, 2, none⟩)
  | 13 => .pointer (some ⟨B3, 0, none⟩)
  | _ => undef
set_option maxHeartbeats 4000000 in
set_option maxRecDepth 100000 in
theorem rcopy_any {S : Nat → Prop} {w : World} {B B1 B2 B3 m : Nat} {d : Ro} (h : RoAt S w B B1 B2 B3 m d) : Calls Tryz.prog 32 #[.pointer (some ⟨B, 0, none⟩)] w fun e w' => CopyPost S w m d e w' := by
  obtain ⟨hok, T1, T2, T3, h, e1, e2, e3⟩ := h
  have HMd := Lib.hid (made_is h.ptr)
  have HIs := Lib.hid h
  have HE := Lib.hid (And.intro e1 (And.intro e2 e3))
  have HOk := Lib.hid hok
  clear h e1 e2 e3 hok
  go_enter Tryz.func32, Tryz.ntmps32
  go_wp2_with fail
  refine HMd.out.mono ?_
  rintro e W0 ⟨rfl, hb⟩
  have hA := HIs.out.below hb
  have HB := Lib.hid hb
  have HA := Lib.hid hA
  have HKb := Lib.hid hA.ptr
  have HLb := Lib.hid hA.lt
  obtain ⟨P1, hP1⟩ : ∃ P : Nat → Prop, P = fun k => Sub S B B2 B3 k ∧ k < W0.heap.size := ⟨_, rfl⟩
  obtain ⟨P2, hP2⟩ : ∃ P : Nat → Prop, P = fun k => Sub S B B1 B3 k ∧ k < W0.heap.size := ⟨_, rfl⟩
  obtain ⟨P3, hP3⟩ : ∃ P : Nat → Prop, P = fun k => Sub S B B1 B2 k ∧ k < W0.heap.size := ⟨_, rfl⟩
  have HT1 := Lib.hid (hA.t1.narrow (S' := P1) fun k hk z => by rw [hP1]; exact ⟨z, hk⟩)
  have HT2 := Lib.hid (hA.t2.narrow (S' := P2) fun k hk z => by rw [hP2]; exact ⟨z, hk⟩)
  have HT3 := Lib.hid (hA.t3.narrow (S' := P3) fun k hk z => by rw [hP3]; exact ⟨z, hk⟩)
  have HP := Lib.hid (And.intro hP1 (And.intro hP2 hP3))
  clear hA hb HMd HIs hP1 hP2 hP3
  go_wp2_with fail
  have hre : ∀ w : World, ((fun a b : World => Below a.heap.size a b)) w w := (fun w => Below.refl _ w)
  have hrd : ∀ (f : Nat → Bool) w i, i ≠ 4 → (fun (_ : Nat → Bool) (w : World) => Below W0.heap.size W0 w) f w → (fun (_ : Nat → Bool) (w : World) => Below W0.heap.size W0 w) (Go.Rel.upd f i) w := (fun _ _ _ _ h => h)
  refine Go.Rel.wp_tab (by kernel_rfl) (by kernel_rfl) (fun (_ : Nat → Bool) (w : World) => Below W0.heap.size W0 w) ((fun a b : World => Below a.heap.size a b)) hre ((fun _ _ _ h k => h.trans (k.mono h.size))) ((⟨rfl, rfl, rfl, Nat.le_refl _, fun _ _ => rfl⟩)) ⟨rfl, rfl, rfl, Nat.le_refl _, fun _ _ => rfl⟩ (rcpE B B1 B2 B3) (fun | 4, v, w => ∃ b, v = .pointer (some ⟨b, 0, none⟩) ∧ W0.heap.size ≤ b ∧ Nt.TAt (fun k => P1 k ∨ k = b) w b T1 | 9, v, w => ∃ b, v = .pointer (some ⟨b, 0, none⟩) ∧ W0.heap.size ≤ b ∧ Vt.TAt (fun k => P2 k ∨ k = b) w b T2 | 14, v, w => ∃ b, v = .pointer (some ⟨b, 0, none⟩) ∧ W0.heap.size ≤ b ∧ Ct.TAt (fun k => P3 k ∨ k = b) w b T3 | 15, v, w => ∃ b1 b2 b3, v = .agg #[.pointer (some ⟨b1, 0, none⟩), .pointer (some ⟨b2, 0, none⟩), .pointer (some ⟨b3, 0, none⟩)] ∧ CpAll P1 P2 P3 W0.heap.size w b1 b2 b3 T1 T2 T3 | 16, v, w => ∃ b0 b1 b2 b3, v = .pointer (some ⟨b0, 0, none⟩) ∧ W0.heap.size ≤ b0 ∧ w.heap[b0]? = some (.cells #[.pointer (some ⟨b1, 0, none⟩), .pointer (some ⟨b2, 0, none⟩), .pointer (some ⟨b3, 0, none⟩)] TRo (0, 0)) ∧ CpAll P1 P2 P3 W0.heap.size w b1 b2 b3 T1 T2 T3 | 17, v, w => ∃ b0 b1 b2 b3, v = .pointer (some ⟨b0, 0, none⟩) ∧ W0.heap.size ≤ b0 ∧ w.heap[b0]? = some (.cells #[.pointer (some ⟨b1, 0, none⟩), .pointer (some ⟨b2, 0, none⟩), .pointer (some ⟨b3, 0, none⟩)] TRo (0, 0)) ∧ CpAll P1 P2 P3 W0.heap.size w b1 b2 b3 T1 T2 T3 | _, _, _ => True) (fun i => ([4, 9, 14, 15, 16, 17] : List Nat).contains i) (fun i => ([3, 4, 8, 9, 13, 14, 15, 16, 17] : List Nat).contains i) (by kernel_rfl) (fun i v w w' h g => by revert h; split <;> intro h <;> first | exact h | trivial | (obtain ⟨b, e, z, t⟩ := h; exact ⟨b, e, z, t.below g⟩) | (obtain ⟨b1, b2, b3, e, q⟩ := h; exact ⟨b1, b2, b3, e, q.below g⟩) | (obtain ⟨b0, b1, b2, b3, e, z, k, q⟩ := h; exact ⟨b0, b1, b2, b3, e, z, (g.block b0 (block_lt k)).trans k, q.below g⟩)) 4 rfl hrd ?_ (Go.Rel.AllOf.get ?_) ?_
  · repeat (refine .cons (by first | exact Go.Rel.pure_sp rfl | exact Go.Rel.pure_yes (by kernel_rfl) (fun _ => by kernel_rfl) | exact Go.Rel.pure_no (by kernel_rfl) rfl) ?_)
    exact .nil
  · refine ⟨?_, ?_, ?_, ?_, ?_, ?_, ?_, ?_, ?_, trivial⟩
    · exact SpecOk.ld hrd hre (q := .pointer (some ⟨B, 0, none⟩)) (h := fun _ w' hI _ _ _ _ => by have cb := ro_ptrs ((hI.block B HLb.out).trans HKb.out); go_simp; rfl)
    · refine SpecOk.call 76 #[.pointer (some ⟨B1, 0, none⟩)] rfl (by kernel_rfl) (fun _ => by kernel_rfl) fun _ w' hI _ _ _ _ => ?_
      refine (copy1_ro (HT1.out.below hI)).mono ?_
      rintro e9 w9 ⟨b9, rfl, z9, t9, hb9⟩
      exact ⟨_, rfl, hb9, (hI.trans (hb9.mono hI.size)), ⟨b9, rfl, Nat.le_trans hI.size z9, t9⟩⟩
    · exact SpecOk.ld hrd hre (q := .pointer (some ⟨B, 1, none⟩)) (h := fun _ w' hI _ _ _ _ => by have cb := ro_ptrs ((hI.block B HLb.out).trans HKb.out); go_simp; rfl)
    · refine SpecOk.call 77 #[.pointer (some ⟨B2, 0, none⟩)] rfl (by kernel_rfl) (fun _ => by kernel_rfl) fun _ w' hI _ _ _ _ => ?_
      refine (copy2_ro (HT2.out.below hI)).mono ?_
      rintro e9 w9 ⟨b9, rfl, z9, t9, hb9⟩
      exact ⟨_, rfl, hb9, (hI.trans (hb9.mono hI.size)), ⟨b9, rfl, Nat.le_trans hI.size z9, t9⟩⟩
    · exact SpecOk.ld hrd hre (q := .pointer (some ⟨B, 2, none⟩)) (h := fun _ w' hI _ _ _ _ => by have cb := ro_ptrs ((hI.block B HLb.out).trans HKb.out); go_simp; rfl)
    · refine SpecOk.call 78 #[.pointer (some ⟨B3, 0, none⟩)] rfl (by kernel_rfl) (fun _ => by kernel_rfl) fun _ w' hI _ _ _ _ => ?_
      refine (copy3_ro (HT3.out.below hI)).mono ?_
      rintro e9 w9 ⟨b9, rfl, z9, t9, hb9⟩
      exact ⟨_, rfl, hb9, (hI.trans (hb9.mono hI.size)), ⟨b9, rfl, Nat.le_trans hI.size z9, t9⟩⟩
    · refine SpecOk.gen (fun e => [(10, e 4), (15, e 9), (20, e 14)]) rfl rfl (fun _ => by kernel_rfl) fun f w' e hI hf hdesc hanc hle hX K hK => ?_
      obtain ⟨b4, e4, z4, t4⟩ := hX 4 rfl rfl
      obtain ⟨b9, e9, z9, t9⟩ := hX 9 rfl rfl
      obtain ⟨b14, e14, z14, t14⟩ := hX 14 rfl rfl
      simp only [e4, e9, e14]
      go_simp
      exact hK _ _ (Below.refl _ _) hI ⟨b4, b9, b14, rfl, ⟨z4, z9, z14⟩, t4, t9, t14⟩
    · refine SpecOk.gen (fun e => [(21, e 15)]) rfl rfl (fun _ => by kernel_rfl) fun f w' e hI hf hdesc hanc hle hX K hK => ?_
      obtain ⟨b1, b2, b3, e15, q15⟩ := hX 15 rfl rfl
      simp only [e15]
      go_simp
      have g9 := below1 w' #[.pointer (some ⟨b1, 0, none⟩), .pointer (some ⟨b2, 0, none⟩), .pointer (some ⟨b3, 0, none⟩)] TRo
      exact hK _ _ g9 (hI.trans (g9.mono hI.size)) ⟨_, b1, b2, b3, rfl, hI.size, heap_alloc_new w' _, q15.below g9⟩
    · refine SpecOk.gen (fun e => [(22, e 16)]) rfl rfl (fun _ => by kernel_rfl) fun f w' e hI hf hdesc hanc hle hX K hK => ?_
      obtain ⟨b0, b1, b2, b3, e16, z16, k16, q16⟩ := hX 16 rfl rfl
      simp only [e16]
      go_simp
      exact hK _ _ (Below.refl _ _) hI ⟨b0, b1, b2, b3, rfl, z16, k16, q16⟩
  · intro f w3 e hall hJ hle hv
    obtain ⟨b0, b1, b2, b3, v9, z9, k9, q9⟩ := hv 17 rfl
    simp only [Go.Rel.finL, List.setIfInBounds_toArray, List.set_cons_succ, List.set_cons_zero]
    rw [show e 17 = .pointer (some ⟨b0, 0, none⟩) from v9]
    rw [HP.out.1, HP.out.2.1, HP.out.2.2] at q9
    have hz := HB.out.size
    have hq := q9.z
    have HFin : Hid (RoAt (fun k => S k ∨ w.heap.size ≤ k) w3 b0 b1 b2 b3 m d ∧ (w.heap.size ≤ b0 ∧ w.heap.size ≤ b1 ∧ w.heap.size ≤ b2 ∧ w.heap.size ≤ b3) ∧ Below w.heap.size w w3) := Lib.hid ⟨⟨HOk.out, _, _, _, (q9.ro HA.out hJ z9 k9).narrow fun k _ z => z.imp (fun z => z) (Nat.le_trans hz), HE.out⟩, ⟨by omega, by omega, by omega, by omega⟩, HB.out.trans (hJ.mono hz)⟩
    clear hv hall hle hJ v9 z9 k9 q9 hz hq
    go_wp2
    go_ret
    exact ⟨b0, b1, b2, b3, rfl, HFin.out⟩
end Go.Proofs.YtilkbfmaofmjoaaGreatDoor
namespace Go.Proofs.YtilkbfmaofmjoaaGreatDoor
open Go.RowKit
set_option linter.unusedSimpArgs false
set_option linter.unusedVariables false
theorem la_cells : Tryz.prog.cellsOf 29 = 1 := by kernel_rfl
theorem la_plain : Tryz.prog.plainKey 29 = true := by kernel_rfl
theorem la_info : (Tryz.prog.info? 29).isSome = true := by kernel_rfl
theorem la_und : Tryz.prog.underlying 55 = some (.array 3 29) := by kernel_rfl
theorem la_int (a b : Nat) (w : World) : (Op.equalIn 9999 29 (.int .u64 (a : Int)) (.int .u64 (b : Int))).run Tryz.prog w = .ok (decide (a = b)) w := by
  rw [run_equalIn_int w 9998 _ _ _ _ _ (show Tryz.prog.underlying 29 = some (.int .u64) by kernel_rfl)]
  congr 1
  rw [Bool.eq_iff_iff]
  simp only [beq_iff_eq, decide_eq_true_eq]
  omega
set_option maxRecDepth 100000 in
theorem la_eq (a b c a2 b2 c2 : Nat) (w : World) : (Op.equalIn 10000 55 (.agg #[.int .u64 (a : Int), .int .u64 (b : Int), .int .u64 (c : Int)]) (.agg #[.int .u64 (a2 : Int), .int .u64 (b2 : Int), .int .u64 (c2 : Int)])).run Tryz.prog w = .ok (decide (a = a2) && (decide (b = b2) && decide (c = c2))) w := by
  obtain ⟨i, hi⟩ := Option.isSome_iff_exists.1 la_info
  rw [run_equalIn_array w 9999 _ _ la_und hi, la_cells]
  have p0 := la_int a a2 w
  have p1 := la_int b b2 w
  have p2 := la_int c c2 w
  have hr : List.range 3 = [0, 1, 2] := rfl
  rw [hr]
  have hp : ∀ (x y z : Nat) (k : Nat) (v : Value), #[Value.int .u64 (x : Int), .int .u64 (y : Int), .int .u64 (z : Int)][k]? = some v → (part 29 #[Value.int .u64 (x : Int), .int .u64 (y : Int), .int .u64 (z : Int)] k).run Tryz.prog w = .ok v w := by
    intro x y z k v hv
    exact run_part_plain w la_plain hv
  have q0 := hp a b c 0 (.int .u64 (a : Int)) rfl
  have q1 := hp a b c 1 (.int .u64 (b : Int)) rfl
  have q2 := hp a b c 2 (.int .u64 (c : Int)) rfl
  have r0 := hp a2 b2 c2 0 (.int .u64 (a2 : Int)) rfl
  have r1 := hp a2 b2 c2 1 (.int .u64 (b2 : Int)) rfl
  have r2 := hp a2 b2 c2 2 (.int .u64 (c2 : Int)) rfl
  clear hp hr hi
  generalize #[Value.int .u64 (a : Int), .int .u64 (b : Int), .int .u64 (c : Int)] = xs at q0 q1 q2 ⊢
  generalize #[Value.int .u64 (a2 : Int), .int .u64 (b2 : Int), .int .u64 (c2 : Int)] = ys at r0 r1 r2 ⊢
  generalize decide (a = a2) = x0 at p0 ⊢
  generalize decide (b = b2) = x1 at p1 ⊢
  generalize decide (c = c2) = x2 at p2 ⊢
  simp only [Op.eqItems, Sem.run_bind, Nat.mul_one, q0, q1, q2, r0, r1, r2, Result.andThen_ok, p0, p1, p2]
  cases x0 <;> cases x1 <;> cases x2 <;> simp [p0, p1, p2, q1, q2, r1, r2]
theorem la_guard : Tryz.prog.eqGuardType Tryz.prog.depth 55 = false := by kernel_rfl
end Go.Proofs.YtilkbfmaofmjoaaGreatDoor
namespace Go.Proofs.YtilkbfmaofmjoaaGreatDoor
open Go.RowKit
set_option linter.unusedSimpArgs false
set_option linter.unusedVariables false
abbrev TRd : TypeId := 80
structure RwD {α : Type} (enc : α → List Value) (k : Nat) (S : Nat → Prop) (w : World) (B : Nat) (A : Option Addr) (c : Nat) (l : List α) : Prop where
  row : SK enc k w A l.length l
  own : ∀ b off, A = some ⟨b, off, none⟩ → 0 < l.length → S b ∧ b ≠ B
  le : l.length ≤ c
  max : c ≤ maxLen
section
variable {α : Type} {enc : α → List Value} {k : Nat} {S S' : Nat → Prop} {w w' : World} {B : Nat} {A : Option Addr} {c : Nat} {l : List α}
theorem RwD.but (h : RwD enc k S w B A c l) (hb : But S' w w') (hS : ∀ k, S' k → S k → k = B) : RwD enc k S w' B A c l :=
  ⟨h.row.but hb fun b off e hn q => (h.own b off e hn).2 (hS b q (h.own b off e hn).1), h.own, h.le, h.max⟩
theorem RwD.narrow (h : RwD enc k S w B A c l) (hs : ∀ k, k < w.heap.size → S k → S' k) : RwD enc k S' w B A c l :=
  ⟨h.row, fun b off e hn => by
    obtain ⟨b', off', e', hb, _⟩ := h.row.at_ (j := 0) hn hn
    rw [e] at e'
    cases e'
    exact ⟨hs b hb (h.own b off e hn).1, (h.own b off e hn).2⟩, h.le, h.max⟩
theorem RwD.nil : RwD enc k S w B none 0 ([] : List α) := ⟨SK.zero, (fun _ _ e => by cases e), Nat.le_refl _, Nat.zero_le _⟩
end
structure RdIs (base : Nat) (S : Nat → Prop) (w : World) (B : Nat) (A1 A2 A3 : Option Addr) (c1 c2 c3 : Nat) (m : Nat) (l2 : List (Rw SvW)) (d : Ro) : Prop where
  mine : S B
  lo : ∀ k, S k → base ≤ k
  top : base ≤ w.heap.size
  blk : w.heap[B]? = some (.cells #[.int .i64 (m : Int), .slice A1 d.n.l.length c1, .slice A2 l2.length c2, .slice A3 d.c.l.length c3, .int .u64 (d.n.last : Int), .int .u64 (d.s.last : Int), .int .u64 (d.c.last : Int)] TRd (0, 0))
  r1 : RwD ndC 4 S w B A1 c1 d.n.l
  r2 : RwD svC 7 S w B A2 c2 l2
  r3 : RwD ckC 7 S w B A3 c3 d.c.l
  eq : l2.map (rwMap (·.a)) = d.s.l
  tg : ∀ r ∈ l2, TgAt (fun k => k < base) w r.val
def RdAt (base : Nat) (S : Nat → Prop) (w : World) (B : Nat) (m : Nat) (d : Ro) : Prop := RoOk m d ∧ ∃ A1 A2 A3 c1 c2 c3 l2, RdIs base S w B A1 A2 A3 c1 c2 c3 m l2 d
section
variable {base : Nat} {S S' : Nat → Prop} {w w' : World} {B : Nat} {A1 A2 A3 : Option Addr} {c1 c2 c3 m : Nat} {l2 : List (Rw SvW)} {d : Ro}
theorem RdIs.lt (h : RdIs base S w B A1 A2 A3 c1 c2 c3 m l2 d) : B < w.heap.size := block_lt h.blk
theorem RdIs.but (h : RdIs base S w B A1 A2 A3 c1 c2 c3 m l2 d) (hb : But S' w w') (hS : ∀ k, S' k → ¬ S k ∧ base ≤ k) : RdIs base S w' B A1 A2 A3 c1 c2 c3 m l2 d :=
  ⟨h.mine, h.lo, Nat.le_trans h.top hb.size, (hb.block B h.lt fun e => (hS B e).1 h.mine).trans h.blk, h.r1.but hb fun k e z => absurd z (hS k e).1, h.r2.but hb fun k e z => absurd z (hS k e).1, h.r3.but hb fun k e z => absurd z (hS k e).1, h.eq, fun r hr => (h.tg r hr).but hb fun k e z => by have := (hS k e).2; omega⟩
theorem RdIs.below (h : RdIs base S w B A1 A2 A3 c1 c2 c3 m l2 d) (hb : Below w.heap.size w w') : RdIs base S w' B A1 A2 A3 c1 c2 c3 m l2 d := h.but (S' := fun _ => False) (But.of_below hb) (fun _ h => h.elim)
theorem RdIs.narrow (h : RdIs base S w B A1 A2 A3 c1 c2 c3 m l2 d) (hs : ∀ k, k < w.heap.size → S k → S' k) (hl : ∀ k, S' k → base ≤ k) : RdIs base S' w B A1 A2 A3 c1 c2 c3 m l2 d :=
  ⟨hs _ h.lt h.mine, hl, h.top, h.blk, h.r1.narrow hs, h.r2.narrow hs, h.r3.narrow hs, h.eq, h.tg⟩
theorem RdAt.but (h : RdAt base S w B m d) (hb : But S' w w') (hS : ∀ k, S' k → ¬ S k ∧ base ≤ k) : RdAt base S w' B m d := by
  obtain ⟨h0, A1, A2, A3, c1, c2, c3, l2, h1⟩ := h
  exact ⟨h0, A1, A2, A3, c1, c2, c3, l2, h1.but hb hS⟩
theorem RdAt.below (h : RdAt base S w B m d) (hb : Below w.heap.size w w') : RdAt base S w' B m d := h.but (S' := fun _ => False) (But.of_below hb) (fun _ h => h.elim)
theorem RdAt.narrow (h : RdAt base S w B m d) (hs : ∀ k, k < w.heap.size → S k → S' k) (hl : ∀ k, S' k → base ≤ k) : RdAt base S' w B m d := by
  obtain ⟨h0, A1, A2, A3, c1, c2, c3, l2, h1⟩ := h
  exact ⟨h0, A1, A2, A3, c1, c2, c3, l2, h1.narrow hs hl⟩
theorem RdAt.lt (h : RdAt base S w B m d) : B < w.heap.size := by
  obtain ⟨h0, A1, A2, A3, c1, c2, c3, l2, h1⟩ := h
  exact h1.lt
theorem RdAt.mine (h : RdAt base S w B m d) : S B := by
  obtain ⟨h0, A1, A2, A3, c1, c2, c3, l2, h1⟩ := h
  exact h1.mine
theorem RdAt.lo (h : RdAt base S w B m d) : ∀ k, S k → base ≤ k := by
  obtain ⟨h0, A1, A2, A3, c1, c2, c3, l2, h1⟩ := h
  exact h1.lo
theorem RdIs.cells (h : RdIs base S w B A1 A2 A3 c1 c2 c3 m l2 d) : w.cell? ⟨B, 0, none⟩ = some (.int .i64 (m : Int)) ∧ w.cell? ⟨B, 1, none⟩ = some (.slice A1 d.n.l.length c1) ∧ w.cell? ⟨B, 2, none⟩ = some (.slice A2 l2.length c2) ∧ w.cell? ⟨B, 3, none⟩ = some (.slice A3 d.c.l.length c3) ∧ w.cell? ⟨B, 4, none⟩ = some (.int .u64 (d.n.last : Int)) ∧ w.cell? ⟨B, 5, none⟩ = some (.int .u64 (d.s.last : Int)) ∧ w.cell? ⟨B, 6, none⟩ = some (.int .u64 (d.c.last : Int)) :=
  ⟨cellsN h.blk 0 _ rfl, cellsN h.blk 1 _ rfl, cellsN h.blk 2 _ rfl, cellsN h.blk 3 _ rfl, cellsN h.blk 4 _ rfl, cellsN h.blk 5 _ rfl, cellsN h.blk 6 _ rfl⟩
theorem RdIs.froz (h : RdIs base S w B A1 A2 A3 c1 c2 c3 m l2 d) (i : Nat) : w.frozen? ⟨B, i, none⟩ = false := blk_froz h.blk i
theorem RdIs.len2 (h : RdIs base S w B A1 A2 A3 c1 c2 c3 m l2 d) : l2.length = d.s.l.length := by rw [← h.eq, List.length_map]
theorem RdIs.last1 (h : RdIs base S w B A1 A2 A3 c1 c2 c3 m l2 d) (n : Nat) : RdIs base S (w.setCell ⟨B, 4, none⟩ (.int .u64 (n : Int))) B A1 A2 A3 c1 c2 c3 m l2 { d with n := { d.n with last := n } } := by
  have hb := But.set (S := (· = B)) w (p := ⟨B, 4, none⟩) rfl (.int .u64 (n : Int))
  exact ⟨h.mine, h.lo, Nat.le_trans h.top hb.size, block_set h.blk 4 _, h.r1.but hb (fun k e _ => e), h.r2.but hb (fun k e _ => e), h.r3.but hb (fun k e _ => e), h.eq, fun r hr => (h.tg r hr).but hb fun k e z => by have := h.lo _ h.mine; have : k = B := e; omega⟩
theorem RdIs.last2 (h : RdIs base S w B A1 A2 A3 c1 c2 c3 m l2 d) (n : Nat) : RdIs base S (w.setCell ⟨B, 5, none⟩ (.int .u64 (n : Int))) B A1 A2 A3 c1 c2 c3 m l2 { d with s := { d.s with last := n } } := by
  have hb := But.set (S := (· = B)) w (p := ⟨B, 5, none⟩) rfl (.int .u64 (n : Int))
  exact ⟨h.mine, h.lo, Nat.le_trans h.top hb.size, block_set h.blk 5 _, h.r1.but hb (fun k e _ => e), h.r2.but hb (fun k e _ => e), h.r3.but hb (fun k e _ => e), h.eq, fun r hr => (h.tg r hr).but hb fun k e z => by have := h.lo _ h.mine; have : k = B := e; omega⟩
theorem RdIs.last3 (h : RdIs base S w B A1 A2 A3 c1 c2 c3 m l2 d) (n : Nat) : RdIs base S (w.setCell ⟨B, 6, none⟩ (.int .u64 (n : Int))) B A1 A2 A3 c1 c2 c3 m l2 { d with c := { d.c with last := n } } := by
  have hb := But.set (S := (· = B)) w (p := ⟨B, 6, none⟩) rfl (.int .u64 (n : Int))
  exact ⟨h.mine, h.lo, Nat.le_trans h.top hb.size, block_set h.blk 6 _, h.r1.but hb (fun k e _ => e), h.r2.but hb (fun k e _ => e), h.r3.but hb (fun k e _ => e), h.eq, fun r hr => (h.tg r hr).but hb fun k e z => by have := h.lo _ h.mine; have : k = B := e; omega⟩
theorem RdIs.set1 (h : RdIs base S w B A1 A2 A3 c1 c2 c3 m l2 d) {A : Option Addr} {c : Nat} {l : List (Rw NdA)} (hr : RwD ndC 4 S w B A c l) : RdIs base S (w.setCell ⟨B, 1, none⟩ (.slice A l.length c)) B A A2 A3 c c2 c3 m l2 { d with n := { d.n with l := l } } := by
  have hb := But.set (S := (· = B)) w (p := ⟨B, 1, none⟩) rfl (.slice A l.length c)
  exact ⟨h.mine, h.lo, Nat.le_trans h.top hb.size, block_set h.blk 1 _, hr.but hb (fun k e _ => e), h.r2.but hb (fun k e _ => e), h.r3.but hb (fun k e _ => e), h.eq, fun r hr => (h.tg r hr).but hb fun k e z => by have := h.lo _ h.mine; have : k = B := e; omega⟩
theorem RdIs.set2 (h : RdIs base S w B A1 A2 A3 c1 c2 c3 m l2 d) {A : Option Addr} {c : Nat} {l : List (Rw SvW)} (hr : RwD svC 7 S w B A c l) (ht : ∀ r ∈ l, TgAt (fun k => k < base) w r.val) : RdIs base S (w.setCell ⟨B, 2, none⟩ (.slice A l.length c)) B A1 A A3 c1 c c3 m l { d with s := { d.s with l := l.map (rwMap (·.a)) } } := by
  have hb := But.set (S := (· = B)) w (p := ⟨B, 2, none⟩) rfl (.slice A l.length c)
  exact ⟨h.mine, h.lo, Nat.le_trans h.top hb.size, block_set h.blk 2 _, h.r1.but hb (fun k e _ => e), hr.but hb (fun k e _ => e), h.r3.but hb (fun k e _ => e), rfl, fun r hr => (ht r hr).but hb fun k e z => by have := h.lo _ h.mine; have : k = B := e; omega⟩
theorem RdIs.set3 (h : RdIs base S w B A1 A2 A3 c1 c2 c3 m l2 d) {A : Option Addr} {c : Nat} {l : List (Rw CkA)} (hr : RwD ckC 7 S w B A c l) : RdIs base S (w.setCell ⟨B, 3, none⟩ (.slice A l.length c)) B A1 A2 A c1 c2 c m l2 { d with c := { d.c with l := l } } := by
  have hb := But.set (S := (· = B)) w (p := ⟨B, 3, none⟩) rfl (.slice A l.length c)
  exact ⟨h.mine, h.lo, Nat.le_trans h.top hb.size, block_set h.blk 3 _, h.r1.but hb (fun k e _ => e), h.r2.but hb (fun k e _ => e), hr.but hb (fun k e _ => e), h.eq, fun r hr => (h.tg r hr).but hb fun k e z => by have := h.lo _ h.mine; have : k = B := e; omega⟩
end
end Go.Proofs.YtilkbfmaofmjoaaGreatDoor
namespace Go.Proofs.YtilkbfmaofmjoaaGreatDoor
open Go.RowKit
set_option linter.unusedSimpArgs false
set_option linter.unusedVariables false
def EqPost (P : Prop) (w : World) (e : Ending) (w' : World) : Prop := ∃ b, e = .returned (.bool b) ∧ (P → b = true) ∧ Below w.heap.size w w'
set_option maxHeartbeats 2000000 in
theorem rsame_any (A A2 : Option Addr) (n c n2 c2 : Nat) (l l2 : List ByteArray) (w : World) (h : RS w A n l) (k : RS w A2 n2 l2) (hn : n ≤ 1000) (hn2 : n2 ≤ maxLen) : Calls Tryz.prog 67 #[.slice A n c, .slice A2 n2 c2] w fun e w' => EqPost (l = l2) w e w' := by
  unfold maxLen at hn2
  have HL := Lib.hid h.1
  have HL2 := Lib.hid k.1
  have HS := Lib.hid h
  have HS2 := Lib.hid k
  have hm : n ≤ 9223372036854775807 := by omega
  have hm2 : n2 ≤ 9223372036854775807 := by omega
  clear h k hn hn2
  by_cases hne : n = n2
  · subst hne
    have zz : ((n : Int) != (n : Int)) = false := by simp
    go_enter Tryz.func67, Tryz.ntmps67
    go_wp2
    go_loopw [5] (fun iv wr => ∃ k : Nat, k ≤ n ∧ iv = .int .i64 (k : Int) ∧ Hid (Below w.heap.size w wr)) (fun iv _ => n - (intOf iv).toNat)
    case atStart => exact ⟨0, Nat.zero_le _, rfl, Lib.hid (Below.refl _ _)⟩
    case round =>
      obtain ⟨k, hk, rfl, hb⟩ := hrel
      by_cases hlt : k < n
      · have hkl : k < l.length := by have := HL.out; omega
        have hkl2 : k < l2.length := by have := HL2.out; omega
        obtain ⟨b, off, rfl, hbl, hit⟩ := (HS.out.below hb.out).2 (by omega)
        obtain ⟨b2, off2, rfl, hbl2, hit2⟩ := (HS2.out.below hb.out).2 (by omega)
        replace hit := hit k hkl
        replace hit2 := hit2 k hkl2
        obtain ⟨x, hx⟩ : ∃ x, l[k] = x := ⟨_, rfl⟩
        obtain ⟨y, hy⟩ : ∃ y, l2[k] = y := ⟨_, rfl⟩
        rw [hx] at hit
        rw [hy] at hit2
        have q1 : (k : Int) < (n : Int) := by omega
        have q0 : (0 : Int) ≤ (k : Int) := by omega
        cases hxy : (x.toList == y.toList) with
        | true =>
          clear hx hy
          go_wp2
          go_quiet (fail)
          go_wp2
          go_roundw
          case rel => exact ⟨k + 1, by omega, by go_num, Lib.hid (below_draws hb.out _)⟩
          case measure => simp [intOf]; omega
        | false =>
          have HN : Hid (l ≠ l2) := Lib.hid fun e => by
            have e2 : x = y := by rw [← hx, ← hy]; subst e; rfl
            rw [text_same.2 e2] at hxy
            cases hxy
          clear hx hy
          go_wp2
          go_quiet (fail)
          go_wp2
          go_ret
          exact ⟨false, rfl, fun h => absurd h HN.out, below_draws hb.out _⟩
      · go_wp2
        go_ret
        exact ⟨true, rfl, fun _ => rfl, hb.out⟩
  · have HN : Hid (l ≠ l2) := Lib.hid fun e => hne (by rw [← HL.out, ← HL2.out, e])
    have zz : ((n : Int) != (n2 : Int)) = true := by rw [bne_iff_ne]; omega
    go_enter Tryz.func67, Tryz.ntmps67
    go_wp2
    go_ret
    exact ⟨false, rfl, fun h => absurd h HN.out, Below.refl _ _⟩
set_option maxHeartbeats 4000000 in
theorem rdsamenodes_any (A : Option Addr) (n c : Nat) (l : List (Rw NdA)) (A2 : Option Addr) (n2 c2 : Nat) (l2 : List (Rw NdA)) (w : World) (hS : SK ndC 4 w A n l) (hS2 : SK ndC 4 w A2 n2 l2) (hn : n ≤ maxLen) (hn2 : n2 ≤ maxLen) : Calls Tryz.prog 24 #[.slice A n c, .slice A2 n2 c2] w fun e w' => EqPost (l = l2) w e w' := by
  unfold maxLen at hn hn2
  have HL := Lib.hid hS.1
  have HL2 := Lib.hid hS2.1
  have HS := Lib.hid hS
  have HS2 := Lib.hid hS2
  have hm : n ≤ 9223372036854775807 := by omega
  have hm2 : n2 ≤ 9223372036854775807 := by omega
  clear hS hS2 hn hn2
  by_cases hne : n = n2
  · subst hne
    have zz : ((n : Int) != (n : Int)) = false := by simp
    go_enter Tryz.func24, Tryz.ntmps24
    go_wp2
    go_loopw [5] (fun iv wr => ∃ k : Nat, k ≤ n ∧ iv = .int .i64 (k : Int) ∧ Hid (Below w.heap.size w wr)) (fun iv _ => n - (intOf iv).toNat)
    case atStart => exact ⟨0, Nat.zero_le _, rfl, Lib.hid (Below.refl _ _)⟩
    case round =>
      obtain ⟨k, hk, rfl, hb⟩ := hrel
      by_cases hlt : k < n
      · have hkl : k < l.length := by have := HL.out; omega
        have hkl2 : k < l2.length := by have := HL2.out; omega
        obtain ⟨b, off, rfl, hbl, hit⟩ := (HS.out.below hb.out).at_ hlt hkl
        obtain ⟨b2, off2, rfl, hbl2, hit2⟩ := (HS2.out.below hb.out).at_ hlt hkl2
        obtain ⟨x, hx⟩ : ∃ x, l[k] = x := ⟨_, rfl⟩
        obtain ⟨y, hy⟩ : ∃ y, l2[k] = y := ⟨_, rfl⟩
        rw [hx] at hit
        rw [hy] at hit2
        obtain ⟨c0, c1, c2, c3⟩ := nd_cells hit
        obtain ⟨d0, d1, d2, d3⟩ := nd_cells hit2
        have q1 : (k : Int) < (n : Int) := by omega
        have q0 : (0 : Int) ≤ (k : Int) := by omega
        have ug := nd_guard
        have ue := nd_eq x y
        cases hxy : eqNd x y with
        | true =>
          rw [hxy] at ue
          unfold ndV at ue
          clear hx hy hit hit2 hxy
          go_wp2
          go_quiet (fail)
          go_wp2
          go_roundw
          case rel => exact ⟨k + 1, by omega, by go_num, Lib.hid (below_draws hb.out _)⟩
          case measure => simp [intOf]; omega
        | false =>
          have HN : Hid (l ≠ l2) := Lib.hid fun e => by
            have e2 : x = y := by rw [← hx, ← hy]; subst e; rfl
            rw [eqNd_same x y (by rw [e2]; exact ⟨rfl, rfl, rfl⟩)] at hxy
            cases hxy
          rw [hxy] at ue
          unfold ndV at ue
          clear hx hy hit hit2 hxy
          go_wp2
          go_quiet (fail)
          go_wp2
          go_ret
          exact ⟨false, rfl, fun h => absurd h HN.out, below_draws hb.out _⟩
      · go_wp2
        go_ret
        exact ⟨true, rfl, fun _ => rfl, hb.out⟩
  · have HN : Hid (l ≠ l2) := Lib.hid fun e => hne (by rw [← HL.out, ← HL2.out, e])
    have zz : ((n : Int) != (n2 : Int)) = true := by rw [bne_iff_ne]; omega
    go_enter Tryz.func24, Tryz.ntmps24
    go_wp2
    go_ret
    exact ⟨false, rfl, fun h => absurd h HN.out, Below.refl _ _⟩
set_option maxHeartbeats 4000000 in
theorem rdsamechecks_any (A : Option Addr) (n c : Nat) (l : List (Rw CkA)) (A2 : Option Addr) (n2 c2 : Nat) (l2 : List (Rw CkA)) (w : World) (hS : SK ckC 7 w A n l) (hS2 : SK ckC 7 w A2 n2 l2) (hn : n ≤ maxLen) (hn2 : n2 ≤ maxLen) : Calls Tryz.prog 26 #[.slice A n c, .slice A2 n2 c2] w fun e w' => EqPost (l = l2) w e w' := by
  unfold maxLen at hn hn2
  have HL := Lib.hid hS.1
  have HL2 := Lib.hid hS2.1
  have HS := Lib.hid hS
  have HS2 := Lib.hid hS2
  have hm : n ≤ 9223372036854775807 := by omega
  have hm2 : n2 ≤ 9223372036854775807 := by omega
  clear hS hS2 hn hn2
  by_cases hne : n = n2
  · subst hne
    have zz : ((n : Int) != (n : Int)) = false := by simp
    go_enter Tryz.func26, Tryz.ntmps26
    go_wp2
    go_loopw [5] (fun iv wr => ∃ k : Nat, k ≤ n ∧ iv = .int .i64 (k : Int) ∧ Hid (Below w.heap.size w wr)) (fun iv _ => n - (intOf iv).toNat)
    case atStart => exact ⟨0, Nat.zero_le _, rfl, Lib.hid (Below.refl _ _)⟩
    case round =>
      obtain ⟨k, hk, rfl, hb⟩ := hrel
      by_cases hlt : k < n
      · have hkl : k < l.length := by have := HL.out; omega
        have hkl2 : k < l2.length := by have := HL2.out; omega
        obtain ⟨b, off, rfl, hbl, hit⟩ := (HS.out.below hb.out).at_ hlt hkl
        obtain ⟨b2, off2, rfl, hbl2, hit2⟩ := (HS2.out.below hb.out).at_ hlt hkl2
        obtain ⟨x, hx⟩ : ∃ x, l[k] = x := ⟨_, rfl⟩
        obtain ⟨y, hy⟩ : ∃ y, l2[k] = y := ⟨_, rfl⟩
        rw [hx] at hit
        rw [hy] at hit2
        obtain ⟨c0, c1, c2, c3, c4, c5, c6⟩ := ck_cells hit
        obtain ⟨d0, d1, d2, d3, d4, d5, d6⟩ := ck_cells hit2
        have q1 : (k : Int) < (n : Int) := by omega
        have q0 : (0 : Int) ≤ (k : Int) := by omega
        have ug := ck_guard
        have ue := ck_eq x y
        cases hxy : eqCk x y with
        | true =>
          rw [hxy] at ue
          unfold ckV at ue
          clear hx hy hit hit2 hxy
          go_wp2
          go_quiet (fail)
          go_wp2
          go_roundw
          case rel => exact ⟨k + 1, by omega, by go_num, Lib.hid (below_draws hb.out _)⟩
          case measure => simp [intOf]; omega
        | false =>
          have HN : Hid (l ≠ l2) := Lib.hid fun e => by
            have e2 : x = y := by rw [← hx, ← hy]; subst e; rfl
            rw [eqCk_same x y (by rw [e2]; exact ⟨rfl, rfl, rfl⟩)] at hxy
            cases hxy
          rw [hxy] at ue
          unfold ckV at ue
          clear hx hy hit hit2 hxy
          go_wp2
          go_quiet (fail)
          go_wp2
          go_ret
          exact ⟨false, rfl, fun h => absurd h HN.out, below_draws hb.out _⟩
      · go_wp2
        go_ret
        exact ⟨true, rfl, fun _ => rfl, hb.out⟩
  · have HN : Hid (l ≠ l2) := Lib.hid fun e => hne (by rw [← HL.out, ← HL2.out, e])
    have zz : ((n : Int) != (n2 : Int)) = true := by rw [bne_iff_ne]; omega
    go_enter Tryz.func26, Tryz.ntmps26
    go_wp2
    go_ret
    exact ⟨false, rfl, fun h => absurd h HN.out, Below.refl _ _⟩
end Go.Proofs.YtilkbfmaofmjoaaGreatDoor
namespace Go.Proofs.YtilkbfmaofmjoaaGreatDoor
open Go.RowKit
set_option linter.unusedSimpArgs false
set_option linter.unusedVariables false
set_option maxHeartbeats 8000000 in
theorem rdsameservices_any (A : Option Addr) (n c : Nat) (l : List (Rw SvW)) (A2 : Option Addr) (n2 c2 : Nat) (l2 : List (Rw SvW)) (w : World) (hS : SK svC 7 w A n l) (hS2 : SK svC 7 w A2 n2 l2) (hn : n ≤ maxLen) (hn2 : n2 ≤ maxLen) (ht : ∀ r ∈ l, Tx w r.val.A r.val.n r.val.c r.val.a.tags ∧ r.val.n ≤ 1000) (ht2 : ∀ r ∈ l2, Tx w r.val.A r.val.n r.val.c r.val.a.tags ∧ r.val.n ≤ 1000) : Calls Tryz.prog 25 #[.slice A n c, .slice A2 n2 c2] w fun e w' => EqPost (l.map (rwMap (·.a)) = l2.map (rwMap (·.a))) w e w' := by
  unfold maxLen at hn hn2
  have HL := Lib.hid hS.1
  have HL2 := Lib.hid hS2.1
  have HS := Lib.hid hS
  have HS2 := Lib.hid hS2
  have HT := Lib.hid ht
  have HT2 := Lib.hid ht2
  have hm : n ≤ 9223372036854775807 := by omega
  have hm2 : n2 ≤ 9223372036854775807 := by omega
  clear hS hS2 hn hn2 ht ht2
  by_cases hne : n = n2
  · subst hne
    have zz : ((n : Int) != (n : Int)) = false := by simp
    go_enter Tryz.func25, Tryz.ntmps25
    go_wp2
    go_loopw [5] (fun iv wr => ∃ k : Nat, k ≤ n ∧ iv = .int .i64 (k : Int) ∧ Hid (Below w.heap.size w wr)) (fun iv _ => n - (intOf iv).toNat)
    case atStart => exact ⟨0, Nat.zero_le _, rfl, Lib.hid (Below.refl _ _)⟩
    case round =>
      obtain ⟨k, hk, rfl, hb⟩ := hrel
      by_cases hlt : k < n
      · have hkl : k < l.length := by have := HL.out; omega
        have hkl2 : k < l2.length := by have := HL2.out; omega
        obtain ⟨b, off, rfl, hbl, hit⟩ := (HS.out.below hb.out).at_ hlt hkl
        obtain ⟨b2, off2, rfl, hbl2, hit2⟩ := (HS2.out.below hb.out).at_ hlt hkl2
        have hx3 := HT.out l[k] (List.getElem_mem hkl)
        have hy3 := HT2.out l2[k] (List.getElem_mem hkl2)
        have heq : l.map (rwMap (·.a)) = l2.map (rwMap (·.a)) → rwMap (fun v : SvW => v.a) l[k] = rwMap (fun v : SvW => v.a) l2[k] := fun e => by
          have h1 : (l.map (rwMap (fun v : SvW => v.a)))[k]'(by simpa using hkl) = (l2.map (rwMap (fun v : SvW => v.a)))[k]'(by simpa using hkl2) := by simp only [e]
          simpa using h1
        obtain ⟨x, hx⟩ : ∃ x, l[k] = x := ⟨_, rfl⟩
        obtain ⟨y, hy⟩ : ∃ y, l2[k] = y := ⟨_, rfl⟩
        rw [hx] at hit heq hx3
        rw [hy] at hit2 heq hy3
        obtain ⟨c0, c1, c2, c3, c4, c5, c6⟩ := sv_cells hit
        obtain ⟨d0, d1, d2, d3, d4, d5, d6⟩ := sv_cells hit2
        have q1 : (k : Int) < (n : Int) := by omega
        have q0 : (0 : Int) ≤ (k : Int) := by omega
        replace hx3 : Tx wr x.val.A x.val.n x.val.c x.val.a.tags ∧ x.val.n ≤ 1000 := ⟨hx3.1.below hb.out, hx3.2⟩
        replace hy3 : Tx wr y.val.A y.val.n y.val.c y.val.a.tags ∧ y.val.n ≤ 1000 := ⟨hy3.1.below hb.out, hy3.2⟩
        clear hx hy hit hit2
        go_wp2_with fail
        go_region
        · have k1 := heap_alloc_new wr (.cells #[.int .i64 x.val.a.node, .string x.val.a.id, .string x.val.a.name, .slice x.val.A x.val.n x.val.c, .int .i64 x.val.a.port, .int .u64 (x.made : Int), .int .u64 (x.ix : Int)] TSv)
          have b1 := below1 wr #[.int .i64 x.val.a.node, .string x.val.a.id, .string x.val.a.name, .slice x.val.A x.val.n x.val.c, .int .i64 x.val.a.port, .int .u64 (x.made : Int), .int .u64 (x.ix : Int)] TSv
          have s1 : (wr.alloc (.cells #[.int .i64 x.val.a.node, .string x.val.a.id, .string x.val.a.name, .slice x.val.A x.val.n x.val.c, .int .i64 x.val.a.port, .int .u64 (x.made : Int), .int .u64 (x.ix : Int)] TSv)).heap.size = wr.heap.size + 1 := by simp
          have k2 := heap_alloc_new (wr.alloc (.cells #[.int .i64 x.val.a.node, .string x.val.a.id, .string x.val.a.name, .slice x.val.A x.val.n x.val.c, .int .i64 x.val.a.port, .int .u64 (x.made : Int), .int .u64 (x.ix : Int)] TSv)) (.cells #[.int .i64 y.val.a.node, .string y.val.a.id, .string y.val.a.name, .slice y.val.A y.val.n y.val.c, .int .i64 y.val.a.port, .int .u64 (y.made : Int), .int .u64 (y.ix : Int)] TSv)
          have b2 := below1 (wr.alloc (.cells #[.int .i64 x.val.a.node, .string x.val.a.id, .string x.val.a.name, .slice x.val.A x.val.n x.val.c, .int .i64 x.val.a.port, .int .u64 (x.made : Int), .int .u64 (x.ix : Int)] TSv)) #[.int .i64 y.val.a.node, .string y.val.a.id, .string y.val.a.name, .slice y.val.A y.val.n y.val.c, .int .i64 y.val.a.port, .int .u64 (y.made : Int), .int .u64 (y.ix : Int)] TSv
          have k1' := (b2.block wr.heap.size (by rw [s1]; omega)).trans k1
          rw [s1] at k2
          obtain ⟨W6, hW6⟩ : ∃ W, ((wr.alloc (.cells #[.int .i64 x.val.a.node, .string x.val.a.id, .string x.val.a.name, .slice x.val.A x.val.n x.val.c, .int .i64 x.val.a.port, .int .u64 (x.made : Int), .int .u64 (x.ix : Int)] TSv)).alloc (.cells #[.int .i64 y.val.a.node, .string y.val.a.id, .string y.val.a.name, .slice y.val.A y.val.n y.val.c, .int .i64 y.val.a.port, .int .u64 (y.made : Int), .int .u64 (y.ix : Int)] TSv)).drew = W := ⟨_, rfl⟩
          have f6 : W6.heap = ((wr.alloc (.cells #[.int .i64 x.val.a.node, .string x.val.a.id, .string x.val.a.name, .slice x.val.A x.val.n x.val.c, .int .i64 x.val.a.port, .int .u64 (x.made : Int), .int .u64 (x.ix : Int)] TSv)).alloc (.cells #[.int .i64 y.val.a.node, .string y.val.a.id, .string y.val.a.name, .slice y.val.A y.val.n y.val.c, .int .i64 y.val.a.port, .int .u64 (y.made : Int), .int .u64 (y.ix : Int)] TSv)).heap := by rw [← hW6]; rfl
          rw [← f6] at k1' k2
          have HB6 : Hid (Below w.heap.size w W6) := Lib.hid (by rw [← hW6]; exact below_draws (hb.out.trans ((b1.trans (b2.mono b1.size)).mono hb.out.size)) 1)
          have hb61 : Below wr.heap.size wr W6 := by rw [← hW6]; exact below_draws (b1.trans (b2.mono b1.size)) 1
          obtain ⟨g0, g1, g2, g3, g4, g5, g6⟩ := sv_blk k1'
          obtain ⟨f0, f1, f2, f3, f4, f5, f6'⟩ := sv_blk k2
          have HSm := Lib.hid (rsame_any x.val.A y.val.A x.val.n x.val.c y.val.n y.val.c x.val.a.tags y.val.a.tags W6 (hx3.1.below hb61).rs (hy3.1.below hb61).rs hx3.2 (Nat.le_trans hy3.1.le hy3.1.max))
          have HK1 := Lib.hid k1'
          have HK2 := Lib.hid k2
          rw [hW6]
          clear k1 b1 s1 k2 b2 k1' hW6 f6 hb61 hx3 hy3 c0 c1 c2 c3 c4 c5 c6 d0 d1 d2 d3 d4 d5 d6 q1 q0
          by_cases q0 : x.val.a.node = y.val.a.node
          rotate_left
          · have q : (x.val.a.node == y.val.a.node) = false := beq_eq_false_iff_ne.2 q0
            have q9 : (x.val.a.node != y.val.a.node) = true := by rw [bne, q]; rfl
            have HN : Hid (¬ (l.map (rwMap (fun v : SvW => v.a)) = l2.map (rwMap (fun v : SvW => v.a)))) := Lib.hid (fun e => by have h9 := congrArg (fun r : Rw SvA => r.val.node) (heq e); exact q0 h9)
            clear q0 heq
            go_wp2
            go_ret
            exact ⟨false, rfl, fun h => absurd h HN.out, HB6.out⟩
          have qn : (x.val.a.node == y.val.a.node) = true := beq_iff_eq.2 q0
          have qn9 : (x.val.a.node != y.val.a.node) = false := by rw [bne, qn]; rfl
          clear q0
          cases z1 : (x.val.a.id.toList == y.val.a.id.toList) with
          | false =>
            have HN : Hid (¬ (l.map (rwMap (fun v : SvW => v.a)) = l2.map (rwMap (fun v : SvW => v.a)))) := Lib.hid (fun e => by have h9 := congrArg (fun r : Rw SvA => r.val.id) (heq e); exact text_other.1 z1 h9)
            clear heq
            go_wp2
            go_ret
            exact ⟨false, rfl, fun h => absurd h HN.out, HB6.out⟩
          | true =>
            cases z2 : (x.val.a.name.toList == y.val.a.name.toList) with
            | false =>
              have HN : Hid (¬ (l.map (rwMap (fun v : SvW => v.a)) = l2.map (rwMap (fun v : SvW => v.a)))) := Lib.hid (fun e => by have h9 := congrArg (fun r : Rw SvA => r.val.name) (heq e); exact text_other.1 z2 h9)
              clear heq
              go_wp2
              go_ret
              exact ⟨false, rfl, fun h => absurd h HN.out, HB6.out⟩
            | true =>
              go_wp2_with fail
              refine HSm.out.mono ?_
              rintro e W7 ⟨bs, rfl, hbs, hb7⟩
              have HB7 := Lib.hid (HB6.out.trans (hb7.mono HB6.out.size))
              obtain ⟨g0, g1, g2, g3, g4, g5, g6⟩ := sv_blk ((hb7.block _ (block_lt HK1.out)).trans HK1.out)
              obtain ⟨f0, f1, f2, f3, f4, f5, f6'⟩ := sv_blk ((hb7.block _ (block_lt HK2.out)).trans HK2.out)
              have HBs := Lib.hid hbs
              clear hb7 hbs HSm qn qn9 z1 z2
              cases bs with
              | false =>
                have HN : Hid (¬ (l.map (rwMap (fun v : SvW => v.a)) = l2.map (rwMap (fun v : SvW => v.a)))) := Lib.hid (fun e => by have h9 := congrArg (fun r : Rw SvA => r.val.tags) (heq e); have := HBs.out h9; cases this)
                clear heq
                go_wp2
                go_ret
                exact ⟨false, rfl, fun h => absurd h HN.out, HB7.out⟩
              | true =>
                by_cases q4 : x.val.a.port = y.val.a.port
                rotate_left
                · have q : (x.val.a.port == y.val.a.port) = false := beq_eq_false_iff_ne.2 q4
                  have q9 : (x.val.a.port != y.val.a.port) = true := by rw [bne, q]; rfl
                  have HN : Hid (¬ (l.map (rwMap (fun v : SvW => v.a)) = l2.map (rwMap (fun v : SvW => v.a)))) := Lib.hid (fun e => by have h9 := congrArg (fun r : Rw SvA => r.val.port) (heq e); exact q4 h9)
                  clear q4 heq
                  go_wp2
                  go_ret
                  exact ⟨false, rfl, fun h => absurd h HN.out, HB7.out⟩
                have q : (x.val.a.port == y.val.a.port) = true := beq_iff_eq.2 q4
                have q9 : (x.val.a.port != y.val.a.port) = false := by rw [bne, q]; rfl
                clear q4
                by_cases q5 : x.made = y.made
                rotate_left
                · have q51 : ((x.made : Int) == (y.made : Int)) = false := beq_eq_false_iff_ne.2 (by omega)
                  have q59 : ((x.made : Int) != (y.made : Int)) = true := by rw [bne, q51]; rfl
                  have q5i : ¬ (x.made : Int) = (y.made : Int) := by omega
                  have HN : Hid (¬ (l.map (rwMap (fun v : SvW => v.a)) = l2.map (rwMap (fun v : SvW => v.a)))) := Lib.hid (fun e => by have h9 := congrArg (fun r : Rw SvA => r.made) (heq e); exact q5 h9)
                  clear heq
                  go_wp2
                  go_ret
                  exact ⟨false, rfl, fun h => absurd h HN.out, HB7.out⟩
                have q51 : ((x.made : Int) == (y.made : Int)) = true := beq_iff_eq.2 (by omega)
                have q59 : ((x.made : Int) != (y.made : Int)) = false := by rw [bne, q51]; rfl
                by_cases q6 : x.ix = y.ix
                rotate_left
                · have q61 : ((x.ix : Int) == (y.ix : Int)) = false := beq_eq_false_iff_ne.2 (by omega)
                  have q69 : ((x.ix : Int) != (y.ix : Int)) = true := by rw [bne, q61]; rfl
                  have q6i : ¬ (x.ix : Int) = (y.ix : Int) := by omega
                  have HN : Hid (¬ (l.map (rwMap (fun v : SvW => v.a)) = l2.map (rwMap (fun v : SvW => v.a)))) := Lib.hid (fun e => by have h9 := congrArg (fun r : Rw SvA => r.ix) (heq e); exact q6 h9)
                  clear heq
                  go_wp2
                  go_ret
                  exact ⟨false, rfl, fun h => absurd h HN.out, HB7.out⟩
                have q61 : ((x.ix : Int) == (y.ix : Int)) = true := beq_iff_eq.2 (by omega)
                have q69 : ((x.ix : Int) != (y.ix : Int)) = false := by rw [bne, q61]; rfl
                clear heq
                go_wp2
                go_roundw
                case rel => exact ⟨k + 1, by omega, by go_num, HB7⟩
                case measure => simp [intOf]; omega
        · have k1 := heap_alloc_new wr (.cells #[.int .i64 y.val.a.node, .string y.val.a.id, .string y.val.a.name, .slice y.val.A y.val.n y.val.c, .int .i64 y.val.a.port, .int .u64 (y.made : Int), .int .u64 (y.ix : Int)] TSv)
          have b1 := below1 wr #[.int .i64 y.val.a.node, .string y.val.a.id, .string y.val.a.name, .slice y.val.A y.val.n y.val.c, .int .i64 y.val.a.port, .int .u64 (y.made : Int), .int .u64 (y.ix : Int)] TSv
          have s1 : (wr.alloc (.cells #[.int .i64 y.val.a.node, .string y.val.a.id, .string y.val.a.name, .slice y.val.A y.val.n y.val.c, .int .i64 y.val.a.port, .int .u64 (y.made : Int), .int .u64 (y.ix : Int)] TSv)).heap.size = wr.heap.size + 1 := by simp
          have k2 := heap_alloc_new (wr.alloc (.cells #[.int .i64 y.val.a.node, .string y.val.a.id, .string y.val.a.name, .slice y.val.A y.val.n y.val.c, .int .i64 y.val.a.port, .int .u64 (y.made : Int), .int .u64 (y.ix : Int)] TSv)) (.cells #[.int .i64 x.val.a.node, .string x.val.a.id, .string x.val.a.name, .slice x.val.A x.val.n x.val.c, .int .i64 x.val.a.port, .int .u64 (x.made : Int), .int .u64 (x.ix : Int)] TSv)
          have b2 := below1 (wr.alloc (.cells #[.int .i64 y.val.a.node, .string y.val.a.id, .string y.val.a.name, .slice y.val.A y.val.n y.val.c, .int .i64 y.val.a.port, .int .u64 (y.made : Int), .int .u64 (y.ix : Int)] TSv)) #[.int .i64 x.val.a.node, .string x.val.a.id, .string x.val.a.name, .slice x.val.A x.val.n x.val.c, .int .i64 x.val.a.port, .int .u64 (x.made : Int), .int .u64 (x.ix : Int)] TSv
          have k1' := (b2.block wr.heap.size (by rw [s1]; omega)).trans k1
          rw [s1] at k2
          obtain ⟨W6, hW6⟩ : ∃ W, ((wr.alloc (.cells #[.int .i64 y.val.a.node, .string y.val.a.id, .string y.val.a.name, .slice y.val.A y.val.n y.val.c, .int .i64 y.val.a.port, .int .u64 (y.made : Int), .int .u64 (y.ix : Int)] TSv)).alloc (.cells #[.int .i64 x.val.a.node, .string x.val.a.id, .string x.val.a.name, .slice x.val.A x.val.n x.val.c, .int .i64 x.val.a.port, .int .u64 (x.made : Int), .int .u64 (x.ix : Int)] TSv)).drew = W := ⟨_, rfl⟩
          have f6 : W6.heap = ((wr.alloc (.cells #[.int .i64 y.val.a.node, .string y.val.a.id, .string y.val.a.name, .slice y.val.A y.val.n y.val.c, .int .i64 y.val.a.port, .int .u64 (y.made : Int), .int .u64 (y.ix : Int)] TSv)).alloc (.cells #[.int .i64 x.val.a.node, .string x.val.a.id, .string x.val.a.name, .slice x.val.A x.val.n x.val.c, .int .i64 x.val.a.port, .int .u64 (x.made : Int), .int .u64 (x.ix : Int)] TSv)).heap := by rw [← hW6]; rfl
          rw [← f6] at k1' k2
          have HB6 : Hid (Below w.heap.size w W6) := Lib.hid (by rw [← hW6]; exact below_draws (hb.out.trans ((b1.trans (b2.mono b1.size)).mono hb.out.size)) 1)
          have hb61 : Below wr.heap.size wr W6 := by rw [← hW6]; exact below_draws (b1.trans (b2.mono b1.size)) 1
          obtain ⟨g0, g1, g2, g3, g4, g5, g6⟩ := sv_blk k2
          obtain ⟨f0, f1, f2, f3, f4, f5, f6'⟩ := sv_blk k1'
          have HSm := Lib.hid (rsame_any x.val.A y.val.A x.val.n x.val.c y.val.n y.val.c x.val.a.tags y.val.a.tags W6 (hx3.1.below hb61).rs (hy3.1.below hb61).rs hx3.2 (Nat.le_trans hy3.1.le hy3.1.max))
          have HK1 := Lib.hid k2
          have HK2 := Lib.hid k1'
          rw [hW6]
          clear k1 b1 s1 k2 b2 k1' hW6 f6 hb61 hx3 hy3 c0 c1 c2 c3 c4 c5 c6 d0 d1 d2 d3 d4 d5 d6 q1 q0
          by_cases q0 : x.val.a.node = y.val.a.node
          rotate_left
          · have q : (x.val.a.node == y.val.a.node) = false := beq_eq_false_iff_ne.2 q0
            have q9 : (x.val.a.node != y.val.a.node) = true := by rw [bne, q]; rfl
            have HN : Hid (¬ (l.map (rwMap (fun v : SvW => v.a)) = l2.map (rwMap (fun v : SvW => v.a)))) := Lib.hid (fun e => by have h9 := congrArg (fun r : Rw SvA => r.val.node) (heq e); exact q0 h9)
            clear q0 heq
            go_wp2
            go_ret
            exact ⟨false, rfl, fun h => absurd h HN.out, HB6.out⟩
          have qn : (x.val.a.node == y.val.a.node) = true := beq_iff_eq.2 q0
          have qn9 : (x.val.a.node != y.val.a.node) = false := by rw [bne, qn]; rfl
          clear q0
          cases z1 : (x.val.a.id.toList == y.val.a.id.toList) with
          | false =>
            have HN : Hid (¬ (l.map (rwMap (fun v : SvW => v.a)) = l2.map (rwMap (fun v : SvW => v.a)))) := Lib.hid (fun e => by have h9 := congrArg (fun r : Rw SvA => r.val.id) (heq e); exact text_other.1 z1 h9)
            clear heq
            go_wp2
            go_ret
            exact ⟨false, rfl, fun h => absurd h HN.out, HB6.out⟩
          | true =>
            cases z2 : (x.val.a.name.toList == y.val.a.name.toList) with
            | false =>
              have HN : Hid (¬ (l.map (rwMap (fun v : SvW => v.a)) = l2.map (rwMap (fun v : SvW => v.a)))) := Lib.hid (fun e => by have h9 := congrArg (fun r : Rw SvA => r.val.name) (heq e); exact text_other.1 z2 h9)
              clear heq
              go_wp2
              go_ret
              exact ⟨false, rfl, fun h => absurd h HN.out, HB6.out⟩
            | true =>
              go_wp2_with fail
              refine HSm.out.mono ?_
              rintro e W7 ⟨bs, rfl, hbs, hb7⟩
              have HB7 := Lib.hid (HB6.out.trans (hb7.mono HB6.out.size))
              obtain ⟨g0, g1, g2, g3, g4, g5, g6⟩ := sv_blk ((hb7.block _ (block_lt HK1.out)).trans HK1.out)
              obtain ⟨f0, f1, f2, f3, f4, f5, f6'⟩ := sv_blk ((hb7.block _ (block_lt HK2.out)).trans HK2.out)
              have HBs := Lib.hid hbs
              clear hb7 hbs HSm qn qn9 z1 z2
              cases bs with
              | false =>
                have HN : Hid (¬ (l.map (rwMap (fun v : SvW => v.a)) = l2.map (rwMap (fun v : SvW => v.a)))) := Lib.hid (fun e => by have h9 := congrArg (fun r : Rw SvA => r.val.tags) (heq e); have := HBs.out h9; cases this)
                clear heq
                go_wp2
                go_ret
                exact ⟨false, rfl, fun h => absurd h HN.out, HB7.out⟩
              | true =>
                by_cases q4 : x.val.a.port = y.val.a.port
                rotate_left
                · have q : (x.val.a.port == y.val.a.port) = false := beq_eq_false_iff_ne.2 q4
                  have q9 : (x.val.a.port != y.val.a.port) = true := by rw [bne, q]; rfl
                  have HN : Hid (¬ (l.map (rwMap (fun v : SvW => v.a)) = l2.map (rwMap (fun v : SvW => v.a)))) := Lib.hid (fun e => by have h9 := congrArg (fun r : Rw SvA => r.val.port) (heq e); exact q4 h9)
                  clear q4 heq
                  go_wp2
                  go_ret
                  exact ⟨false, rfl, fun h => absurd h HN.out, HB7.out⟩
                have q : (x.val.a.port == y.val.a.port) = true := beq_iff_eq.2 q4
                have q9 : (x.val.a.port != y.val.a.port) = false := by rw [bne, q]; rfl
                clear q4
                by_cases q5 : x.made = y.made
                rotate_left
                · have q51 : ((x.made : Int) == (y.made : Int)) = false := beq_eq_false_iff_ne.2 (by omega)
                  have q59 : ((x.made : Int) != (y.made : Int)) = true := by rw [bne, q51]; rfl
                  have q5i : ¬ (x.made : Int) = (y.made : Int) := by omega
                  have HN : Hid (¬ (l.map (rwMap (fun v : SvW => v.a)) = l2.map (rwMap (fun v : SvW => v.a)))) := Lib.hid (fun e => by have h9 := congrArg (fun r : Rw SvA => r.made) (heq e); exact q5 h9)
                  clear heq
                  go_wp2
                  go_ret
                  exact ⟨false, rfl, fun h => absurd h HN.out, HB7.out⟩
                have q51 : ((x.made : Int) == (y.made : Int)) = true := beq_iff_eq.2 (by omega)
                have q59 : ((x.made : Int) != (y.made : Int)) = false := by rw [bne, q51]; rfl
                by_cases q6 : x.ix = y.ix
                rotate_left
                · have q61 : ((x.ix : Int) == (y.ix : Int)) = false := beq_eq_false_iff_ne.2 (by omega)
                  have q69 : ((x.ix : Int) != (y.ix : Int)) = true := by rw [bne, q61]; rfl
                  have q6i : ¬ (x.ix : Int) = (y.ix : Int) := by omega
                  have HN : Hid (¬ (l.map (rwMap (fun v : SvW => v.a)) = l2.map (rwMap (fun v : SvW => v.a)))) := Lib.hid (fun e => by have h9 := congrArg (fun r : Rw SvA => r.ix) (heq e); exact q6 h9)
                  clear heq
                  go_wp2
                  go_ret
                  exact ⟨false, rfl, fun h => absurd h HN.out, HB7.out⟩
                have q61 : ((x.ix : Int) == (y.ix : Int)) = true := beq_iff_eq.2 (by omega)
                have q69 : ((x.ix : Int) != (y.ix : Int)) = false := by rw [bne, q61]; rfl
                clear heq
                go_wp2
                go_roundw
                case rel => exact ⟨k + 1, by omega, by go_num, HB7⟩
                case measure => simp [intOf]; omega
      · go_wp2
        go_ret
        exact ⟨true, rfl, fun _ => rfl, hb.out⟩
  · have HN : Hid (l.map (rwMap (fun v : SvW => v.a)) ≠ l2.map (rwMap (fun v : SvW => v.a))) := Lib.hid fun e => hne (by have := congrArg List.length e; simp only [List.length_map] at this; rw [← HL.out, ← HL2.out, this])
    have zz : ((n : Int) != (n2 : Int)) = true := by rw [bne_iff_ne]; omega
    go_enter Tryz.func25, Tryz.ntmps25
    go_wp2
    go_ret
    exact ⟨false, rfl, fun h => absurd h HN.out, Below.refl _ _⟩
end Go.Proofs.YtilkbfmaofmjoaaGreatDoor
namespace Go.Proofs.YtilkbfmaofmjoaaGreatDoor
open Go.RowKit
set_option linter.unusedSimpArgs false
set_option linter.unusedVariables false
theorem rdnew_any (m : Int) (w : World) (base : Nat) (hm : -9223372036854775808 ≤ m ∧ m ≤ 9223372036854775807) (hbase : base ≤ w.heap.size) : Calls Tryz.prog 10 #[.int .i64 m] w fun e w' => e = .returned (.pointer (some ⟨w.heap.size, 0, none⟩)) ∧ RdAt base (· = w.heap.size) w' w.heap.size (mostT m) (Ro.new (mostT m)) ∧ Below w.heap.size w w' := by
  have fin : ∀ (k : Int), k = (mostT m : Int) → ∀ (e : Ending), e = .returned (.pointer (some ⟨w.heap.size, 0, none⟩)) → e = .returned (.pointer (some ⟨w.heap.size, 0, none⟩)) ∧ RdAt base (· = w.heap.size) (w.alloc (.cells #[.int .i64 k, .slice none 0 0, .slice none 0 0, .slice none 0 0, .int .u64 0, .int .u64 0, .int .u64 0] TRd)) w.heap.size (mostT m) (Ro.new (mostT m)) ∧ Below w.heap.size w (w.alloc (.cells #[.int .i64 k, .slice none 0 0, .slice none 0 0, .slice none 0 0, .int .u64 0, .int .u64 0, .int .u64 0] TRd)) := fun k hk e he => by
    subst hk
    exact ⟨he, ⟨RoOk.new m, none, none, none, 0, 0, 0, [], rfl, fun k e => by rw [e]; exact hbase, by simp; omega, heap_alloc_new w _, RwD.nil, RwD.nil, RwD.nil, rfl, by simp⟩, below1 _ _ _⟩
  have hm1 := hm.1
  have hm2 := hm.2
  have FIN := Lib.hid fin
  clear fin hm
  by_cases h1 : m < 1
  · have hM : Hid ((1 : Int) = (mostT m : Int)) := Lib.hid (by unfold mostT; rw [if_pos h1]; rfl)
    go_enter Tryz.func10, Tryz.ntmps10
    go_wp2
    go_ret
    exact FIN.out 1 hM.out _ rfl
  · by_cases h2 : 64 < m
    · have hM : Hid ((64 : Int) = (mostT m : Int)) := Lib.hid (by unfold mostT; rw [if_neg h1, if_pos h2]; rfl)
      go_enter Tryz.func10, Tryz.ntmps10
      go_wp2
      go_ret
      exact FIN.out 64 hM.out _ rfl
    · have hM : Hid (m = (mostT m : Int)) := Lib.hid (by unfold mostT; rw [if_neg h1, if_neg h2]; omega)
      have h3 : 1 ≤ m := by omega
      have h4 : m ≤ 64 := by omega
      go_enter Tryz.func10, Tryz.ntmps10
      go_wp2
      go_ret
      exact FIN.out m hM.out _ rfl
section
variable {base : Nat} {S : Nat → Prop} {w : World} {B : Nat} {A1 A2 A3 : Option Addr} {c1 c2 c3 m : Nat} {l2 : List (Rw SvW)} {d : Ro}
theorem rdraise1_any (i : Nat) (h : RdIs base S w B A1 A2 A3 c1 c2 c3 m l2 d) : Calls Tryz.prog 80 #[.pointer (some ⟨B, 0, none⟩), .int .i64 0, .int .u64 (i : Int)] w fun e w' => e = .returned (.tuple #[]) ∧ RdIs base S w' B A1 A2 A3 c1 c2 c3 m l2 { d with n := d.n.raise i } ∧ But (· = B) w w' := by
  have hc := h.cells
  have z := h.froz 4
  have HH := Lib.hid (fun n (e : d.n.raise i = { d.n with last := n }) => (⟨by rw [e]; exact h.last1 n, But.set (S := (· = B)) w (p := ⟨B, 4, none⟩) rfl _⟩ : RdIs base S (w.setCell ⟨B, 4, none⟩ (.int .u64 (n : Int))) B A1 A2 A3 c1 c2 c3 m l2 { d with n := d.n.raise i } ∧ But (· = B) w (w.setCell ⟨B, 4, none⟩ (.int .u64 (n : Int)))))
  have HS := Lib.hid (fun (e : d.n.raise i = d.n) => (by rw [e]; exact h : RdIs base S w B A1 A2 A3 c1 c2 c3 m l2 { d with n := d.n.raise i }))
  have hl := h.lt
  clear h
  by_cases h1 : d.n.last < i
  · have q : (d.n.last : Int) < (i : Int) := by omega
    have e := Lib.hid (raise_max h1)
    go_enter Tryz.func80, Tryz.ntmps80
    go_wp2
    exact bodyPost_end (results_none rfl _ _ _) rfl ⟨rfl, HH.out i e.out⟩
  · have q : ¬ (d.n.last : Int) < (i : Int) := by omega
    have e := Lib.hid (raise_same h1)
    go_enter Tryz.func80, Tryz.ntmps80
    go_wp2
    exact bodyPost_end (results_none rfl _ _ _) rfl ⟨rfl, HS.out e.out, But.refl _ _⟩
theorem rdraise2_any (i : Nat) (h : RdIs base S w B A1 A2 A3 c1 c2 c3 m l2 d) : Calls Tryz.prog 80 #[.pointer (some ⟨B, 0, none⟩), .int .i64 1, .int .u64 (i : Int)] w fun e w' => e = .returned (.tuple #[]) ∧ RdIs base S w' B A1 A2 A3 c1 c2 c3 m l2 { d with s := d.s.raise i } ∧ But (· = B) w w' := by
  have hc := h.cells
  have z := h.froz 5
  have HH := Lib.hid (fun n (e : d.s.raise i = { d.s with last := n }) => (⟨by rw [e]; exact h.last2 n, But.set (S := (· = B)) w (p := ⟨B, 5, none⟩) rfl _⟩ : RdIs base S (w.setCell ⟨B, 5, none⟩ (.int .u64 (n : Int))) B A1 A2 A3 c1 c2 c3 m l2 { d with s := d.s.raise i } ∧ But (· = B) w (w.setCell ⟨B, 5, none⟩ (.int .u64 (n : Int)))))
  have HS := Lib.hid (fun (e : d.s.raise i = d.s) => (by rw [e]; exact h : RdIs base S w B A1 A2 A3 c1 c2 c3 m l2 { d with s := d.s.raise i }))
  have hl := h.lt
  clear h
  by_cases h1 : d.s.last < i
  · have q : (d.s.last : Int) < (i : Int) := by omega
    have e := Lib.hid (raise_max h1)
    go_enter Tryz.func80, Tryz.ntmps80
    go_wp2
    exact bodyPost_end (results_none rfl _ _ _) rfl ⟨rfl, HH.out i e.out⟩
  · have q : ¬ (d.s.last : Int) < (i : Int) := by omega
    have e := Lib.hid (raise_same h1)
    go_enter Tryz.func80, Tryz.ntmps80
    go_wp2
    exact bodyPost_end (results_none rfl _ _ _) rfl ⟨rfl, HS.out e.out, But.refl _ _⟩
theorem rdraise3_any (i : Nat) (h : RdIs base S w B A1 A2 A3 c1 c2 c3 m l2 d) : Calls Tryz.prog 80 #[.pointer (some ⟨B, 0, none⟩), .int .i64 2, .int .u64 (i : Int)] w fun e w' => e = .returned (.tuple #[]) ∧ RdIs base S w' B A1 A2 A3 c1 c2 c3 m l2 { d with c := d.c.raise i } ∧ But (· = B) w w' := by
  have hc := h.cells
  have z := h.froz 6
  have HH := Lib.hid (fun n (e : d.c.raise i = { d.c with last := n }) => (⟨by rw [e]; exact h.last3 n, But.set (S := (· = B)) w (p := ⟨B, 6, none⟩) rfl _⟩ : RdIs base S (w.setCell ⟨B, 6, none⟩ (.int .u64 (n : Int))) B A1 A2 A3 c1 c2 c3 m l2 { d with c := d.c.raise i } ∧ But (· = B) w (w.setCell ⟨B, 6, none⟩ (.int .u64 (n : Int)))))
  have HS := Lib.hid (fun (e : d.c.raise i = d.c) => (by rw [e]; exact h : RdIs base S w B A1 A2 A3 c1 c2 c3 m l2 { d with c := d.c.raise i }))
  have hl := h.lt
  clear h
  by_cases h1 : d.c.last < i
  · have q : (d.c.last : Int) < (i : Int) := by omega
    have e := Lib.hid (raise_max h1)
    go_enter Tryz.func80, Tryz.ntmps80
    go_wp2
    exact bodyPost_end (results_none rfl _ _ _) rfl ⟨rfl, HH.out i e.out⟩
  · have q : ¬ (d.c.last : Int) < (i : Int) := by omega
    have e := Lib.hid (raise_same h1)
    go_enter Tryz.func80, Tryz.ntmps80
    go_wp2
    exact bodyPost_end (results_none rfl _ _ _) rfl ⟨rfl, HS.out e.out, But.refl _ _⟩
theorem RoOk.there_iff (h : RoOk m d) (node : Int) : d.there node = d.n.l.any fun r => decide (r.val.node = node) := by
  unfold Ro.there
  rw [Bool.eq_iff_iff, getR_iff, List.any_eq_true]
  constructor
  · rintro ⟨r, hr, e⟩
    obtain ⟨a, b⟩ := h.nr r hr
    exact ⟨r, hr, decide_eq_true (keyO_inj b.node (a.symm.trans e)).1⟩
  · rintro ⟨r, hr, e⟩
    obtain ⟨a, b⟩ := h.nr r hr
    refine ⟨r, hr, ?_⟩
    rw [a]
    unfold NdA.key
    rw [of_decide_eq_true e]
theorem RoOk.has_iff (h : RoOk m d) (node : Int) (id : ByteArray) : d.has node id = d.s.l.any fun r => decide (r.val.node = node) && (r.val.id.toList == id.toList) := by
  unfold Ro.has
  rw [Bool.eq_iff_iff, getR_iff, List.any_eq_true]
  constructor
  · rintro ⟨r, hr, e⟩
    obtain ⟨a, b, _⟩ := h.sr r hr
    obtain ⟨h1, h2⟩ := keyO_inj b.node (a.symm.trans e)
    exact ⟨r, hr, by rw [decide_eq_true h1, text_same.2 h2]; rfl⟩
  · rintro ⟨r, hr, e⟩
    obtain ⟨a, b, _⟩ := h.sr r hr
    rw [Bool.and_eq_true, decide_eq_true_eq, text_same] at e
    refine ⟨r, hr, ?_⟩
    rw [a]
    unfold SvA.key
    rw [e.1, e.2]
set_option maxHeartbeats 2000000 in
theorem rdthere_any (node : Int) (hok : RoOk m d) (h : RdIs base S w B A1 A2 A3 c1 c2 c3 m l2 d) : Calls Tryz.prog 79 #[.pointer (some ⟨B, 0, none⟩), .int .i64 node] w fun e w' => e = .returned (.bool (d.there node)) ∧ w = w' := by
  have hc := h.cells.2.1
  have HT := Lib.hid (hok.there_iff node)
  have HR := Lib.hid h.r1.row
  have h64 : d.n.l.length ≤ 64 := Nat.le_trans hok.nok.len hok.nok.most.2
  obtain ⟨L, hL⟩ : ∃ L, d.n.l.length = L := ⟨_, rfl⟩
  rw [hL] at hc HR h64
  have HL := Lib.hid hL
  clear h hok hL
  go_enter Tryz.func79, Tryz.ntmps79
  go_wp2
  go_loop [5] (fun i => ∃ k : Nat, k ≤ L ∧ i = .int .i64 (k : Int) ∧ Hid (∀ r ∈ d.n.l.take k, r.val.node ≠ node)) (fun i => L - (intOf i).toNat)
  case atStart => exact ⟨0, Nat.zero_le _, rfl, Lib.hid (by simp)⟩
  case round =>
    obtain ⟨k, hk, rfl, hn⟩ := hrel
    by_cases hlt : k < L
    · have hkl : k < d.n.l.length := by rw [HL.out]; exact hlt
      obtain ⟨b, off, rfl, hbl, hit⟩ := HR.out.at_ hlt hkl
      have hmem := List.getElem_mem hkl
      have hst : d.n.l.take (k + 1) = d.n.l.take k ++ [d.n.l[k]] := List.take_succ_eq_append_getElem hkl
      obtain ⟨x, hx⟩ : ∃ x, d.n.l[k] = x := ⟨_, rfl⟩
      rw [hx] at hit hmem hst
      have cc := nd_cells hit
      by_cases he : x.val.node = node
      · have HB : Hid (d.there node = true) := Lib.hid (by rw [HT.out, List.any_eq_true]; exact ⟨x, hmem, decide_eq_true he⟩)
        have q : (x.val.node == node) = true := beq_iff_eq.2 he
        clear hit hst hmem hx
        go_wp2
        go_ret
        rw [HB.out]
        exact ⟨rfl, rfl⟩
      · have HN : Hid (∀ r ∈ d.n.l.take (k + 1), r.val.node ≠ node) := Lib.hid (by
          rw [hst]
          intro r hr
          rcases List.mem_append.1 hr with hr | hr
          · exact hn.out r hr
          · rw [List.mem_singleton.1 hr]; exact he)
        have q : (x.val.node == node) = false := beq_eq_false_iff_ne.2 he
        clear hit hst hmem hx
        go_wp2
        go_round
        case rel => exact ⟨k + 1, by omega, by go_num, HN⟩
        case measure => simp [intOf]; omega
    · have HB : Hid (d.there node = false) := Lib.hid (by
        rw [HT.out, List.any_eq_false]
        intro r hr
        rw [List.take_of_length_le (by rw [HL.out]; omega)] at hn
        simpa using hn.out r hr)
      go_wp2
      go_ret
      rw [HB.out]
      exact ⟨rfl, rfl⟩
set_option maxHeartbeats 2000000 in
theorem rdhas_any (node : Int) (nid : ByteArray) (hok : RoOk m d) (h : RdIs base S w B A1 A2 A3 c1 c2 c3 m l2 d) : Calls Tryz.prog 84 #[.pointer (some ⟨B, 0, none⟩), .int .i64 node, .string nid] w fun e w' => e = .returned (.bool (d.has node nid)) ∧ w = w' := by
  have hc := h.cells.2.2.1
  have HT := Lib.hid (hok.has_iff node nid)
  have HR := Lib.hid h.r2.row
  have HQ := Lib.hid h.eq
  have h64 : l2.length ≤ 64 := by rw [h.len2]; exact Nat.le_trans hok.sok.len hok.sok.most.2
  obtain ⟨L, hL⟩ : ∃ L, l2.length = L := ⟨_, rfl⟩
  rw [hL] at hc HR h64
  have HL := Lib.hid hL
  clear h hok hL
  go_enter Tryz.func84, Tryz.ntmps84
  go_wp2
  go_loop [7] (fun i => ∃ k : Nat, k ≤ L ∧ i = .int .i64 (k : Int) ∧ Hid (∀ r ∈ l2.take k, ¬ (r.val.a.node = node ∧ r.val.a.id = nid))) (fun i => L - (intOf i).toNat)
  case atStart => exact ⟨0, Nat.zero_le _, rfl, Lib.hid (by simp)⟩
  case round =>
    obtain ⟨k, hk, rfl, hn⟩ := hrel
    by_cases hlt : k < L
    · have hkl : k < l2.length := by rw [HL.out]; exact hlt
      obtain ⟨b, off, rfl, hbl, hit⟩ := HR.out.at_ hlt hkl
      have hmem := List.getElem_mem hkl
      have hst : l2.take (k + 1) = l2.take k ++ [l2[k]] := List.take_succ_eq_append_getElem hkl
      obtain ⟨x, hx⟩ : ∃ x, l2[k] = x := ⟨_, rfl⟩
      rw [hx] at hit hmem hst
      have cc := sv_cells hit
      by_cases he : x.val.a.node = node ∧ x.val.a.id = nid
      · have HB : Hid (d.has node nid = true) := Lib.hid (by
          rw [HT.out, ← HQ.out, List.any_eq_true]
          exact ⟨_, List.mem_map_of_mem hmem, by show (decide (x.val.a.node = node) && (x.val.a.id.toList == nid.toList)) = true; rw [decide_eq_true he.1, text_same.2 he.2]; rfl⟩)
        have q : (x.val.a.node == node) = true := beq_iff_eq.2 he.1
        have q2 : (x.val.a.id.toList == nid.toList) = true := text_same.2 he.2
        clear hit hst hmem hx he
        go_wp2
        go_ret
        rw [HB.out]
        exact ⟨rfl, rfl⟩
      · have HN : Hid (∀ r ∈ l2.take (k + 1), ¬ (r.val.a.node = node ∧ r.val.a.id = nid)) := Lib.hid (by
          rw [hst]
          intro r hr
          rcases List.mem_append.1 hr with hr | hr
          · exact hn.out r hr
          · rw [List.mem_singleton.1 hr]; exact he)
        by_cases he1 : x.val.a.node = node
        · have q : (x.val.a.node == node) = true := beq_iff_eq.2 he1
          have q2 : (x.val.a.id.toList == nid.toList) = false := text_other.2 fun e => he ⟨he1, e⟩
          clear hit hst hmem hx he he1
          go_wp2
          go_round
          case rel => exact ⟨k + 1, by omega, by go_num, HN⟩
          case measure => simp [intOf]; omega
        · have q : (x.val.a.node == node) = false := beq_eq_false_iff_ne.2 he1
          clear hit hst hmem hx he he1
          go_wp2
          go_round
          case rel => exact ⟨k + 1, by omega, by go_num, HN⟩
          case measure => simp [intOf]; omega
    · have HB : Hid (d.has node nid = false) := Lib.hid (by
        rw [HT.out, ← HQ.out, List.any_eq_false]
        intro r hr
        rw [List.take_of_length_le (by rw [HL.out]; omega)] at hn
        obtain ⟨y, hy, rfl⟩ := List.mem_map.1 hr
        have := hn.out y hy
        show ¬ (decide (y.val.a.node = node) && (y.val.a.id.toList == nid.toList)) = true
        rw [Bool.and_eq_true, decide_eq_true_eq, text_same]
        exact this)
      go_wp2
      go_ret
      rw [HB.out]
      exact ⟨rfl, rfl⟩
end
end Go.Proofs.YtilkbfmaofmjoaaGreatDoor
namespace Go.Proofs.YtilkbfmaofmjoaaGreatDoor
open Go.RowKit
set_option linter.unusedSimpArgs false
set_option linter.unusedVariables false
def offS (node : Int) (all : Bool) (nid : ByteArray) (v : SvA) : Bool := decide (v.node = node) && (all || (v.id.toList == nid.toList))
def offC (node : Int) (all : Bool) (nid : ByteArray) (v : CkA) : Bool := decide (v.node = node) && (all || (v.svc.toList == nid.toList))
theorem but_above {Y : Nat} {a b : World} (h : Below Y a b) : But (fun k => Y ≤ k) a b := ⟨h.os, h.tape, h.output, h.size, fun k _ hn => h.block k (by omega)⟩
theorem but_then_below {S : Nat → Prop} {w a b : World} {Y : Nat} (h : But S w a) (hY : w.heap.size = Y) (hb : Below Y a b) : But S w b := ⟨hb.os.trans h.os, hb.tape.trans h.tape, hb.output.trans h.output, Nat.le_trans h.size hb.size, fun k hk hn => (hb.block k (by omega)).trans (h.block k hk hn)⟩
theorem cut_is {α : Type} (t : Tb α) (p : α → Bool) (i : Nat) : t.cut p i = ⟨t.most, t.l.filter (fun r => !p r.val), if t.l.any (fun r => p r.val) then max t.last i else t.last⟩ := by
  unfold Tb.cut
  cases e : t.l.any fun r => p r.val with
  | true => simp
  | false =>
    rw [if_neg (by simp)]
    rw [List.any_eq_false] at e
    have h2 : t.l.filter (fun r => !p r.val) = t.l := by
      rw [List.filter_eq_self]
      intro r hr
      simpa using e r hr
    rw [h2]
    rfl
section
variable {base : Nat} {S : Nat → Prop} {w : World} {B : Nat} {A1 A2 A3 : Option Addr} {c1 c2 c3 m : Nat} {l2 : List (Rw SvW)} {d : Ro}
def PostDropServices (base : Nat) (S : Nat → Prop) (w : World) (B : Nat) (A1 A2 A3 : Option Addr) (c1 c2 c3 m : Nat) (l2 : List (Rw SvW)) (d : Ro) (node : Int) (all : Bool) (nid : ByteArray) (i : Nat) (e : Ending) (w' : World) : Prop := e = .returned (.tuple #[]) ∧ (∃ B2 Bc l3, RdIs base (fun k => S k ∨ w.heap.size ≤ k) w' B A1 B2 A3 c1 Bc c3 m l3 { d with s := d.s.cut (offS node all nid) i }) ∧ But (· = B) w w'
set_option maxHeartbeats 4000000 in
set_option maxRecDepth 100000 in
theorem rddropservices_any (node : Int) (all : Bool) (nid : ByteArray) (i : Nat) (h64 : l2.length ≤ 64) (h : RdIs base S w B A1 A2 A3 c1 c2 c3 m l2 d) : Calls Tryz.prog 81 #[.pointer (some ⟨B, 0, none⟩), .int .i64 node, .bool all, .string nid, .int .u64 (i : Int)] w fun e w' => PostDropServices base S w B A1 A2 A3 c1 c2 c3 m l2 d node all nid i e w' := by
  obtain ⟨Ln, hL⟩ : ∃ Ln, l2.length = Ln := ⟨_, rfl⟩
  rw [hL] at h64
  have HL := Lib.hid hL
  obtain ⟨Y, hY⟩ : ∃ Y, w.heap.size = Y := ⟨_, rfl⟩
  have HY := Lib.hid hY
  have hBY : B < Y := by rw [← hY]; exact h.lt
  have HTop : Hid (base ≤ Y) := Lib.hid (by rw [← hY]; exact h.top)
  obtain ⟨S0, hS0⟩ : ∃ S0 : Nat → Prop, S0 = fun k => S k ∧ k < Y := ⟨_, rfl⟩
  have HH : Hid (RdIs base S0 w B A1 A2 A3 c1 c2 c3 m l2 d) := Lib.hid (h.narrow (fun k hk z => by rw [hS0]; exact ⟨z, by omega⟩) (fun k z => h.lo k (by rw [hS0] at z; exact z.1)))
  have HLt : Hid (∀ k, S0 k → k < Y) := Lib.hid (fun k z => by rw [hS0] at z; exact z.2)
  have HSs : Hid (∀ k, S0 k → S k) := Lib.hid (fun k z => by rw [hS0] at z; exact z.1)
  have HLo : Hid (∀ k, S k → base ≤ k) := Lib.hid h.lo
  clear h hL hY hS0
  go_enter Tryz.func81, Tryz.ntmps81
  go_wp2
  go_loopw [10, 11] (fun vv iv wr => ∃ (k lk : Nat) (ls : List (Rw SvW)), k ≤ Ln ∧ iv = .int .i64 (k : Int) ∧ Hid (ls = (l2.take k).filter (fun r : Rw SvW => !offS node all nid r.val.a) ∧ lk = if (l2.take k).any (fun r : Rw SvW => offS node all nid r.val.a) then max d.s.last i else d.s.last) ∧ Hid (RdIs base S0 wr B A1 A2 A3 c1 c2 c3 m l2 { d with s := { d.s with last := lk } }) ∧ Hid (svRow wr Y vv ls) ∧ Hid (But (· = B) w wr)) (fun _ iv _ => Ln - (intOf iv).toNat)
  case atStart => exact ⟨0, d.s.last, [], Nat.zero_le _, rfl, Lib.hid ⟨rfl, rfl⟩, HH, Lib.hid (rowK.nil _ _), Lib.hid (But.refl _ _)⟩
  case round =>
    obtain ⟨k, lk, ls, hk, rfl, hls, hd, hrow, hb⟩ := hrel
    have hszw := hb.out.size
    have hYw : Y ≤ wr.heap.size := by have := HY.out; omega
    by_cases hlt : k < Ln
    · have hkl : k < l2.length := by rw [HL.out]; exact hlt
      have hcc := hd.out.cells
      obtain ⟨b, off, eA, hbl, hit⟩ := hd.out.r2.row.at_ hkl hkl
      have hst : l2.take (k + 1) = l2.take k ++ [l2[k]] := List.take_succ_eq_append_getElem hkl
      obtain ⟨x, hx⟩ : ∃ x, l2[k] = x := ⟨_, rfl⟩
      rw [hx] at hst
      have hit' : ItAt svC wr b (off + k * 7) x := by rw [← hx]; exact hit
      have cc := sv_cells hit'
      have hc := hcc.2.2.1
      rw [eA] at hc
      rw [show (l2.length) = Ln from HL.out] at hc
      have hle : ls.length ≤ k := by rw [hls.out.1]; refine Nat.le_trans (List.length_filter_le _ _) (by rw [List.length_take]; omega)
      cases hp : offS node all nid x.val.a with
      | true =>
        have HN : Hid (ls = (l2.take (k + 1)).filter (fun r : Rw SvW => !offS node all nid r.val.a) ∧ max lk i = if (l2.take (k + 1)).any (fun r : Rw SvW => offS node all nid r.val.a) then max d.s.last i else d.s.last) := Lib.hid (by
          rw [hst, List.filter_append, List.any_append]
          refine ⟨by rw [hls.out.1]; simp [hp], ?_⟩
          rw [hls.out.2]
          simp only [List.any_cons, List.any_nil, hp, Bool.or_false, Bool.or_true, if_true]
          split <;> simp only [Nat.max_assoc, Nat.max_self])
        have HRs := Lib.hid (rdraise2_any i hd.out)
        have hnode : x.val.a.node = node := by unfold offS at hp; rw [Bool.and_eq_true, decide_eq_true_eq] at hp; exact hp.1
        have q : (x.val.a.node == node) = true := beq_iff_eq.2 hnode
        have ha : all = true ∨ (all = false ∧ (x.val.a.id.toList == nid.toList) = true) := by
          unfold offS at hp
          rw [Bool.and_eq_true, Bool.or_eq_true] at hp
          cases all with
          | true => exact .inl rfl
          | false => exact .inr ⟨rfl, by simpa using hp.2⟩
        have HB := hb
        have HRow := hrow
        clear hcc eA hit hst hx hit' hp hnode hd hls
        rcases ha with rfl | ⟨rfl, q2⟩
        all_goals
          go_wp2_with fail
          refine HRs.out.mono ?_
          rintro e w2 ⟨rfl, hd2, hb2⟩
          have HD2 := Lib.hid hd2
          have HB2 := Lib.hid (HB.out.trans hb2)
          have HR2 := Lib.hid (HRow.out.but hb2 fun j e z => by have := (HRow.out.from j e).1; have : j = B := z; omega)
          clear hd2 hb2 cc hc
          go_wp2
          go_roundw
          case rel => exact ⟨k + 1, max lk i, ls, by omega, by go_num, HN, HD2, HR2, HB2⟩
          case measure => simp [intOf]; omega
      | false =>
        have HN : Hid (ls ++ [x] = (l2.take (k + 1)).filter (fun r : Rw SvW => !offS node all nid r.val.a) ∧ lk = if (l2.take (k + 1)).any (fun r : Rw SvW => offS node all nid r.val.a) then max d.s.last i else d.s.last) := Lib.hid (by
          rw [hst, List.filter_append, List.any_append]
          refine ⟨by rw [hls.out.1]; simp [hp], ?_⟩
          rw [hls.out.2]
          simp only [List.any_cons, List.any_nil, hp, Bool.or_false])
        have ha : (x.val.a.node == node) = false ∨ ((x.val.a.node == node) = true ∧ all = false ∧ (x.val.a.id.toList == nid.toList) = false) := by
          unfold offS at hp
          by_cases e : x.val.a.node = node
          · rw [decide_eq_true e, Bool.true_and, Bool.or_eq_false_iff] at hp
            exact .inr ⟨beq_iff_eq.2 e, hp.1, hp.2⟩
          · exact .inl (beq_eq_false_iff_ne.2 e)
        have HB := hb
        have HRow := hrow
        have HD := hd
        clear hcc eA hit hst hx hit' hp hls
        rcases ha with q | ⟨q, rfl, q2⟩
        all_goals
          go_wp2_with (at_builtin; refine wpList_append_sv rfl (.tmp 49) (.tmp 57) rfl Y _ ls rfl ?qa wr.heap.size x rfl ?qb ?qd ?qc ?_)
          case qa => exact HRow.out.below ((Below.refl _ _).alloc (Nat.le_refl _) _)
          case qb => exact sv_new wr x _
          case qd => omega
          case qc => (try simp); omega
          refine Lib.hid ?_
          intro v4 W4 hown hgr
          have hbw : Below Y wr W4 := svRow.snoc HRow.out (Below.refl _ _) (by omega) hgr
          have HB4 : Hid (But (· = B) w W4) := Lib.hid (but_then_below HB.out HY.out hbw)
          have HD4 := Lib.hid (HD.out.but (S' := fun k => Y ≤ k) (but_above hbw) (fun k z => ⟨fun hs => by have := HLt.out k hs; omega, Nat.le_trans HTop.out z⟩))
          have HR4 := Lib.hid hown
          clear hown hgr cc hc hbw
          go_wp2
          go_roundw
          case rel => exact ⟨k + 1, lk, ls ++ [x], by omega, by go_num, HN, HD4, HR4, HB4⟩
          case measure => simp [intOf]; omega
    · have ht : l2.take k = l2 := List.take_of_length_le (by rw [HL.out]; omega)
      rw [ht] at hls
      have hcc := hd.out.cells
      have z := hd.out.froz 2
      have hl := hd.out.lt
      have hc := hcc.2.2.1
      rw [show (l2.length) = Ln from HL.out] at hc
      obtain ⟨A9, c9, rfl, k1, k2, k3, k4⟩ := SK.of_row svC_len hrow.out
      have hset := (hd.out.narrow (S' := fun k => S k ∨ Y ≤ k) (fun _ _ z => .inl (HSs.out _ z)) (fun k z => z.elim (HLo.out k) (Nat.le_trans HTop.out))).set2 (A := A9) (c := c9) (l := ls) ⟨k1, fun b off e _ => ⟨.inr (k4 b off e), by have := k4 b off e; omega⟩, k2, k3⟩ (fun r hr => hd.out.tg r (by rw [hls.out.1] at hr; exact (List.mem_filter.1 hr).1))
      have HSet := Lib.hid hset
      have HB5 := Lib.hid (hb.out.trans (But.set (S := (· = B)) wr (p := ⟨B, 2, none⟩) rfl (.slice A9 ls.length c9)))
      have HLs := hls
      clear hcc hset ht k1 k4 hd
      go_wp2
      refine bodyPost_end (results_none rfl _ _ _) rfl ⟨rfl, ?_, HB5.out⟩
      rw [HY.out]
      refine ⟨A9, c9, ls, ?_⟩
      have e : ({ d with s := d.s.cut (offS node all nid) i } : Ro) = { d with s := { d.s with last := lk, l := ls.map (rwMap (·.a)) } } := by
        rw [cut_is, HLs.out.1, HLs.out.2]
        have e1 : d.s.l = l2.map (rwMap (·.a)) := HH.out.eq.symm
        rw [e1, List.filter_map, List.any_map]
        rfl
      rw [e]
      exact HSet.out
def PostDropChecks (base : Nat) (S : Nat → Prop) (w : World) (B : Nat) (A1 A2 A3 : Option Addr) (c1 c2 c3 m : Nat) (l2 : List (Rw SvW)) (d : Ro) (node : Int) (all : Bool) (nid : ByteArray) (i : Nat) (e : Ending) (w' : World) : Prop := e = .returned (.tuple #[]) ∧ (∃ B2 Bc, RdIs base (fun k => S k ∨ w.heap.size ≤ k) w' B A1 A2 B2 c1 c2 Bc m l2 { d with c := d.c.cut (offC node all nid) i }) ∧ But (· = B) w w'
set_option maxHeartbeats 4000000 in
set_option maxRecDepth 100000 in
theorem rddropchecks_any (node : Int) (all : Bool) (nid : ByteArray) (i : Nat) (h64 : d.c.l.length ≤ 64) (h : RdIs base S w B A1 A2 A3 c1 c2 c3 m l2 d) : Calls Tryz.prog 82 #[.pointer (some ⟨B, 0, none⟩), .int .i64 node, .bool all, .string nid, .int .u64 (i : Int)] w fun e w' => PostDropChecks base S w B A1 A2 A3 c1 c2 c3 m l2 d node all nid i e w' := by
  obtain ⟨Ln, hL⟩ : ∃ Ln, d.c.l.length = Ln := ⟨_, rfl⟩
  rw [hL] at h64
  have HL := Lib.hid hL
  obtain ⟨Y, hY⟩ : ∃ Y, w.heap.size = Y := ⟨_, rfl⟩
  have HY := Lib.hid hY
  have hBY : B < Y := by rw [← hY]; exact h.lt
  have HTop : Hid (base ≤ Y) := Lib.hid (by rw [← hY]; exact h.top)
  obtain ⟨S0, hS0⟩ : ∃ S0 : Nat → Prop, S0 = fun k => S k ∧ k < Y := ⟨_, rfl⟩
  have HH : Hid (RdIs base S0 w B A1 A2 A3 c1 c2 c3 m l2 d) := Lib.hid (h.narrow (fun k hk z => by rw [hS0]; exact ⟨z, by omega⟩) (fun k z => h.lo k (by rw [hS0] at z; exact z.1)))
  have HLt : Hid (∀ k, S0 k → k < Y) := Lib.hid (fun k z => by rw [hS0] at z; exact z.2)
  have HSs : Hid (∀ k, S0 k → S k) := Lib.hid (fun k z => by rw [hS0] at z; exact z.1)
  have HLo : Hid (∀ k, S k → base ≤ k) := Lib.hid h.lo
  clear h hL hY hS0
  go_enter Tryz.func82, Tryz.ntmps82
  go_wp2
  go_loopw [10, 11] (fun vv iv wr => ∃ (k lk : Nat) (ls : List (Rw CkA)), k ≤ Ln ∧ iv = .int .i64 (k : Int) ∧ Hid (ls = (d.c.l.take k).filter (fun r : Rw CkA => !offC node all nid r.val) ∧ lk = if (d.c.l.take k).any (fun r : Rw CkA => offC node all nid r.val) then max d.c.last i else d.c.last) ∧ Hid (RdIs base S0 wr B A1 A2 A3 c1 c2 c3 m l2 { d with c := { d.c with last := lk } }) ∧ Hid (ckRow wr Y vv ls) ∧ Hid (But (· = B) w wr)) (fun _ iv _ => Ln - (intOf iv).toNat)
  case atStart => exact ⟨0, d.c.last, [], Nat.zero_le _, rfl, Lib.hid ⟨rfl, rfl⟩, HH, Lib.hid (rowK.nil _ _), Lib.hid (But.refl _ _)⟩
  case round =>
    obtain ⟨k, lk, ls, hk, rfl, hls, hd, hrow, hb⟩ := hrel
    have hszw := hb.out.size
    have hYw : Y ≤ wr.heap.size := by have := HY.out; omega
    by_cases hlt : k < Ln
    · have hkl : k < d.c.l.length := by rw [HL.out]; exact hlt
      have hcc := hd.out.cells
      obtain ⟨b, off, eA, hbl, hit⟩ := hd.out.r3.row.at_ hkl hkl
      have hst : d.c.l.take (k + 1) = d.c.l.take k ++ [d.c.l[k]] := List.take_succ_eq_append_getElem hkl
      obtain ⟨x, hx⟩ : ∃ x, d.c.l[k] = x := ⟨_, rfl⟩
      rw [hx] at hst
      have hit' : ItAt ckC wr b (off + k * 7) x := by rw [← hx]; exact hit
      have cc := ck_cells hit'
      have hc := hcc.2.2.2.1
      rw [eA] at hc
      rw [show (({ d with c := { d.c with last := lk } } : Ro).c.l.length) = Ln from HL.out] at hc
      have hle : ls.length ≤ k := by rw [hls.out.1]; refine Nat.le_trans (List.length_filter_le _ _) (by rw [List.length_take]; omega)
      cases hp : offC node all nid x.val with
      | true =>
        have HN : Hid (ls = (d.c.l.take (k + 1)).filter (fun r : Rw CkA => !offC node all nid r.val) ∧ max lk i = if (d.c.l.take (k + 1)).any (fun r : Rw CkA => offC node all nid r.val) then max d.c.last i else d.c.last) := Lib.hid (by
          rw [hst, List.filter_append, List.any_append]
          refine ⟨by rw [hls.out.1]; simp [hp], ?_⟩
          rw [hls.out.2]
          simp only [List.any_cons, List.any_nil, hp, Bool.or_false, Bool.or_true, if_true]
          split <;> simp only [Nat.max_assoc, Nat.max_self])
        have HRs := Lib.hid (rdraise3_any i hd.out)
        have hnode : x.val.node = node := by unfold offC at hp; rw [Bool.and_eq_true, decide_eq_true_eq] at hp; exact hp.1
        have q : (x.val.node == node) = true := beq_iff_eq.2 hnode
        have ha : all = true ∨ (all = false ∧ (x.val.svc.toList == nid.toList) = true) := by
          unfold offC at hp
          rw [Bool.and_eq_true, Bool.or_eq_true] at hp
          cases all with
          | true => exact .inl rfl
          | false => exact .inr ⟨rfl, by simpa using hp.2⟩
        have HB := hb
        have HRow := hrow
        clear hcc eA hit hst hx hit' hp hnode hd hls
        rcases ha with rfl | ⟨rfl, q2⟩
        all_goals
          go_wp2_with fail
          refine HRs.out.mono ?_
          rintro e w2 ⟨rfl, hd2, hb2⟩
          have HD2 := Lib.hid hd2
          have HB2 := Lib.hid (HB.out.trans hb2)
          have HR2 := Lib.hid (HRow.out.but hb2 fun j e z => by have := (HRow.out.from j e).1; have : j = B := z; omega)
          clear hd2 hb2 cc hc
          go_wp2
          go_roundw
          case rel => exact ⟨k + 1, max lk i, ls, by omega, by go_num, HN, HD2, HR2, HB2⟩
          case measure => simp [intOf]; omega
      | false =>
        have HN : Hid (ls ++ [x] = (d.c.l.take (k + 1)).filter (fun r : Rw CkA => !offC node all nid r.val) ∧ lk = if (d.c.l.take (k + 1)).any (fun r : Rw CkA => offC node all nid r.val) then max d.c.last i else d.c.last) := Lib.hid (by
          rw [hst, List.filter_append, List.any_append]
          refine ⟨by rw [hls.out.1]; simp [hp], ?_⟩
          rw [hls.out.2]
          simp only [List.any_cons, List.any_nil, hp, Bool.or_false])
        have ha : (x.val.node == node) = false ∨ ((x.val.node == node) = true ∧ all = false ∧ (x.val.svc.toList == nid.toList) = false) := by
          unfold offC at hp
          by_cases e : x.val.node = node
          · rw [decide_eq_true e, Bool.true_and, Bool.or_eq_false_iff] at hp
            exact .inr ⟨beq_iff_eq.2 e, hp.1, hp.2⟩
          · exact .inl (beq_eq_false_iff_ne.2 e)
        have HB := hb
        have HRow := hrow
        have HD := hd
        clear hcc eA hit hst hx hit' hp hls
        rcases ha with q | ⟨q, rfl, q2⟩
        all_goals
          go_wp2_with (at_builtin; refine wpList_append_ck rfl (.tmp 49) (.tmp 57) rfl Y _ ls rfl ?qa wr.heap.size x rfl ?qb ?qd ?qc ?_)
          case qa => exact HRow.out.below ((Below.refl _ _).alloc (Nat.le_refl _) _)
          case qb => exact ck_new wr x _
          case qd => omega
          case qc => (try simp); omega
          refine Lib.hid ?_
          intro v4 W4 hown hgr
          have hbw : Below Y wr W4 := ckRow.snoc HRow.out (Below.refl _ _) (by omega) hgr
          have HB4 : Hid (But (· = B) w W4) := Lib.hid (but_then_below HB.out HY.out hbw)
          have HD4 := Lib.hid (HD.out.but (S' := fun k => Y ≤ k) (but_above hbw) (fun k z => ⟨fun hs => by have := HLt.out k hs; omega, Nat.le_trans HTop.out z⟩))
          have HR4 := Lib.hid hown
          clear hown hgr cc hc hbw
          go_wp2
          go_roundw
          case rel => exact ⟨k + 1, lk, ls ++ [x], by omega, by go_num, HN, HD4, HR4, HB4⟩
          case measure => simp [intOf]; omega
    · have ht : d.c.l.take k = d.c.l := List.take_of_length_le (by rw [HL.out]; omega)
      rw [ht] at hls
      have hcc := hd.out.cells
      have z := hd.out.froz 3
      have hl := hd.out.lt
      have hc := hcc.2.2.2.1
      rw [show (({ d with c := { d.c with last := lk } } : Ro).c.l.length) = Ln from HL.out] at hc
      obtain ⟨A9, c9, rfl, k1, k2, k3, k4⟩ := SK.of_row ckC_len hrow.out
      have hset := (hd.out.narrow (S' := fun k => S k ∨ Y ≤ k) (fun _ _ z => .inl (HSs.out _ z)) (fun k z => z.elim (HLo.out k) (Nat.le_trans HTop.out))).set3 (A := A9) (c := c9) (l := ls) ⟨k1, fun b off e _ => ⟨.inr (k4 b off e), by have := k4 b off e; omega⟩, k2, k3⟩
      have HSet := Lib.hid hset
      have HB5 := Lib.hid (hb.out.trans (But.set (S := (· = B)) wr (p := ⟨B, 3, none⟩) rfl (.slice A9 ls.length c9)))
      have HLs := hls
      clear hcc hset ht k1 k4 hd
      go_wp2
      refine bodyPost_end (results_none rfl _ _ _) rfl ⟨rfl, ?_, HB5.out⟩
      rw [HY.out]
      refine ⟨A9, c9, ?_⟩
      have e : ({ d with c := d.c.cut (offC node all nid) i } : Ro) = { d with c := { d.c with last := lk, l := ls } } := by
        rw [cut_is, HLs.out.1, HLs.out.2]
      rw [e]
      exact HSet.out
end
end Go.Proofs.YtilkbfmaofmjoaaGreatDoor
namespace Go.Proofs.YtilkbfmaofmjoaaGreatDoor
open Go.RowKit
set_option linter.unusedSimpArgs false
set_option linter.unusedVariables false
theorem offS_all (node : Int) (nid : ByteArray) : offS node true nid = fun v => decide (v.node = node) := by funext v; unfold offS; simp
theorem offC_all (node : Int) (nid : ByteArray) : offC node true nid = fun v => decide (v.node = node) := by funext v; unfold offC; simp
theorem offC_one (node : Int) (nid : ByteArray) : offC node false nid = ofSvc node nid := by funext v; unfold offC ofSvc; simp
theorem RoOk.cut_n {m : Nat} {d : Ro} (h : RoOk m d) (node : Int) (i : Nat) : d.n.dropT (keyO node noT) i = d.n.cut (fun v => decide (v.node = node)) i := drop_cut _ (fun r hr => by
  obtain ⟨a, b⟩ := h.nr r hr
  rw [a]
  unfold NdA.key
  rw [keyO_same b.node, text_same.2 rfl, Bool.and_true]) i
theorem RoOk.cut_s {m : Nat} {d : Ro} (h : RoOk m d) (node : Int) (nid : ByteArray) (i : Nat) : d.s.dropT (keyO node nid) i = d.s.cut (offS node false nid) i := drop_cut _ (fun r hr => by
  obtain ⟨a, b, _⟩ := h.sr r hr
  rw [a]
  unfold SvA.key offS
  rw [keyO_same b.node, Bool.false_or]) i
def idC (node : Int) (nid : ByteArray) (v : CkA) : Bool := decide (v.node = node) && (v.id.toList == nid.toList)
theorem RoOk.cut_c {m : Nat} {d : Ro} (h : RoOk m d) (node : Int) (nid : ByteArray) (i : Nat) : d.c.dropT (keyO node nid) i = d.c.cut (idC node nid) i := drop_cut _ (fun r hr => by
  obtain ⟨a, b, _⟩ := h.cr r hr
  rw [a]
  unfold CkA.key idC
  rw [keyO_same b.node]) i
theorem RoOk.id_iff {m : Nat} {d : Ro} (h : RoOk m d) (node : Int) (nid : ByteArray) : (getR d.c.l (keyO node nid)).isSome = d.c.l.any fun r => idC node nid r.val := by
  rw [Bool.eq_iff_iff, getR_iff, List.any_eq_true]
  constructor
  · rintro ⟨r, hr, e⟩
    obtain ⟨a, b, _⟩ := h.cr r hr
    obtain ⟨h1, h2⟩ := keyO_inj b.node (a.symm.trans e)
    exact ⟨r, hr, by unfold idC; rw [decide_eq_true h1, text_same.2 h2]; rfl⟩
  · rintro ⟨r, hr, e⟩
    obtain ⟨a, b, _⟩ := h.cr r hr
    unfold idC at e
    rw [Bool.and_eq_true, decide_eq_true_eq, text_same] at e
    refine ⟨r, hr, ?_⟩
    rw [a]
    unfold CkA.key
    rw [e.1, e.2]
section
variable {base : Nat} {S : Nat → Prop} {w : World} {B m : Nat} {d : Ro}
set_option maxRecDepth 100000 in
theorem rddropservice_any (node : Int) (nid : ByteArray) (i : Nat) (h : RdAt base S w B m d) (hi : i < 18446744073709551616) : Calls Tryz.prog 39 #[.pointer (some ⟨B, 0, none⟩), .int .i64 node, .string nid, .int .u64 (i : Int)] w fun e w' => e = .returned (.int .i64 ((d.dropS node nid i).1 : Int)) ∧ RdAt base (fun k => S k ∨ w.heap.size ≤ k) w' B m (d.dropS node nid i).2 ∧ But (· = B) w w' := by
  have HAt := Lib.hid h
  obtain ⟨hok, A1, A2, A3, c1, c2, c3, l2, h⟩ := h
  have hg := rdhas_any node nid hok h
  have hok2 := hok.dropS (node := node) (id := nid) hi
  cases hb : d.has node nid with
  | false =>
    have hd : d.dropS node nid i = (4, d) := by unfold Ro.dropS; rw [hb]; rfl
    rw [hd]
    rw [hb] at hg
    have HG := Lib.hid hg
    clear hg hok2 hd hb h hok
    go_enter Tryz.func39, Tryz.ntmps39
    go_wp2_with fail
    refine HG.out.mono ?_
    rintro e w' ⟨rfl, rfl⟩
    go_wp2
    go_ret
    exact ⟨rfl, HAt.out.narrow (fun _ _ z => .inl z) (fun k z => z.elim (HAt.out.lo k) (Nat.le_trans (by obtain ⟨_, _, _, _, _, _, _, _, h1⟩ := HAt.out; exact h1.top))), But.refl _ _⟩
  | true =>
    have hd : d.dropS node nid i = (0, ⟨d.n, d.s.cut (offS node false nid) i, d.c.cut (offC node false nid) i⟩) := by
      unfold Ro.dropS
      rw [hb, if_neg (by simp), hok.cut_s, offC_one]
    rw [hd] at hok2 ⊢
    rw [hb] at hg
    have HG := Lib.hid hg
    have HOk2 := Lib.hid hok2
    have HD1 := Lib.hid (rddropservices_any node false nid i (by rw [h.len2]; exact Nat.le_trans hok.sok.len hok.sok.most.2) h)
    have HC := Lib.hid (Nat.le_trans hok.cok.len hok.cok.most.2)
    have HLo := Lib.hid h.lo
    clear hg hok2 hd hb h hok
    go_enter Tryz.func39, Tryz.ntmps39
    go_wp2_with fail
    refine HG.out.mono ?_
    rintro e w' ⟨rfl, rfl⟩
    go_wp2_with fail
    refine HD1.out.mono ?_
    rintro e w2 ⟨rfl, ⟨B2, Bc, l3, h2⟩, hb2⟩
    have HD2 := Lib.hid (rddropchecks_any node false nid i (by exact HC.out) h2)
    have HB2 := Lib.hid hb2
    clear h2 hb2
    go_wp2_with fail
    refine HD2.out.mono ?_
    rintro e w3 ⟨rfl, ⟨B3, Bd, h3⟩, hb3⟩
    have HD3 := Lib.hid h3
    have HB3 := Lib.hid (HB2.out.trans hb3)
    clear h3 hb3
    go_wp2
    go_ret
    refine ⟨rfl, ⟨HOk2.out, _, _, _, _, _, _, _, HD3.out.narrow (fun k _ z => ?_) (fun k z => z.elim (HLo.out k) fun z => ?_)⟩, HB3.out⟩
    · rcases z with z | z
      · exact z
      · exact .inr (Nat.le_trans HB2.out.size z)
    · obtain ⟨_, _, _, _, _, _, _, _, h1⟩ := HAt.out
      exact Nat.le_trans h1.top z
set_option maxHeartbeats 4000000 in
set_option maxRecDepth 100000 in
theorem rddropnode_any (node : Int) (i : Nat) (h : RdAt base S w B m d) (hi : i < 18446744073709551616) : Calls Tryz.prog 37 #[.pointer (some ⟨B, 0, none⟩), .int .i64 node, .int .u64 (i : Int)] w fun e w' => e = .returned (.int .i64 ((d.dropN node i).1 : Int)) ∧ RdAt base (fun k => S k ∨ w.heap.size ≤ k) w' B m (d.dropN node i).2 ∧ But (· = B) w w' := by
  have HAt := Lib.hid h
  obtain ⟨hok, A1, A2, A3, c1, c2, c3, l2, h⟩ := h
  have hok2 := hok.dropN (node := node) hi
  have hg := rdthere_any node hok h
  cases hb : d.there node with
  | false =>
    have hd : d.dropN node i = (4, d) := by unfold Ro.dropN; rw [hb]; rfl
    rw [hd]
    rw [hb] at hg
    have HG := Lib.hid hg
    clear hg hok2 hd hb h hok
    go_enter Tryz.func37, Tryz.ntmps37
    go_wp2_with fail
    refine HG.out.mono ?_
    rintro e w' ⟨rfl, rfl⟩
    go_wp2
    go_ret
    exact ⟨rfl, HAt.out.narrow (fun _ _ z => .inl z) (fun k z => z.elim (HAt.out.lo k) (Nat.le_trans (by obtain ⟨_, _, _, _, _, _, _, _, h1⟩ := HAt.out; exact h1.top))), But.refl _ _⟩
  | true =>
  have hd : d.dropN node i = (0, ⟨⟨d.n.most, d.n.l.filter (fun r : Rw NdA => !decide (r.val.node = node)), max d.n.last i⟩, d.s.cut (offS node true noT) i, d.c.cut (offC node true noT) i⟩) := by
    have hany := hb
    rw [hok.there_iff] at hany
    unfold Ro.dropN
    rw [hb, if_neg (by simp), hok.cut_n, offS_all, offC_all]
    refine congrArg (Prod.mk 0) ?_
    rw [cut_is d.n, hany]
    rfl
  rw [hd] at hok2 ⊢
  rw [hb] at hg
  have HG := Lib.hid hg
  have HC2 := Lib.hid (show l2.length ≤ 64 by rw [h.len2]; exact Nat.le_trans hok.sok.len hok.sok.most.2)
  have HC3 := Lib.hid (Nat.le_trans hok.cok.len hok.cok.most.2)
  have h64 := Nat.le_trans hok.nok.len hok.nok.most.2
  have HOk2 := Lib.hid hok2
  obtain ⟨Y, hY⟩ : ∃ Y, w.heap.size = Y := ⟨_, rfl⟩
  have HY := Lib.hid hY
  have hBY : B < Y := by rw [← hY]; exact h.lt
  have HTop : Hid (base ≤ Y) := Lib.hid (by rw [← hY]; exact h.top)
  obtain ⟨S0, hS0⟩ : ∃ S0 : Nat → Prop, S0 = fun k => S k ∧ k < Y := ⟨_, rfl⟩
  have HH : Hid (RdIs base S0 w B A1 A2 A3 c1 c2 c3 m l2 d) := Lib.hid (h.narrow (fun k hk z => by rw [hS0]; exact ⟨z, by omega⟩) (fun k z => h.lo k (by rw [hS0] at z; exact z.1)))
  have HLt : Hid (∀ k, S0 k → k < Y) := Lib.hid (fun k z => by rw [hS0] at z; exact z.2)
  have HSs : Hid (∀ k, S0 k → S k) := Lib.hid (fun k z => by rw [hS0] at z; exact z.1)
  have HLo : Hid (∀ k, S k → base ≤ k) := Lib.hid h.lo
  obtain ⟨Ln, hL⟩ : ∃ Ln, d.n.l.length = Ln := ⟨_, rfl⟩
  rw [hL] at h64
  have HL := Lib.hid hL
  clear hg hb hok2 hd h hok hL hY hS0
  go_enter Tryz.func37, Tryz.ntmps37
  go_wp2_with fail
  refine HG.out.mono ?_
  rintro e w' ⟨rfl, rfl⟩
  go_wp2
  go_loopw [7, 8] (fun vv iv wr => ∃ (k : Nat) (ls : List (Rw NdA)), k ≤ Ln ∧ iv = .int .i64 (k : Int) ∧ Hid (ls = (d.n.l.take k).filter (fun r : Rw NdA => !decide (r.val.node = node))) ∧ Hid (ndRow wr Y vv ls) ∧ Hid (Below Y w wr)) (fun _ iv _ => Ln - (intOf iv).toNat)
  case atStart => exact ⟨0, [], Nat.zero_le _, rfl, Lib.hid rfl, Lib.hid (rowK.nil _ _), Lib.hid (HY.out ▸ Below.refl _ _)⟩
  case round =>
    obtain ⟨k, ls, hk, rfl, hls, hrow, hb⟩ := hrel
    have hszw := hb.out.size
    have hYw : Y ≤ wr.heap.size := by have := HY.out; omega
    have hd := HH.out.below (by rw [HY.out]; exact hb.out)
    have hcc := hd.cells
    have hc := hcc.2.1
    rw [HL.out] at hc
    by_cases hlt : k < Ln
    · have hkl : k < d.n.l.length := by rw [HL.out]; exact hlt
      obtain ⟨b, off, rfl, hbl, hit⟩ := hd.r1.row.at_ hkl hkl
      have hst : d.n.l.take (k + 1) = d.n.l.take k ++ [d.n.l[k]] := List.take_succ_eq_append_getElem hkl
      obtain ⟨x, hx⟩ : ∃ x, d.n.l[k] = x := ⟨_, rfl⟩
      rw [hx] at hst hit
      have cc := nd_cells hit
      have hle : ls.length ≤ k := by rw [hls.out]; refine Nat.le_trans (List.length_filter_le _ _) (by rw [List.length_take]; omega)
      cases hp : decide (x.val.node = node) with
      | true =>
        have HN : Hid (ls = (d.n.l.take (k + 1)).filter (fun r : Rw NdA => !decide (r.val.node = node))) := Lib.hid (by rw [hst, List.filter_append, hls.out]; simp [hp])
        have q : (x.val.node == node) = true := beq_iff_eq.2 (of_decide_eq_true hp)
        have q2 : (x.val.node != node) = false := by rw [bne, q]; rfl
        have HB := hb
        have HRow := hrow
        clear hcc hit hst hx hp hd hls
        go_wp2
        go_roundw
        case rel => exact ⟨k + 1, ls, by omega, by go_num, HN, HRow, HB⟩
        case measure => simp [intOf]; omega
      | false =>
        have HN : Hid (ls ++ [x] = (d.n.l.take (k + 1)).filter (fun r : Rw NdA => !decide (r.val.node = node))) := Lib.hid (by rw [hst, List.filter_append, hls.out]; simp [hp])
        have q : (x.val.node == node) = false := beq_eq_false_iff_ne.2 (of_decide_eq_false hp)
        have q2 : (x.val.node != node) = true := by rw [bne, q]; rfl
        have HB := hb
        have HRow := hrow
        clear hcc hit hst hx hp hd hls
        go_wp2_with (at_builtin; refine wpList_append_nd rfl (.tmp 32) (.tmp 40) rfl Y _ ls rfl ?qa wr.heap.size x rfl ?qb ?qd ?qc ?_)
        case qa => exact HRow.out.below ((Below.refl _ _).alloc (Nat.le_refl _) _)
        case qb => exact nd_new wr x _
        case qd => omega
        case qc => (try simp); omega
        refine Lib.hid ?_
        intro v4 W4 hown hgr
        have HB4 := Lib.hid (HB.out.trans (ndRow.snoc HRow.out (Below.refl _ _) (by omega) hgr))
        have HR4 := Lib.hid hown
        clear hown hgr cc hc
        go_wp2
        go_roundw
        case rel => exact ⟨k + 1, ls ++ [x], by omega, by go_num, HN, HR4, HB4⟩
        case measure => simp [intOf]; omega
    · have ht : d.n.l.take k = d.n.l := List.take_of_length_le (by rw [HL.out]; omega)
      rw [ht] at hls
      have z := hd.froz 1
      have hl := hd.lt
      obtain ⟨A9, c9, rfl, k1, k2, k3, k4⟩ := SK.of_row ndC_len hrow.out
      have hset := (hd.narrow (S' := fun k => S k ∨ Y ≤ k) (fun _ _ z => .inl (HSs.out _ z)) (fun k z => z.elim (HLo.out k) (Nat.le_trans HTop.out))).set1 (A := A9) (c := c9) (l := ls) ⟨k1, fun b off e _ => ⟨.inr (k4 b off e), by have := k4 b off e; omega⟩, k2, k3⟩
      have HSet := Lib.hid hset
      have HRs := Lib.hid (rdraise1_any i hset)
      have HB5 : Hid (But (· = B) w (wr.setCell ⟨B, 1, none⟩ (.slice A9 ls.length c9))) := Lib.hid ((But.of_below (by rw [HY.out]; exact hb.out)).trans (But.set (S := (· = B)) wr (p := ⟨B, 1, none⟩) rfl (.slice A9 ls.length c9)))
      have HLs := hls
      clear hcc hset ht k1 k4 hd
      go_wp2_with fail
      refine HRs.out.mono ?_
      rintro e w2 ⟨rfl, hd2, hb2⟩
      have HB6 := Lib.hid (HB5.out.trans hb2)
      have HD1 := Lib.hid (rddropservices_any node true noT i HC2.out hd2)
      clear hd2 hb2 hc z hl
      go_wp2_with fail
      refine HD1.out.mono ?_
      rintro e w3 ⟨rfl, ⟨B2, Bc, l3, h3⟩, hb3⟩
      have HB7 := Lib.hid (HB6.out.trans hb3)
      have HD2 := Lib.hid (rddropchecks_any node true noT i (by exact HC3.out) h3)
      clear h3 hb3
      go_wp2_with fail
      refine HD2.out.mono ?_
      rintro e w4 ⟨rfl, ⟨B3, Bd, h4⟩, hb4⟩
      have HB8 := Lib.hid (HB7.out.trans hb4)
      have HD3 := Lib.hid h4
      clear h4 hb4
      go_wp2
      go_ret
      rw [HY.out]
      have s6 := HB6.out.size
      have s7 := HB7.out.size
      have hy := HY.out
      have HK := HOk2.out
      rw [← HLs.out] at HK ⊢
      refine ⟨rfl, ⟨HK, _, _, _, _, _, _, _, HD3.out.narrow (fun k _ z => ?_) (fun k z => z.elim (HLo.out k) (Nat.le_trans HTop.out))⟩, HB8.out⟩
      rcases z with ((z | z) | z) | z
      · exact .inl z
      · exact .inr z
      · exact .inr (by omega)
      · exact .inr (by omega)
set_option maxHeartbeats 4000000 in
set_option maxRecDepth 100000 in
theorem rddropcheck_any (node : Int) (nid : ByteArray) (i : Nat) (h : RdAt base S w B m d) (hi : i < 18446744073709551616) : Calls Tryz.prog 41 #[.pointer (some ⟨B, 0, none⟩), .int .i64 node, .string nid, .int .u64 (i : Int)] w fun e w' => e = .returned (.int .i64 ((d.dropC node nid i).1 : Int)) ∧ RdAt base (fun k => S k ∨ w.heap.size ≤ k) w' B m (d.dropC node nid i).2 ∧ But (· = B) w w' := by
  have HAt := Lib.hid h
  obtain ⟨hok, A1, A2, A3, c1, c2, c3, l2, h⟩ := h
  have hok2 := hok.dropC (node := node) (id := nid) hi
  have hd : d.dropC node nid i = (if d.c.l.any (fun r : Rw CkA => idC node nid r.val) then 0 else 4, { d with c := ⟨d.c.most, d.c.l.filter (fun r : Rw CkA => !idC node nid r.val), if d.c.l.any (fun r : Rw CkA => idC node nid r.val) then max d.c.last i else d.c.last⟩ }) := by
    unfold Ro.dropC
    rw [hok.id_iff, hok.cut_c]
    cases e : d.c.l.any fun r => idC node nid r.val with
    | false =>
      rw [if_pos rfl, if_neg (by simp), if_neg (by simp)]
      have h2 : d.c.l.filter (fun r : Rw CkA => !idC node nid r.val) = d.c.l := by
        rw [List.filter_eq_self]
        rw [List.any_eq_false] at e
        intro r hr
        simpa using e r hr
      rw [h2]
    | true =>
      rw [if_neg (by simp), cut_is, e]
      rfl
  obtain ⟨code, hcode⟩ : ∃ code : Nat, (if d.c.l.any (fun r : Rw CkA => idC node nid r.val) then 0 else 4) = code := ⟨_, rfl⟩
  obtain ⟨lst, hlst⟩ : ∃ lst : Nat, (if d.c.l.any (fun r : Rw CkA => idC node nid r.val) then max d.c.last i else d.c.last) = lst := ⟨_, rfl⟩
  rw [hd] at hok2 ⊢
  simp only [hcode, hlst] at hok2 ⊢
  have HCo : Hid (∀ b, d.c.l.any (fun r : Rw CkA => idC node nid r.val) = b → code = (if b then 0 else 4) ∧ lst = if b then max d.c.last i else d.c.last) := Lib.hid (by rintro b rfl; exact ⟨hcode.symm, hlst.symm⟩)
  clear hcode hlst
  have h64 := Nat.le_trans hok.cok.len hok.cok.most.2
  have HOk2 := Lib.hid hok2
  obtain ⟨Y, hY⟩ : ∃ Y, w.heap.size = Y := ⟨_, rfl⟩
  have HY := Lib.hid hY
  have hBY : B < Y := by rw [← hY]; exact h.lt
  have HTop : Hid (base ≤ Y) := Lib.hid (by rw [← hY]; exact h.top)
  obtain ⟨S0, hS0⟩ : ∃ S0 : Nat → Prop, S0 = fun k => S k ∧ k < Y := ⟨_, rfl⟩
  have HH : Hid (RdIs base S0 w B A1 A2 A3 c1 c2 c3 m l2 d) := Lib.hid (h.narrow (fun k hk z => by rw [hS0]; exact ⟨z, by omega⟩) (fun k z => h.lo k (by rw [hS0] at z; exact z.1)))
  have HLt : Hid (∀ k, S0 k → k < Y) := Lib.hid (fun k z => by rw [hS0] at z; exact z.2)
  have HSs : Hid (∀ k, S0 k → S k) := Lib.hid (fun k z => by rw [hS0] at z; exact z.1)
  have HLo : Hid (∀ k, S k → base ≤ k) := Lib.hid h.lo
  obtain ⟨Ln, hL⟩ : ∃ Ln, d.c.l.length = Ln := ⟨_, rfl⟩
  rw [hL] at h64
  have HL := Lib.hid hL
  clear hok2 hd h hok hL hY hS0
  go_enter Tryz.func41, Tryz.ntmps41
  go_wp2
  go_loopw [9, 10, 11] (fun vv bv iv wr => ∃ (k : Nat) (ls : List (Rw CkA)), k ≤ Ln ∧ iv = .int .i64 (k : Int) ∧ bv = .bool ((d.c.l.take k).any (fun r : Rw CkA => idC node nid r.val)) ∧ Hid (ls = (d.c.l.take k).filter (fun r : Rw CkA => !idC node nid r.val)) ∧ Hid (ckRow wr Y vv ls) ∧ Hid (Below Y w wr)) (fun _ _ iv _ => Ln - (intOf iv).toNat)
  case atStart => exact ⟨0, [], Nat.zero_le _, rfl, rfl, Lib.hid rfl, Lib.hid (rowK.nil _ _), Lib.hid (HY.out ▸ Below.refl _ _)⟩
  case round =>
    obtain ⟨k, ls, hk, rfl, rfl, hls, hrow, hb⟩ := hrel
    have hszw := hb.out.size
    have hYw : Y ≤ wr.heap.size := by have := HY.out; omega
    have hd := HH.out.below (by rw [HY.out]; exact hb.out)
    have hcc := hd.cells
    have hc := hcc.2.2.2.1
    rw [HL.out] at hc
    by_cases hlt : k < Ln
    · have hkl : k < d.c.l.length := by rw [HL.out]; exact hlt
      obtain ⟨b, off, rfl, hbl, hit⟩ := hd.r3.row.at_ hkl hkl
      have hst : d.c.l.take (k + 1) = d.c.l.take k ++ [d.c.l[k]] := List.take_succ_eq_append_getElem hkl
      obtain ⟨x, hx⟩ : ∃ x, d.c.l[k] = x := ⟨_, rfl⟩
      rw [hx] at hst hit
      have cc := ck_cells hit
      have hle : ls.length ≤ k := by rw [hls.out]; refine Nat.le_trans (List.length_filter_le _ _) (by rw [List.length_take]; omega)
      cases hp : idC node nid x.val with
      | true =>
        have HN : Hid (ls = (d.c.l.take (k + 1)).filter (fun r : Rw CkA => !idC node nid r.val)) := Lib.hid (by rw [hst, List.filter_append, hls.out]; simp [hp])
        have HA : Hid ((d.c.l.take (k + 1)).any (fun r : Rw CkA => idC node nid r.val) = true) := Lib.hid (by rw [hst, List.any_append]; simp [hp])
        unfold idC at hp
        rw [Bool.and_eq_true, decide_eq_true_eq] at hp
        have q : (x.val.node == node) = true := beq_iff_eq.2 hp.1
        have q2 := hp.2
        have HB := hb
        have HRow := hrow
        clear hcc hit hst hx hp hd hls
        go_wp2
        go_roundw
        case rel => exact ⟨k + 1, ls, by omega, by go_num, by rw [HA.out], HN, HRow, HB⟩
        case measure => simp [intOf]; omega
      | false =>
        have HN : Hid (ls ++ [x] = (d.c.l.take (k + 1)).filter (fun r : Rw CkA => !idC node nid r.val)) := Lib.hid (by rw [hst, List.filter_append, hls.out]; simp [hp])
        have HA : Hid ((d.c.l.take (k + 1)).any (fun r : Rw CkA => idC node nid r.val) = (d.c.l.take k).any (fun r : Rw CkA => idC node nid r.val)) := Lib.hid (by rw [hst, List.any_append]; simp [hp])
        have ha : (x.val.node == node) = false ∨ ((x.val.node == node) = true ∧ (x.val.id.toList == nid.toList) = false) := by
          unfold idC at hp
          by_cases e : x.val.node = node
          · rw [decide_eq_true e, Bool.true_and] at hp
            exact .inr ⟨beq_iff_eq.2 e, hp⟩
          · exact .inl (beq_eq_false_iff_ne.2 e)
        have HB := hb
        have HRow := hrow
        clear hcc hit hst hx hp hd hls
        rcases ha with q | ⟨q, q2⟩
        all_goals
          go_wp2_with (at_builtin; refine wpList_append_ck rfl (.tmp 43) (.tmp 51) rfl Y _ ls rfl ?qa wr.heap.size x rfl ?qb ?qd ?qc ?_)
          case qa => exact HRow.out.below ((Below.refl _ _).alloc (Nat.le_refl _) _)
          case qb => exact ck_new wr x _
          case qd => omega
          case qc => (try simp); omega
          refine Lib.hid ?_
          intro v4 W4 hown hgr
          have HB4 := Lib.hid (HB.out.trans (ckRow.snoc HRow.out (Below.refl _ _) (by omega) hgr))
          have HR4 := Lib.hid hown
          clear hown hgr cc hc
          go_wp2
          go_roundw
          case rel => exact ⟨k + 1, ls ++ [x], by omega, by go_num, by rw [HA.out], HN, HR4, HB4⟩
          case measure => simp [intOf]; omega
    · have ht : d.c.l.take k = d.c.l := List.take_of_length_le (by rw [HL.out]; omega)
      rw [ht] at hls ⊢
      have z := hd.froz 3
      have hl := hd.lt
      obtain ⟨A9, c9, rfl, k1, k2, k3, k4⟩ := SK.of_row ckC_len hrow.out
      have hset := (hd.narrow (S' := fun k => S k ∨ Y ≤ k) (fun _ _ z => .inl (HSs.out _ z)) (fun k z => z.elim (HLo.out k) (Nat.le_trans HTop.out))).set3 (A := A9) (c := c9) (l := ls) ⟨k1, fun b off e _ => ⟨.inr (k4 b off e), by have := k4 b off e; omega⟩, k2, k3⟩
      have HSet := Lib.hid hset
      have HRs := Lib.hid (rdraise3_any i hset)
      have HB5 : Hid (But (· = B) w (wr.setCell ⟨B, 3, none⟩ (.slice A9 ls.length c9))) := Lib.hid ((But.of_below (by rw [HY.out]; exact hb.out)).trans (But.set (S := (· = B)) wr (p := ⟨B, 3, none⟩) rfl (.slice A9 ls.length c9)))
      have HLs := hls
      clear hcc hset ht k1 k4 hd
      cases ha : d.c.l.any (fun r : Rw CkA => idC node nid r.val) with
      | false =>
        obtain ⟨e1, e2⟩ := HCo.out _ ha
        rw [if_neg (by simp)] at e1 e2
        have HE1 := Lib.hid e1
        have HE2 := Lib.hid e2
        clear ha e1 e2
        go_wp2
        go_ret
        have HK := HOk2.out
        rw [HE2.out, ← HLs.out] at HK
        rw [HY.out, HE1.out, HE2.out, ← HLs.out]
        exact ⟨rfl, ⟨HK, A1, A2, A9, c1, c2, c9, l2, HSet.out⟩, HB5.out⟩
      | true =>
        obtain ⟨e1, e2⟩ := HCo.out _ ha
        rw [if_pos rfl] at e1 e2
        have HE1 := Lib.hid e1
        have HE2 := Lib.hid e2
        clear ha e1 e2
        go_wp2_with fail
        refine HRs.out.mono ?_
        rintro e w2 ⟨rfl, hd2, hb2⟩
        have HB6 := Lib.hid (HB5.out.trans hb2)
        have HD6 := Lib.hid hd2
        clear hd2 hb2 hc z hl
        go_wp2
        go_ret
        have HK := HOk2.out
        rw [HE2.out, ← HLs.out] at HK
        rw [HY.out, HE1.out, HE2.out, ← HLs.out]
        exact ⟨rfl, ⟨HK, _, _, _, _, _, _, _, HD6.out⟩, HB6.out⟩
end
end Go.Proofs.YtilkbfmaofmjoaaGreatDoor
namespace Go.Proofs.YtilkbfmaofmjoaaGreatDoor
open Go.RowKit
set_option linter.unusedSimpArgs false
set_option linter.unusedVariables false
section
variable {α : Type} {t : Tb α} {k : ByteArray} {v : α} {i : Nat}
theorem getR_none (h : ∀ y ∈ t.l, y.key ≠ k) : getR t.l k = none := by
  cases e : getR t.l k with
  | none => rfl
  | some r => exact absurd (getR_mem e).2 (h r (getR_mem e).1)
theorem made_same (hs : SR t.l) {x : Rw α} (hx : x ∈ t.l) (hk : x.key = k) : ((getR t.l k).map (·.made)).getD i = x.made := by
  cases e : getR t.l k with
  | none =>
    have := getR_iff.2 ⟨x, hx, hk⟩
    rw [e] at this
    cases this
  | some r =>
    have h1 := getR_mem e
    rw [hs.uniq h1.1 hx (h1.2.trans hk.symm)]
    rfl
theorem made_none (h : ∀ y ∈ t.l, y.key ≠ k) : ((getR t.l k).map (·.made)).getD i = i := by
  rw [getR_none h]
  rfl
theorem made_gap (hs : SR t.l) {j : Nat} (hj : j < t.l.length) (hg : ltT k t.l[j].key = true) (hn : ∀ y ∈ t.l.take j, y.key ≠ k) : ((getR t.l k).map (·.made)).getD i = i := by
  refine made_none fun y hy => ?_
  obtain ⟨p, hp, rfl⟩ := List.getElem_of_mem hy
  rcases Nat.lt_trichotomy p j with h | rfl | h
  · exact hn _ (by rw [List.mem_iff_getElem]; exact ⟨p, by rw [List.length_take]; omega, by rw [List.getElem_take]⟩)
  · intro e
    rw [e, ltT_irr] at hg
    cases hg
  · intro e
    have := ltT_trans hg (hs.get hp h)
    rw [e, ltT_irr] at this
    cases this
end
section
variable {m : Nat} {d : Ro} {node : Int} {id : ByteArray}
theorem RoOk.nd_same (h : RoOk m d) {x : Rw NdA} (hx : x ∈ d.n.l) : (x.key.toList == (keyO node noT).toList) = decide (x.val.node = node) := by
  obtain ⟨a, b⟩ := h.nr x hx
  rw [a]
  unfold NdA.key
  rw [keyO_same b.node, text_same.2 rfl, Bool.and_true]
theorem RoOk.nd_lt (h : RoOk m d) (hn : nodeB node = true) {x : Rw NdA} (hx : x ∈ d.n.l) : ltT (keyO node noT) x.key = decide (node < x.val.node) := by
  obtain ⟨a, b⟩ := h.nr x hx
  rw [a]
  unfold NdA.key
  rw [Bool.eq_iff_iff, keyO_lt hn b.node, decide_eq_true_eq, ltT_irr]
  simp
theorem lt_iff {n : Int} {y : ByteArray} {n2 : Int} {y2 : ByteArray} (h1 : nodeB n = true) (h2 : nodeB n2 = true) : ltT (keyO n y) (keyO n2 y2) = (decide (n < n2) || (decide (n = n2) && ltT y y2)) := by
  rw [Bool.eq_iff_iff, keyO_lt h1 h2, Bool.or_eq_true, Bool.and_eq_true, decide_eq_true_eq, decide_eq_true_eq]
theorem RoOk.sv_same (h : RoOk m d) {x : Rw SvA} (hx : x ∈ d.s.l) : (x.key.toList == (keyO node id).toList) = (decide (x.val.node = node) && (x.val.id.toList == id.toList)) := by
  obtain ⟨a, b, _⟩ := h.sr x hx
  rw [a]
  unfold SvA.key
  rw [keyO_same b.node]
theorem RoOk.sv_lt (h : RoOk m d) (hn : nodeB node = true) {x : Rw SvA} (hx : x ∈ d.s.l) : ltT (keyO node id) x.key = (decide (node < x.val.node) || (decide (node = x.val.node) && ltT id x.val.id)) := by
  obtain ⟨a, b, _⟩ := h.sr x hx
  rw [a]
  unfold SvA.key
  rw [lt_iff hn b.node]
theorem RoOk.ck_same (h : RoOk m d) {x : Rw CkA} (hx : x ∈ d.c.l) : (x.key.toList == (keyO node id).toList) = (decide (x.val.node = node) && (x.val.id.toList == id.toList)) := by
  obtain ⟨a, b, _⟩ := h.cr x hx
  rw [a]
  unfold CkA.key
  rw [keyO_same b.node]
theorem RoOk.ck_lt (h : RoOk m d) (hn : nodeB node = true) {x : Rw CkA} (hx : x ∈ d.c.l) : ltT (keyO node id) x.key = (decide (node < x.val.node) || (decide (node = x.val.node) && ltT id x.val.id)) := by
  obtain ⟨a, b, _⟩ := h.cr x hx
  rw [a]
  unfold CkA.key
  rw [lt_iff hn b.node]
end
end Go.Proofs.YtilkbfmaofmjoaaGreatDoor
