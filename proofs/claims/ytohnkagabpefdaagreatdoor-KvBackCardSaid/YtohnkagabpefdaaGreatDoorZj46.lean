/-
  What is told of entries, loaded, is the same, and goes on alike: the law sodalitylaw16.KvBack, walked.
-/
import Derived.Test.YtohnkagabpefdaaGreatDoorZj42
import Derived.Test.YtohnkagabpefdaaGreatDoorZj45
namespace Go.Proofs.YtohnkagabpefdaaGreatDoor
open Go.RowKit Go.Rel
set_option linter.unusedSimpArgs false
set_option linter.unusedVariables false

def bkE (Bx : Nat) (Bd : Nat) (Ad : Option Addr) (cd : Nat) (lst : Nat) (m : List En) : Nat → Value
  | 0 => .int .i64 0
  | 1 | 2 | 9 | 10 | 11 | 18 | 19 | 20 | 21 | 22 | 23 => .bool true
  | 3 | 12 => .pointer (some ⟨Bx, 0, none⟩)
  | 5 | 6 | 14 | 15 => .pointer (some ⟨Bd, 0, none⟩)
  | 7 => .pointer (some ⟨Bd, 1, none⟩)
  | 8 => .slice Ad m.length cd
  | 13 | 17 => .int .u64 (lst : Int)
  | 16 => .pointer (some ⟨Bd, 2, none⟩)
  | _ => undef
set_option maxHeartbeats 16000000 in
set_option maxRecDepth 100000 in
theorem back_walk (A : Option Addr) (n c : Nat) (ss : List KSt) (w : World) (hS : SK stCs 6 w A n ss) (hok : ∀ s ∈ ss, s.Ok) (hn : n ≤ maxLen) (hM : MaxIs w) :
    Calls Tryz.prog 6 #[.slice A n c] w fun e w' => e = .returned (.bool true) ∧ Below w.heap.size w w' := by
  unfold maxLen at hn
  have hn' : (n : Int) ≤ 9223372036854775807 := by omega
  obtain ⟨g0, hg0⟩ : ∃ g0, w.heap.size = g0 := ⟨_, rfl⟩
  have HN := Lib.hid (knew_any 64 w (by decide))
  rw [hg0] at HN ⊢
  have HNd : Hid (∀ w1, Calls Tryz.prog 8 #[.int .i64 64] w1 fun e w' => e = .returned (.pointer (some ⟨w1.heap.size, 0, none⟩)) ∧ KrAt (· = w1.heap.size) w' w1.heap.size ⟨mostT 64, [], 0⟩ ∧ Below w1.heap.size w1 w') := Lib.hid fun w1 => krnew_any 64 w1 (by decide)
  have HSS := Lib.hid hS
  have HSl := Lib.hid hS.1
  have HOk := Lib.hid hok
  have HM := Lib.hid hM
  have HG0 := Lib.hid hg0
  clear hS hok hn hg0 hM
  go_enter Tryz.func6, Tryz.ntmps6
  go_wp2_with fail
  refine HN.out.mono ?_
  rintro e w1 ⟨Bp0, Bt0, rfl, hp, hb1⟩
  have HP1 := Lib.hid hp
  have HB1 := Lib.hid hb1
  clear HN hp hb1
  go_wp2_with fail
  refine (HNd.out w1).mono ?_
  rintro e w2 ⟨rfl, hd, hb2⟩
  obtain ⟨Bd, hBd⟩ : ∃ Bd, w1.heap.size = Bd := ⟨_, rfl⟩
  rw [hBd] at hd ⊢
  have HBo := Lib.hid (both_new HM.out HG0.out HP1.out HB1.out hd hBd hb2)
  have HB2 : Hid (Below g0 w w2) := Lib.hid (HB1.out.trans (hb2.mono (by rw [← HG0.out]; have := HB1.out.size; exact this)))
  clear HNd hd hb2 hBd HP1 HB1
  go_wp2
  go_loopw [3, 5, 6] (fun kv av iv wr => ∃ (k : Nat) (t : Tb Kp) (Bp Bt : Nat), k ≤ n ∧ k ≤ 80 ∧ kv = .pointer (some ⟨Bp, 0, none⟩) ∧ av = .int .u64 (k : Int) ∧ iv = .int .i64 (k : Int) ∧ Hid (Both (fun k => g0 ≤ k) wr Bp Bt t Bd t) ∧ Hid (Below g0 w wr) ∧ Hid (UpOk t k) ∧ Hid (t.most = 64)) (fun _ _ iv _ => n - (intOf iv).toNat)
  case atStart => exact ⟨0, _, Bp0, Bt0, Nat.zero_le _, Nat.zero_le _, rfl, rfl, rfl, HBo, HB2, Lib.hid (fun _ h => by cases h), Lib.hid rfl⟩
  case round =>
    obtain ⟨k, t, Bp, Bt, hk, hk2, rfl, rfl, rfl, hbo, hb, HUp, HMo⟩ := hrel
    have hgw : g0 ≤ wr.heap.size := by have := hb.out.size; have := HG0.out; omega
    rcases (show (¬ k < n) ∨ (k < n ∧ ¬ k < 80) ∨ (k < n ∧ k < 80) by omega) with h1 | ⟨h1, h2⟩ | ⟨h1, h2⟩
    case inr.inr =>
      have hkl : k < ss.length := by rw [HSl.out]; exact h1
      have ht := HSS.out.below (w' := wr) (by rw [HG0.out]; exact hb.out)
      obtain ⟨b, off, rfl, hbl, hit⟩ := ht.at_ h1 hkl
      have hso := HOk.out ss[k] (List.getElem_mem _)
      obtain ⟨s, hs⟩ : ∃ s, ss[k] = s := ⟨_, rfl⟩
      rw [hs] at hit hso
      obtain ⟨c0, c1, c2, c3, c4, c5⟩ := st_cells hit
      obtain ⟨n1, hn1⟩ : ∃ n1, k + 1 = n1 := ⟨_, rfl⟩
      have HN1 := Lib.hid hn1
      obtain ⟨P, hP⟩ : ∃ P, wr.heap.size = P := ⟨_, rfl⟩
      obtain ⟨W3, hW3⟩ : ∃ W3, wr.alloc (.cells #[.int .i64 s.kind, .string s.key, .string s.val, .int .u64 (s.old : Int), .int .u64 (s.ses : Int), .int .u64 (n1 : Int)] TS) = W3 := ⟨_, rfl⟩
      have hb3 : Below wr.heap.size wr W3 := by rw [← hW3]; exact below1 _ _ _
      have k3 : W3.heap[P]? = some (.cells #[.int .i64 s.kind, .string s.key, .string s.val, .int .u64 (s.old : Int), .int .u64 (s.ses : Int), .int .u64 (n1 : Int)] TS (0, 0)) := by rw [← hW3, ← hP]; exact heap_alloc_new wr _
      have HK3 := Lib.hid k3
      have HB3 : Hid (Below g0 w W3) := Lib.hid (hb.out.trans (hb3.mono hgw))
      have HBo3 := Lib.hid (hbo.out.below hb3)
      have HSo : Hid (({ s with ix := n1 } : KSt).Ok) := Lib.hid ⟨hso.key, hso.val, hso.old, hso.ses, by show n1 < _; omega⟩
      obtain ⟨t', ht'⟩ : ∃ t', ({ s with ix := n1 } : KSt).after t = t' := ⟨_, rfl⟩
      have HTt := Lib.hid ht'
      have HUp' : Hid (UpOk t' n1) := Lib.hid (by rw [← ht']; exact HUp.out.after ({ s with ix := n1 } : KSt) (by show k ≤ n1; omega))
      have HMo' : Hid (t'.most = 64) := Lib.hid (by rw [← ht', after_most]; exact HMo.out)
      have HW3 := Lib.hid hW3
      have HP := Lib.hid hP
      have rw1 : IntKind.u64.wrap ((k : Int) + 1) = (n1 : Int) := by rw [← hn1]; simp [IntKind.wrap, IntKind.bits, IntKind.signed]; omega
      have q1 : (k : Int) < (n : Int) := by omega
      have q2 : (k : Int) < 80 := by omega
      have q0 : (0 : Int) ≤ (k : Int) := by omega
      clear ht hit hso hs ht' hkl hb3 hW3 hn1 hP k3
      by_cases h60 : k = 60
      · have q6 : ((k : Int) == 60) = true := by rw [h60]; rfl
        clear h60
        obtain ⟨Sp, hkp⟩ := HBo3.out.read
        have HLi := Lib.hid (klist_any ⟨#[]⟩ hkp (by decide))
        rw [und_all] at HLi
        have HLs := Lib.hid (fun (W : World) (hw : Below W3.heap.size W3 W) => klast_any (hkp.below hw))
        clear hkp
        go_wp2_with fail
        rw [HW3.out]
        refine HLi.out.mono ?_
        rintro e v1 ⟨A1, c1, rfl, s1, -, -, -, hb1⟩
        have HS1 := Lib.hid s1
        have HBv := Lib.hid hb1
        clear s1 hb1 HLi
        go_wp2_with fail
        refine (HLs.out v1 HBv.out).mono ?_
        rintro e v2 ⟨rfl, rfl⟩
        have HLd := Lib.hid (reload HBo3.out HMo.out HUp.out HS1.out HBv.out (c := c1))
        clear HLs
        go_wp2_with fail
        refine HLd.out.mono ?_
        rintro e v2 ⟨Bx, Bu, rfl, hbx, hb2⟩
        have HBx := Lib.hid hbx
        have HB2 : Hid (Below g0 w v2) := Lib.hid (HB3.out.trans ((step_trans HBv.out hb2).mono (by have := HB3.out.size; have := HG0.out; omega)))
        have HB12 := Lib.hid (step_trans HBv.out hb2)
        clear hbx hb2 HLd
        obtain ⟨d0, d1, d2, d3, d4, d5⟩ := Kt.blk ((HB12.out.block P (block_lt HK3.out)).trans HK3.out)
        rw [HP.out]
        have HSt := Lib.hid (step_any ({ s with ix := n1 } : KSt) v2 HBx.out HSo.out)
        unfold stV at HSt
        rw [HTt.out] at HSt
        go_wp2_with fail
        refine HSt.out.mono ?_
        rintro e w4 ⟨rfl, hb4, hbt⟩
        have HB4 : Hid (Below g0 w w4) := Lib.hid (HB2.out.trans (hbt.below (by have := HB2.out.size; have := HG0.out; omega) fun k hk hs => by omega))
        have HO4 := Lib.hid hb4
        clear HSt hb4 hbt
        go_wp2
        go_roundw
        case rel => exact ⟨n1, t', Bx, Bu, by rw [← HN1.out]; omega, by rw [← HN1.out]; omega, rfl, rfl, by rw [← HN1.out]; go_num, HO4, HB4, HUp', HMo'⟩
        case measure => simp [intOf]; omega
      · have q6 : ((k : Int) == 60) = false := by rw [beq_eq_false_iff_ne]; omega
        clear h60
        have HSt := Lib.hid (step_any ({ s with ix := n1 } : KSt) W3 HBo3.out HSo.out)
        unfold stV at HSt
        rw [HTt.out] at HSt
        go_wp2_with fail
        rw [HW3.out]
        refine HSt.out.mono ?_
        rintro e w4 ⟨rfl, hb4, hbt⟩
        have HB4 : Hid (Below g0 w w4) := Lib.hid (HB3.out.trans (hbt.below (by have := HB3.out.size; have := HG0.out; omega) fun k hk hs => by omega))
        have HO4 := Lib.hid hb4
        clear HSt hb4 hbt
        go_wp2
        go_roundw
        case rel => exact ⟨n1, t', Bp, Bt, by rw [← HN1.out]; omega, by rw [← HN1.out]; omega, rfl, rfl, by rw [← HN1.out]; go_num, HO4, HB4, HUp', HMo'⟩
        case measure => simp [intOf]; omega
    case inl =>
      have q1 : ¬ (k : Int) < (n : Int) := by omega
      have HBb : Hid (Below g0 w wr) := hb
      obtain ⟨Sp, hkp⟩ := hbo.out.read
      have HLi := Lib.hid (klist_any ⟨#[]⟩ hkp (by decide))
      rw [und_all] at HLi
      have HLs := Lib.hid (fun (W : World) (hw : Below wr.heap.size wr W) => klast_any (hkp.below hw))
      clear hkp
      go_wp2_with fail
      refine HLi.out.mono ?_
      rintro e v1 ⟨A1, c1, rfl, s1, -, -, -, hb1⟩
      have HS1 := Lib.hid s1
      have HBv := Lib.hid hb1
      clear s1 hb1 HLi
      go_wp2_with fail
      refine (HLs.out v1 HBv.out).mono ?_
      rintro e v2 ⟨rfl, rfl⟩
      have HLd := Lib.hid (reload hbo.out HMo.out HUp.out HS1.out HBv.out (c := c1))
      clear HLs
      go_wp2_with fail
      refine HLd.out.mono ?_
      rintro e v2 ⟨Bx, Bu, rfl, hbx, hb2⟩
      have HBx := Lib.hid hbx
      have HB2 : Hid (Below g0 w v2) := Lib.hid (HBb.out.trans ((step_trans HBv.out hb2).mono (by have := HBb.out.size; have := HG0.out; omega)))
      have HB12 := Lib.hid (step_trans HBv.out hb2)
      clear hbx hb2 HLd
      
      obtain ⟨Sd, Ad, cd, -, hri⟩ := HBx.out.ref
      obtain ⟨Sq, hkx⟩ := HBx.out.read
      have HRf := Lib.hid hri
      obtain ⟨m, hm⟩ : ∃ m, t.l = m := ⟨_, rfl⟩
      obtain ⟨lst, hlst⟩ : ∃ lst, t.last = lst := ⟨_, rfl⟩
      have HTm := Lib.hid hm
      have HLst := Lib.hid hlst
      have HMw := Lib.hid HBx.out.mx.1
      have HMl : Hid (m.length ≤ maxLen) := Lib.hid (by
        have h1 := hkx.ok.ok.len
        have h2 := hkx.ok.ok.most
        rw [← hm]
        unfold maxLen
        omega)
      have HCl : Hid (∀ w', Below v2.heap.size v2 w' → Calls Tryz.prog 14 #[.pointer (some ⟨Bx, 0, none⟩), .string ⟨#[]⟩] w' fun e w2 => ∃ A c, e = .returned (.slice A m.length c) ∧ SK enC 6 w2 A m.length m ∧ Below w'.heap.size w' w2) := Lib.hid fun w' hw => by
        refine (klist_any ⟨#[]⟩ (hkx.below hw) (by decide)).mono ?_
        rw [und_all, HTm.out]
        rintro e w2 ⟨A, c, e1, s1, _, _, _, b1⟩
        exact ⟨A, c, e1, s1, b1⟩
      have HLa : Hid (∀ w', Below v2.heap.size v2 w' → Calls Tryz.prog 12 #[.pointer (some ⟨Bx, 0, none⟩)] w' fun e w2 => e = .returned (.int .u64 (lst : Int)) ∧ w' = w2) := Lib.hid fun w' hw => by
        rw [← HLst.out]
        exact klast_any (hkx.below hw)
      clear hri hkx hm hlst
      go_wp2_with fail
      have hre : ∀ w : World, ((fun a b : World => Below a.heap.size a b)) w w := (fun w => Below.refl _ w)
      have hrd : ∀ (f : Nat → Bool) w i, i ≠ 4 → (fun (_ : Nat → Bool) (w : World) => Below v2.heap.size v2 w) f w → (fun (_ : Nat → Bool) (w : World) => Below v2.heap.size v2 w) (Go.Rel.upd f i) w := (fun _ _ _ _ h => h)
      refine Go.Rel.wp_tab (by kernel_rfl) (by kernel_rfl) (fun (_ : Nat → Bool) (w : World) => Below v2.heap.size v2 w) ((fun a b : World => Below a.heap.size a b)) hre ((fun _ _ _ h k => h.trans (k.mono h.size))) ((⟨rfl, rfl, rfl, Nat.le_refl _, fun _ _ => rfl⟩)) ⟨rfl, rfl, rfl, Nat.le_refl _, fun _ _ => rfl⟩ (bkE Bx Bd Ad cd lst m) (fun | 4, v, w => ∃ A c, v = .slice A m.length c ∧ SK enC 6 w A m.length m | _, _, _ => True) (fun i => ([4] : List Nat).contains i) (fun i => ([4, 8, 9, 13, 17, 18, 21] : List Nat).contains i) (by kernel_rfl) (fun i v w w' h g => by revert h; split <;> intro h <;> first | exact h | trivial | (obtain ⟨A, c, e, k⟩ := h; exact ⟨A, c, e, k.below g⟩)) 4 rfl hrd ?_ (Go.Rel.AllOf.get ?_) ?_
      · repeat (refine .cons (by first | exact Go.Rel.pure_sp rfl | exact Go.Rel.pure_yes (by kernel_rfl) (fun _ => by kernel_rfl) | exact Go.Rel.pure_no (by kernel_rfl) rfl) ?_)
        exact .nil
      · refine ⟨?_, ?_, ?_, ?_, ?_, ?_, ?_, trivial⟩
        · refine SpecOk.call 14 #[.pointer (some ⟨Bx, 0, none⟩), .string { data := #[] }] rfl (by kernel_rfl) (fun _ => by kernel_rfl) fun _ w' hI _ _ _ _ => ?_
          refine (HCl.out w' hI).mono ?_
          rintro e9 w9 ⟨A9, c9, rfl, s9, hb9⟩
          exact ⟨_, rfl, hb9, (hI.trans (hb9.mono hI.size)), ⟨A9, c9, rfl, s9⟩⟩
        · exact SpecOk.ld hrd hre (q := .pointer (some ⟨Bd, 1, none⟩)) (h := fun _ w' hI _ _ _ _ => by have hri := HRf.out.below hI; have c1 := hri.c1; rw [HTm.out] at c1; go_simp; rfl)
        · refine SpecOk.gen (fun e => [(62, e 4), (66, .slice Ad m.length cd)]) rfl rfl (fun _ => by kernel_rfl) fun f w' e hI hf hdesc hanc hle hX K hK => ?_
          obtain ⟨A3, c3, e3, s3⟩ := hX 4 rfl rfl
          have hri := HRf.out.below hI
          have s5 := hri.row
          rw [HTm.out] at s5
          go_simp
          refine (rsame_any A3 _ c3 m Ad cd w' s3 s5 HMl.out).mono ?_
          rintro e9 w9 ⟨rfl, hb9⟩
          exact hK _ _ hb9 (hI.trans (hb9.mono hI.size)) rfl
        · refine SpecOk.call 12 #[.pointer (some ⟨Bx, 0, none⟩)] rfl (by kernel_rfl) (fun _ => by kernel_rfl) fun _ w' hI _ _ _ _ => ?_
          refine (HLa.out w' hI).mono ?_
          rintro e9 w9 ⟨rfl, rfl⟩
          exact ⟨_, rfl, (Below.refl _ _), hI, rfl⟩
        · exact SpecOk.ld hrd hre (q := .pointer (some ⟨Bd, 2, none⟩)) (h := fun _ w' hI _ _ _ _ => by have hri := HRf.out.below hI; have c2 := hri.c2; rw [HLst.out] at c2; go_simp; rfl)
        · refine SpecOk.gen (fun e => [(71, .int .u64 (lst : Int)), (75, .int .u64 (lst : Int))]) rfl rfl (fun _ => by kernel_rfl) fun f w' e hI hf hdesc hanc hle hX K hK => ?_
          have heq : ((lst : Int) == (lst : Int)) = true := beq_self_eq_true _
          go_simp
          exact hK _ _ (hre _) (hrd f w' 18 (by decide) hI) rfl
        · refine SpecOk.call 15 #[] rfl (by kernel_rfl) (fun _ => by kernel_rfl) fun _ w' hI _ _ _ _ => ?_
          refine (works_any w' (HMw.out.keep hI)).mono ?_
          rintro e9 w9 ⟨rfl, hb9⟩
          exact ⟨_, rfl, hb9, (hI.trans (hb9.mono hI.size)), rfl⟩
      · intro f w6 e hall hJ hle hv
        have HB6 : Hid (Below g0 w w6) := Lib.hid (HB2.out.trans (hJ.mono (by have := HB2.out.size; have := HG0.out; omega)))
        have v9 := hv 23 rfl
        simp only [Go.Rel.finL, List.setIfInBounds_toArray, List.set_cons_succ, List.set_cons_zero]
        rw [show e 23 = .bool true from v9]
        clear hv hall hJ hle v9
        go_wp2
        go_ret
        exact ⟨rfl, HB6.out⟩
    case inr.inl =>
      have q1 : (k : Int) < (n : Int) := by omega
      have q2 : ¬ (k : Int) < 80 := by omega
      have HBb : Hid (Below g0 w wr) := hb
      obtain ⟨Sp, hkp⟩ := hbo.out.read
      have HLi := Lib.hid (klist_any ⟨#[]⟩ hkp (by decide))
      rw [und_all] at HLi
      have HLs := Lib.hid (fun (W : World) (hw : Below wr.heap.size wr W) => klast_any (hkp.below hw))
      clear hkp
      go_wp2_with fail
      refine HLi.out.mono ?_
      rintro e v1 ⟨A1, c1, rfl, s1, -, -, -, hb1⟩
      have HS1 := Lib.hid s1
      have HBv := Lib.hid hb1
      clear s1 hb1 HLi
      go_wp2_with fail
      refine (HLs.out v1 HBv.out).mono ?_
      rintro e v2 ⟨rfl, rfl⟩
      have HLd := Lib.hid (reload hbo.out HMo.out HUp.out HS1.out HBv.out (c := c1))
      clear HLs
      go_wp2_with fail
      refine HLd.out.mono ?_
      rintro e v2 ⟨Bx, Bu, rfl, hbx, hb2⟩
      have HBx := Lib.hid hbx
      have HB2 : Hid (Below g0 w v2) := Lib.hid (HBb.out.trans ((step_trans HBv.out hb2).mono (by have := HBb.out.size; have := HG0.out; omega)))
      have HB12 := Lib.hid (step_trans HBv.out hb2)
      clear hbx hb2 HLd
      
      obtain ⟨Sd, Ad, cd, -, hri⟩ := HBx.out.ref
      obtain ⟨Sq, hkx⟩ := HBx.out.read
      have HRf := Lib.hid hri
      obtain ⟨m, hm⟩ : ∃ m, t.l = m := ⟨_, rfl⟩
      obtain ⟨lst, hlst⟩ : ∃ lst, t.last = lst := ⟨_, rfl⟩
      have HTm := Lib.hid hm
      have HLst := Lib.hid hlst
      have HMw := Lib.hid HBx.out.mx.1
      have HMl : Hid (m.length ≤ maxLen) := Lib.hid (by
        have h1 := hkx.ok.ok.len
        have h2 := hkx.ok.ok.most
        rw [← hm]
        unfold maxLen
        omega)
      have HCl : Hid (∀ w', Below v2.heap.size v2 w' → Calls Tryz.prog 14 #[.pointer (some ⟨Bx, 0, none⟩), .string ⟨#[]⟩] w' fun e w2 => ∃ A c, e = .returned (.slice A m.length c) ∧ SK enC 6 w2 A m.length m ∧ Below w'.heap.size w' w2) := Lib.hid fun w' hw => by
        refine (klist_any ⟨#[]⟩ (hkx.below hw) (by decide)).mono ?_
        rw [und_all, HTm.out]
        rintro e w2 ⟨A, c, e1, s1, _, _, _, b1⟩
        exact ⟨A, c, e1, s1, b1⟩
      have HLa : Hid (∀ w', Below v2.heap.size v2 w' → Calls Tryz.prog 12 #[.pointer (some ⟨Bx, 0, none⟩)] w' fun e w2 => e = .returned (.int .u64 (lst : Int)) ∧ w' = w2) := Lib.hid fun w' hw => by
        rw [← HLst.out]
        exact klast_any (hkx.below hw)
      clear hri hkx hm hlst
      go_wp2_with fail
      have hre : ∀ w : World, ((fun a b : World => Below a.heap.size a b)) w w := (fun w => Below.refl _ w)
      have hrd : ∀ (f : Nat → Bool) w i, i ≠ 4 → (fun (_ : Nat → Bool) (w : World) => Below v2.heap.size v2 w) f w → (fun (_ : Nat → Bool) (w : World) => Below v2.heap.size v2 w) (Go.Rel.upd f i) w := (fun _ _ _ _ h => h)
      refine Go.Rel.wp_tab (by kernel_rfl) (by kernel_rfl) (fun (_ : Nat → Bool) (w : World) => Below v2.heap.size v2 w) ((fun a b : World => Below a.heap.size a b)) hre ((fun _ _ _ h k => h.trans (k.mono h.size))) ((⟨rfl, rfl, rfl, Nat.le_refl _, fun _ _ => rfl⟩)) ⟨rfl, rfl, rfl, Nat.le_refl _, fun _ _ => rfl⟩ (bkE Bx Bd Ad cd lst m) (fun | 4, v, w => ∃ A c, v = .slice A m.length c ∧ SK enC 6 w A m.length m | _, _, _ => True) (fun i => ([4] : List Nat).contains i) (fun i => ([4, 8, 9, 13, 17, 18, 21] : List Nat).contains i) (by kernel_rfl) (fun i v w w' h g => by revert h; split <;> intro h <;> first | exact h | trivial | (obtain ⟨A, c, e, k⟩ := h; exact ⟨A, c, e, k.below g⟩)) 4 rfl hrd ?_ (Go.Rel.AllOf.get ?_) ?_
      · repeat (refine .cons (by first | exact Go.Rel.pure_sp rfl | exact Go.Rel.pure_yes (by kernel_rfl) (fun _ => by kernel_rfl) | exact Go.Rel.pure_no (by kernel_rfl) rfl) ?_)
        exact .nil
      · refine ⟨?_, ?_, ?_, ?_, ?_, ?_, ?_, trivial⟩
        · refine SpecOk.call 14 #[.pointer (some ⟨Bx, 0, none⟩), .string { data := #[] }] rfl (by kernel_rfl) (fun _ => by kernel_rfl) fun _ w' hI _ _ _ _ => ?_
          refine (HCl.out w' hI).mono ?_
          rintro e9 w9 ⟨A9, c9, rfl, s9, hb9⟩
          exact ⟨_, rfl, hb9, (hI.trans (hb9.mono hI.size)), ⟨A9, c9, rfl, s9⟩⟩
        · exact SpecOk.ld hrd hre (q := .pointer (some ⟨Bd, 1, none⟩)) (h := fun _ w' hI _ _ _ _ => by have hri := HRf.out.below hI; have c1 := hri.c1; rw [HTm.out] at c1; go_simp; rfl)
        · refine SpecOk.gen (fun e => [(62, e 4), (66, .slice Ad m.length cd)]) rfl rfl (fun _ => by kernel_rfl) fun f w' e hI hf hdesc hanc hle hX K hK => ?_
          obtain ⟨A3, c3, e3, s3⟩ := hX 4 rfl rfl
          have hri := HRf.out.below hI
          have s5 := hri.row
          rw [HTm.out] at s5
          go_simp
          refine (rsame_any A3 _ c3 m Ad cd w' s3 s5 HMl.out).mono ?_
          rintro e9 w9 ⟨rfl, hb9⟩
          exact hK _ _ hb9 (hI.trans (hb9.mono hI.size)) rfl
        · refine SpecOk.call 12 #[.pointer (some ⟨Bx, 0, none⟩)] rfl (by kernel_rfl) (fun _ => by kernel_rfl) fun _ w' hI _ _ _ _ => ?_
          refine (HLa.out w' hI).mono ?_
          rintro e9 w9 ⟨rfl, rfl⟩
          exact ⟨_, rfl, (Below.refl _ _), hI, rfl⟩
        · exact SpecOk.ld hrd hre (q := .pointer (some ⟨Bd, 2, none⟩)) (h := fun _ w' hI _ _ _ _ => by have hri := HRf.out.below hI; have c2 := hri.c2; rw [HLst.out] at c2; go_simp; rfl)
        · refine SpecOk.gen (fun e => [(71, .int .u64 (lst : Int)), (75, .int .u64 (lst : Int))]) rfl rfl (fun _ => by kernel_rfl) fun f w' e hI hf hdesc hanc hle hX K hK => ?_
          have heq : ((lst : Int) == (lst : Int)) = true := beq_self_eq_true _
          go_simp
          exact hK _ _ (hre _) (hrd f w' 18 (by decide) hI) rfl
        · refine SpecOk.call 15 #[] rfl (by kernel_rfl) (fun _ => by kernel_rfl) fun _ w' hI _ _ _ _ => ?_
          refine (works_any w' (HMw.out.keep hI)).mono ?_
          rintro e9 w9 ⟨rfl, hb9⟩
          exact ⟨_, rfl, hb9, (hI.trans (hb9.mono hI.size)), rfl⟩
      · intro f w6 e hall hJ hle hv
        have HB6 : Hid (Below g0 w w6) := Lib.hid (HB2.out.trans (hJ.mono (by have := HB2.out.size; have := HG0.out; omega)))
        have v9 := hv 23 rfl
        simp only [Go.Rel.finL, List.setIfInBounds_toArray, List.set_cons_succ, List.set_cons_zero]
        rw [show e 23 = .bool true from v9]
        clear hv hall hJ hle v9
        go_wp2
        go_ret
        exact ⟨rfl, HB6.out⟩
end Go.Proofs.YtohnkagabpefdaaGreatDoor
