/-
  Whatever is set, compared, let go, held and freed, the entries are what the document says: the law sodalitylaw16.KvPlays, walked.
-/
import Derived.Test.YtohnkagabpefdaaGreatDoorZj41
namespace Go.Proofs.YtohnkagabpefdaaGreatDoor
open Go.RowKit Go.Rel
set_option linter.unusedSimpArgs false
set_option linter.unusedVariables false

def plE (Bp : Nat) (Bd : Nat) (Y1 : Nat) (Y2 : Nat) (bb : Bool) (r : En) (lst : Nat) : Nat → Value
  | 0 | 1 => .agg #[.string r.key, .string r.val.v, .int .u64 (r.val.ses : Int), .int .u64 (r.val.lck : Int), .int .u64 (r.made : Int), .int .u64 (r.ix : Int)]
  | 2 | 3 | 6 | 7 | 8 | 15 | 16 => .bool false
  | 4 | 5 => .bool bb
  | 9 => .pointer (some ⟨Bp, 0, none⟩)
  | 10 | 14 => .int .u64 (lst : Int)
  | 11 | 12 => .pointer (some ⟨Bd, 0, none⟩)
  | 13 => .pointer (some ⟨Bd, 2, none⟩)
  | _ => undef
def plF (Bp : Nat) (Bd : Nat) (Ad : Option Addr) (cd : Nat) (m : List En) : Nat → Value
  | 0 => .pointer (some ⟨Bp, 0, none⟩)
  | 2 | 3 => .pointer (some ⟨Bd, 0, none⟩)
  | 4 => .pointer (some ⟨Bd, 1, none⟩)
  | 5 => .slice Ad m.length cd
  | 6 | 7 | 8 | 9 | 10 => .bool true
  | _ => undef
theorem st_cells {w : World} {b o : Nat} {s : KSt} (h : ItAt stCs w b o s) : w.cell? ⟨b, o, none⟩ = some (.int .i64 s.kind) ∧ w.cell? ⟨b, o + 1, none⟩ = some (.string s.key) ∧ w.cell? ⟨b, o + 2, none⟩ = some (.string s.val) ∧ w.cell? ⟨b, o + 3, none⟩ = some (.int .u64 (s.old : Int)) ∧ w.cell? ⟨b, o + 4, none⟩ = some (.int .u64 (s.ses : Int)) ∧ w.cell? ⟨b, o + 5, none⟩ = some (.int .u64 (s.ix : Int)) :=
  ⟨h 0 _ rfl, h 1 _ rfl, h 2 _ rfl, h 3 _ rfl, h 4 _ rfl, h 5 _ rfl⟩
/-- Both stores, new. -/
theorem both_new {w w1 w2 : World} {g0 Bp Bt Bd m : Nat} (hM : MaxIs w) (hg : w.heap.size = g0) (hp : KvAt (fun k => g0 ≤ k) w1 Bp Bt ⟨m, [], 0⟩) (hb1 : Below g0 w w1) (hd : KrAt (· = Bd) w2 Bd ⟨m, [], 0⟩) (hBd : w1.heap.size = Bd) (hb2 : Below w1.heap.size w1 w2) :
    Both (fun k => g0 ≤ k) w2 Bp Bt ⟨m, [], 0⟩ Bd ⟨m, [], 0⟩ := by
  have h1 := hb1.size
  have h2 := hb2.size
  have h3 : Bd < w2.heap.size := by obtain ⟨_, A, c, q⟩ := hd; exact q.lt
  refine ⟨fun k => g0 ≤ k ∧ k < Bd, (· = Bd), (hp.narrow fun k hk hs => ⟨hs, by omega⟩).below hb2, hd, fun k hk => ⟨hk.1, by omega, by omega⟩, fun k hk => ⟨by omega, by omega⟩, fun k hk => by omega, (hM.keep (hg ▸ hb1)).keep hb2, fun z => ?_⟩
  have := hM.lt
  omega
set_option maxHeartbeats 8000000 in
set_option maxRecDepth 100000 in
theorem plays_walk (m : Int) (hm : -9223372036854775808 ≤ m ∧ m ≤ 9223372036854775807) (A : Option Addr) (n c : Nat) (ss : List KSt) (w : World) (hS : SK stCs 6 w A n ss) (hok : ∀ s ∈ ss, s.Ok) (hn : n ≤ maxLen) (hM : MaxIs w) :
    Calls Tryz.prog 3 #[.int .i64 m, .slice A n c] w fun e w' => e = .returned (.bool true) ∧ Below w.heap.size w w' := by
  unfold maxLen at hn
  have hn' : (n : Int) ≤ 9223372036854775807 := by omega
  obtain ⟨g0, hg0⟩ : ∃ g0, w.heap.size = g0 := ⟨_, rfl⟩
  have HN := Lib.hid (knew_any m w hm)
  rw [hg0] at HN ⊢
  have HNd : Hid (∀ w1, Calls Tryz.prog 8 #[.int .i64 m] w1 fun e w' => e = .returned (.pointer (some ⟨w1.heap.size, 0, none⟩)) ∧ KrAt (· = w1.heap.size) w' w1.heap.size ⟨mostT m, [], 0⟩ ∧ Below w1.heap.size w1 w') := Lib.hid fun w1 => krnew_any m w1 hm
  have HSS := Lib.hid hS
  have HSl := Lib.hid hS.1
  have HOk := Lib.hid hok
  have HM := Lib.hid hM
  have HG0 := Lib.hid hg0
  clear hm hS hok hn hg0 hM
  go_enter Tryz.func3, Tryz.ntmps3
  go_wp2_with fail
  refine HN.out.mono ?_
  rintro e w1 ⟨Bp, Bt, rfl, hp, hb1⟩
  have HP1 := Lib.hid hp
  have HB1 := Lib.hid hb1
  clear HN hp hb1
  go_wp2_with fail
  refine (HNd.out w1).mono ?_
  rintro e w2 ⟨rfl, hd, hb2⟩
  obtain ⟨Bd, hBd⟩ : ∃ Bd, w1.heap.size = Bd := ⟨_, rfl⟩
  rw [hBd] at hd ⊢
  have HBo := Lib.hid (both_new HM.out HG0.out HP1.out HB1.out hd hBd hb2)
  have HB2 : Hid (Below g0 w w2) := Lib.hid (HB1.out.trans (hb2.mono (by rw [← HG0.out]; have := HB1.out.size; exact this)))
  clear HNd hd hb2 hBd HP1 HB1
  go_wp2
  go_loopw [7] (fun iv wr => ∃ (k : Nat) (t : Tb Kp), k ≤ n ∧ iv = .int .i64 (k : Int) ∧ Hid (Both (fun k => g0 ≤ k) wr Bp Bt t Bd t) ∧ Hid (Below g0 w wr)) (fun iv _ => n - (intOf iv).toNat)
  case atStart => exact ⟨0, _, Nat.zero_le _, rfl, HBo, HB2⟩
  case round =>
    obtain ⟨k, t, hk, rfl, hbo, hb⟩ := hrel
    by_cases hlt : k < n ∧ k < 100
    · obtain ⟨h1, h2⟩ := hlt
      have hkl : k < ss.length := by rw [HSl.out]; exact h1
      have ht := HSS.out.below (w' := wr) (by rw [HG0.out]; exact hb.out)
      obtain ⟨b, off, rfl, hbl, hit⟩ := ht.at_ h1 hkl
      have hso := HOk.out ss[k] (List.getElem_mem _)
      obtain ⟨s, hs⟩ : ∃ s, ss[k] = s := ⟨_, rfl⟩
      rw [hs] at hit hso
      have HK := Lib.hid (show ∀ wx, Below g0 w wx → ItAt stCs wx b (off + k * 6) s from fun wx hx => by
        obtain ⟨b', off', e, _, h2⟩ := (HSS.out.below (w' := wx) (by rw [HG0.out]; exact hx)).at_ h1 hkl
        cases e
        rw [hs] at h2
        exact h2)
      obtain ⟨c0, c1, c2, c3, c4, c5⟩ := st_cells hit
      have HSt := Lib.hid (step_any s wr hbo.out hso)
      unfold stV at HSt
      obtain ⟨t', ht'⟩ : ∃ t', s.after t = t' := ⟨_, rfl⟩
      rw [ht'] at HSt
      have HKy := Lib.hid hso.key
      have q1 : (k : Int) < (n : Int) := by omega
      have q2 : (k : Int) < 100 := by omega
      have q0 : (0 : Int) ≤ (k : Int) := by omega
      clear ht hit hso hs ht' hkl
      go_wp2_with fail
      refine HSt.out.mono ?_
      rintro e w3 ⟨rfl, hb3, hbt⟩
      have hz3 : g0 ≤ wr.heap.size := by have := hb.out.size; have := HG0.out; omega
      have HB3 : Hid (Below g0 w w3) := Lib.hid (hb.out.trans (hbt.below hz3 fun k hk hs => by omega))
      obtain ⟨Sp, hkp⟩ := hb3.read
      obtain ⟨Sd, Ad, cd, hok', hkr⟩ := hb3.ref
      obtain ⟨r, hr⟩ : ∃ r, entO t' s.key = r := ⟨_, rfl⟩
      obtain ⟨bb, hbb⟩ : ∃ bb, isO t' s.key = bb := ⟨_, rfl⟩
      have HG := Lib.hid (kget_any s.key hkp)
      have HGd : Hid (∀ wx, Below w3.heap.size w3 wx → Calls Tryz.prog 11 #[.pointer (some ⟨Bd, 0, none⟩), .string s.key] wx fun e w' => e = .returned (.tuple #[enV r, .bool bb]) ∧ Below wx.heap.size wx w') := Lib.hid fun wx hx => by
        rw [← hr, ← hbb]
        exact (hkr.below hx).entO s.key
      rw [hr, hbb] at HG
      obtain ⟨lst, hlst⟩ : ∃ lst, t'.last = lst := ⟨_, rfl⟩
      have HLst := Lib.hid hlst
      have HLa3 : Hid (∀ w', Below w3.heap.size w3 w' → Calls Tryz.prog 12 #[.pointer (some ⟨Bp, 0, none⟩)] w' fun e w2 => e = .returned (.int .u64 (lst : Int)) ∧ w' = w2) := Lib.hid fun w' hw => by
        rw [← hlst]
        exact klast_any (hkp.below hw)
      have HR3 := Lib.hid hkr
      have HO3 := Lib.hid hb3
      have hg3 : g0 ≤ w3.heap.size := by rw [← HG0.out]; have := HB3.out.size; exact this
      obtain ⟨c0', c1', c2', c3', c4', c5'⟩ := st_cells (HK.out w3 HB3.out)
      unfold enV Kt.trV at HG HGd
      clear HSt hb3 hbt hr hbb hkp hkr hok' hlst c0 c1 c2 c3 c4 c5 c0' c2' c3' c4' c5'
      go_wp2_with fail
      refine HG.out.mono ?_
      rintro e w4 ⟨rfl, hb4⟩
      obtain ⟨Y1, hY1⟩ : ∃ Y1, w4.heap.size = Y1 := ⟨_, rfl⟩
      obtain ⟨W4, hW4⟩ : ∃ W4, w4.alloc (.cells #[.string r.key, .string r.val.v, .int .u64 (r.val.ses : Int), .int .u64 (r.val.lck : Int), .int .u64 (r.made : Int), .int .u64 (r.ix : Int)] TEn) = W4 := ⟨_, rfl⟩
      have hb34 : Below w3.heap.size w3 W4 := by rw [← hW4]; exact hb4.alloc hb4.size _
      have ky1 : W4.heap[Y1]? = some (.cells #[.string r.key, .string r.val.v, .int .u64 (r.val.ses : Int), .int .u64 (r.val.lck : Int), .int .u64 (r.made : Int), .int .u64 (r.ix : Int)] TEn (0, 0)) := by rw [← hW4, ← hY1]; exact heap_alloc_new w4 _
      have HB34 := Lib.hid hb34
      have HKy1 := Lib.hid ky1
      have HW4 := Lib.hid hW4
      have HY1' := Lib.hid hY1
      obtain ⟨-, c1', -, -, -, -⟩ := st_cells (HK.out W4 (HB3.out.trans (hb34.mono hg3)))
      rw [← hW4] at c1'
      clear hb4 hY1 hW4 hb34 ky1 HG
      go_wp2_with fail
      rw [HW4.out, HY1'.out]
      try go_wp2_with fail
      refine (HGd.out W4 HB34.out).mono ?_
      rintro e w5 ⟨rfl, hb5⟩
      obtain ⟨Y2, hY2⟩ : ∃ Y2, w5.heap.size = Y2 := ⟨_, rfl⟩
      obtain ⟨W5, hW5⟩ : ∃ W5, w5.alloc (.cells #[.string r.key, .string r.val.v, .int .u64 (r.val.ses : Int), .int .u64 (r.val.lck : Int), .int .u64 (r.made : Int), .int .u64 (r.ix : Int)] TEn) = W5 := ⟨_, rfl⟩
      have hb45 : Below W4.heap.size W4 W5 := by rw [← hW5]; exact hb5.alloc hb5.size _
      have HY2 : Hid (W5.heap[Y2]? = some (.cells #[.string r.key, .string r.val.v, .int .u64 (r.val.ses : Int), .int .u64 (r.val.lck : Int), .int .u64 (r.made : Int), .int .u64 (r.ix : Int)] TEn (0, 0))) := Lib.hid (by rw [← hW5, ← hY2]; exact heap_alloc_new w5 _)
      have HY1 := Lib.hid ((hb45.block Y1 (block_lt HKy1.out)).trans HKy1.out)
      have hb35 : Below w3.heap.size w3 W5 := HB34.out.trans (hb45.mono HB34.out.size)
      have HB35 := Lib.hid hb35
      have HRf := Lib.hid (HR3.out.below hb35)
      have HLa : Hid (∀ w', Below W5.heap.size W5 w' → Calls Tryz.prog 12 #[.pointer (some ⟨Bp, 0, none⟩)] w' fun e w2 => e = .returned (.int .u64 (lst : Int)) ∧ w' = w2) := Lib.hid fun w' hw => HLa3.out w' (HB35.out.trans (hw.mono HB35.out.size))
      have HEq : Hid (∀ w, (Op.equalIn 10000 TEn (.agg #[.string r.key, .string r.val.v, .int .u64 (r.val.ses : Int), .int .u64 (r.val.lck : Int), .int .u64 (r.made : Int), .int .u64 (r.ix : Int)]) (.agg #[.string r.key, .string r.val.v, .int .u64 (r.val.ses : Int), .int .u64 (r.val.lck : Int), .int .u64 (r.made : Int), .int .u64 (r.ix : Int)])).run Tryz.prog w = .ok true w) := Lib.hid fun w => by
        have := en_eq r r w
        rw [(eqE_iff r r).2 rfl] at this
        exact this
      have HW5 := Lib.hid hW5
      have HY2' := Lib.hid hY2
      clear hb5 hY2 hW5 hb45 hb35 HGd HLa3 c1'
      go_wp2_with fail
      rw [HW5.out, HY2'.out]
      try go_wp2_with fail
      have hre : ∀ w : World, ((fun a b : World => Below a.heap.size a b)) w w := (fun w => Below.refl _ w)
      have hrd : ∀ (f : Nat → Bool) w i, i ≠ 10 → (fun (_ : Nat → Bool) (w : World) => Below W5.heap.size W5 w) f w → (fun (_ : Nat → Bool) (w : World) => Below W5.heap.size W5 w) (Go.Rel.upd f i) w := (fun _ _ _ _ h => h)
      refine Go.Rel.wp_tab (by kernel_rfl) (by kernel_rfl) (fun (_ : Nat → Bool) (w : World) => Below W5.heap.size W5 w) ((fun a b : World => Below a.heap.size a b)) hre ((fun _ _ _ h k => h.trans (k.mono h.size))) ((⟨rfl, rfl, rfl, Nat.le_refl _, fun _ _ => rfl⟩)) ⟨rfl, rfl, rfl, Nat.le_refl _, fun _ _ => rfl⟩ (plE Bp Bd Y1 Y2 bb r lst) (fun _ _ _ => True) (fun i => ([] : List Nat).contains i) (fun i => ([0, 1, 2, 6, 10, 14, 15] : List Nat).contains i) (by kernel_rfl) (fun _ _ _ _ h _ => h) 10 rfl hrd ?_ (Go.Rel.AllOf.get ?_) ?_
      · repeat (refine .cons (by first | exact Go.Rel.pure_sp rfl | exact Go.Rel.pure_yes (by kernel_rfl) (fun _ => by kernel_rfl) | exact Go.Rel.pure_no (by kernel_rfl) rfl) ?_)
        exact .nil
      · refine ⟨?_, ?_, ?_, ?_, ?_, ?_, ?_, trivial⟩
        · exact SpecOk.ld hrd hre (q := .pointer (some ⟨Y1, 0, none⟩)) (h := fun _ w' hI _ _ _ _ => by obtain ⟨f0, f1, f2, f3, f4, f5⟩ := Kt.blk ((hI.block Y1 (block_lt HY1.out)).trans HY1.out); go_simp; rfl)
        · exact SpecOk.ld hrd hre (q := .pointer (some ⟨Y2, 0, none⟩)) (h := fun _ w' hI _ _ _ _ => by obtain ⟨f0, f1, f2, f3, f4, f5⟩ := Kt.blk ((hI.block Y2 (block_lt HY2.out)).trans HY2.out); go_simp; rfl)
        · refine SpecOk.gen (fun e => [(54, .agg #[.string r.key, .string r.val.v, .int .u64 (r.val.ses : Int), .int .u64 (r.val.lck : Int), .int .u64 (r.made : Int), .int .u64 (r.ix : Int)]), (55, .agg #[.string r.key, .string r.val.v, .int .u64 (r.val.ses : Int), .int .u64 (r.val.lck : Int), .int .u64 (r.made : Int), .int .u64 (r.ix : Int)])]) rfl rfl (fun _ => by kernel_rfl) fun f w' e hI hf hdesc hanc hle hX K hK => ?_
          have ue := HEq.out
          have ug := en_guard
          go_simp
          exact hK _ _ (hre _) (hrd f w' 2 (by decide) hI) rfl
        · refine SpecOk.gen (fun e => [(58, .bool bb), (59, .bool bb)]) rfl rfl (fun _ => by kernel_rfl) fun f w' e hI hf hdesc hanc hle hX K hK => ?_
          have hb : (bb != bb) = false := by simp
          go_simp
          exact hK _ _ (hre _) (hrd f w' 6 (by decide) hI) rfl
        · refine SpecOk.call 12 #[.pointer (some ⟨Bp, 0, none⟩)] rfl (by kernel_rfl) (fun _ => by kernel_rfl) fun _ w' hI _ _ _ _ => ?_
          refine (HLa.out w' hI).mono ?_
          rintro e9 w9 ⟨rfl, rfl⟩
          exact ⟨_, rfl, (Below.refl _ _), hI, rfl⟩
        · exact SpecOk.ld hrd hre (q := .pointer (some ⟨Bd, 2, none⟩)) (h := fun _ w' hI _ _ _ _ => by have hri := HRf.out.below hI; have c2 := hri.c2; rw [HLst.out] at c2; go_simp; rfl)
        · refine SpecOk.gen (fun e => [(64, .int .u64 (lst : Int)), (68, .int .u64 (lst : Int))]) rfl rfl (fun _ => by kernel_rfl) fun f w' e hI hf hdesc hanc hle hX K hK => ?_
          have hq : ((lst : Int) != (lst : Int)) = false := by simp
          go_simp
          exact hK _ _ (hre _) (hrd f w' 15 (by decide) hI) rfl
      · intro f w6 e hall hJ hle hv
        have hb36 : Below w3.heap.size w3 w6 := HB35.out.trans (hJ.mono HB35.out.size)
        have HO6 := Lib.hid (HO3.out.below hb36)
        have HB6 : Hid (Below g0 w w6) := Lib.hid (HB3.out.trans (hb36.mono hg3))
        have v9 := hv 16 rfl
        simp only [Go.Rel.finL, List.setIfInBounds_toArray, List.set_cons_succ, List.set_cons_zero]
        rw [show e 16 = .bool false from v9]
        clear hv hall hJ hle v9 hb36
        go_wp2
        go_roundw
        case rel => exact ⟨k + 1, t', by omega, by go_num, HO6, HB6⟩
        case measure => simp [intOf]; omega
    · have q : ¬ ((k : Int) < (n : Int) ∧ (k : Int) < 100) := by omega
      obtain ⟨Sd, Ad, cd, -, hri⟩ := hbo.out.ref
      obtain ⟨Sp, hkp⟩ := hbo.out.read
      have HRf := Lib.hid hri
      obtain ⟨m, hm⟩ : ∃ m, t.l = m := ⟨_, rfl⟩
      have HTm := Lib.hid hm
      have HMw := Lib.hid hbo.out.mx.1
      have HMl : Hid (m.length ≤ maxLen) := Lib.hid (by
        have h1 := hkp.ok.ok.len
        have h2 := hkp.ok.ok.most
        rw [← hm]
        unfold maxLen
        omega)
      have HCl : Hid (∀ w', Below wr.heap.size wr w' → Calls Tryz.prog 14 #[.pointer (some ⟨Bp, 0, none⟩), .string ⟨#[]⟩] w' fun e w2 => ∃ A c, e = .returned (.slice A m.length c) ∧ SK enC 6 w2 A m.length m ∧ Below w'.heap.size w' w2) := Lib.hid fun w' hw => by
        refine (klist_any ⟨#[]⟩ (hkp.below hw) (by decide)).mono ?_
        rw [und_all, HTm.out]
        rintro e w2 ⟨A, c, e1, s1, _, _, _, b1⟩
        exact ⟨A, c, e1, s1, b1⟩
      clear hri hkp hm
      have done : ∀ w6, Below wr.heap.size wr w6 → Below g0 w w6 := fun w6 hJ => hb.out.trans (hJ.mono (by have := hb.out.size; have := HG0.out; omega))
      have HDone := Lib.hid done
      clear done
      rcases (show (¬ k < n) ∨ (k < n ∧ ¬ k < 100) by omega) with h1 | ⟨h1, h2⟩
      · have q1 : ¬ (k : Int) < (n : Int) := by omega
        clear q
        go_wp2
        have hre : ∀ w : World, ((fun a b : World => Below a.heap.size a b)) w w := (fun w => Below.refl _ w)
        have hrd : ∀ (f : Nat → Bool) w i, i ≠ 1 → (fun (_ : Nat → Bool) (w : World) => Below wr.heap.size wr w) f w → (fun (_ : Nat → Bool) (w : World) => Below wr.heap.size wr w) (Go.Rel.upd f i) w := (fun _ _ _ _ h => h)
        refine Go.Rel.wp_tab (by kernel_rfl) (by kernel_rfl) (fun (_ : Nat → Bool) (w : World) => Below wr.heap.size wr w) ((fun a b : World => Below a.heap.size a b)) hre ((fun _ _ _ h k => h.trans (k.mono h.size))) ((⟨rfl, rfl, rfl, Nat.le_refl _, fun _ _ => rfl⟩)) ⟨rfl, rfl, rfl, Nat.le_refl _, fun _ _ => rfl⟩ (plF Bp Bd Ad cd m) (fun | 1, v, w => ∃ A c, v = .slice A m.length c ∧ SK enC 6 w A m.length m | _, _, _ => True) (fun i => ([1] : List Nat).contains i) (fun i => ([1, 5, 6, 8] : List Nat).contains i) (by kernel_rfl) (fun i v w w' h g => by revert h; split <;> intro h <;> first | exact h | trivial | (obtain ⟨A, c, e, k⟩ := h; exact ⟨A, c, e, k.below g⟩)) 1 rfl hrd ?_ (Go.Rel.AllOf.get ?_) ?_
        · repeat (refine .cons (by first | exact Go.Rel.pure_sp rfl | exact Go.Rel.pure_yes (by kernel_rfl) (fun _ => by kernel_rfl) | exact Go.Rel.pure_no (by kernel_rfl) rfl) ?_)
          exact .nil
        · refine ⟨?_, ?_, ?_, ?_, trivial⟩
          · refine SpecOk.call 14 #[.pointer (some ⟨Bp, 0, none⟩), .string { data := #[] }] rfl (by kernel_rfl) (fun _ => by kernel_rfl) fun _ w' hI _ _ _ _ => ?_
            refine (HCl.out w' hI).mono ?_
            rintro e9 w9 ⟨A9, c9, rfl, s9, hb9⟩
            exact ⟨_, rfl, hb9, (hI.trans (hb9.mono hI.size)), ⟨A9, c9, rfl, s9⟩⟩
          · exact SpecOk.ld hrd hre (q := .pointer (some ⟨Bd, 1, none⟩)) (h := fun _ w' hI _ _ _ _ => by have hri := HRf.out.below hI; have c1 := hri.c1; rw [HTm.out] at c1; go_simp; rfl)
          · refine SpecOk.gen (fun e => [(72, e 1), (76, .slice Ad m.length cd)]) rfl rfl (fun _ => by kernel_rfl) fun f w' e hI hf hdesc hanc hle hX K hK => ?_
            obtain ⟨A3, c3, e3, s3⟩ := hX 1 rfl rfl
            have hri := HRf.out.below hI
            have s5 := hri.row
            rw [HTm.out] at s5
            go_simp
            refine (rsame_any A3 _ c3 m Ad cd w' s3 s5 HMl.out).mono ?_
            rintro e9 w9 ⟨rfl, hb9⟩
            exact hK _ _ hb9 (hI.trans (hb9.mono hI.size)) rfl
          · refine SpecOk.call 15 #[] rfl (by kernel_rfl) (fun _ => by kernel_rfl) fun _ w' hI _ _ _ _ => ?_
            refine (works_any w' (HMw.out.keep hI)).mono ?_
            rintro e9 w9 ⟨rfl, hb9⟩
            exact ⟨_, rfl, hb9, (hI.trans (hb9.mono hI.size)), rfl⟩
        · intro f w6 e hall hJ hle hv
          have HB6 := Lib.hid (HDone.out w6 hJ)
          have v9 := hv 10 rfl
          simp only [Go.Rel.finL, List.setIfInBounds_toArray, List.set_cons_succ, List.set_cons_zero]
          rw [show e 10 = .bool true from v9]
          clear hv hall hJ hle v9
          go_wp2
          go_ret
          exact ⟨rfl, HB6.out⟩
      · have q1 : (k : Int) < (n : Int) := by omega
        have q2 : ¬ (k : Int) < 100 := by omega
        clear q
        go_wp2
        have hre : ∀ w : World, ((fun a b : World => Below a.heap.size a b)) w w := (fun w => Below.refl _ w)
        have hrd : ∀ (f : Nat → Bool) w i, i ≠ 1 → (fun (_ : Nat → Bool) (w : World) => Below wr.heap.size wr w) f w → (fun (_ : Nat → Bool) (w : World) => Below wr.heap.size wr w) (Go.Rel.upd f i) w := (fun _ _ _ _ h => h)
        refine Go.Rel.wp_tab (by kernel_rfl) (by kernel_rfl) (fun (_ : Nat → Bool) (w : World) => Below wr.heap.size wr w) ((fun a b : World => Below a.heap.size a b)) hre ((fun _ _ _ h k => h.trans (k.mono h.size))) ((⟨rfl, rfl, rfl, Nat.le_refl _, fun _ _ => rfl⟩)) ⟨rfl, rfl, rfl, Nat.le_refl _, fun _ _ => rfl⟩ (plF Bp Bd Ad cd m) (fun | 1, v, w => ∃ A c, v = .slice A m.length c ∧ SK enC 6 w A m.length m | _, _, _ => True) (fun i => ([1] : List Nat).contains i) (fun i => ([1, 5, 6, 8] : List Nat).contains i) (by kernel_rfl) (fun i v w w' h g => by revert h; split <;> intro h <;> first | exact h | trivial | (obtain ⟨A, c, e, k⟩ := h; exact ⟨A, c, e, k.below g⟩)) 1 rfl hrd ?_ (Go.Rel.AllOf.get ?_) ?_
        · repeat (refine .cons (by first | exact Go.Rel.pure_sp rfl | exact Go.Rel.pure_yes (by kernel_rfl) (fun _ => by kernel_rfl) | exact Go.Rel.pure_no (by kernel_rfl) rfl) ?_)
          exact .nil
        · refine ⟨?_, ?_, ?_, ?_, trivial⟩
          · refine SpecOk.call 14 #[.pointer (some ⟨Bp, 0, none⟩), .string { data := #[] }] rfl (by kernel_rfl) (fun _ => by kernel_rfl) fun _ w' hI _ _ _ _ => ?_
            refine (HCl.out w' hI).mono ?_
            rintro e9 w9 ⟨A9, c9, rfl, s9, hb9⟩
            exact ⟨_, rfl, hb9, (hI.trans (hb9.mono hI.size)), ⟨A9, c9, rfl, s9⟩⟩
          · exact SpecOk.ld hrd hre (q := .pointer (some ⟨Bd, 1, none⟩)) (h := fun _ w' hI _ _ _ _ => by have hri := HRf.out.below hI; have c1 := hri.c1; rw [HTm.out] at c1; go_simp; rfl)
          · refine SpecOk.gen (fun e => [(72, e 1), (76, .slice Ad m.length cd)]) rfl rfl (fun _ => by kernel_rfl) fun f w' e hI hf hdesc hanc hle hX K hK => ?_
            obtain ⟨A3, c3, e3, s3⟩ := hX 1 rfl rfl
            have hri := HRf.out.below hI
            have s5 := hri.row
            rw [HTm.out] at s5
            go_simp
            refine (rsame_any A3 _ c3 m Ad cd w' s3 s5 HMl.out).mono ?_
            rintro e9 w9 ⟨rfl, hb9⟩
            exact hK _ _ hb9 (hI.trans (hb9.mono hI.size)) rfl
          · refine SpecOk.call 15 #[] rfl (by kernel_rfl) (fun _ => by kernel_rfl) fun _ w' hI _ _ _ _ => ?_
            refine (works_any w' (HMw.out.keep hI)).mono ?_
            rintro e9 w9 ⟨rfl, hb9⟩
            exact ⟨_, rfl, hb9, (hI.trans (hb9.mono hI.size)), rfl⟩
        · intro f w6 e hall hJ hle hv
          have HB6 := Lib.hid (HDone.out w6 hJ)
          have v9 := hv 10 rfl
          simp only [Go.Rel.finL, List.setIfInBounds_toArray, List.set_cons_succ, List.set_cons_zero]
          rw [show e 10 = .bool true from v9]
          clear hv hall hJ hle v9
          go_wp2
          go_ret
          exact ⟨rfl, HB6.out⟩
end Go.Proofs.YtohnkagabpefdaaGreatDoor
