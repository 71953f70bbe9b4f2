/-
  No two sessions that are there have one number, and none has 0: the law SessionUnlike, walked (layer 18).
-/
import Derived.Test.YtnobpbbedclbkaaZj9
import Derived.Test.YtnobpbbedclbkaaZj45
import Derived.Test.YtnobpbbedclbkaaZj23
import Derived.Test.YtnobpbbedclbkaaZj33
import Derived.BigQuiet
namespace Go.Proofs.Ytnobpbbedclbkaa
open Go.RowKit Go.Rel
set_option linter.unusedSimpArgs false
set_option linter.unusedVariables false

def ssUc (B : Nat) (b : Nat) (off : Nat) (n : Nat) (c : Nat) (k : Nat) (kind : Int) (node : Int) (nid : Nat) (ix : Nat) (er : Int) : Nat → Value
  | 0 => .pointer (some ⟨B, 0, none⟩)
  | 1 | 6 => .slice (some ⟨b, off, none⟩) n c
  | 2 | 7 => .int .i64 (k : Int)
  | 3 | 8 => .pointer (some ⟨b, off + k * 4, none⟩)
  | 4 => .pointer (some ⟨b, off + k * 4 + 2, none⟩)
  | 5 => .int .u64 (nid : Int)
  | 9 => .pointer (some ⟨b, off + k * 4 + 3, none⟩)
  | 10 => .int .u64 (ix : Int)
  | 11 => .int .i64 er
  | _ => undef
def ssUo (B : Nat) (b : Nat) (off : Nat) (n : Nat) (c : Nat) (k : Nat) (kind : Int) (node : Int) (nid : Nat) (ix : Nat) (a1 : Nat) (a2 : Nat) : Nat → Value
  | 0 => .pointer (some ⟨B, 0, none⟩)
  | 1 | 6 => .slice (some ⟨b, off, none⟩) n c
  | 2 | 7 => .int .i64 (k : Int)
  | 3 | 8 => .pointer (some ⟨b, off + k * 4, none⟩)
  | 4 => .pointer (some ⟨b, off + k * 4 + 1, none⟩)
  | 5 => .int .i64 node
  | 9 => .pointer (some ⟨b, off + k * 4 + 3, none⟩)
  | 10 => .int .u64 (ix : Int)
  | 11 => .tuple #[.int .u64 (a1 : Int), .int .i64 (a2 : Int)]
  | _ => undef
set_option maxHeartbeats 8000000 in
set_option maxRecDepth 100000 in
theorem unlike_walk (A : Option Addr) (n c : Nat) (ss : List NSt) (w : World) (hS : SK stC 4 w A n ss) (hok : ∀ s ∈ ss, s.Ok) (hn : n ≤ maxLen) :
    Calls Try.prog 4 #[.slice A n c] w fun e w' => e = .returned (.bool true) ∧ Below w.heap.size w w' := by
  unfold maxLen at hn
  have hn' : (n : Int) ≤ 9223372036854775807 := by omega
  obtain ⟨g0, hg0⟩ : ∃ g0, w.heap.size = g0 := ⟨_, rfl⟩
  have HN := Lib.hid (snew_any 64 w (by decide))
  rw [hg0] at HN ⊢
  have HSS := Lib.hid hS
  have HSl := Lib.hid hS.1
  have HOk := Lib.hid hok
  have HG0 := Lib.hid hg0
  clear hS hok hn hg0
  go_enter Try.func4, Try.ntmps4
  go_wp2_with fail
  refine HN.out.mono ?_
  rintro e w1 ⟨B, Bt, rfl, hp, hb1⟩
  have hBt : g0 ≤ Bt := hp.tmine.1
  have HP1 := Lib.hid hp
  have HB1 := Lib.hid hb1
  clear HN hp hb1
  go_wp2
  go_loopw [4] (fun iv wr => ∃ (k : Nat) (t : Sm), k ≤ n ∧ iv = .int .i64 (k : Int) ∧ Hid (SAt (fun k => g0 ≤ k) wr B Bt t) ∧ Hid (Below g0 w wr)) (fun iv _ => n - (intOf iv).toNat)
  case atStart => exact ⟨0, _, Nat.zero_le _, rfl, HP1, HB1⟩
  case round =>
    obtain ⟨k, t, hk, rfl, hat, hb⟩ := hrel
    have hz3 : g0 ≤ wr.heap.size := by have := hb.out.size; have := HG0.out; omega
    by_cases hlt : k < n ∧ k < 60
    · obtain ⟨h1, h2⟩ := hlt
      have hkl : k < ss.length := by rw [HSl.out]; exact h1
      have ht := HSS.out.below (w' := wr) (by rw [HG0.out]; exact hb.out)
      obtain ⟨b, off, rfl, hbl, hit⟩ := ht.at_ h1 hkl
      have hbg : b < g0 := by
        obtain ⟨b', off', e, h9, _⟩ := HSS.out.at_ h1 hkl
        cases e
        rw [HG0.out] at h9
        exact h9
      have hso := HOk.out ss[k] (List.getElem_mem _)
      obtain ⟨s, hs⟩ : ∃ s, ss[k] = s := ⟨_, rfl⟩
      rw [hs] at hit hso
      obtain ⟨kind, node, nid, ix⟩ := s
      obtain ⟨e0, e1, e2, e3⟩ := st_cells hit
      have HIt := Lib.hid hit
      have HId : Hid (nid < 18446744073709551616) := Lib.hid hso.id
      have HIx : Hid (ix < 18446744073709551616) := Lib.hid hso.ix
      have q1 : (k : Int) < (n : Int) := by omega
      have q2 : (k : Int) < 60 := by omega
      have q0 : (0 : Int) ≤ (k : Int) := by omega
      by_cases hkd : kind = 1
      · obtain ⟨r, hr⟩ : ∃ r, t.closeS nid ix = r := ⟨_, rfl⟩
        obtain ⟨t', ht'⟩ : ∃ t', r.2 = t' := ⟨_, rfl⟩
        obtain ⟨er, her⟩ : ∃ er : Int, (r.1 : Int) = er := ⟨_, rfl⟩
        have HC : Hid (∀ w', SAt (fun k => g0 ≤ k) w' B Bt t → Calls Try.prog 11 #[.pointer (some ⟨B, 0, none⟩), .int .u64 (nid : Int), .int .u64 (ix : Int)] w' fun e w2 => e = .returned (.int .i64 er) ∧ SAt (fun k => g0 ≤ k) w2 B Bt t' ∧ But (· = Bt) w' w2) := Lib.hid fun w' h => by
          have h9 := sclose_any nid ix h HId.out HIx.out
          rw [hr, ht', her] at h9
          exact h9.mono fun e w2 ⟨h1, h2, h3⟩ => ⟨h1, h2.narrow fun j _ z => by rcases z with z | z; exact z; exact Nat.le_trans (by have := h.tlt; have := h.tmine.1; omega) z, h3⟩
        have zk : (kind == 1) = true := by rw [hkd]; rfl
        clear ht hit hso hs hkl hr ht' her hkd
        go_wp2_with fail
        clear e0 e1 e2 e3
        have hre : ∀ w : World, (But (· = Bt)) w w := (fun w => But.refl _ w)
        have hrd : ∀ (f : Nat → Bool) w i, i ≠ 11 → (fun (f : Nat → Bool) (w : World) => (f 11 = false → SAt (fun k => g0 ≤ k) w B Bt t ∧ ItAt stC w b (off + k * 4) ⟨kind, node, nid, ix⟩) ∧ (f 11 = true → SAt (fun k => g0 ≤ k) w B Bt t')) f w → (fun (f : Nat → Bool) (w : World) => (f 11 = false → SAt (fun k => g0 ≤ k) w B Bt t ∧ ItAt stC w b (off + k * 4) ⟨kind, node, nid, ix⟩) ∧ (f 11 = true → SAt (fun k => g0 ≤ k) w B Bt t')) (Go.Rel.upd f i) w := (fun _ _ _ hj h => ⟨fun z => h.1 (by rwa [ale_off hj] at z), fun z => h.2 (by rwa [ale_off hj] at z)⟩)
        refine Go.Rel.wp_tab (by kernel_rfl) (by kernel_rfl) (fun (f : Nat → Bool) (w : World) => (f 11 = false → SAt (fun k => g0 ≤ k) w B Bt t ∧ ItAt stC w b (off + k * 4) ⟨kind, node, nid, ix⟩) ∧ (f 11 = true → SAt (fun k => g0 ≤ k) w B Bt t')) (But (· = Bt)) hre ((fun _ _ _ h k => h.trans k)) ((But.refl _ _).drew) ⟨fun _ => ⟨hat.out.below ⟨rfl, rfl, rfl, Nat.le_refl _, fun _ _ => rfl⟩, HIt.out⟩, fun z => by cases z⟩ (ssUc B b off n c k kind node nid ix er) (fun _ _ _ => True) (fun i => ([] : List Nat).contains i) (fun i => ([3, 5, 8, 10, 11] : List Nat).contains i) (by kernel_rfl) (fun _ _ _ _ h _ => h) 11 rfl hrd ?_ (Go.Rel.AllOf.get ?_) ?_
        · repeat (refine .cons (by first | exact Go.Rel.pure_sp rfl | exact Go.Rel.pure_yes (by kernel_rfl) (fun _ => by kernel_rfl) | exact Go.Rel.pure_no (by kernel_rfl) rfl) ?_)
          exact .nil
        · refine ⟨?_, ?_, ?_, ?_, ?_, trivial⟩
          · refine SpecOk.gen (fun e => [(25, .slice (some ⟨b, off, none⟩) n c), (26, .int .i64 (k : Int))]) rfl rfl (fun _ => by kernel_rfl) fun f w' e hI hf hdesc hanc hle hX K hK => ?_
            have q7 : (0 : Int) ≤ (k : Int) := by omega
            have q8 := q1
            go_simp
            exact hK _ _ (hre _) (hrd f w' 3 (by decide) hI) rfl
          · exact SpecOk.ld hrd hre (q := .pointer (some ⟨b, off + k * 4 + 2, none⟩)) (h := fun _ w' hI _ hdesc _ _ => by obtain ⟨y0, y1, y2, y3⟩ := st_cells (hI.1 (hdesc 60 11 (by kernel_rfl))).2; go_simp; rfl)
          · refine SpecOk.gen (fun e => [(30, .slice (some ⟨b, off, none⟩) n c), (31, .int .i64 (k : Int))]) rfl rfl (fun _ => by kernel_rfl) fun f w' e hI hf hdesc hanc hle hX K hK => ?_
            have q7 : (0 : Int) ≤ (k : Int) := by omega
            have q8 := q1
            go_simp
            exact hK _ _ (hre _) (hrd f w' 8 (by decide) hI) rfl
          · exact SpecOk.ld hrd hre (q := .pointer (some ⟨b, off + k * 4 + 3, none⟩)) (h := fun _ w' hI _ hdesc _ _ => by obtain ⟨y0, y1, y2, y3⟩ := st_cells (hI.1 (hdesc 60 11 (by kernel_rfl))).2; go_simp; rfl)
          · refine SpecOk.call 11 #[.pointer (some ⟨B, 0, none⟩), .int .u64 (nid : Int), .int .u64 (ix : Int)] rfl (by kernel_rfl) (fun _ => by kernel_rfl) fun _ w' hI hf _ _ _ => ?_
            refine ((HC.out w' (hI.1 hf).1)).mono ?_
            rintro e9 w9 ⟨rfl, h9, hb9⟩
            exact ⟨_, rfl, hb9, ⟨(fun z => by rw [ale_on] at z; cases z), fun _ => h9⟩, rfl⟩
        · intro f w6 e hall hJ hle hv
          have HA6 : Hid (SAt (fun k => g0 ≤ k) w6 B Bt t') := Lib.hid (hJ.2 (hall 11 (by decide)))
          have HB6 : Hid (Below g0 w w6) := Lib.hid (hb.out.trans (hle.below hz3 fun j hj e => by have h2 : j = Bt := e; omega))
          simp only [Go.Rel.finL, List.setIfInBounds_toArray, List.set_cons_succ, List.set_cons_zero]
          clear hv hall hJ hle
          go_wp2
          go_roundw
          case rel => exact ⟨k + 1, t', by omega, by go_num, HA6, HB6⟩
          case measure => simp [intOf]; omega
      · obtain ⟨r, hr⟩ : ∃ r, t.openS node ix = r := ⟨_, rfl⟩
        obtain ⟨t', ht'⟩ : ∃ t', r.2 = t' := ⟨_, rfl⟩
        obtain ⟨a1, ha1⟩ : ∃ a1, r.1.1 = a1 := ⟨_, rfl⟩
        obtain ⟨a2, ha2⟩ : ∃ a2, r.1.2 = a2 := ⟨_, rfl⟩
        have HC : Hid (∀ w', SAt (fun k => g0 ≤ k) w' B Bt t → Calls Try.prog 9 #[.pointer (some ⟨B, 0, none⟩), .int .i64 node, .int .u64 (ix : Int)] w' fun e w2 => e = .returned (.tuple #[.int .u64 (a1 : Int), .int .i64 (a2 : Int)]) ∧ SAt (fun k => g0 ≤ k) w2 B Bt t' ∧ But (· = Bt) w' w2) := Lib.hid fun w' h => by
          have h9 := sopen_any node ix h HIx.out
          rw [hr, ht', ha1, ha2] at h9
          exact h9.mono fun e w2 ⟨h1, h2, h3⟩ => ⟨h1, h2.narrow fun j _ z => by rcases z with z | z; exact z; exact Nat.le_trans (by have := h.tlt; have := h.tmine.1; omega) z, h3⟩
        have zk : (kind == 1) = false := by rw [beq_eq_false_iff_ne]; exact hkd
        clear ht hit hso hs hkl hr ht' ha1 ha2 hkd
        go_wp2_with fail
        clear e0 e1 e2 e3
        have hre : ∀ w : World, (But (· = Bt)) w w := (fun w => But.refl _ w)
        have hrd : ∀ (f : Nat → Bool) w i, i ≠ 11 → (fun (f : Nat → Bool) (w : World) => (f 11 = false → SAt (fun k => g0 ≤ k) w B Bt t ∧ ItAt stC w b (off + k * 4) ⟨kind, node, nid, ix⟩) ∧ (f 11 = true → SAt (fun k => g0 ≤ k) w B Bt t')) f w → (fun (f : Nat → Bool) (w : World) => (f 11 = false → SAt (fun k => g0 ≤ k) w B Bt t ∧ ItAt stC w b (off + k * 4) ⟨kind, node, nid, ix⟩) ∧ (f 11 = true → SAt (fun k => g0 ≤ k) w B Bt t')) (Go.Rel.upd f i) w := (fun _ _ _ hj h => ⟨fun z => h.1 (by rwa [ale_off hj] at z), fun z => h.2 (by rwa [ale_off hj] at z)⟩)
        refine Go.Rel.wp_tab (by kernel_rfl) (by kernel_rfl) (fun (f : Nat → Bool) (w : World) => (f 11 = false → SAt (fun k => g0 ≤ k) w B Bt t ∧ ItAt stC w b (off + k * 4) ⟨kind, node, nid, ix⟩) ∧ (f 11 = true → SAt (fun k => g0 ≤ k) w B Bt t')) (But (· = Bt)) hre ((fun _ _ _ h k => h.trans k)) ((But.refl _ _).drew) ⟨fun _ => ⟨hat.out.below ⟨rfl, rfl, rfl, Nat.le_refl _, fun _ _ => rfl⟩, HIt.out⟩, fun z => by cases z⟩ (ssUo B b off n c k kind node nid ix a1 a2) (fun _ _ _ => True) (fun i => ([] : List Nat).contains i) (fun i => ([3, 5, 8, 10, 11] : List Nat).contains i) (by kernel_rfl) (fun _ _ _ _ h _ => h) 11 rfl hrd ?_ (Go.Rel.AllOf.get ?_) ?_
        · repeat (refine .cons (by first | exact Go.Rel.pure_sp rfl | exact Go.Rel.pure_yes (by kernel_rfl) (fun _ => by kernel_rfl) | exact Go.Rel.pure_no (by kernel_rfl) rfl) ?_)
          exact .nil
        · refine ⟨?_, ?_, ?_, ?_, ?_, trivial⟩
          · refine SpecOk.gen (fun e => [(37, .slice (some ⟨b, off, none⟩) n c), (38, .int .i64 (k : Int))]) rfl rfl (fun _ => by kernel_rfl) fun f w' e hI hf hdesc hanc hle hX K hK => ?_
            have q7 : (0 : Int) ≤ (k : Int) := by omega
            have q8 := q1
            go_simp
            exact hK _ _ (hre _) (hrd f w' 3 (by decide) hI) rfl
          · exact SpecOk.ld hrd hre (q := .pointer (some ⟨b, off + k * 4 + 1, none⟩)) (h := fun _ w' hI _ hdesc _ _ => by obtain ⟨y0, y1, y2, y3⟩ := st_cells (hI.1 (hdesc 60 11 (by kernel_rfl))).2; go_simp; rfl)
          · refine SpecOk.gen (fun e => [(42, .slice (some ⟨b, off, none⟩) n c), (43, .int .i64 (k : Int))]) rfl rfl (fun _ => by kernel_rfl) fun f w' e hI hf hdesc hanc hle hX K hK => ?_
            have q7 : (0 : Int) ≤ (k : Int) := by omega
            have q8 := q1
            go_simp
            exact hK _ _ (hre _) (hrd f w' 8 (by decide) hI) rfl
          · exact SpecOk.ld hrd hre (q := .pointer (some ⟨b, off + k * 4 + 3, none⟩)) (h := fun _ w' hI _ hdesc _ _ => by obtain ⟨y0, y1, y2, y3⟩ := st_cells (hI.1 (hdesc 60 11 (by kernel_rfl))).2; go_simp; rfl)
          · refine SpecOk.call 9 #[.pointer (some ⟨B, 0, none⟩), .int .i64 node, .int .u64 (ix : Int)] rfl (by kernel_rfl) (fun _ => by kernel_rfl) fun _ w' hI hf _ _ _ => ?_
            refine ((HC.out w' (hI.1 hf).1)).mono ?_
            rintro e9 w9 ⟨rfl, h9, hb9⟩
            exact ⟨_, rfl, hb9, ⟨(fun z => by rw [ale_on] at z; cases z), fun _ => h9⟩, rfl⟩
        · intro f w6 e hall hJ hle hv
          have HA6 : Hid (SAt (fun k => g0 ≤ k) w6 B Bt t') := Lib.hid (hJ.2 (hall 11 (by decide)))
          have HB6 : Hid (Below g0 w w6) := Lib.hid (hb.out.trans (hle.below hz3 fun j hj e => by have h2 : j = Bt := e; omega))
          simp only [Go.Rel.finL, List.setIfInBounds_toArray, List.set_cons_succ, List.set_cons_zero]
          clear hv hall hJ hle
          go_wp2
          go_roundw
          case rel => exact ⟨k + 1, t', by omega, by go_num, HA6, HB6⟩
          case measure => simp [intOf]; omega
    · have q : ¬ ((k : Int) < (n : Int) ∧ (k : Int) < 60) := by omega
      have HLi := Lib.hid (slist_any hat.out)
      have HOt := Lib.hid hat.out.ok
      have hml : t.l.length ≤ 64 := Nat.le_trans HOt.out.len HOt.out.most.2
      have hid0 : ∀ j, ∀ h : j < t.l.length, t.l[j].id ≠ 0 := fun j h => (HOt.out.all _ (List.getElem_mem h)).1
      have hlo : ∀ i j, ∀ h : j < t.l.length, ∀ hij : i < j, (t.l[i]'(by omega)).id < t.l[j].id := fun i j h hij => by
        have h9 := HOt.out.sorted
        unfold SS at h9
        rw [List.pairwise_iff_getElem] at h9
        exact h9 i j (by omega) h hij
      obtain ⟨M, hM⟩ : ∃ M, t.l = M := ⟨_, rfl⟩
      have HI0 : Hid (∀ j, ∀ h : j < M.length, M[j].id ≠ 0) := Lib.hid (by subst hM; exact hid0)
      have HLo : Hid (∀ i j, ∀ h : j < M.length, ∀ hij : i < j, (M[i]'(by omega)).id < M[j].id) := Lib.hid (by subst hM; exact hlo)
      rw [hM] at HLi hml
      clear hid0 hlo hM
      rcases (show (¬ k < n) ∨ (k < n ∧ ¬ k < 60) by omega) with h1 | ⟨h1, h2⟩
      · have q1 : ¬ (k : Int) < (n : Int) := by omega
        clear q
        go_wp2_with fail
        refine HLi.out.mono ?_
        rintro e w3 ⟨v, rfl, hr3, hb3⟩
        obtain ⟨A3, c3, rfl, s3, _⟩ := SK.of_row snC_len hr3
        have HB3 : Hid (Below g0 w w3) := Lib.hid (hb.out.trans (hb3.mono hz3))
        have HS3 := Lib.hid s3
        have hz4 : g0 ≤ w3.heap.size := by have := HB3.out.size; have := HG0.out; omega
        obtain ⟨wo, hwo⟩ : ∃ wo : World, wo = wr := ⟨_, rfl⟩
        clear hr3 hb3 s3 HLi
        go_wp2
        go_loopw [6] (fun iv wq => ∃ j : Nat, j ≤ M.length ∧ iv = .int .i64 (j : Int) ∧ Hid (Below w3.heap.size w3 wq)) (fun iv _ => M.length - (intOf iv).toNat)
        case atStart => exact ⟨0, Nat.zero_le _, rfl, Lib.hid (Below.refl _ _)⟩
        case round =>
          obtain ⟨j, hj, rfl, hbq⟩ := hrel
          by_cases hjl : j < M.length
          · have hs9 := HS3.out.below hbq.out
            obtain ⟨bb, oo, rfl, hbl, hit⟩ := hs9.at_ hjl hjl
            have hx0 := HI0.out j hjl
            obtain ⟨x, hx⟩ : ∃ x, M[j] = x := ⟨_, rfl⟩
            have hlx := HLo.out
            rw [hx] at hit hx0
            obtain ⟨e0, e1, e2, e3⟩ := sn_cells hit
            have g0' : (0 : Int) ≤ (j : Int) := by omega
            have g1' : (j : Int) < (M.length : Int) := by omega
            have r0 : ((x.id : Int) == 0) = false := by rw [beq_eq_false_iff_ne]; omega
            by_cases h5 : j = 0
            · have r5 : decide ((j : Int) > 0) = false := decide_eq_false (by omega)
              have r6 : decide (0 < j) = false := decide_eq_false (by omega)
              clear h5 hx hit hx0 hlx hs9
              go_wp2_with fail
              go_quiet (fail)
              go_wp2
              go_roundw
              case rel => exact ⟨j + 1, by omega, by go_num, Lib.hid (below_drewN hbq.out nq)⟩
              case measure => simp [intOf]; omega
            · obtain ⟨i, rfl⟩ : ∃ i, j = i + 1 := ⟨j - 1, by omega⟩
              have hil : i < M.length := by omega
              obtain ⟨b', off', hbe, _, hit2⟩ := hs9.at_ hil hil
              cases hbe
              have hlt2 := hlx i (i + 1) hjl (by omega)
              rw [hx] at hlt2
              obtain ⟨y, hy⟩ : ∃ y, M[i] = y := ⟨_, rfl⟩
              rw [hy] at hit2 hlt2
              obtain ⟨y0, y1, y2, y3⟩ := sn_cells hit2
              have r5 : decide (((i + 1 : Nat) : Int) > 0) = true := decide_eq_true (by omega)
              have r6 : ((i + 1 : Nat) : Int) - 1 = (i : Int) := by omega
              have g2 : (0 : Int) ≤ (i : Int) := by omega
              have g3 : (i : Int) < (M.length : Int) := by omega
              have f1 : decide ((x.id : Int) ≤ (y.id : Int)) = false := decide_eq_false (by omega)
              have f2 : decide (x.id ≤ y.id) = false := decide_eq_false (by omega)
              clear h5 hx hy hit hit2 hx0 hlx hs9 hlt2
              go_wp2_with fail
              go_quiet (fail)
              go_wp2
              go_roundw
              case rel => exact ⟨i + 1 + 1, by omega, by go_num, Lib.hid (below_drewN hbq.out nq)⟩
              case measure => simp [intOf]; omega
          · have g1' : ¬ (j : Int) < (M.length : Int) := by omega
            have HB9 : Hid (Below g0 w wr) := Lib.hid (HB3.out.trans (hbq.out.mono hz4))
            have hz9 : g0 ≤ wr.heap.size := by have := HB9.out.size; have := HG0.out; omega
            go_wp2_with fail
            refine (works_any wr).mono ?_
            rintro e w9 ⟨rfl, hb9⟩
            have HBE : Hid (Below g0 w w9) := Lib.hid (HB9.out.trans (hb9.mono hz9))
            clear hb9
            go_wp2
            go_ret
            exact ⟨rfl, HBE.out⟩
      · have q1 : (k : Int) < (n : Int) := by omega
        have q2 : ¬ (k : Int) < 60 := by omega
        clear q
        go_wp2_with fail
        refine HLi.out.mono ?_
        rintro e w3 ⟨v, rfl, hr3, hb3⟩
        obtain ⟨A3, c3, rfl, s3, _⟩ := SK.of_row snC_len hr3
        have HB3 : Hid (Below g0 w w3) := Lib.hid (hb.out.trans (hb3.mono hz3))
        have HS3 := Lib.hid s3
        have hz4 : g0 ≤ w3.heap.size := by have := HB3.out.size; have := HG0.out; omega
        obtain ⟨wo, hwo⟩ : ∃ wo : World, wo = wr := ⟨_, rfl⟩
        clear hr3 hb3 s3 HLi
        go_wp2
        go_loopw [6] (fun iv wq => ∃ j : Nat, j ≤ M.length ∧ iv = .int .i64 (j : Int) ∧ Hid (Below w3.heap.size w3 wq)) (fun iv _ => M.length - (intOf iv).toNat)
        case atStart => exact ⟨0, Nat.zero_le _, rfl, Lib.hid (Below.refl _ _)⟩
        case round =>
          obtain ⟨j, hj, rfl, hbq⟩ := hrel
          by_cases hjl : j < M.length
          · have hs9 := HS3.out.below hbq.out
            obtain ⟨bb, oo, rfl, hbl, hit⟩ := hs9.at_ hjl hjl
            have hx0 := HI0.out j hjl
            obtain ⟨x, hx⟩ : ∃ x, M[j] = x := ⟨_, rfl⟩
            have hlx := HLo.out
            rw [hx] at hit hx0
            obtain ⟨e0, e1, e2, e3⟩ := sn_cells hit
            have g0' : (0 : Int) ≤ (j : Int) := by omega
            have g1' : (j : Int) < (M.length : Int) := by omega
            have r0 : ((x.id : Int) == 0) = false := by rw [beq_eq_false_iff_ne]; omega
            by_cases h5 : j = 0
            · have r5 : decide ((j : Int) > 0) = false := decide_eq_false (by omega)
              have r6 : decide (0 < j) = false := decide_eq_false (by omega)
              clear h5 hx hit hx0 hlx hs9
              go_wp2_with fail
              go_quiet (fail)
              go_wp2
              go_roundw
              case rel => exact ⟨j + 1, by omega, by go_num, Lib.hid (below_drewN hbq.out nq)⟩
              case measure => simp [intOf]; omega
            · obtain ⟨i, rfl⟩ : ∃ i, j = i + 1 := ⟨j - 1, by omega⟩
              have hil : i < M.length := by omega
              obtain ⟨b', off', hbe, _, hit2⟩ := hs9.at_ hil hil
              cases hbe
              have hlt2 := hlx i (i + 1) hjl (by omega)
              rw [hx] at hlt2
              obtain ⟨y, hy⟩ : ∃ y, M[i] = y := ⟨_, rfl⟩
              rw [hy] at hit2 hlt2
              obtain ⟨y0, y1, y2, y3⟩ := sn_cells hit2
              have r5 : decide (((i + 1 : Nat) : Int) > 0) = true := decide_eq_true (by omega)
              have r6 : ((i + 1 : Nat) : Int) - 1 = (i : Int) := by omega
              have g2 : (0 : Int) ≤ (i : Int) := by omega
              have g3 : (i : Int) < (M.length : Int) := by omega
              have f1 : decide ((x.id : Int) ≤ (y.id : Int)) = false := decide_eq_false (by omega)
              have f2 : decide (x.id ≤ y.id) = false := decide_eq_false (by omega)
              clear h5 hx hy hit hit2 hx0 hlx hs9 hlt2
              go_wp2_with fail
              go_quiet (fail)
              go_wp2
              go_roundw
              case rel => exact ⟨i + 1 + 1, by omega, by go_num, Lib.hid (below_drewN hbq.out nq)⟩
              case measure => simp [intOf]; omega
          · have g1' : ¬ (j : Int) < (M.length : Int) := by omega
            have HB9 : Hid (Below g0 w wr) := Lib.hid (HB3.out.trans (hbq.out.mono hz4))
            have hz9 : g0 ≤ wr.heap.size := by have := HB9.out.size; have := HG0.out; omega
            go_wp2_with fail
            refine (works_any wr).mono ?_
            rintro e w9 ⟨rfl, hb9⟩
            have HBE : Hid (Below g0 w w9) := Lib.hid (HB9.out.trans (hb9.mono hz9))
            clear hb9
            go_wp2
            go_ret
            exact ⟨rfl, HBE.out⟩
end Go.Proofs.Ytnobpbbedclbkaa
