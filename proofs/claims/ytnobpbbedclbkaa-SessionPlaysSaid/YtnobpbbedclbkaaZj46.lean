/-
  Whatever is opened and closed, the sessions are what the document says: the law SessionPlays, walked (layer 18).
-/
import Derived.Test.YtnobpbbedclbkaaZj44
import Derived.Test.YtnobpbbedclbkaaZj45
import Derived.Test.YtnobpbbedclbkaaZj20
import Derived.Test.YtnobpbbedclbkaaZj32
import Derived.Deep.DeepCutAuto
import Derived.Deep.CutBlock
import Derived.Lib.QuietBelow
import Derived.BigQuiet
namespace Go.Proofs.Ytnobpbbedclbkaa
open Go.RowKit Go.Rel Go.Sort
set_option linter.unusedSimpArgs false
set_option linter.unusedVariables false

def ssC (Bp : Nat) (Bd : Nat) (X : Nat) (node : Int) (nid : Nat) (ix : Nat) : Nat → Value
  | 0 => .pointer (some ⟨Bp, 0, none⟩)
  | 1 | 7 => .pointer (some ⟨X, 2, none⟩)
  | 2 | 8 => .int .u64 (nid : Int)
  | 3 | 9 => .pointer (some ⟨X, 3, none⟩)
  | 4 | 10 => .int .u64 (ix : Int)
  | 6 => .pointer (some ⟨Bd, 0, none⟩)
  | 12 | 13 => .bool true
  | _ => undef
def ssN (Bp : Nat) (Bd : Nat) (X : Nat) (node : Int) (nid : Nat) (ix : Nat) : Nat → Value
  | 0 => .pointer (some ⟨Bp, 0, none⟩)
  | 1 | 7 => .pointer (some ⟨X, 1, none⟩)
  | 2 | 8 => .int .i64 node
  | 3 | 9 => .pointer (some ⟨X, 3, none⟩)
  | 4 | 10 => .int .u64 (ix : Int)
  | 6 => .pointer (some ⟨Bd, 0, none⟩)
  | 12 | 13 => .bool true
  | _ => undef
def ssP (Bc : Nat) (Bd : Nat) (Ad : Option Addr) (cd : Nat) (lst : Nat) (m : List Sn) : Nat → Value
  | 0 | 8 => .pointer (some ⟨Bc, 0, none⟩)
  | 2 | 3 | 10 | 11 => .pointer (some ⟨Bd, 0, none⟩)
  | 4 => .pointer (some ⟨Bd, 1, none⟩)
  | 5 => .slice Ad m.length cd
  | 6 | 7 | 14 | 15 | 16 => .bool true
  | 9 | 13 => .int .u64 (lst : Int)
  | 12 => .pointer (some ⟨Bd, 2, none⟩)
  | _ => undef
def ssF (Bp : Nat) (Bd : Nat) (Ad : Option Addr) (cd : Nat) (m : List Sn) : Nat → Value
  | 0 => .pointer (some ⟨Bp, 0, none⟩)
  | 2 | 3 => .pointer (some ⟨Bd, 0, none⟩)
  | 4 => .pointer (some ⟨Bd, 1, none⟩)
  | 5 => .slice Ad m.length cd
  | 6 | 7 | 8 | 9 | 10 => .bool true
  | _ => undef
set_option maxHeartbeats 8000000 in
set_option maxRecDepth 100000 in
theorem plays_walk (m : Int) (hm : -9223372036854775808 ≤ m ∧ m ≤ 9223372036854775807) (A : Option Addr) (n c : Nat) (ss : List NSt) (w : World) (hS : SK stC 4 w A n ss) (hok : ∀ s ∈ ss, s.Ok) (hn : n ≤ maxLen) :
    Calls Try.prog 3 #[.int .i64 m, .slice A n c] w fun e w' => e = .returned (.bool true) ∧ Below w.heap.size w w' := by
  unfold maxLen at hn
  have hn' : (n : Int) ≤ 9223372036854775807 := by omega
  obtain ⟨g0, hg0⟩ : ∃ g0, w.heap.size = g0 := ⟨_, rfl⟩
  have HN := Lib.hid (snew_any m w hm)
  rw [hg0] at HN ⊢
  have HNd : Hid (∀ w1, Calls Try.prog 8 #[.int .i64 m] w1 fun e w' => e = .returned (.pointer (some ⟨w1.heap.size, 0, none⟩)) ∧ RsAt (· = w1.heap.size) w' w1.heap.size ⟨mostT m, [], 0⟩ ∧ Below w1.heap.size w1 w') := Lib.hid fun w1 => rsnew_any m w1 hm
  have HSS := Lib.hid hS
  have HSl := Lib.hid hS.1
  have HOk := Lib.hid hok
  have HG0 := Lib.hid hg0
  clear hm hS hok hn hg0
  go_enter Try.func3, Try.ntmps3
  go_wp2_with fail
  refine HN.out.mono ?_
  rintro e w1 ⟨Bp, Bt, rfl, hp, hb1⟩
  have hBt : g0 ≤ Bt := hp.tmine.1
  have HP1 : Hid (SAt (fun k => w.heap.size ≤ k) w1 Bp Bt ⟨mostT m, [], 0⟩) := Lib.hid (by rw [HG0.out]; exact hp)
  have HB1 := Lib.hid hb1
  clear HN hp hb1
  go_wp2_with fail
  refine (HNd.out w1).mono ?_
  rintro e w2 ⟨rfl, hd, hb2⟩
  obtain ⟨Bd, hBd⟩ : ∃ Bd, w1.heap.size = Bd := ⟨_, rfl⟩
  rw [hBd] at hd ⊢
  have HBo := Lib.hid (both_new HP1.out hd hBd hb2)
  have HB2 : Hid (Below g0 w w2) := Lib.hid (HB1.out.trans (hb2.mono (by rw [← HG0.out]; exact HB1.out.size)))
  have hBd0 : g0 ≤ Bd := by rw [← HG0.out, ← hBd]; exact HB1.out.size
  clear HNd hd hb2 hBd HP1 HB1
  go_wp2
  go_loopw [7] (fun iv wr => ∃ (k : Nat) (t : Sm), k ≤ n ∧ iv = .int .i64 (k : Int) ∧ Hid (Both wr Bp Bt t Bd t) ∧ Hid (Below g0 w wr)) (fun iv _ => n - (intOf iv).toNat)
  case atStart => exact ⟨0, _, Nat.zero_le _, rfl, HBo, HB2⟩
  case round =>
    obtain ⟨k, t, hk, rfl, hbo, hb⟩ := hrel
    have hz3 : g0 ≤ wr.heap.size := by have := hb.out.size; have := HG0.out; omega
    by_cases hlt : k < n ∧ k < 80
    · obtain ⟨h1, h2⟩ := hlt
      have hkl : k < ss.length := by rw [HSl.out]; exact h1
      have ht := HSS.out.below (w' := wr) (by rw [HG0.out]; exact hb.out)
      obtain ⟨b, off, rfl, hbl, hit⟩ := ht.at_ h1 hkl
      have hso := HOk.out ss[k] (List.getElem_mem _)
      obtain ⟨s, hs⟩ : ∃ s, ss[k] = s := ⟨_, rfl⟩
      rw [hs] at hit hso
      obtain ⟨e0, e1, e2, e3⟩ := st_cells hit
      obtain ⟨t', ht'⟩ : ∃ t', s.after t = t' := ⟨_, rfl⟩
      obtain ⟨kind, node, nid, ix⟩ := s
      unfold NSt.after at ht'
      simp only at ht'
      have HAf := Lib.hid ht'
      obtain ⟨X, hX⟩ : ∃ X, wr.heap.size = X := ⟨_, rfl⟩
      obtain ⟨W1, hW1⟩ : ∃ W1, wr.alloc (.cells #[.int .i64 kind, .int .i64 node, .int .u64 (nid : Int), .int .u64 (ix : Int)] 29) = W1 := ⟨_, rfl⟩
      have hk1 : W1.heap[X]? = some (.cells #[.int .i64 kind, .int .i64 node, .int .u64 (nid : Int), .int .u64 (ix : Int)] 29 (0, 0)) := by rw [← hW1, ← hX]; exact heap_alloc_new wr _
      have hbw : Below wr.heap.size wr W1 := by rw [← hW1]; exact below1 _ _ _
      have HBo1 := Lib.hid (hbo.out.below hbw)
      have HOx : Hid (Bt ≠ X ∧ Bd ≠ X) := Lib.hid (by have := hbo.out.lt; omega)
      have HK1 := Lib.hid hk1
      have HB1 : Hid (Below g0 w W1) := Lib.hid (hb.out.trans (hbw.mono hz3))
      have HW1 := Lib.hid hW1
      have HX := Lib.hid hX
      have HId : Hid (nid < 18446744073709551616) := Lib.hid hso.id
      have HIx : Hid (ix < 18446744073709551616) := Lib.hid hso.ix
      have HOt : Hid (SmOk t) := Lib.hid (by obtain ⟨Sp, h9⟩ := hbo.out.read; exact h9.ok)
      obtain ⟨x0, x1, x2, x3⟩ := st_blk hk1
      have q1 : (k : Int) < (n : Int) := by omega
      have q2 : (k : Int) < 80 := by omega
      have q0 : (0 : Int) ≤ (k : Int) := by omega
      clear ht hit hso hs hkl ht' hk1 hbw hW1 hX
      go_upto_block 2 with fail
      rw [HW1.out, HX.out]
      go_cut [9] (fun s9 wx => s9 = .bool true ∧ Hid (Both wx Bp Bt t' Bd t') ∧ Hid (But (Ch Bt Bd) W1 wx))
      case first =>
        clear e0 e1 e2 e3
        rcases (show kind = 0 ∨ kind = 1 ∨ kind = 2 ∨ kind = 3 ∨ (kind ≠ 0 ∧ kind ≠ 1 ∧ kind ≠ 2 ∧ kind ≠ 3) by omega) with rfl | rfl | rfl | rfl | ⟨n0, n1, n2, n3⟩
        · obtain ⟨r, hr⟩ : ∃ r, t.openS node ix = r := ⟨_, rfl⟩
          have ht : r.2 = t' := by have := HAf.out; rw [hr] at this; simpa using this
          obtain ⟨Sp, hp, hl⟩ := HBo1.out.left
          have hop := sopen_any node ix hp HIx.out
          rw [hr, ht] at hop
          have HOp := Lib.hid hop
          have HL := Lib.hid hl
          have HR := Lib.hid hr
          have HT := Lib.hid ht
          have zz1 : ((r.1.1 : Int) == (r.1.1 : Int)) = true := by simp
          have zz2 : ((r.1.2 : Int) == (r.1.2 : Int)) = true := by simp
          clear hop hl hr ht hp
          go_wp2_with fail
          refine HOp.out.mono ?_
          rintro e w3 ⟨rfl, hp3, hb3⟩
          have hbo3 := HL.out w3 t' hp3 hb3
          have hx3 := (hb3.block X (block_lt HK1.out) fun e => HOx.out.1 e.symm).trans HK1.out
          obtain ⟨Sd, hd, hr2⟩ := hbo3.right
          have hod := rsopen_any node ix w3 hd HIx.out
          rw [HR.out, HT.out] at hod
          have HOd := Lib.hid hod
          have HL2 := Lib.hid hr2
          have HB3 := Lib.hid hb3
          clear x0 x1 x2 x3
          obtain ⟨x0, x1, x2, x3⟩ := st_blk hx3
          clear hp3 hb3 hbo3 hx3 hod hr2 hd HOp HL
          go_wp2_with fail
          refine HOd.out.mono ?_
          rintro e w4 ⟨rfl, hd4, hb4⟩
          have HB4 : Hid (Both w4 Bp Bt t' Bd t') := Lib.hid (HL2.out w4 t' hd4 hb4)
          have HC4 : Hid (But (Ch Bt Bd) W1 w4) := Lib.hid ((HB3.out.mono fun k z => .inl z).trans (hb4.mono fun k z => .inr z))
          clear hd4 hb4 HOd HL2 x0 x1 x2 x3
          go_wp2
          go_meet
          case rel => exact ⟨rfl, HB4, HC4⟩
        · obtain ⟨r, hr⟩ : ∃ r, t.closeS nid ix = r := ⟨_, rfl⟩
          have ht : r.2 = t' := by have := HAf.out; rw [hr] at this; simpa using this
          obtain ⟨er, her⟩ : ∃ er, r.1 = er := ⟨_, rfl⟩
          have HCp : Hid (∀ (f : Nat → Bool) (e : Nat → Value) (w' : World), StN (fun _ v => v = .int .i64 (er : Int)) X #[.int .i64 1, .int .i64 node, .int .u64 (nid : Int), .int .u64 (ix : Int)] 5 11 Bp Bt Bd t t' f e w' → f 5 = false → Calls Try.prog 11 #[.pointer (some ⟨Bp, 0, none⟩), .int .u64 (nid : Int), .int .u64 (ix : Int)] w' fun r w2 => ∃ v, r = .returned v ∧ (∀ e', (∀ m, m ≠ 5 → e' m = e m) → e' 5 = v → StN (fun _ v => v = .int .i64 (er : Int)) X #[.int .i64 1, .int .i64 node, .int .u64 (nid : Int), .int .u64 (ix : Int)] 5 11 Bp Bt Bd t t' (Go.Rel.upd f 5) e' w2) ∧ But (Ch Bt Bd) w' w2) := Lib.hid fun f e w' hI hf =>
            hI.left (fun _ _ _ h _ => h) (by decide) hf fun S h hl1 hl2 => by
              have h9 := sclose_any nid ix h HId.out HIx.out
              rw [hr, ht, her] at h9
              exact h9.mono fun r w2 ⟨h1, h2, h3⟩ => ⟨_, h1, rfl, h2, h3⟩
          have HCd : Hid (∀ (f : Nat → Bool) (e : Nat → Value) (w' : World), StN (fun _ v => v = .int .i64 (er : Int)) X #[.int .i64 1, .int .i64 node, .int .u64 (nid : Int), .int .u64 (ix : Int)] 5 11 Bp Bt Bd t t' f e w' → f 11 = false → Calls Try.prog 12 #[.pointer (some ⟨Bd, 0, none⟩), .int .u64 (nid : Int), .int .u64 (ix : Int)] w' fun r w2 => ∃ v, r = .returned v ∧ (∀ e', (∀ m, m ≠ 11 → e' m = e m) → e' 11 = v → StN (fun _ v => v = .int .i64 (er : Int)) X #[.int .i64 1, .int .i64 node, .int .u64 (nid : Int), .int .u64 (ix : Int)] 5 11 Bp Bt Bd t t' (Go.Rel.upd f 11) e' w2) ∧ But (Ch Bt Bd) w' w2) := Lib.hid fun f e w' hI hf =>
            hI.right (fun _ _ _ h _ => h) (by decide) hf fun S h hl1 hl2 => by
              have h9 := rsclose_any nid ix w' h HIx.out
              rw [hr, ht, her] at h9
              exact h9.mono fun r w2 ⟨h1, h2, h3⟩ => ⟨_, h1, rfl, h2, h3⟩
          clear hr ht her x0 x1 x2 x3
          go_wp2_with fail
          have hre : ∀ w : World, (But (Ch Bt Bd)) w w := (fun w => But.refl _ w)
          have hrd : ∀ (ops9 : Array Oper) (f9 : Nat → Bool) (e9 : Nat → Value) (w9 : World) (i9 : Nat) (v9 : Value) (e8 : Nat → Value), [5, 11].contains i9 = false → (fun (f : Nat → Bool) (e : Nat → Value) (w : World) => StN (fun _ v => v = .int .i64 (er : Int)) X #[.int .i64 1, .int .i64 node, .int .u64 (nid : Int), .int .u64 (ix : Int)] 5 11 Bp Bt Bd t t' f e w) f9 e9 w9 → Go.Rel.Put ops9 i9 e9 v9 e8 → (fun (f : Nat → Bool) (e : Nat → Value) (w : World) => StN (fun _ v => v = .int .i64 (er : Int)) X #[.int .i64 1, .int .i64 node, .int .u64 (nid : Int), .int .u64 (ix : Int)] 5 11 Bp Bt Bd t t' f e w) (Go.Rel.upd f9 i9) e8 w9 := (fun _ _ _ _ _ _ _ hj h hp => StN.keep hj h hp)
          refine Go.Rel.wp_tabe (by kernel_rfl) (by kernel_rfl) (fun (f : Nat → Bool) (e : Nat → Value) (w : World) => StN (fun _ v => v = .int .i64 (er : Int)) X #[.int .i64 1, .int .i64 node, .int .u64 (nid : Int), .int .u64 (ix : Int)] 5 11 Bp Bt Bd t t' f e w) (But (Ch Bt Bd)) hre ((fun _ _ _ h k => h.trans k)) ((But.refl _ _).drew) (fun e => StN.start HBo1.out HK1.out HOx.out e) (ssC Bp Bd X node nid ix) (fun | 5, v, w => True | 11, v, w => True | _, _, _ => True) (fun i => ([5, 11] : List Nat).contains i) (fun i => ([2, 4, 5, 8, 10, 11, 12] : List Nat).contains i) (by kernel_rfl) (fun i v w w' h g => by revert h; split <;> exact id) [5, 11] (by decide) (hrd _) ?_ (Go.Rel.AllOf.get ?_) ?_
          · repeat (refine .cons (by first | exact Go.Rel.pure_sp rfl | exact Go.Rel.pure_yes (by kernel_rfl) (fun _ => by kernel_rfl) | exact Go.Rel.pure_no (by kernel_rfl) rfl) ?_)
            exact .nil
          · refine ⟨?_, ?_, ?_, ?_, ?_, ?_, ?_, trivial⟩
            · exact SpecE.ld (hrd _) hre (q := .pointer (some ⟨X, 2, none⟩)) (h := fun _ w' _ hI _ _ _ _ => by obtain ⟨y0, y1, y2, y3⟩ := st_blk hI.blk; go_simp; rfl)
            · exact SpecE.ld (hrd _) hre (q := .pointer (some ⟨X, 3, none⟩)) (h := fun _ w' _ hI _ _ _ _ => by obtain ⟨y0, y1, y2, y3⟩ := st_blk hI.blk; go_simp; rfl)
            · refine SpecE.gen (fun e => [(69, .pointer (some ⟨Bp, 0, none⟩)), (71, .int .u64 (nid : Int)), (73, .int .u64 (ix : Int))]) rfl rfl (fun _ => by kernel_rfl) fun f w' e hI hf hdesc hanc hle hX K hK => ?_
              go_simp
              refine (HCp.out f e w' hI hf).mono ?_
              rintro e9 w9 ⟨v9, rfl, h9, hb9⟩
              exact hK _ _ hb9 (fun e' hp => h9 e' (fun m hm => hp.1 m hm) (hp.2 rfl)) trivial
            · exact SpecE.ld (hrd _) hre (q := .pointer (some ⟨X, 2, none⟩)) (h := fun _ w' _ hI _ _ _ _ => by obtain ⟨y0, y1, y2, y3⟩ := st_blk hI.blk; go_simp; rfl)
            · exact SpecE.ld (hrd _) hre (q := .pointer (some ⟨X, 3, none⟩)) (h := fun _ w' _ hI _ _ _ _ => by obtain ⟨y0, y1, y2, y3⟩ := st_blk hI.blk; go_simp; rfl)
            · refine SpecE.gen (fun e => [(75, .pointer (some ⟨Bd, 0, none⟩)), (77, .int .u64 (nid : Int)), (79, .int .u64 (ix : Int))]) rfl rfl (fun _ => by kernel_rfl) fun f w' e hI hf hdesc hanc hle hX K hK => ?_
              go_simp
              refine (HCd.out f e w' hI hf).mono ?_
              rintro e9 w9 ⟨v9, rfl, h9, hb9⟩
              exact hK _ _ hb9 (fun e' hp => h9 e' (fun m hm => hp.1 m hm) (hp.2 rfl)) trivial
            · refine SpecE.gen (fun e => [(74, e 5), (80, e 11)]) rfl rfl (fun _ => by kernel_rfl) fun f w' e hI hf hdesc hanc hle hX K hK => ?_
              have q1 := hI.k1 (hanc 60 5 (by kernel_rfl))
              have q2 := hI.k2 (hanc 60 11 (by kernel_rfl))
              simp only [q1, q2]
              go_simp
              exact hK _ _ (hre _) (fun e' hp => hrd _ f e w' 12 _ e' rfl hI hp) rfl
          · intro f w2 e hall hJ hle hv
            have hb2 := hJ.both
            rw [hall 5 (by decide), hall 11 (by decide)] at hb2
            have HB2 : Hid (Both w2 Bp Bt t' Bd t') := Lib.hid hb2
            have HL2 : Hid (But (Ch Bt Bd) W1 w2) := Lib.hid hle
            have v9 := hv 13 rfl
            simp only [Go.Rel.finL, List.setIfInBounds_toArray, List.set_cons_succ, List.set_cons_zero]
            rw [show e 13 = .bool true from v9]
            clear hv hall hJ hle hb2 v9
            go_wp2
            go_meet
            case rel => exact ⟨rfl, HB2, HL2⟩
        · obtain ⟨r, hr⟩ : ∃ r, t.closeN node ix = r := ⟨_, rfl⟩
          have ht : r.2 = t' := by have := HAf.out; rw [hr] at this; simpa using this
          obtain ⟨ids, hids⟩ : ∃ ids, r.1 = ids := ⟨_, rfl⟩
          have HMl : Hid (ids.length ≤ maxLen) := Lib.hid (by
            have h1 := ids_length t.l node
            have h2 := HOt.out.len
            have h3 := HOt.out.most
            rw [← hids, ← hr]
            show (idsS t.l node).length ≤ maxLen
            unfold maxLen
            omega)
          have HCp : Hid (∀ (f : Nat → Bool) (e : Nat → Value) (w' : World), StN (fun w v => NumV w Bt Bd ids v) X #[.int .i64 2, .int .i64 node, .int .u64 (nid : Int), .int .u64 (ix : Int)] 5 11 Bp Bt Bd t t' f e w' → f 5 = false → Calls Try.prog 14 #[.pointer (some ⟨Bp, 0, none⟩), .int .i64 node, .int .u64 (ix : Int)] w' fun r w2 => ∃ v, r = .returned v ∧ (∀ e', (∀ m, m ≠ 5 → e' m = e m) → e' 5 = v → StN (fun w v => NumV w Bt Bd ids v) X #[.int .i64 2, .int .i64 node, .int .u64 (nid : Int), .int .u64 (ix : Int)] 5 11 Bp Bt Bd t t' (Go.Rel.upd f 5) e' w2) ∧ But (Ch Bt Bd) w' w2) := Lib.hid fun f e w' hI hf =>
            hI.left (fun _ _ _ h g => h.but g) (by decide) hf fun S h hl1 hl2 => by
              have h9 := snode_any node ix h HIx.out
              rw [hr, ht, hids] at h9
              exact h9.mono fun r w2 ⟨v, h1, h2, h3, h4⟩ => ⟨v, h1, .of_row h2 hl1 hl2, h3, h4⟩
          have HCd : Hid (∀ (f : Nat → Bool) (e : Nat → Value) (w' : World), StN (fun w v => NumV w Bt Bd ids v) X #[.int .i64 2, .int .i64 node, .int .u64 (nid : Int), .int .u64 (ix : Int)] 5 11 Bp Bt Bd t t' f e w' → f 11 = false → Calls Try.prog 15 #[.pointer (some ⟨Bd, 0, none⟩), .int .i64 node, .int .u64 (ix : Int)] w' fun r w2 => ∃ v, r = .returned v ∧ (∀ e', (∀ m, m ≠ 11 → e' m = e m) → e' 11 = v → StN (fun w v => NumV w Bt Bd ids v) X #[.int .i64 2, .int .i64 node, .int .u64 (nid : Int), .int .u64 (ix : Int)] 5 11 Bp Bt Bd t t' (Go.Rel.upd f 11) e' w2) ∧ But (Ch Bt Bd) w' w2) := Lib.hid fun f e w' hI hf =>
            hI.right (fun _ _ _ h g => h.but g) (by decide) hf fun S h hl1 hl2 => by
              have h9 := rsnode_any node ix w' h HIx.out
              rw [hr, ht, hids] at h9
              exact h9.mono fun r w2 ⟨v, h1, h2, h3, h4⟩ => ⟨v, h1, .of_row h2 hl1 hl2, h3, h4⟩
          clear hr ht hids x0 x1 x2 x3
          go_wp2_with fail
          have hre : ∀ w : World, (But (Ch Bt Bd)) w w := (fun w => But.refl _ w)
          have hrd : ∀ (ops9 : Array Oper) (f9 : Nat → Bool) (e9 : Nat → Value) (w9 : World) (i9 : Nat) (v9 : Value) (e8 : Nat → Value), [5, 11].contains i9 = false → (fun (f : Nat → Bool) (e : Nat → Value) (w : World) => StN (fun w v => NumV w Bt Bd ids v) X #[.int .i64 2, .int .i64 node, .int .u64 (nid : Int), .int .u64 (ix : Int)] 5 11 Bp Bt Bd t t' f e w) f9 e9 w9 → Go.Rel.Put ops9 i9 e9 v9 e8 → (fun (f : Nat → Bool) (e : Nat → Value) (w : World) => StN (fun w v => NumV w Bt Bd ids v) X #[.int .i64 2, .int .i64 node, .int .u64 (nid : Int), .int .u64 (ix : Int)] 5 11 Bp Bt Bd t t' f e w) (Go.Rel.upd f9 i9) e8 w9 := (fun _ _ _ _ _ _ _ hj h hp => StN.keep hj h hp)
          refine Go.Rel.wp_tabe (by kernel_rfl) (by kernel_rfl) (fun (f : Nat → Bool) (e : Nat → Value) (w : World) => StN (fun w v => NumV w Bt Bd ids v) X #[.int .i64 2, .int .i64 node, .int .u64 (nid : Int), .int .u64 (ix : Int)] 5 11 Bp Bt Bd t t' f e w) (But (Ch Bt Bd)) hre ((fun _ _ _ h k => h.trans k)) ((But.refl _ _).drew) (fun e => StN.start HBo1.out HK1.out HOx.out e) (ssN Bp Bd X node nid ix) (fun | 5, v, w => True | 11, v, w => True | _, _, _ => True) (fun i => ([5, 11] : List Nat).contains i) (fun i => ([2, 4, 5, 8, 10, 11, 12] : List Nat).contains i) (by kernel_rfl) (fun i v w w' h g => by revert h; split <;> exact id) [5, 11] (by decide) (hrd _) ?_ (Go.Rel.AllOf.get ?_) ?_
          · repeat (refine .cons (by first | exact Go.Rel.pure_sp rfl | exact Go.Rel.pure_yes (by kernel_rfl) (fun _ => by kernel_rfl) | exact Go.Rel.pure_no (by kernel_rfl) rfl) ?_)
            exact .nil
          · refine ⟨?_, ?_, ?_, ?_, ?_, ?_, ?_, trivial⟩
            · exact SpecE.ld (hrd _) hre (q := .pointer (some ⟨X, 1, none⟩)) (h := fun _ w' _ hI _ _ _ _ => by obtain ⟨y0, y1, y2, y3⟩ := st_blk hI.blk; go_simp; rfl)
            · exact SpecE.ld (hrd _) hre (q := .pointer (some ⟨X, 3, none⟩)) (h := fun _ w' _ hI _ _ _ _ => by obtain ⟨y0, y1, y2, y3⟩ := st_blk hI.blk; go_simp; rfl)
            · refine SpecE.gen (fun e => [(84, .pointer (some ⟨Bp, 0, none⟩)), (86, .int .i64 node), (88, .int .u64 (ix : Int))]) rfl rfl (fun _ => by kernel_rfl) fun f w' e hI hf hdesc hanc hle hX K hK => ?_
              go_simp
              refine (HCp.out f e w' hI hf).mono ?_
              rintro e9 w9 ⟨v9, rfl, h9, hb9⟩
              exact hK _ _ hb9 (fun e' hp => h9 e' (fun m hm => hp.1 m hm) (hp.2 rfl)) trivial
            · exact SpecE.ld (hrd _) hre (q := .pointer (some ⟨X, 1, none⟩)) (h := fun _ w' _ hI _ _ _ _ => by obtain ⟨y0, y1, y2, y3⟩ := st_blk hI.blk; go_simp; rfl)
            · exact SpecE.ld (hrd _) hre (q := .pointer (some ⟨X, 3, none⟩)) (h := fun _ w' _ hI _ _ _ _ => by obtain ⟨y0, y1, y2, y3⟩ := st_blk hI.blk; go_simp; rfl)
            · refine SpecE.gen (fun e => [(90, .pointer (some ⟨Bd, 0, none⟩)), (92, .int .i64 node), (94, .int .u64 (ix : Int))]) rfl rfl (fun _ => by kernel_rfl) fun f w' e hI hf hdesc hanc hle hX K hK => ?_
              go_simp
              refine (HCd.out f e w' hI hf).mono ?_
              rintro e9 w9 ⟨v9, rfl, h9, hb9⟩
              exact hK _ _ hb9 (fun e' hp => h9 e' (fun m hm => hp.1 m hm) (hp.2 rfl)) trivial
            · refine SpecE.gen (fun e => [(89, e 5), (95, e 11)]) rfl rfl (fun _ => by kernel_rfl) fun f w' e hI hf hdesc hanc hle hX K hK => ?_
              obtain ⟨A1, c1, q1, s1, _⟩ := hI.k1 (hanc 60 5 (by kernel_rfl))
              obtain ⟨A2, c2, q2, s2, _⟩ := hI.k2 (hanc 60 11 (by kernel_rfl))
              simp only [q1, q2]
              go_simp
              refine (nums_any A1 _ c1 ids A2 c2 w' s1 s2 HMl.out).mono ?_
              rintro e9 w9 ⟨rfl, hb9⟩
              exact hK _ _ (But.of_below hb9) (fun e' hp => (StN.below (fun _ _ _ h g => h.but g) hI hb9).keep (by decide) hp) rfl
          · intro f w2 e hall hJ hle hv
            have hb2 := hJ.both
            rw [hall 5 (by decide), hall 11 (by decide)] at hb2
            have HB2 : Hid (Both w2 Bp Bt t' Bd t') := Lib.hid hb2
            have HL2 : Hid (But (Ch Bt Bd) W1 w2) := Lib.hid hle
            have v9 := hv 13 rfl
            simp only [Go.Rel.finL, List.setIfInBounds_toArray, List.set_cons_succ, List.set_cons_zero]
            rw [show e 13 = .bool true from v9]
            clear hv hall hJ hle hb2 v9
            go_wp2
            go_meet
            case rel => exact ⟨rfl, HB2, HL2⟩
        · have ht : t = t' := by simpa using HAf.out
          subst ht
          obtain ⟨m, hm⟩ : ∃ m, t.l = m := ⟨_, rfl⟩
          obtain ⟨lst, hlst⟩ : ∃ lst, t.last = lst := ⟨_, rfl⟩
          have HMl : Hid (m.length ≤ maxLen) := Lib.hid (by
            have h2 := HOt.out.len
            have h3 := HOt.out.most
            rw [← hm]
            unfold maxLen
            omega)
          have HTm := Lib.hid hm
          have HLst := Lib.hid hlst
          obtain ⟨Sp, hp⟩ := HBo1.out.read
          have HCp := Lib.hid (scopy_any hp)
          clear hm hlst hp x0 x1 x2 x3
          go_wp2_with fail
          refine HCp.out.mono ?_
          rintro e W2 ⟨Bc, Btc, rfl, hBc, hBtc, hkc, hb2⟩
          have hbo2 := HBo1.out.below hb2
          obtain ⟨Sd, Ad, cd, -, hri⟩ := hbo2.ref
          have HRf := Lib.hid hri
          have HKc := Lib.hid hkc
          have HX2 := Lib.hid ((hb2.block X (block_lt HK1.out)).trans HK1.out)
          have HBtc := Lib.hid hBtc
          have HB2 := Lib.hid hb2
          have HCl : Hid (∀ w', Below W2.heap.size W2 w' → Calls Try.prog 18 #[.pointer (some ⟨Bc, 0, none⟩)] w' fun e w2 => ∃ A c, e = .returned (.slice A m.length c) ∧ SK snC 4 w2 A m.length m ∧ Below w'.heap.size w' w2) := Lib.hid fun w' hw => by
            refine (slist_any (hkc.below hw)).mono ?_
            rw [HTm.out]
            rintro e w2 ⟨v, e1, s1, b1⟩
            obtain ⟨A, c, rfl, s2, _⟩ := SK.of_row snC_len s1
            exact ⟨A, c, e1, s2, b1⟩
          have HLa : Hid (∀ w', Below W2.heap.size W2 w' → Calls Try.prog 19 #[.pointer (some ⟨Bc, 0, none⟩)] w' fun e w2 => e = .returned (.int .u64 (lst : Int)) ∧ w' = w2) := Lib.hid fun w' hw => by
            rw [← HLst.out]
            exact slast_any (hkc.below hw)
          clear hbo2 hri hkc hb2 hBc hBtc HCp
          go_wp2_with fail
          have hre : ∀ w : World, ((fun a b : World => Below a.heap.size a b)) w w := (fun w => Below.refl _ w)
          have hrd : ∀ (f : Nat → Bool) w i, i ≠ 1 → (fun (_ : Nat → Bool) (w : World) => Below W2.heap.size W2 w) f w → (fun (_ : Nat → Bool) (w : World) => Below W2.heap.size W2 w) (Go.Rel.upd f i) w := (fun _ _ _ _ h => h)
          refine Go.Rel.wp_tab (by kernel_rfl) (by kernel_rfl) (fun (_ : Nat → Bool) (w : World) => Below W2.heap.size W2 w) ((fun a b : World => Below a.heap.size a b)) hre ((fun _ _ _ h k => h.trans (k.mono h.size))) ((⟨rfl, rfl, rfl, Nat.le_refl _, fun _ _ => rfl⟩)) ⟨rfl, rfl, rfl, Nat.le_refl _, fun _ _ => rfl⟩ (ssP Bc Bd Ad cd lst m) (fun | 1, v, w => ∃ A c, v = .slice A m.length c ∧ SK snC 4 w A m.length m | _, _, _ => True) (fun i => ([1] : List Nat).contains i) (fun i => ([1, 5, 6, 9, 13, 14] : List Nat).contains i) (by kernel_rfl) (fun i v w w' h g => by revert h; split <;> intro h <;> first | exact h | trivial | (obtain ⟨A, c, e, k⟩ := h; exact ⟨A, c, e, k.below g⟩)) 1 rfl hrd ?_ (Go.Rel.AllOf.get ?_) ?_
          · repeat (refine .cons (by first | exact Go.Rel.pure_sp rfl | exact Go.Rel.pure_yes (by kernel_rfl) (fun _ => by kernel_rfl) | exact Go.Rel.pure_no (by kernel_rfl) rfl) ?_)
            exact .nil
          · refine ⟨?_, ?_, ?_, ?_, ?_, ?_, trivial⟩
            · refine SpecOk.call 18 #[.pointer (some ⟨Bc, 0, none⟩)] rfl (by kernel_rfl) (fun _ => by kernel_rfl) fun _ w' hI _ _ _ _ => ?_
              refine (HCl.out w' hI).mono ?_
              rintro e9 w9 ⟨A9, c9, rfl, s9, hb9⟩
              exact ⟨_, rfl, hb9, (hI.trans (hb9.mono hI.size)), ⟨A9, c9, rfl, s9⟩⟩
            · exact SpecOk.ld hrd hre (q := .pointer (some ⟨Bd, 1, none⟩)) (h := fun _ w' hI _ _ _ _ => by have hri := HRf.out.below hI; have c1 := hri.c1; rw [HTm.out] at c1; go_simp; rfl)
            · refine SpecOk.gen (fun e => [(102, e 1), (106, .slice Ad m.length cd)]) rfl rfl (fun _ => by kernel_rfl) fun f w' e hI hf hdesc hanc hle hX K hK => ?_
              obtain ⟨A3, c3, e3, s3⟩ := hX 1 rfl rfl
              have hri := HRf.out.below hI
              have s5 := hri.row
              rw [HTm.out] at s5
              go_simp
              refine (rssame_any A3 _ c3 m Ad cd w' s3 s5 HMl.out).mono ?_
              rintro e9 w9 ⟨rfl, hb9⟩
              exact hK _ _ hb9 (hI.trans (hb9.mono hI.size)) rfl
            · refine SpecOk.call 19 #[.pointer (some ⟨Bc, 0, none⟩)] rfl (by kernel_rfl) (fun _ => by kernel_rfl) fun _ w' hI _ _ _ _ => ?_
              refine (HLa.out w' hI).mono ?_
              rintro e9 w9 ⟨rfl, rfl⟩
              exact ⟨_, rfl, (Below.refl _ _), hI, rfl⟩
            · exact SpecOk.ld hrd hre (q := .pointer (some ⟨Bd, 2, none⟩)) (h := fun _ w' hI _ _ _ _ => by have hri := HRf.out.below hI; have c2 := hri.c2; rw [HLst.out] at c2; go_simp; rfl)
            · refine SpecOk.gen (fun e => [(110, .int .u64 (lst : Int)), (114, .int .u64 (lst : Int))]) rfl rfl (fun _ => by kernel_rfl) fun f w' e hI hf hdesc hanc hle hX K hK => ?_
              have hq : ((lst : Int) == (lst : Int)) = true := by simp
              go_simp
              exact hK _ _ (hre _) (hrd f w' 14 (by decide) hI) rfl
          · intro f w3 e hall hJ hle hv
            have HJ := Lib.hid hJ
            have v9 := hv 16 rfl
            simp only [Go.Rel.finL, List.setIfInBounds_toArray, List.set_cons_succ, List.set_cons_zero]
            rw [show e 16 = .bool true from v9]
            have hk3 := HKc.out.below hJ
            have hx3 := (hJ.block X (block_lt HX2.out)).trans HX2.out
            have HX3 := Lib.hid hx3
            obtain ⟨x0, x1, x2, x3⟩ := st_blk hx3
            have HAdd := Lib.hid (sopen_any node ix hk3 HIx.out)
            have HB3 : Hid (Below W1.heap.size W1 w3) := Lib.hid (HB2.out.trans (hJ.mono HB2.out.size))
            have HXt : Hid (X ≠ Btc) := Lib.hid (by have h1 := block_lt HK1.out; have h2 := HBtc.out; omega)
            clear hv hall hJ hle v9 hk3 hx3
            go_wp2_with fail
            refine HAdd.out.mono ?_
            rintro e w4 ⟨rfl, hk4, hb4⟩
            have hx4 := (hb4.block X (block_lt HX3.out) HXt.out).trans HX3.out
            have HB4 : Hid (Below W1.heap.size W1 w4) := Lib.hid (HB3.out.trans (hb4.below HB3.out.size fun j hj e => by have h1 := HBtc.out; have h2 : j = Btc := e; omega))
            have HDrop := Lib.hid (snode_any node 18446744073709551615 hk4 (by decide) : Calls Try.prog 14 #[.pointer (some ⟨Bc, 0, none⟩), .int .i64 node, .int .u64 18446744073709551615] w4 _)
            clear x0 x1 x2 x3
            obtain ⟨x0, x1, x2, x3⟩ := st_blk hx4
            clear hk4 hb4 hx4 HAdd
            go_wp2_with fail
            refine HDrop.out.mono ?_
            rintro e w6 ⟨v6, rfl, -, -, hb6⟩
            have HB6 : Hid (Below W1.heap.size W1 w6) := Lib.hid (HB4.out.trans (hb6.below HB4.out.size fun j hj e => by have h1 := HBtc.out; have h2 : j = Btc := e; omega))
            have HBo6 : Hid (Both w6 Bp Bt t Bd t) := Lib.hid (HBo1.out.below HB6.out)
            have HL6 : Hid (But (Ch Bt Bd) W1 w6) := Lib.hid (But.of_below HB6.out)
            clear hb6 HDrop x0 x1 x2 x3
            go_wp2
            go_meet
            case rel => exact ⟨rfl, HBo6, HL6⟩
        · have ht : t = t' := by have := HAf.out; rw [if_neg n0, if_neg n1, if_neg n2] at this; exact this
          subst ht
          have m0 : (kind == 0) = false := by rw [beq_eq_false_iff_ne]; exact n0
          have m1 : (kind == 1) = false := by rw [beq_eq_false_iff_ne]; exact n1
          have m2 : (kind == 2) = false := by rw [beq_eq_false_iff_ne]; exact n2
          have m3 : (kind == 3) = false := by rw [beq_eq_false_iff_ne]; exact n3
          have HL6 : Hid (But (Ch Bt Bd) W1 W1) := Lib.hid (But.refl _ _)
          clear n0 n1 n2 n3 x0 x1 x2 x3
          go_wp2
          go_meet
          case rel => exact ⟨rfl, HBo1, HL6⟩
      case rest =>
        obtain ⟨rfl, hbo2, hb2⟩ := hcut
        have hxc := (hb2.out.block X (block_lt HK1.out) fun z => by rcases z with z | z; exact HOx.out.1 z.symm; exact HOx.out.2 z.symm).trans HK1.out
        have HBc : Hid (Below g0 w wc) := Lib.hid (HB1.out.trans (hb2.out.below (by have := HB1.out.size; have := HG0.out; omega) fun j hj e => by rcases e with e | e <;> omega))
        have hzc : g0 ≤ wc.heap.size := by have := HBc.out.size; have := HG0.out; omega
        obtain ⟨gv, hgv⟩ : ∃ gv, getS t'.l nid = gv := ⟨_, rfl⟩
        obtain ⟨lst, hlst⟩ : ∃ lst, t'.last = lst := ⟨_, rfl⟩
        obtain ⟨cv, hcv⟩ : ∃ cv : Sn, getV gv = .tuple #[snV cv, .bool gv.isSome] := by
          cases gv with
          | none => exact ⟨⟨0, 0, 0, 0⟩, rfl⟩
          | some x => exact ⟨x, rfl⟩
        obtain ⟨Sp, hp⟩ := hbo2.out.read
        have hge := sget_any nid hp HId.out
        rw [hgv, hcv] at hge
        unfold snV at hge
        have HGe := Lib.hid hge
        have HGd : Hid (∀ W, Below wc.heap.size wc W → Calls Try.prog 21 #[.pointer (some ⟨Bd, 0, none⟩), .int .u64 (nid : Int)] W fun e w2 => e = .returned (.tuple #[.agg #[.int .u64 (cv.id : Int), .int .i64 cv.node, .int .u64 (cv.made : Int), .int .u64 (cv.ix : Int)], .bool gv.isSome]) ∧ Below W.heap.size W w2) := Lib.hid fun W hW => by
          obtain ⟨Sd, A9, c9, -, hri⟩ := (hbo2.out.below hW).ref
          have h9 := rsget_any nid W hri
          rw [hgv, hcv] at h9
          exact h9
        have HLs := Lib.hid hlst
        obtain ⟨x0, x1, x2, x3⟩ := st_blk hxc
        have HXc := Lib.hid hxc
        obtain ⟨gb, hgb⟩ : ∃ gb, gv.isSome = gb := ⟨_, rfl⟩
        rw [hgb] at HGe HGd
        clear hgv hlst hcv hp hge hxc hgb
        go_wp2_with fail
        refine HGe.out.mono ?_
        rintro e w3 ⟨rfl, hb3⟩
        obtain ⟨V1, hV1⟩ : ∃ V1, w3.alloc (.cells #[.int .u64 (cv.id : Int), .int .i64 cv.node, .int .u64 (cv.made : Int), .int .u64 (cv.ix : Int)] TSn) = V1 := ⟨_, rfl⟩
        have hbv1 : Below wc.heap.size wc V1 := by rw [← hV1]; exact hb3.alloc hb3.size _
        have hkv1 : V1.heap[w3.heap.size]? = some (.cells #[.int .u64 (cv.id : Int), .int .i64 cv.node, .int .u64 (cv.made : Int), .int .u64 (cv.ix : Int)] TSn (0, 0)) := by rw [← hV1]; exact heap_alloc_new w3 _
        have hxv := (hbv1.block X (block_lt HXc.out)).trans HXc.out
        clear x0 x1 x2 x3
        obtain ⟨x0, x1, x2, x3⟩ := st_blk hxv
        rw [← hV1] at x0 x1 x2 x3
        have HKv1 := Lib.hid hkv1
        have HBv1 := Lib.hid hbv1
        have HV1 := Lib.hid hV1
        obtain ⟨Y3, hY3⟩ : ∃ Y3, w3.heap.size = Y3 := ⟨_, rfl⟩
        have HY3 := Lib.hid hY3
        clear hb3 hV1 hbv1 hkv1 hxv hY3 HGe
        go_wp2_with fail
        refine (HGd.out _ (by rw [HV1.out]; exact HBv1.out)).mono ?_
        rintro e w4 ⟨rfl, hb4⟩
        rw [HV1.out] at hb4
        obtain ⟨V2, hV2⟩ : ∃ V2, w4.alloc (.cells #[.int .u64 (cv.id : Int), .int .i64 cv.node, .int .u64 (cv.made : Int), .int .u64 (cv.ix : Int)] TSn) = V2 := ⟨_, rfl⟩
        have hbv2 : Below V1.heap.size V1 V2 := by rw [← hV2]; exact hb4.alloc hb4.size _
        have hkv2 : V2.heap[w4.heap.size]? = some (.cells #[.int .u64 (cv.id : Int), .int .i64 cv.node, .int .u64 (cv.made : Int), .int .u64 (cv.ix : Int)] TSn (0, 0)) := by rw [← hV2]; exact heap_alloc_new w4 _
        have hkv3 := (hbv2.block w3.heap.size (block_lt HKv1.out)).trans HKv1.out
        have HB9 : Hid (Below wc.heap.size wc V2) := Lib.hid (HBv1.out.trans (hbv2.mono HBv1.out.size))
        have hbo9 := hbo2.out.below HB9.out
        obtain ⟨Sd, A9, c9, -, hri⟩ := hbo9.ref
        have c2 := hri.c2
        rw [HLs.out] at c2
        obtain ⟨a0, a1, a2, a3⟩ := sn_blk hkv3
        obtain ⟨b0, b1, b2, b3⟩ := sn_blk hkv2
        have qc := cell_regrown c2
        have qa0 := cell_regrown a0
        have qa1 := cell_regrown a1
        have qa2 := cell_regrown a2
        have qa3 := cell_regrown a3
        have qb0 := cell_regrown b0
        have qb1 := cell_regrown b1
        have qb2 := cell_regrown b2
        have qb3 := cell_regrown b3
        obtain ⟨Sp9, hp9⟩ := hbo9.read
        have HLa : Hid (∀ d os, Calls Try.prog 19 #[.pointer (some ⟨Bp, 0, none⟩)] (grow (redrawn V2 d) os) fun e w2 => e = .returned (.int .u64 (lst : Int)) ∧ ∃ p : Regrown, w2 = grow (redrawn V2 p.d) p.os) := Lib.hid fun d os => by
          rw [← HLs.out]
          exact (slast_any (hp9.below (below_regrown V2 d os))).mono fun e w2 ⟨h1, h2⟩ => ⟨h1, ⟨d, os⟩, h2.symm⟩
        have HBo9 := Lib.hid hbo9
        have HV2 := Lib.hid hV2
        have ug := sn_guard
        have ue := sn_eq cv cv
        rw [(eqSn_iff cv cv).2 rfl] at ue
        unfold snV at ue
        have zz1 : ((lst : Int) != (lst : Int)) = false := by simp
        have zz2 : (gb != gb) = false := by simp
        clear hb4 hV2 hbv2 hkv2 hkv3 hbo9 hri c2 a0 a1 a2 a3 b0 b1 b2 b3 hp9 x0 x1 x2 x3 HGd
        go_wp2_with fail
        rw [HV2.out]
        refine wp_region_quiet_below (by kernel_rfl) (by kernel_rfl) ?_
        repeat (go_big_quiet_step (exact HLa.out _ _))
        refine wpQuiet_nil ?_
        rintro _ ⟨⟨dq, osq⟩, rfl⟩
        have HBoE := Lib.hid (HBo9.out.below (below_regrown V2 dq osq))
        have HBE : Hid (Below g0 w (grow (redrawn V2 dq) osq)) := Lib.hid (HBc.out.trans ((HB9.out.trans ((below_regrown V2 dq osq).mono HB9.out.size)).mono hzc))
        clear qc qa0 qa1 qa2 qa3 qb0 qb1 qb2 qb3 HLa ug ue
        go_wp2
        go_roundw
        case rel => exact ⟨k + 1, t', by omega, by go_num, HBoE, HBE⟩
        case measure => simp [intOf]; omega
    · have q : ¬ ((k : Int) < (n : Int) ∧ (k : Int) < 80) := by omega
      obtain ⟨Sd, Ad, cd, hok2, hri⟩ := hbo.out.ref
      obtain ⟨Sp, hkp⟩ := hbo.out.read
      have HRf := Lib.hid hri
      have HMl : Hid (t.l.length ≤ maxLen) := Lib.hid (by
        have h1 := hok2.len
        have h2 := hok2.most
        unfold maxLen
        omega)
      obtain ⟨m, hm⟩ : ∃ m, t.l = m := ⟨_, rfl⟩
      rw [hm] at HMl
      have HTm := Lib.hid hm
      have HCl : Hid (∀ w', Below wr.heap.size wr w' → Calls Try.prog 18 #[.pointer (some ⟨Bp, 0, none⟩)] w' fun e w2 => ∃ A c, e = .returned (.slice A m.length c) ∧ SK snC 4 w2 A m.length m ∧ Below w'.heap.size w' w2) := Lib.hid fun w' hw => by
        refine (slist_any (hkp.below hw)).mono ?_
        rw [HTm.out]
        rintro e w2 ⟨v, e1, s1, b1⟩
        obtain ⟨A, c, rfl, s2, _⟩ := SK.of_row snC_len s1
        exact ⟨A, c, e1, s2, b1⟩
      clear hri hkp hm hok2
      have HDone : Hid (∀ w6, Below wr.heap.size wr w6 → Below g0 w w6) := Lib.hid fun w6 hJ => hb.out.trans (hJ.mono hz3)
      rcases (show (¬ k < n) ∨ (k < n ∧ ¬ k < 80) by omega) with h1 | ⟨h1, h2⟩
      · have q1 : ¬ (k : Int) < (n : Int) := by omega
        clear q
        go_wp2
        have hre : ∀ w : World, ((fun a b : World => Below a.heap.size a b)) w w := (fun w => Below.refl _ w)
        have hrd : ∀ (f : Nat → Bool) w i, i ≠ 1 → (fun (_ : Nat → Bool) (w : World) => Below wr.heap.size wr w) f w → (fun (_ : Nat → Bool) (w : World) => Below wr.heap.size wr w) (Go.Rel.upd f i) w := (fun _ _ _ _ h => h)
        refine Go.Rel.wp_tab (by kernel_rfl) (by kernel_rfl) (fun (_ : Nat → Bool) (w : World) => Below wr.heap.size wr w) ((fun a b : World => Below a.heap.size a b)) hre ((fun _ _ _ h k => h.trans (k.mono h.size))) ((⟨rfl, rfl, rfl, Nat.le_refl _, fun _ _ => rfl⟩)) ⟨rfl, rfl, rfl, Nat.le_refl _, fun _ _ => rfl⟩ (ssF Bp Bd Ad cd m) (fun | 1, v, w => ∃ A c, v = .slice A m.length c ∧ SK snC 4 w A m.length m | _, _, _ => True) (fun i => ([1] : List Nat).contains i) (fun i => ([1, 5, 6, 8] : List Nat).contains i) (by kernel_rfl) (fun i v w w' h g => by revert h; split <;> intro h <;> first | exact h | trivial | (obtain ⟨A, c, e, k⟩ := h; exact ⟨A, c, e, k.below g⟩)) 1 rfl hrd ?_ (Go.Rel.AllOf.get ?_) ?_
        · repeat (refine .cons (by first | exact Go.Rel.pure_sp rfl | exact Go.Rel.pure_yes (by kernel_rfl) (fun _ => by kernel_rfl) | exact Go.Rel.pure_no (by kernel_rfl) rfl) ?_)
          exact .nil
        · refine ⟨?_, ?_, ?_, ?_, trivial⟩
          · refine SpecOk.call 18 #[.pointer (some ⟨Bp, 0, none⟩)] rfl (by kernel_rfl) (fun _ => by kernel_rfl) fun _ w' hI _ _ _ _ => ?_
            refine (HCl.out w' hI).mono ?_
            rintro e9 w9 ⟨A9, c9, rfl, s9, hb9⟩
            exact ⟨_, rfl, hb9, (hI.trans (hb9.mono hI.size)), ⟨A9, c9, rfl, s9⟩⟩
          · exact SpecOk.ld hrd hre (q := .pointer (some ⟨Bd, 1, none⟩)) (h := fun _ w' hI _ _ _ _ => by have hri := HRf.out.below hI; have c1 := hri.c1; rw [HTm.out] at c1; go_simp; rfl)
          · refine SpecOk.gen (fun e => [(163, e 1), (167, .slice Ad m.length cd)]) rfl rfl (fun _ => by kernel_rfl) fun f w' e hI hf hdesc hanc hle hX K hK => ?_
            obtain ⟨A3, c3, e3, s3⟩ := hX 1 rfl rfl
            have hri := HRf.out.below hI
            have s5 := hri.row
            rw [HTm.out] at s5
            go_simp
            refine (rssame_any A3 _ c3 m Ad cd w' s3 s5 HMl.out).mono ?_
            rintro e9 w9 ⟨rfl, hb9⟩
            exact hK _ _ hb9 (hI.trans (hb9.mono hI.size)) rfl
          · refine SpecOk.call 22 #[] rfl (by kernel_rfl) (fun _ => by kernel_rfl) fun _ w' hI _ _ _ _ => ?_
            refine (works_any w').mono ?_
            rintro e9 w9 ⟨rfl, hb9⟩
            exact ⟨_, rfl, hb9, (hI.trans (hb9.mono hI.size)), rfl⟩
        · intro f w6 e hall hJ hle hv
          have HB6 := Lib.hid (HDone.out w6 hJ)
          have v9 := hv 10 rfl
          simp only [Go.Rel.finL, List.setIfInBounds_toArray, List.set_cons_succ, List.set_cons_zero]
          rw [show e 10 = .bool true from v9]
          clear hv hall hJ hle v9
          go_wp2
          go_ret
          exact ⟨rfl, HB6.out⟩
      · have q1 : (k : Int) < (n : Int) := by omega
        have q2 : ¬ (k : Int) < 80 := by omega
        clear q
        go_wp2
        have hre : ∀ w : World, ((fun a b : World => Below a.heap.size a b)) w w := (fun w => Below.refl _ w)
        have hrd : ∀ (f : Nat → Bool) w i, i ≠ 1 → (fun (_ : Nat → Bool) (w : World) => Below wr.heap.size wr w) f w → (fun (_ : Nat → Bool) (w : World) => Below wr.heap.size wr w) (Go.Rel.upd f i) w := (fun _ _ _ _ h => h)
        refine Go.Rel.wp_tab (by kernel_rfl) (by kernel_rfl) (fun (_ : Nat → Bool) (w : World) => Below wr.heap.size wr w) ((fun a b : World => Below a.heap.size a b)) hre ((fun _ _ _ h k => h.trans (k.mono h.size))) ((⟨rfl, rfl, rfl, Nat.le_refl _, fun _ _ => rfl⟩)) ⟨rfl, rfl, rfl, Nat.le_refl _, fun _ _ => rfl⟩ (ssF Bp Bd Ad cd m) (fun | 1, v, w => ∃ A c, v = .slice A m.length c ∧ SK snC 4 w A m.length m | _, _, _ => True) (fun i => ([1] : List Nat).contains i) (fun i => ([1, 5, 6, 8] : List Nat).contains i) (by kernel_rfl) (fun i v w w' h g => by revert h; split <;> intro h <;> first | exact h | trivial | (obtain ⟨A, c, e, k⟩ := h; exact ⟨A, c, e, k.below g⟩)) 1 rfl hrd ?_ (Go.Rel.AllOf.get ?_) ?_
        · repeat (refine .cons (by first | exact Go.Rel.pure_sp rfl | exact Go.Rel.pure_yes (by kernel_rfl) (fun _ => by kernel_rfl) | exact Go.Rel.pure_no (by kernel_rfl) rfl) ?_)
          exact .nil
        · refine ⟨?_, ?_, ?_, ?_, trivial⟩
          · refine SpecOk.call 18 #[.pointer (some ⟨Bp, 0, none⟩)] rfl (by kernel_rfl) (fun _ => by kernel_rfl) fun _ w' hI _ _ _ _ => ?_
            refine (HCl.out w' hI).mono ?_
            rintro e9 w9 ⟨A9, c9, rfl, s9, hb9⟩
            exact ⟨_, rfl, hb9, (hI.trans (hb9.mono hI.size)), ⟨A9, c9, rfl, s9⟩⟩
          · exact SpecOk.ld hrd hre (q := .pointer (some ⟨Bd, 1, none⟩)) (h := fun _ w' hI _ _ _ _ => by have hri := HRf.out.below hI; have c1 := hri.c1; rw [HTm.out] at c1; go_simp; rfl)
          · refine SpecOk.gen (fun e => [(163, e 1), (167, .slice Ad m.length cd)]) rfl rfl (fun _ => by kernel_rfl) fun f w' e hI hf hdesc hanc hle hX K hK => ?_
            obtain ⟨A3, c3, e3, s3⟩ := hX 1 rfl rfl
            have hri := HRf.out.below hI
            have s5 := hri.row
            rw [HTm.out] at s5
            go_simp
            refine (rssame_any A3 _ c3 m Ad cd w' s3 s5 HMl.out).mono ?_
            rintro e9 w9 ⟨rfl, hb9⟩
            exact hK _ _ hb9 (hI.trans (hb9.mono hI.size)) rfl
          · refine SpecOk.call 22 #[] rfl (by kernel_rfl) (fun _ => by kernel_rfl) fun _ w' hI _ _ _ _ => ?_
            refine (works_any w').mono ?_
            rintro e9 w9 ⟨rfl, hb9⟩
            exact ⟨_, rfl, hb9, (hI.trans (hb9.mono hI.size)), rfl⟩
        · intro f w6 e hall hJ hle hv
          have HB6 := Lib.hid (HDone.out w6 hJ)
          have v9 := hv 10 rfl
          simp only [Go.Rel.finL, List.setIfInBounds_toArray, List.set_cons_succ, List.set_cons_zero]
          rw [show e 10 = .bool true from v9]
          clear hv hall hJ hle v9
          go_wp2
          go_ret
          exact ⟨rfl, HB6.out⟩
end Go.Proofs.Ytnobpbbedclbkaa
