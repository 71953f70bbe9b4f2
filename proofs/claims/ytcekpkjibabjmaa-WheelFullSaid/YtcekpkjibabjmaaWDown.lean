/-
  Tick's closure, which lets a level's timers down, walked (layer 6).
-/
import Derived.Test.YtcekpkjibabjmaaWSet
namespace Go.Proofs.Ytcekpkjibabjmaa
open Go.RowKit
set_option linter.unusedSimpArgs false
set_option linter.unusedVariables false

def downR (_ : Nat → Prop) (B : Nat) (M : Nat) (id : Int) (d : Nat) (l : Nat) : Nat → Value → World → Prop
  | 0, v, _ => v = .pointer (some ⟨B, 0, none⟩)
  | 1, v, _ => v = .int .i64 id
  | 2, v, _ => v = .pointer (some ⟨B, 0, none⟩)
  | 3, v, _ => v = .pointer (some ⟨B, 0, none⟩)
  | 4, v, _ => v = .pointer (some ⟨B, 1, none⟩)
  | 5, v, _ => v = .map (some M)
  | 6, v, _ => v = .int .i64 id
  | 7, v, _ => v = .agg #[.int .i64 (d : Int), .int .i64 (l : Int)]
  | 8, v, _ => v = .int .i64 (d : Int)
  | 9, v, _ => v = .tuple #[]
  | _, _, _ => True
theorem downR_stable (S : Nat → Prop) (B : Nat) (M : Nat) (id : Int) (d : Nat) (l : Nat) : ∀ i v w w', downR S B M id d l i v w → But S w w' → downR S B M id d l i v w'
  | 0, _, _, _, h, _ | 1, _, _, _, h, _ | 2, _, _, _, h, _ | 3, _, _, _, h, _ | 4, _, _, _, h, _ | 5, _, _, _, h, _ | 6, _, _, _, h, _ | 7, _, _, _, h, _ | 8, _, _, _, h, _ | 9, _, _, _, h, _ => h
  | _ + 10, _, _, _, h, _ => h

theorem row_shape {w : World} {v : Value} {l : List Int} (h : rowOwn w v l) : ∃ A c, v = .slice A l.length c ∧ RV w A l.length (l.map encZ) ∧ ∀ b off, A = some ⟨b, off, none⟩ → v.ownBlock = some b := by
  obtain ⟨A, c, e, hR, _⟩ := RV.own h
  refine ⟨A, c, e, hR, fun b off eA => ?_⟩
  subst eA
  rcases h.2 with ⟨e0, _⟩ | ⟨g, cap, cur, e0, _⟩
  · rw [e] at e0; cases e0
  · rw [e] at e0 ⊢
    cases e0
    rfl
/-- Where a level's timers are let down: those from j on of T are still to come. -/
structure Downs (S : Nat → Prop) (w w1 : World) (B M N l : Nat) (m : Mp) (L : Tm) (T : List Int) (j : Nat) (g' : Nat → Value) (m' : Mp) (q' : Nat → List Int) : Prop where
  wh : WhIs S w B M g' N m' L.length q'
  inv : Inv (ck l N) (lessM m' (T.drop j)) q'
  tie : Tie m' L
  same : ∀ id ∈ T.drop j, m' id = m id
  kept : Kept S w1 w
set_option maxHeartbeats 8000000 in
set_option maxRecDepth 100000 in
theorem down_any {S : Nat → Prop} {B M N n : Nat} {g : Nat → Value} {m : Mp} {q : Nat → List Int} (w : World) (h : WhIs S w B M g N m n q) (hcl : ∀ k, w.heap.size ≤ k → S k) (l : Nat) (hl1 : 1 ≤ l) (hl3 : l < 3) (hI : Inv (ck (l + 1) N) m q) (hN1 : 1 ≤ N) (hN : N ≤ 1099511627776) (hb : N % pow64 l = 0)
    (L : Tm) (hT : Tie m L) (hR : Rise L) (hwf : ∀ x ∈ L, wfI x.1) (hmost : L.length ≤ 64) (hsoon : ∀ x ∈ L, N ≤ x.2 ∧ x.2 ≤ N + 262144) (X : Nat) (hX : w.heap[X]? = some (.cells #[.pointer (some ⟨B, 0, none⟩)] 23 (0, 0))) :
    Calls Try.prog 28 #[.int .i64 (l : Int), .pointer (some ⟨X, 0, none⟩)] w fun e w' => e = .returned (.tuple #[]) ∧ ∃ g' m' q', WhIs S w' B M g' N m' L.length q' ∧ Inv (ck l N) m' q' ∧ Tie m' L ∧ Kept S w w' := by
  obtain ⟨hin, _, hI0⟩ := hI.take (c' := ck l N) (t := N) hl3 (by rw [ck_at]; exact blk_next hN1 hb) (by rw [ck_next, ck_at]; exact blk_next hN1 hb) (fun j _ hne => ck_other hne)
  have hk := slotOf_lt hl3 N
  have hone := hI.one _ hk
  have HTake := Lib.hid (take_any w h l hl3 hN)
  obtain ⟨Ks, hK⟩ : ∃ Ks, slotOf l N = Ks := ⟨_, rfl⟩
  rw [hK] at hin hI0 hk hone HTake
  obtain ⟨T, hTT⟩ : ∃ T, q Ks = T := ⟨_, rfl⟩
  rw [hTT] at hin hI0 hone HTake
  have hT64 : T.length ≤ 64 := by
    have := hI.short (L := L) (fun j hj => by rw [← hT.isSome]; exact hj) hk
    rw [hTT] at this; omega
  obtain ⟨v, hv⟩ : ∃ v, g Ks = v := ⟨_, rfl⟩
  have hvo : rowOwn w v T := by rw [← hv, ← hTT]; exact h.rows.own Ks hk
  rw [hv] at HTake
  obtain ⟨A, cp, rfl, hRV0, hAb⟩ := row_shape hvo
  have hvlt : ∀ b, (Value.slice A T.length cp).ownBlock = some b → b < w.heap.size := fun b hb => own_lt hvo hb
  obtain ⟨S', hS'⟩ : ∃ S' : Nat → Prop, (fun k => S k ∧ ¬ (Value.slice A T.length cp).ownBlock = some k) = S' := ⟨_, rfl⟩
  -- behind the take the wheel lies in S'
  have HTk : Hid (∀ w1, WhIs S w1 B M (upG g Ks (.slice none 0 0)) N m n (upQ q Ks []) → Kept S w w1 → WhIs S' w1 B M (upG g Ks (.slice none 0 0)) N m L.length (upQ q Ks []) ∧ ∀ k, w1.heap.size ≤ k → S' k) := Lib.hid (fun w1 h1 hk1 => by
    refine ⟨WhIs.count ⟨?_, ?_, h1.blk, h1.map, h1.rows.own, ?_, h1.rows.apart⟩ hT hR hwf, fun k hkk => ?_⟩
    · rw [← hS']; exact ⟨h1.sB, fun e => (h.neRow hk (by rw [hv]; exact e)).1 rfl⟩
    · rw [← hS']; exact ⟨h1.sM, fun e => (h.neRow hk (by rw [hv]; exact e)).2 rfl⟩
    · intro k b hk' hkb
      rw [← hS']
      refine ⟨h1.rows.inS k b hk' hkb, fun e => ?_⟩
      by_cases ek : k = Ks
      · subst ek; rw [upG_same] at hkb; cases hkb
      · rw [upG_other _ _ ek] at hkb
        exact ek (h.rows.apart k Ks b hk' hk hkb (by rw [hv]; exact e))
    · rw [← hS']
      exact ⟨hcl k (Nat.le_trans hk1.1.size hkk), fun e => by have := hvlt k e; have := hk1.1.size; omega⟩)
  have HSub : Hid (∀ k, S' k → S k) := Lib.hid (by rw [← hS']; exact fun k h => h.1)
  have HNot : Hid (∀ b off, A = some ⟨b, off, none⟩ → ¬ S' b) := Lib.hid (by rw [← hS']; exact fun b off e h => h.2 (hAb b off e))
  have cX : w.cell? ⟨X, 0, none⟩ = some (.pointer (some ⟨B, 0, none⟩)) := by rw [cell_of_row _ _ _ _ _ _ hX]; rfl
  have HX0 := Lib.hid hX
  have HIn := Lib.hid hin
  have HI0 := Lib.hid hI0
  have HOne := Lib.hid hone
  have HTie := Lib.hid hT
  have HRise := Lib.hid hR
  have HWf := Lib.hid hwf
  have HSoon := Lib.hid hsoon
  have q0 : (0 : Int) ≤ (N : Int) := by omega
  clear h hI hin hI0 hK hTT hv hvo hRV0 hAb hvlt hS' hX hone hT hR hwf hsoon hcl hk
  go_enter Try.func28, Try.ntmps28
  go_wp2_with fail
  refine HTake.out.mono ?_
  rintro e w1 ⟨rfl, h1, hk1, hown1⟩
  obtain ⟨h1', hcl1⟩ := HTk.out w1 h1 hk1
  have hX1 := hk1.2 X _ _ _ HX0.out (by decide) (by decide)
  obtain ⟨A', c', e', hRV1, _⟩ := row_shape hown1
  simp only [Value.slice.injEq, true_and] at e'
  obtain ⟨rfl, rfl⟩ := e'
  have HRV := Lib.hid hRV1
  have HX1 := Lib.hid hX1
  have HK1 := Lib.hid hk1
  have HC1 := Lib.hid hcl1
  have HSt : Hid (Downs S' w1 w1 B M N l m L T 0 (upG g Ks (.slice none 0 0)) m (upQ q Ks [])) := Lib.hid ⟨h1', by rw [List.drop_zero]; exact HI0.out, HTie.out, fun _ _ => rfl, Kept.refl _ _⟩
  clear h1 hk1 hown1 h1' hcl1 hX1 hRV1
  go_wp2
  go_loopw [9] (fun jv wr => ∃ (j : Nat) (g' : Nat → Value) (m' : Mp) (q' : Nat → List Int), jv = .int .i64 (j : Int) ∧ j ≤ T.length ∧ Hid (Downs S' wr w1 B M N l m L T j g' m' q')) (fun jv _ => T.length - (RowKit.intOf jv).toNat)
  case atStart => exact ⟨0, _, _, _, rfl, Nat.zero_le _, HSt⟩
  case round =>
    obtain ⟨j, g', m', q', rfl, hj, hd⟩ := hrel
    by_cases hlt : j < T.length
    · have hdr : T.drop j = T[j] :: T.drop (j + 1) := List.drop_eq_getElem_cons hlt
      obtain ⟨id, hid⟩ : ∃ id, T[j] = id := ⟨_, rfl⟩
      rw [hid] at hdr
      have hmemT : id ∈ T := by rw [← hid]; exact List.getElem_mem hlt
      obtain ⟨d, hmd, hblk⟩ := HIn.out id hmemT
      have hm'd : m' id = some (d, l) := by rw [hd.out.same id (by rw [hdr]; exact List.mem_cons_self ..)]; exact hmd
      have hmemL : (id, d) ∈ L := dueOf_mem (by rw [← HTie.out id, hmd]; rfl)
      have hsn := HSoon.out _ hmemL
      simp only at hsn
      have hwid := HWf.out _ hmemL
      simp only at hwid
      have hnin : id ∉ T.drop (j + 1) := by
        have h1 : (T.drop j).Nodup := HOne.out.sublist (List.drop_sublist _ _)
        rw [hdr] at h1
        exact (List.nodup_cons.1 h1).1
      obtain ⟨f1, f2, f3⟩ := down_fits hl1 hl3 hN1 hb hsn.1 hblk
      have hRVr : RV wr A T.length (T.map encZ) := HRV.out.but hd.out.kept.1 (fun b off e _ => HNot.out b off e)
      obtain ⟨b, off, rfl, hbl, cr⟩ := hRVr.at_ hlt
      have hlz := lvl_lt (d - N)
      have hshort : (q' (slotOf (lvl (d - N)) d)).length ≤ 4096 := by
        have := hd.out.inv.short (L := L) (fun i hi => by
          rw [← hd.out.tie.isSome]
          unfold lessM at hi
          split at hi
          · cases hi
          · exact hi) (slotOf_lt hlz d)
        omega
      rw [List.getElem_map, hid] at cr
      have hlr : wr.heap[X]? = _ := hd.out.kept.2 X _ _ _ HX1.out (by decide) (by decide)
      have HX : Hid (∀ w', Below wr.heap.size wr w' → w'.cell? ⟨X, 0, none⟩ = some (.pointer (some ⟨B, 0, none⟩))) := Lib.hid (fun w' hb' => by
        rw [hb'.cell (p := ⟨X, 0, none⟩) (block_lt hlr), cell_of_row _ _ _ _ _ _ hlr]
        rfl)
      have HB1 : Hid (∀ w', Below wr.heap.size wr w' → w'.cell? ⟨B, 1, none⟩ = some (.map (some M))) := Lib.hid (fun w' hb' => (hd.out.wh.below hb').c1)
      have HLk : Hid (∀ w', Below wr.heap.size wr w' → (Instr.lookup 44 (.map (some M)) (.int .i64 id) false).run Try.prog w' = .ok (.agg #[.int .i64 (d : Int), .int .i64 (l : Int)]) w') := Lib.hid (fun w' hb' => (hd.out.wh.below hb').map.look1 hwid (v := (d, l)) (by rw [hm'd]; rfl))
      have hinv2 := hd.out.inv.put (id := id) (by unfold lessM; rw [if_pos (by rw [hdr]; exact List.mem_cons_self ..)]) hlz f2 f3
      rw [hdr, lessM_cons_up _ hnin] at hinv2
      have HPut : Hid (∀ w', Below wr.heap.size wr w' → Calls Try.prog 23 #[.pointer (some ⟨B, 0, none⟩), .int .i64 id, .int .i64 (d : Int)] w' fun e w2 => e = .returned (.tuple #[]) ∧ (∃ g2 m2 q2, Downs S' w2 w1 B M N l m L T (j + 1) g2 m2 q2) ∧ But S' w' w2) := Lib.hid (fun w' hb' => by
        refine (put_any w' (hd.out.wh.below hb') (fun k hk => HC1.out k (by have := hb'.size; have := hd.out.kept.1.size; omega)) id hwid d (lvl (d - N)) hsn.1 hsn.2 hN rfl hshort (by omega)).mono ?_
        rintro e w2 ⟨rfl, g2, h2, hk2⟩
        have ht2 := hd.out.tie.turn (l' := lvl (d - N)) hm'd
        exact ⟨rfl, ⟨g2, _, _, h2.count ht2 HRise.out HWf.out, hinv2, ht2, fun i hi => by
          rw [upM_other _ _ (fun e : i = id => hnin (e ▸ hi))]
          exact hd.out.same i (by rw [hdr]; exact List.mem_cons_of_mem _ hi), (hd.out.kept.trans (Kept.of_below hb')).trans hk2⟩, hk2.1⟩)
      have q1 : (j : Int) < (T.length : Int) := by omega
      have q2 : (T.length : Int) ≤ 64 := by omega
      clear hdr hid hmemT hmd hblk hm'd hmemL hsn hwid hnin f1 f2 f3 hRVr hlz hshort hlr hinv2
      go_wp2
      refine Go.Rel.wp_region_states (by kernel_rfl) (by kernel_rfl) (by kernel_rfl) (by kernel_rfl) (fun f w => (f 9 = true → ∃ g2 m2 q2, Downs S' w w1 B M N l m L T (j + 1) g2 m2 q2) ∧ (f 9 = false → Below wr.heap.size wr w)) (But S') (fun _ _ _ h k => h.trans k) ((But.refl _ _).drew) ⟨(fun h => by cases h), fun _ => ⟨rfl, rfl, rfl, Nat.le_refl _, fun _ _ => rfl⟩⟩ (downR S' B M id d l) (downR_stable S' B M id d l) ?hsteps ?hend
      case hsteps =>
        refine (.cons ?_ (.cons ?_ (.cons ?_ (.cons ?_ (.cons ?_ (.cons ?_ (.cons ?_ (.cons ?_ (.cons ?_ (.cons ?_ .nil))))))))))
        · intro f a w' hI hf hanc hdesc hle hs' hd K hK
          have f1 : a.tmps[1]? = some (.pointer (some ⟨X, 0, none⟩)) := hs'.2.2 1 (by kernel_rfl)
          have hz : f 9 = false := hdesc 8 9 (by kernel_rfl)
          have cc := HX.out w' (hI.2 hz)
          unfold Go.Rel.stepOf
          go_simp
          exact hK _ _ (But.refl _ _) (hI) rfl
        · intro f a w' hI hf hanc hdesc hle hs' hd K hK
          have f4 : a.tmps[4]? = some (.int .i64 id) := hs'.2.2 4 (by kernel_rfl)
          unfold Go.Rel.stepOf
          go_simp
          exact hK _ _ (But.refl _ _) (hI) rfl
        · intro f a w' hI hf hanc hdesc hle hs' hd K hK
          have f1 : a.tmps[1]? = some (.pointer (some ⟨X, 0, none⟩)) := hs'.2.2 1 (by kernel_rfl)
          have hz : f 9 = false := hdesc 8 9 (by kernel_rfl)
          have cc := HX.out w' (hI.2 hz)
          unfold Go.Rel.stepOf
          go_simp
          exact hK _ _ (But.refl _ _) (hI) rfl
        · intro f a w' hI hf hanc hdesc hle hs' hd K hK
          obtain ⟨_, t2, rfl⟩ := hd 2 15 (by kernel_rfl)
          unfold Go.Rel.stepOf
          go_simp
          exact hK _ _ (But.refl _ _) (hI) rfl
        · intro f a w' hI hf hanc hdesc hle hs' hd K hK
          obtain ⟨_, t3, rfl⟩ := hd 3 16 (by kernel_rfl)
          unfold Go.Rel.stepOf
          go_simp
          exact hK _ _ (But.refl _ _) (hI) rfl
        · intro f a w' hI hf hanc hdesc hle hs' hd K hK
          obtain ⟨_, t4, rfl⟩ := hd 4 17 (by kernel_rfl)
          have hz : f 9 = false := hdesc 8 9 (by kernel_rfl)
          have cc := HB1.out w' (hI.2 hz)
          unfold Go.Rel.stepOf
          go_simp
          exact hK _ _ (But.refl _ _) (hI) rfl
        · intro f a w' hI hf hanc hdesc hle hs' hd K hK
          have f4 : a.tmps[4]? = some (.int .i64 id) := hs'.2.2 4 (by kernel_rfl)
          unfold Go.Rel.stepOf
          go_simp
          exact hK _ _ (But.refl _ _) (hI) rfl
        · intro f a w' hI hf hanc hdesc hle hs' hd K hK
          obtain ⟨_, t5, rfl⟩ := hd 5 18 (by kernel_rfl)
          obtain ⟨_, t6, rfl⟩ := hd 6 19 (by kernel_rfl)
          have hz : f 9 = false := hdesc 8 9 (by kernel_rfl)
          have cc := HLk.out w' (hI.2 hz)
          unfold Go.Rel.stepOf
          go_simp
          exact hK _ _ (But.refl _ _) (hI) rfl
        · intro f a w' hI hf hanc hdesc hle hs' hd K hK
          obtain ⟨_, t7, rfl⟩ := hd 7 20 (by kernel_rfl)
          unfold Go.Rel.stepOf
          go_simp
          exact hK _ _ (But.refl _ _) (hI) rfl
        · intro f a w' hI hf hanc hdesc hle hs' hd K hK
          obtain ⟨_, t0, rfl⟩ := hd 0 13 (by kernel_rfl)
          obtain ⟨_, t1, rfl⟩ := hd 1 14 (by kernel_rfl)
          obtain ⟨_, t8, rfl⟩ := hd 8 21 (by kernel_rfl)
          unfold Go.Rel.stepOf
          go_simp
          refine (HPut.out w' (hI.2 hf)).mono ?_
          rintro e w2 ⟨rfl, hfin, hbut⟩
          exact hK _ _ hbut ⟨fun _ => hfin, (fun h => by cases h)⟩ rfl
      case hend =>
        intro f a w3 hall hI hle hs' hR'
        obtain ⟨g2, m2, q2, hd2⟩ := hI.1 (hall 9 (by decide))
        have HD2 := Lib.hid hd2
        clear hall hI hle hd2
        obtain ⟨v13, s13, _⟩ := hR' 0 13 (by kernel_rfl)
        obtain ⟨v14, s14, _⟩ := hR' 1 14 (by kernel_rfl)
        obtain ⟨v15, s15, _⟩ := hR' 2 15 (by kernel_rfl)
        obtain ⟨v16, s16, _⟩ := hR' 3 16 (by kernel_rfl)
        obtain ⟨v17, s17, _⟩ := hR' 4 17 (by kernel_rfl)
        obtain ⟨v18, s18, _⟩ := hR' 5 18 (by kernel_rfl)
        obtain ⟨v19, s19, _⟩ := hR' 6 19 (by kernel_rfl)
        obtain ⟨v20, s20, _⟩ := hR' 7 20 (by kernel_rfl)
        obtain ⟨v21, s21, _⟩ := hR' 8 21 (by kernel_rfl)
        obtain ⟨v22, s22, _⟩ := hR' 9 22 (by kernel_rfl)
        have e := hs'.shape
        simp only [List.toList_toArray, List.foldl, Go.Rel.reset, Array.getD_eq_getD_getElem?, s13, s14, s15, s16, s17, s18, s19, s20, s21, s22, Option.getD_some] at e
        simp at e
        clear hR' hs' s13 s14 s15 s16 s17 s18 s19 s20 s21 s22
        subst e
        go_wp2
        go_roundw
        case rel => exact ⟨j + 1, g2, m2, q2, by go_num, by omega, HD2⟩
        case measure => simp [RowKit.intOf]; omega
    · obtain rfl : j = T.length := by omega
      have HD := hd
      clear hd hlt
      go_wp2
      go_end0
      have h1 := HD.out
      have h2 := h1.inv
      rw [List.drop_length, lessM_nil] at h2
      exact ⟨rfl, g', m', q', h1.wh.mono (fun k _ hk => HSub.out k hk), h2, h1.tie, HK1.out.trans (h1.kept.mono HSub.out)⟩
end Go.Proofs.Ytcekpkjibabjmaa
