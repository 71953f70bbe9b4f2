/-
  Tick of the program's wheel, walked (layer 6).
-/
import Derived.Test.YtcekpkjibabjmaaWDown
namespace Go.Proofs.Ytcekpkjibabjmaa
open Go.RowKit
set_option linter.unusedSimpArgs false
set_option linter.unusedVariables false

/-- Where a tick's levels from j on have gone on. -/
structure Falls (S : Nat → Prop) (w w1 : World) (B M N : Nat) (L : Tm) (j : Nat) (g' : Nat → Value) (m' : Mp) (q' : Nat → List Int) : Prop where
  wh : WhIs S w B M g' N m' L.length q'
  inv : Inv (ck j N) m' q'
  tie : Tie m' L
  kept : Kept S w1 w
/-- Where those that are due are struck from the map, up to the j-th of T. -/
structure Strikes (S S' : Nat → Prop) (w w1 : World) (B M N n : Nat) (g : Nat → Value) (m : Mp) (q : Nat → List Int) (T : List Int) (j : Nat) : Prop where
  wh : WhIs S' w B M g N (lessM m (T.take j)) n q
  kept : Kept S w1 w
  keptS : Kept S' w1 w
/-- What a tick leaves. -/
def Ticked (S : Nat → Prop) (w : World) (B : Nat) (s : St) (e : Ending) (w' : World) : Prop :=
  ∃ v, e = .returned v ∧ rowOwn w' v s.due ∧ (∀ b, v.ownBlock = some b → S b) ∧ WhAt S w' B s.tick ∧ Kept S w w'
/-- Those of slot 0 are just those that are due. -/
theorem due_slot {m : Mp} {q : Nat → List Int} {N : Nat} {L : Tm} {T : List Int} (hI : Inv (ck 1 N) m q) (hT : Tie m L) (hR : Rise L) (hin : ∀ id ∈ T, ∃ d, m id = some (d, 0) ∧ blkOf 0 d = blkOf 0 N) (hout : ∀ id d, m id = some (d, 0) → blkOf 0 d = blkOf 0 N → id ∈ T) :
    (∀ id, id ∈ T ↔ ∃ l, m id = some (N, l)) ∧ ∀ id, id ∈ T ↔ id ∈ dueL N L := by
  have h1 : ∀ id, id ∈ T ↔ ∃ l, m id = some (N, l) := fun id => by
    constructor
    · intro h
      obtain ⟨d, e, hb⟩ := hin id h
      have : d = N := hb
      exact ⟨0, this ▸ e⟩
    · rintro ⟨l, e⟩
      by_cases hl : l = 0
      · subst hl; exact hout id N e rfl
      · have h := (hI.lev id N l e).2.1
        have : ck 1 N l = blkOf l N := if_pos (by omega)
        omega
  refine ⟨h1, fun id => (h1 id).trans ?_⟩
  rw [mem_dueL]
  constructor
  · rintro ⟨l, e⟩
    exact dueOf_mem (by rw [← hT id, e]; rfl)
  · intro h
    obtain ⟨l, e⟩ := hT.yes (dueOf_of_mem hR h)
    exact ⟨l, e⟩
set_option maxHeartbeats 8000000 in
set_option maxRecDepth 100000 in
theorem tick_at (S : Nat → Prop) (w : World) (B : Nat) (s : St) (h : WhAt S w B s) (hcl : ∀ k, w.heap.size ≤ k → S k) (hN : s.now < 1099511627776) :
    Calls Try.prog 14 #[.pointer (some ⟨B, 0, none⟩)] w (Ticked S w B s) := by
  obtain ⟨M, g, m, q, h, hI, hT, hok⟩ := h
  obtain ⟨w0, hW0⟩ : ∃ w0, w.alloc (.cells #[.pointer (some ⟨B, 0, none⟩)] 23) = w0 := ⟨_, rfl⟩
  have hB0 : Below w.heap.size w w0 := by rw [← hW0]; exact (Below.refl _ w).alloc (Nat.le_refl _) _
  have h0 := h.below hB0
  have hX0 : w0.heap[w.heap.size]? = some (.cells #[.pointer (some ⟨B, 0, none⟩)] 23 (0, 0)) := by rw [← hW0]; exact heap_alloc_new _ _
  obtain ⟨N, hNN⟩ : ∃ N, s.now + 1 = N := ⟨_, rfl⟩
  obtain ⟨L, hLL⟩ : ∃ L, s.L = L := ⟨_, rfl⟩
  have hset := h0.setNow N
  rw [show (N : Int) = (s.now : Int) + 1 by omega] at hset
  obtain ⟨w1, hW1⟩ : ∃ w1, w0.setCell ⟨B, 0, none⟩ (.int .i64 ((s.now : Int) + 1)) = w1 := ⟨_, rfl⟩
  rw [hW1, hLL] at hset
  have hI3 : Inv (ck 3 N) m q := hI.clock (fun l hl => by rw [ck_start hl, ← hNN, Nat.add_sub_cancel])
  rw [hLL] at hT
  have HF0 : Hid (Falls S w1 w1 B M N L 3 g m q) := Lib.hid ⟨hset.1, hI3, hT, Kept.refl _ _⟩
  have HK0 : Hid (Kept S w w1) := Lib.hid ((Kept.of_below hB0).trans hset.2)
  have cX0 : w0.cell? ⟨w.heap.size, 0, none⟩ = some (.pointer (some ⟨B, 0, none⟩)) := by rw [cell_of_row _ _ _ _ _ _ hX0]; rfl
  have c0 := h0.c0
  have f0 := h0.fz 0
  have HMade := Lib.hid (made_yes w0 h0)
  have hX1 := hset.2.2 w.heap.size _ _ _ hX0 (by decide) (by decide)
  have HX1 := Lib.hid hX1
  have HSoon : Hid (∀ x ∈ L, N ≤ x.2 ∧ x.2 ≤ N + 262144) := Lib.hid (fun x hx => by have := hok.soon x (by rw [hLL]; exact hx); omega)
  have HRise : Hid (Rise L) := Lib.hid (hLL ▸ hok.rise)
  have HWf : Hid (∀ x ∈ L, wfI x.1) := Lib.hid (hLL ▸ hok.wf)
  have hmost : L.length ≤ 64 := hLL ▸ hok.most
  have HOk := Lib.hid hok.tick
  have HDue : Hid (s.due = dueL N L ∧ s.tick = ⟨N, restL N L⟩) := Lib.hid ⟨by unfold St.due; rw [hNN, hLL], by unfold St.tick; rw [hNN, hLL]⟩
  have HW := Lib.hid hW0
  have HW1 := Lib.hid hW1
  have HCl : Hid (∀ k, w1.heap.size ≤ k → S k) := Lib.hid (fun k hk => hcl k (Nat.le_trans HK0.out.1.size hk))
  have hN1 : 1 ≤ N := by omega
  have hNm : N ≤ 1099511627776 := by omega
  have q1 : (s.now : Int) < 1099511627776 := by omega
  have q2 : (0 : Int) ≤ (s.now : Int) := by omega
  clear hW0 hB0 h0 hX0 hset hW1 hI3 hX1 h hI hT hok hcl hLL
  go_enter Try.func14, Try.ntmps14
  go_wp2_with fail
  rw [HW.out]
  refine HMade.out.mono ?_
  rintro e w' ⟨rfl, rfl⟩
  go_wp2
  rw [HW1.out]
  go_loopw [4] (fun jv wr => ∃ (j : Nat) (g' : Nat → Value) (m' : Mp) (q' : Nat → List Int), jv = .int .i64 (j : Int) ∧ j ≤ 2 ∧ Hid (Falls S wr w1 B M N L (j + 1) g' m' q')) (fun jv _ => (RowKit.intOf jv).toNat)
  case atStart => exact ⟨2, _, _, _, rfl, by omega, HF0⟩
  case round =>
    obtain ⟨j, g', m', q', rfl, hj, hd⟩ := hrel
    have hlr : wr.heap[w.heap.size]? = _ := hd.out.kept.2 _ _ _ _ HX1.out (by decide) (by decide)
    have cX : wr.cell? ⟨w.heap.size, 0, none⟩ = some (.pointer (some ⟨B, 0, none⟩)) := by rw [cell_of_row _ _ _ _ _ _ hlr]; rfl
    have c0r := hd.out.wh.c0
    have hclr : ∀ k, wr.heap.size ≤ k → S k := fun k hk => HCl.out k (Nat.le_trans hd.out.kept.1.size hk)
    have q3 : (j : Int) ≤ 2 := by omega
    by_cases hj0 : 0 < j
    · have hbeg := Lib.hid (begins_any N j wr (by omega) (by omega))
      have q4 : (0 : Int) < (j : Int) := by omega
      by_cases hb : N % pow64 j = 0
      · have hdown := Lib.hid (down_any wr hd.out.wh hclr j (by omega) (by omega) hd.out.inv hN1 hNm hb L hd.out.tie HRise.out HWf.out hmost HSoon.out w.heap.size hlr)
        have hbb : (N % pow64 j == 0) = true := by rw [hb]; rfl
        rw [hbb] at hbeg
        clear hlr hclr hb hbb
        go_wp2_with fail
        refine hbeg.out.mono ?_
        rintro e w' ⟨rfl, rfl⟩
        go_wp2_with fail
        refine hdown.out.mono ?_
        rintro e w2 ⟨rfl, g2, m2, q2', h2, hi2, ht2, hk2⟩
        have HD2 : Hid (Falls S w2 w1 B M N L (j - 1 + 1) g2 m2 q2') := Lib.hid ⟨h2, by rw [show j - 1 + 1 = j by omega]; exact hi2, ht2, hd.out.kept.trans hk2⟩
        clear h2 hi2 ht2 hk2
        go_wp2
        go_roundw
        case rel => exact ⟨j - 1, g2, m2, q2', by first | go_num | (congr 1; omega), by omega, HD2⟩
        case measure => simp [RowKit.intOf]; omega
      · have hbb : (N % pow64 j == 0) = false := by rw [beq_eq_false_iff_ne]; exact hb
        rw [hbb] at hbeg
        have HD2 : Hid (Falls S wr w1 B M N L (j - 1 + 1) g' m' q') := Lib.hid ⟨hd.out.wh, by rw [show j - 1 + 1 = j by omega]; exact hd.out.inv.clock (fun l _ => ck_skip hN1 hb l), hd.out.tie, hd.out.kept⟩
        clear hlr hclr hb hbb
        go_wp2_with fail
        refine hbeg.out.mono ?_
        rintro e w' ⟨rfl, rfl⟩
        go_wp2
        go_roundw
        case rel => exact ⟨j - 1, g', m', q', by first | go_num | (congr 1; omega), by omega, HD2⟩
        case measure => simp [RowKit.intOf]; omega
    · obtain rfl : j = 0 := by omega
      clear q3 hj0
      have h := hd.out.wh
      have hI : Inv (ck 1 N) m' q' := hd.out.inv
      obtain ⟨hin, hout, hI0⟩ := hI.take (c' := ck 0 N) (t := N) (l := 0) (by omega) (by rw [ck_at]; exact blk_next hN1 (Nat.mod_one N)) (by rw [ck_next, ck_at]; exact blk_next hN1 (Nat.mod_one N)) (fun j _ hne => ck_other hne)
      have hk := slotOf_lt (l := 0) (by omega) N
      have hone := hI.one _ hk
      have HTake : Hid (Calls Try.prog 29 #[.pointer (some ⟨B, 0, none⟩), .int .i64 0] wr fun e w' => e = .returned (g' (slotOf 0 N)) ∧ WhIs S w' B M (upG g' (slotOf 0 N) (.slice none 0 0)) N m' L.length (upQ q' (slotOf 0 N) []) ∧ Kept S wr w' ∧ rowOwn w' (g' (slotOf 0 N)) (q' (slotOf 0 N))) := Lib.hid (take_any wr h 0 (by omega) hNm)
      obtain ⟨Ks, hK⟩ : ∃ Ks, slotOf 0 N = Ks := ⟨_, rfl⟩
      rw [hK] at hin hout hI0 hk hone HTake
      obtain ⟨T, hTT⟩ : ∃ T, q' Ks = T := ⟨_, rfl⟩
      rw [hTT] at hin hout hI0 hone HTake
      obtain ⟨hd1, hd2⟩ := due_slot hI hd.out.tie HRise.out hin hout
      have hT64 : T.length ≤ 64 := by
        have := hI.short (L := L) (fun j hj => by rw [← hd.out.tie.isSome]; exact hj) hk
        rw [hTT] at this; omega
      obtain ⟨v, hv⟩ : ∃ v, g' Ks = v := ⟨_, rfl⟩
      have hvo : rowOwn wr v T := by rw [← hv, ← hTT]; exact h.rows.own Ks hk
      rw [hv] at HTake
      obtain ⟨A, cp, rfl, _, hAb⟩ := row_shape hvo
      have hvlt : ∀ b, (Value.slice A T.length cp).ownBlock = some b → b < wr.heap.size := fun b hb => own_lt hvo hb
      obtain ⟨S', hS'⟩ : ∃ S' : Nat → Prop, (fun k => S k ∧ ¬ (Value.slice A T.length cp).ownBlock = some k) = S' := ⟨_, rfl⟩
      have HTk : Hid (∀ w2, WhIs S w2 B M (upG g' Ks (.slice none 0 0)) N m' L.length (upQ q' Ks []) → Kept S wr w2 → WhIs S' w2 B M (upG g' Ks (.slice none 0 0)) N m' L.length (upQ q' Ks [])) := Lib.hid (fun w2 h1 hk1 => by
        refine ⟨?_, ?_, h1.blk, h1.map, h1.rows.own, ?_, h1.rows.apart⟩
        · rw [← hS']; exact ⟨h1.sB, fun e => (h.neRow hk (by rw [hv]; exact e)).1 rfl⟩
        · rw [← hS']; exact ⟨h1.sM, fun e => (h.neRow hk (by rw [hv]; exact e)).2 rfl⟩
        · intro k b hk' hkb
          rw [← hS']
          refine ⟨h1.rows.inS k b hk' hkb, fun e => ?_⟩
          by_cases ek : k = Ks
          · subst ek; rw [upG_same] at hkb; cases hkb
          · rw [upG_other _ _ ek] at hkb
            exact ek (h.rows.apart k Ks b hk' hk hkb (by rw [hv]; exact e)))
      have HSub : Hid (∀ k, S' k → S k) := Lib.hid (by rw [← hS']; exact fun k h => h.1)
      have HNot : Hid (∀ b, (Value.slice A T.length cp).ownBlock = some b → ¬ S' b) := Lib.hid (by rw [← hS']; exact fun b e h => h.2 e)
      have HInS : Hid (∀ b, (Value.slice A T.length cp).ownBlock = some b → S b) := Lib.hid (fun b e => h.rows.inS Ks b hk (by rw [hv]; exact e))
      have HAb := Lib.hid hAb
      have HD := hd
      have HIn := Lib.hid hI0
      have HOne := Lib.hid hone
      have HD1 := Lib.hid hd1
      have HD2 := Lib.hid hd2
      have HLr := Lib.hid hlr
      have HWfT : Hid (∀ id ∈ T, wfI id) := Lib.hid (fun id hid => by
        have := mem_dueL.1 ((hd2 id).1 hid)
        exact HWf.out _ this)
      clear h hI hin hout hI0 hK hTT hv hvo hAb hvlt hS' hone hd hd1 hd2 hlr hclr hk
      go_wp2_with fail
      refine HTake.out.mono ?_
      rintro e w2 ⟨rfl, h2, hk2, hown2⟩
      have h2' := HTk.out w2 h2 hk2
      have hX2 := hk2.2 _ _ _ _ HLr.out (by decide) (by decide)
      obtain ⟨A', c', e', hRV2, _⟩ := row_shape hown2
      simp only [Value.slice.injEq, true_and] at e'
      obtain ⟨rfl, rfl⟩ := e'
      have HRV := Lib.hid hRV2
      have HOwn := Lib.hid hown2
      have HX2 := Lib.hid hX2
      have HK2 : Hid (Kept S w w2) := Lib.hid (HK0.out.trans (HD.out.kept.trans hk2))
      have HSt : Hid (Strikes S S' w2 w2 B M N L.length (upG g' Ks (.slice none 0 0)) m' (upQ q' Ks []) T 0) := Lib.hid ⟨by rw [List.take_zero, lessM_nil]; exact h2', Kept.refl _ _, Kept.refl _ _⟩
      clear h2 hk2 hown2 h2' hX2 hRV2 cX c0r
      obtain ⟨wo, hwo⟩ : ∃ wo : World, wo = wr := ⟨_, rfl⟩
      go_wp2
      go_loopw [36] (fun jv wr => ∃ (j : Nat), jv = .int .i64 (j : Int) ∧ j ≤ T.length ∧ Hid (Strikes S S' wr w2 B M N L.length (upG g' Ks (.slice none 0 0)) m' (upQ q' Ks []) T j)) (fun jv _ => T.length - (RowKit.intOf jv).toNat)
      case atStart => exact ⟨0, rfl, Nat.zero_le _, HSt⟩
      case round =>
        obtain ⟨j, rfl, hj, hst⟩ := hrel
        have hlr : wr.heap[w.heap.size]? = _ := hst.out.kept.2 _ _ _ _ HX2.out (by decide) (by decide)
        have cX : wr.cell? ⟨w.heap.size, 0, none⟩ = some (.pointer (some ⟨B, 0, none⟩)) := by rw [cell_of_row _ _ _ _ _ _ hlr]; rfl
        have c1r := hst.out.wh.c1
        have q2' : (T.length : Int) ≤ 64 := by omega
        by_cases hlt : j < T.length
        · obtain ⟨id, hid⟩ : ∃ id, T[j] = id := ⟨_, rfl⟩
          have hwid : wfI id := HWfT.out id (by rw [← hid]; exact List.getElem_mem hlt)
          have hRVr : RV wr A T.length (T.map encZ) := HRV.out.but hst.out.keptS.1 (fun b off e _ => HNot.out b (HAb.out b off e))
          obtain ⟨b, off, rfl, hbl, cr⟩ := hRVr.at_ hlt
          rw [List.getElem_map, hid] at cr
          have htk : T.take (j + 1) = T.take j ++ [id] := by rw [List.take_succ_eq_append_getElem hlt, hid]
          obtain ⟨w3, hrun, hm3, hg3, _⟩ := hst.out.wh.map.drop hwid 0
          rw [upM_less, ← htk] at hm3
          obtain ⟨h3, hk3⟩ := hst.out.wh.mapTurn hg3 hm3
          have HD3 : Hid (Strikes S S' w3 w2 B M N L.length (upG g' Ks (.slice none 0 0)) m' (upQ q' Ks []) T (j + 1)) := Lib.hid ⟨h3, hst.out.kept.trans (hk3.mono HSub.out), hst.out.keptS.trans hk3⟩
          have q1' : (j : Int) < (T.length : Int) := by omega
          clear hlr hid hwid hRVr htk hm3 hg3 h3 hk3
          go_wp2
          go_roundw
          case rel => exact ⟨j + 1, by go_num, by omega, HD3⟩
          case measure => simp [RowKit.intOf]; omega
        · obtain rfl : j = T.length := by omega
          have hown : rowOwn wr (.slice A T.length cp) T := own_but HOwn.out hst.out.keptS.1 (fun b e => HNot.out b e)
          have HSort := Lib.hid (sort_any wr _ T hown (by omega))
          have HSt2 := hst
          clear hlr hown hlt hst c1r
          go_wp2_with fail
          refine HSort.out.mono ?_
          rintro e w3 ⟨rfl, hown3, hg3⟩
          have hfin : Ticked S w B s (.returned (.slice A T.length cp)) w3 := by
            have hs := sort_is HOne.out (sorted_dueL HRise.out N) (fun x => (HD2.out x))
            rw [hs] at hown3
            have hb3 : But (fun b => (Value.slice A T.length cp).ownBlock = some b) wr w3 := But.of_grown hg3 (fun r e _ => e)
            have h4 := HSt2.out.wh.but hb3 (fun b e _ => HNot.out b e)
            rw [List.take_length] at h4
            have ht := tie_tick HD.out.tie HRise.out HD1.out
            have hok := HOk.out
            rw [HDue.out.2] at hok
            refine ⟨_, rfl, by rw [HDue.out.1]; exact hown3, HInS.out, ?_, ?_⟩
            · rw [HDue.out.2]
              exact ⟨M, _, _, _, (h4.count ht hok.rise hok.wf).mono (fun k _ hk => HSub.out k hk), HIn.out.clock (fun l _ => (ck_end N l).symm), ht, hok⟩
            · refine (HK2.out.trans HSt2.out.kept).trans ⟨hb3.mono (fun b e => HInS.out b e), fun k cur t f e _ h2 => (hb3.block k (block_lt e) (fun e2 => ?_)).trans e⟩
              obtain ⟨cur', hc⟩ := own_cells (own_but HOwn.out HSt2.out.keptS.1 (fun b e => HNot.out b e)) e2
              rw [hc] at e
              simp only [Option.some.injEq, Obj.cells.injEq] at e
              exact h2 e.2.1.symm
          have HFin := Lib.hid hfin
          clear hown3 hg3 hfin
          go_wp2
          go_ret
          exact HFin.out
end Go.Proofs.Ytcekpkjibabjmaa
