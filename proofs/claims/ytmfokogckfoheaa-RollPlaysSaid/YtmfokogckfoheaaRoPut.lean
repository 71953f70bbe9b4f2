/-
  Put of the document's roll, walked (layer 9).
-/
import Derived.Test.YtmfokogckfoheaaRoLeave
namespace Go.Proofs.Ytmfokogckfoheaa
open Go.RowKit Go.Maps
set_option linter.unusedSimpArgs false
set_option linter.unusedVariables false

theorem putGo_take {u : Up} {L P : List Up} {ld : Bool} {q : Nat} (h : putGo u (L.take q) = (P, ld)) (hq : q < L.length) : putGo u (L.take (q + 1)) = putStep u (P, ld) L[q] := by
  rw [List.take_succ_eq_append_getElem hq, putGo_snoc, h]
theorem putGo_len (u : Up) (L : List Up) : (putGo u L).1.length ≤ 2 * L.length := by
  have key : ∀ m : List Up, (putGo u m.reverse).1.length ≤ 2 * m.length := fun m => by
    induction m with
    | nil => exact Nat.le_refl _
    | cons x m ih =>
      rw [List.reverse_cons, putGo_snoc, List.length_cons]
      unfold putStep
      split
      · simp; omega
      · split
        · simp; omega
        · simp; omega
  have := key L.reverse
  rwa [List.reverse_reverse, List.length_reverse] at this
theorem SUp.up {w : World} {b off n : Nat} {ss : List Up} (h : SUp w (some ⟨b, off, none⟩) n ss) {k : Nat} (hk : k < ss.length) : UpAt w b (off + k * 3) ss[k] := by
  obtain ⟨b', off', e, _, hc⟩ := h.2 (by have := h.1; omega)
  simp only [Option.some.injEq, Addr.mk.injEq] at e
  obtain ⟨rfl, rfl, _⟩ := e
  exact hc k hk
/-- What Put leaves. -/
def PutPost (w : World) (base B : Nat) (r : Ro) (e : Ending) (w' : World) : Prop := e = .returned (.tuple #[]) ∧ (∃ v, RrAt w' base B v r ∧ ∀ b, v.ownBlock = some b → w.heap.size ≤ b) ∧ But (· = B) w w'
set_option maxHeartbeats 8000000 in
theorem rput_any {base B : Nat} {v0 : Value} {r : Ro} (u : Up) (w : World) (hR : RrAt w base B v0 r) (hbase : base ≤ w.heap.size) (hr : u.right = true) :
    Calls Try.prog 31 #[.pointer (some ⟨B, 0, none⟩), .agg #[.int .i64 u.node, .int .u32 (u.inc : Int), .int .i64 u.st]] w (PutPost w base B ⟨r.own, put r.T u⟩) := by
  have hL8 := listTo_len r.T 8
  have hfin : putL u (listTo r.T 8) = listTo (put r.T u) 8 := putL_listTo (fun n v h => (hR.ok.at_ n v h).2) hr
  obtain ⟨A, c, rfl, hS, hnc, hm⟩ := hR.sup
  obtain ⟨L, hL⟩ : ∃ L, listTo r.T 8 = L := ⟨_, rfl⟩
  rw [hL] at hL8 hS hfin hnc hR
  have hblk := hR.blk
  obtain ⟨n, hn⟩ : ∃ n, L.length = n := ⟨_, rfl⟩
  rw [hn] at hL8 hS hnc hR hblk
  have hbel := below1 w (.cells #[.int .i64 u.node, .int .u32 (u.inc : Int), .int .i64 u.st] 32)
  have k0 := heap_alloc_new w (.cells #[.int .i64 u.node, .int .u32 (u.inc : Int), .int .i64 u.st] 32)
  obtain ⟨X, hX⟩ : ∃ X, w.heap.size = X := ⟨_, rfl⟩
  obtain ⟨W, hW⟩ : ∃ W, w.alloc (.cells #[.int .i64 u.node, .int .u32 (u.inc : Int), .int .i64 u.st] 32) = W := ⟨_, rfl⟩
  have hsz : W.heap.size = X + 1 := by rw [← hW, ← hX]; simp
  rw [hW] at hbel k0
  rw [hX] at k0
  have hBl : B < w.heap.size := block_lt hblk
  obtain ⟨own, hown⟩ : ∃ o, r.own = o := ⟨_, rfl⟩
  rw [hown] at hblk
  have HF : Hid (∀ w1, Below (X + 1) W w1 → w1.heap[B]? = some (.cells #[.int .i64 own, .slice A n c] 46 (0, 0)) ∧ SUp w1 A n L ∧ w1.heap[X]? = some (.cells #[.int .i64 u.node, .int .u32 (u.inc : Int), .int .i64 u.st] 32) ∧ Below w.heap.size w w1) := Lib.hid (fun w1 hb => by
    have hb' : Below w.heap.size w w1 := hbel.trans (hb.mono (by omega))
    exact ⟨(hb'.block B hBl).trans hblk, hS.of_block hb', (hb.block X (by omega)).trans k0, hb'⟩)
  have HFin := Lib.hid hfin
  have HLn := Lib.hid hn
  have HSz := Lib.hid hsz
  have HX := Lib.hid hX
  have HW := Lib.hid hW
  have HBas := Lib.hid hbase
  have HBl := Lib.hid hBl
  have HOwn := Lib.hid hown
  have HRt := Lib.hid hr
  have HOk := Lib.hid hR.ok
  have hm' : (c : Int) ≤ 9223372036854775807 := by unfold maxLen at hm; omega
  have hn8 : (n : Int) ≤ 8 := by omega
  clear hR hfin hS hblk hn hbel k0 hX hW hsz hBl hown hL hbase hr hm
  go_enter Try.func31, Try.ntmps31
  go_wp2_with fail
  rw [HW.out, HX.out]
  go_loopw [4, 5, 6] (fun v ld k wr => ∃ (q : Nat) (P : List Up) (l : Bool), q ≤ n ∧ k = .int .i64 (q : Int) ∧ ld = .bool l ∧ Hid (putGo u (L.take q) = (P, l)) ∧ Hid (upRow wr (X + 1) v P) ∧ Hid (Below (X + 1) W wr)) (fun _ _ k _ => n - (intOf k).toNat)
  case atStart => exact ⟨0, [], false, Nat.zero_le _, rfl, rfl, Lib.hid rfl, Lib.hid (upRow.nil _ _), Lib.hid (HSz.out ▸ Below.refl _ _)⟩
  case round =>
    obtain ⟨q, P, ld, hq, rfl, rfl, HP, HV, HB⟩ := hrel
    obtain ⟨v, rfl⟩ : ∃ v, v = u4 := ⟨_, rfl⟩
    have HLen := Lib.hid (show P.length ≤ 16 by
      have h1 := putGo_len u (L.take q)
      rw [HP.out, List.length_take] at h1
      have := HLn.out
      simp only at h1
      omega)
    by_cases hlt : q < n
    · have hkl : q < L.length := by have := HLn.out; omega
      obtain ⟨b, off, rfl, hbl, _⟩ := (HF.out wr HB.out).2.1.at_ hlt hkl
      obtain ⟨x, hx⟩ : ∃ x, L[q] = x := ⟨_, rfl⟩
      have HXk := Lib.hid hx
      have q1 : (q : Int) < (n : Int) := by omega
      have q0 : (0 : Int) ≤ (q : Int) := by omega
      have q2 : (q : Int) + 1 ≤ 9223372036854775807 := by omega
      clear hx hbl
      obtain ⟨d0, d1, d2⟩ := blk3 (HF.out wr HB.out).2.2.1
      have cB : wr.cell? ⟨B, 1, none⟩ = some (.slice (some ⟨b, off, none⟩) n c) := by rw [cell_of_row _ _ _ _ _ _ (HF.out wr HB.out).1]; rfl
      obtain ⟨hc0, hc1, hc2⟩ := (HF.out wr HB.out).2.1.up hkl
      rw [HXk.out] at hc0 hc1 hc2
      by_cases hz : x.node = u.node
      · have zz : (x.node == u.node) = true := by rw [beq_iff_eq]; exact hz
        have HZ := Lib.hid hz
        clear hz
        go_wp2
        go_quiet (fail)
        obtain ⟨w1, hw1⟩ : ∃ w1, wr.drewN nq = w1 := ⟨_, rfl⟩
        have HV1 : Hid (upRow w1 (X + 1) v P) := Lib.hid (by rw [← hw1]; exact own_but HV.out ((But.refl (fun _ => False) _).drewN nq) (fun _ _ h => h))
        have HB1 : Hid (Below (X + 1) W w1) := Lib.hid (by rw [← hw1]; exact below_drewN HB.out nq)
        rw [hw1]
        clear hw1
        clear hc0 hc1 hc2 d0 d1 d2 cB
        obtain ⟨d0, d1, d2⟩ := blk3 (HF.out w1 HB1.out).2.2.1
        have cB : w1.cell? ⟨B, 1, none⟩ = some (.slice (some ⟨b, off, none⟩) n c) := by rw [cell_of_row _ _ _ _ _ _ (HF.out w1 HB1.out).1]; rfl
        obtain ⟨hc0, hc1, hc2⟩ := (HF.out w1 HB1.out).2.1.up hkl
        rw [HXk.out] at hc0 hc1 hc2
        go_wp2_with (at_builtin; refine wpList_append_up rfl _ _ rfl (X + 1) _ (P) rfl ?qa2 w1.heap.size u rfl ?qb2 ?qc2 ?qd2 ?_)
        case qa2 => exact HV1.out.below (below1 _ _)
        case qb2 => exact up_new w1 u 32
        case qc2 => have := HLen.out; simp; omega
        case qd2 => have := HB1.out.size; have := HSz.out; simp; omega
        refine Lib.hid ?_
        intro v2 w2 hown2 hg2
        have HV2 := Lib.hid hown2
        have HB2 : Hid (Below (X + 1) W w2) := Lib.hid ((HB1.out.alloc (by have := HB1.out.size; have := HSz.out; omega) _).grown hg2 (by have := HB1.out.size; have := HSz.out; simp; omega) (by intro r hr; rcases HV1.out.2 with ⟨e, _⟩ | ⟨g, _, _, e, hge, _⟩ <;> rw [e] at hr <;> cases hr; exact hge))
        clear hown2 hg2
        clear hc0 hc1 hc2 d0 d1 d2 cB
        go_wp2
        go_roundw
        case rel => exact ⟨q + 1, (P ++ [u]), true, by omega, by go_num, rfl, Lib.hid (by rw [putGo_take HP.out hkl, HXk.out]; unfold putStep; rw [if_pos HZ.out]), HV2, HB2⟩
        case measure => simp [intOf]; omega
      · have zz : (x.node == u.node) = false := by rw [beq_eq_false_iff_ne]; exact hz
        have HZ := Lib.hid hz
        clear hz
        cases ld with
        | true =>
          go_wp2
          go_quiet (fail)
          obtain ⟨w1, hw1⟩ : ∃ w1, wr.drewN nq = w1 := ⟨_, rfl⟩
          have HV1 : Hid (upRow w1 (X + 1) v P) := Lib.hid (by rw [← hw1]; exact own_but HV.out ((But.refl (fun _ => False) _).drewN nq) (fun _ _ h => h))
          have HB1 : Hid (Below (X + 1) W w1) := Lib.hid (by rw [← hw1]; exact below_drewN HB.out nq)
          rw [hw1]
          clear hw1
          clear hc0 hc1 hc2 d0 d1 d2 cB
          obtain ⟨d0, d1, d2⟩ := blk3 (HF.out w1 HB1.out).2.2.1
          have cB : w1.cell? ⟨B, 1, none⟩ = some (.slice (some ⟨b, off, none⟩) n c) := by rw [cell_of_row _ _ _ _ _ _ (HF.out w1 HB1.out).1]; rfl
          obtain ⟨hc0, hc1, hc2⟩ := (HF.out w1 HB1.out).2.1.up hkl
          rw [HXk.out] at hc0 hc1 hc2
          go_wp2
          go_quiet (fail)
          obtain ⟨w2, hw2⟩ : ∃ w2, w1.drewN nq = w2 := ⟨_, rfl⟩
          have HV2 : Hid (upRow w2 (X + 1) v P) := Lib.hid (by rw [← hw2]; exact own_but HV1.out ((But.refl (fun _ => False) _).drewN nq) (fun _ _ h => h))
          have HB2 : Hid (Below (X + 1) W w2) := Lib.hid (by rw [← hw2]; exact below_drewN HB1.out nq)
          rw [hw2]
          clear hw2
          clear hc0 hc1 hc2 d0 d1 d2 cB
          obtain ⟨d0, d1, d2⟩ := blk3 (HF.out w2 HB2.out).2.2.1
          have cB : w2.cell? ⟨B, 1, none⟩ = some (.slice (some ⟨b, off, none⟩) n c) := by rw [cell_of_row _ _ _ _ _ _ (HF.out w2 HB2.out).1]; rfl
          obtain ⟨hc0, hc1, hc2⟩ := (HF.out w2 HB2.out).2.1.up hkl
          rw [HXk.out] at hc0 hc1 hc2
          go_wp2_with (at_builtin; refine wpList_append_up rfl _ _ rfl (X + 1) _ (P) rfl ?qa3 w2.heap.size x rfl ?qb3 ?qc3 ?qd3 ?_)
          case qa3 => exact HV2.out.below (below1 _ _)
          case qb3 => exact up_new w2 x 32
          case qc3 => have := HLen.out; simp; omega
          case qd3 => have := HB2.out.size; have := HSz.out; simp; omega
          refine Lib.hid ?_
          intro v3 w3 hown3 hg3
          have HV3 := Lib.hid hown3
          have HB3 : Hid (Below (X + 1) W w3) := Lib.hid ((HB2.out.alloc (by have := HB2.out.size; have := HSz.out; omega) _).grown hg3 (by have := HB2.out.size; have := HSz.out; simp; omega) (by intro r hr; rcases HV2.out.2 with ⟨e, _⟩ | ⟨g, _, _, e, hge, _⟩ <;> rw [e] at hr <;> cases hr; exact hge))
          clear hown3 hg3
          clear hc0 hc1 hc2 d0 d1 d2 cB
          go_wp2
          go_roundw
          case rel => exact ⟨q + 1, (P ++ [x]), true, by omega, by go_num, rfl, Lib.hid (by rw [putGo_take HP.out hkl, HXk.out]; unfold putStep; rw [if_neg HZ.out, if_neg (fun h => by cases h.1)]), HV3, HB3⟩
          case measure => simp [intOf]; omega
        | false =>
          by_cases hg : u.node < x.node
          · have zg : decide (u.node < x.node) = true := decide_eq_true hg
            have HG := Lib.hid hg
            clear hg
            go_wp2
            go_quiet (fail)
            obtain ⟨w1, hw1⟩ : ∃ w1, wr.drewN nq = w1 := ⟨_, rfl⟩
            have HV1 : Hid (upRow w1 (X + 1) v P) := Lib.hid (by rw [← hw1]; exact own_but HV.out ((But.refl (fun _ => False) _).drewN nq) (fun _ _ h => h))
            have HB1 : Hid (Below (X + 1) W w1) := Lib.hid (by rw [← hw1]; exact below_drewN HB.out nq)
            rw [hw1]
            clear hw1
            clear hc0 hc1 hc2 d0 d1 d2 cB
            obtain ⟨d0, d1, d2⟩ := blk3 (HF.out w1 HB1.out).2.2.1
            have cB : w1.cell? ⟨B, 1, none⟩ = some (.slice (some ⟨b, off, none⟩) n c) := by rw [cell_of_row _ _ _ _ _ _ (HF.out w1 HB1.out).1]; rfl
            obtain ⟨hc0, hc1, hc2⟩ := (HF.out w1 HB1.out).2.1.up hkl
            rw [HXk.out] at hc0 hc1 hc2
            go_wp2
            go_quiet (fail)
            obtain ⟨w2, hw2⟩ : ∃ w2, w1.drewN nq = w2 := ⟨_, rfl⟩
            have HV2 : Hid (upRow w2 (X + 1) v P) := Lib.hid (by rw [← hw2]; exact own_but HV1.out ((But.refl (fun _ => False) _).drewN nq) (fun _ _ h => h))
            have HB2 : Hid (Below (X + 1) W w2) := Lib.hid (by rw [← hw2]; exact below_drewN HB1.out nq)
            rw [hw2]
            clear hw2
            clear hc0 hc1 hc2 d0 d1 d2 cB
            obtain ⟨d0, d1, d2⟩ := blk3 (HF.out w2 HB2.out).2.2.1
            have cB : w2.cell? ⟨B, 1, none⟩ = some (.slice (some ⟨b, off, none⟩) n c) := by rw [cell_of_row _ _ _ _ _ _ (HF.out w2 HB2.out).1]; rfl
            obtain ⟨hc0, hc1, hc2⟩ := (HF.out w2 HB2.out).2.1.up hkl
            rw [HXk.out] at hc0 hc1 hc2
            go_wp2_with (at_builtin; refine wpList_append_up rfl _ _ rfl (X + 1) _ (P) rfl ?qa3 w2.heap.size u rfl ?qb3 ?qc3 ?qd3 ?_)
            case qa3 => exact HV2.out.below (below1 _ _)
            case qb3 => exact up_new w2 u 32
            case qc3 => have := HLen.out; simp; omega
            case qd3 => have := HB2.out.size; have := HSz.out; simp; omega
            refine Lib.hid ?_
            intro v3 w3 hown3 hg3
            have HV3 := Lib.hid hown3
            have HB3 : Hid (Below (X + 1) W w3) := Lib.hid ((HB2.out.alloc (by have := HB2.out.size; have := HSz.out; omega) _).grown hg3 (by have := HB2.out.size; have := HSz.out; simp; omega) (by intro r hr; rcases HV2.out.2 with ⟨e, _⟩ | ⟨g, _, _, e, hge, _⟩ <;> rw [e] at hr <;> cases hr; exact hge))
            clear hown3 hg3
            clear hc0 hc1 hc2 d0 d1 d2 cB
            obtain ⟨d0, d1, d2⟩ := blk3 (HF.out w3 HB3.out).2.2.1
            have cB : w3.cell? ⟨B, 1, none⟩ = some (.slice (some ⟨b, off, none⟩) n c) := by rw [cell_of_row _ _ _ _ _ _ (HF.out w3 HB3.out).1]; rfl
            obtain ⟨hc0, hc1, hc2⟩ := (HF.out w3 HB3.out).2.1.up hkl
            rw [HXk.out] at hc0 hc1 hc2
            go_wp2_with (at_builtin; refine wpList_append_up rfl _ _ rfl (X + 1) _ (P ++ [u]) rfl ?qa4 w3.heap.size x rfl ?qb4 ?qc4 ?qd4 ?_)
            case qa4 => exact HV3.out.below (below1 _ _)
            case qb4 => exact up_new w3 x 32
            case qc4 => have := HLen.out; simp; omega
            case qd4 => have := HB3.out.size; have := HSz.out; simp; omega
            refine Lib.hid ?_
            intro v4 w4 hown4 hg4
            have HV4 := Lib.hid hown4
            have HB4 : Hid (Below (X + 1) W w4) := Lib.hid ((HB3.out.alloc (by have := HB3.out.size; have := HSz.out; omega) _).grown hg4 (by have := HB3.out.size; have := HSz.out; simp; omega) (by intro r hr; rcases HV3.out.2 with ⟨e, _⟩ | ⟨g, _, _, e, hge, _⟩ <;> rw [e] at hr <;> cases hr; exact hge))
            clear hown4 hg4
            clear hc0 hc1 hc2 d0 d1 d2 cB
            go_wp2
            go_roundw
            case rel => exact ⟨q + 1, (P ++ [u] ++ [x]), true, by omega, by go_num, rfl, Lib.hid (by rw [putGo_take HP.out hkl, HXk.out]; unfold putStep; rw [if_neg HZ.out, if_pos ⟨rfl, HG.out⟩]), (Lib.hid (by have := HV4.out; simpa using this)), HB4⟩
            case measure => simp [intOf]; omega
          · have zg : decide (u.node < x.node) = false := decide_eq_false hg
            have HG := Lib.hid hg
            clear hg
            go_wp2
            go_quiet (fail)
            obtain ⟨w1, hw1⟩ : ∃ w1, wr.drewN nq = w1 := ⟨_, rfl⟩
            have HV1 : Hid (upRow w1 (X + 1) v P) := Lib.hid (by rw [← hw1]; exact own_but HV.out ((But.refl (fun _ => False) _).drewN nq) (fun _ _ h => h))
            have HB1 : Hid (Below (X + 1) W w1) := Lib.hid (by rw [← hw1]; exact below_drewN HB.out nq)
            rw [hw1]
            clear hw1
            clear hc0 hc1 hc2 d0 d1 d2 cB
            obtain ⟨d0, d1, d2⟩ := blk3 (HF.out w1 HB1.out).2.2.1
            have cB : w1.cell? ⟨B, 1, none⟩ = some (.slice (some ⟨b, off, none⟩) n c) := by rw [cell_of_row _ _ _ _ _ _ (HF.out w1 HB1.out).1]; rfl
            obtain ⟨hc0, hc1, hc2⟩ := (HF.out w1 HB1.out).2.1.up hkl
            rw [HXk.out] at hc0 hc1 hc2
            go_wp2
            go_quiet (fail)
            obtain ⟨w2, hw2⟩ : ∃ w2, w1.drewN nq = w2 := ⟨_, rfl⟩
            have HV2 : Hid (upRow w2 (X + 1) v P) := Lib.hid (by rw [← hw2]; exact own_but HV1.out ((But.refl (fun _ => False) _).drewN nq) (fun _ _ h => h))
            have HB2 : Hid (Below (X + 1) W w2) := Lib.hid (by rw [← hw2]; exact below_drewN HB1.out nq)
            rw [hw2]
            clear hw2
            clear hc0 hc1 hc2 d0 d1 d2 cB
            obtain ⟨d0, d1, d2⟩ := blk3 (HF.out w2 HB2.out).2.2.1
            have cB : w2.cell? ⟨B, 1, none⟩ = some (.slice (some ⟨b, off, none⟩) n c) := by rw [cell_of_row _ _ _ _ _ _ (HF.out w2 HB2.out).1]; rfl
            obtain ⟨hc0, hc1, hc2⟩ := (HF.out w2 HB2.out).2.1.up hkl
            rw [HXk.out] at hc0 hc1 hc2
            go_wp2_with (at_builtin; refine wpList_append_up rfl _ _ rfl (X + 1) _ (P) rfl ?qa3 w2.heap.size x rfl ?qb3 ?qc3 ?qd3 ?_)
            case qa3 => exact HV2.out.below (below1 _ _)
            case qb3 => exact up_new w2 x 32
            case qc3 => have := HLen.out; simp; omega
            case qd3 => have := HB2.out.size; have := HSz.out; simp; omega
            refine Lib.hid ?_
            intro v3 w3 hown3 hg3
            have HV3 := Lib.hid hown3
            have HB3 : Hid (Below (X + 1) W w3) := Lib.hid ((HB2.out.alloc (by have := HB2.out.size; have := HSz.out; omega) _).grown hg3 (by have := HB2.out.size; have := HSz.out; simp; omega) (by intro r hr; rcases HV2.out.2 with ⟨e, _⟩ | ⟨g, _, _, e, hge, _⟩ <;> rw [e] at hr <;> cases hr; exact hge))
            clear hown3 hg3
            clear hc0 hc1 hc2 d0 d1 d2 cB
            go_wp2
            go_roundw
            case rel => exact ⟨q + 1, (P ++ [x]), false, by omega, by go_num, rfl, Lib.hid (by rw [putGo_take HP.out hkl, HXk.out]; unfold putStep; rw [if_neg HZ.out, if_neg (fun h => absurd h.2 (by have := HG.out; omega))]), HV3, HB3⟩
            case measure => simp [intOf]; omega
    · obtain rfl : q = n := by omega
      have cB : wr.cell? ⟨B, 1, none⟩ = some (.slice A q c) := by rw [cell_of_row _ _ _ _ _ _ (HF.out wr HB.out).1]; rfl
      have HP' : Hid (putGo u L = (P, ld)) := Lib.hid (by rw [← HP.out, List.take_of_length_le (by have := HLn.out; omega)])
      cases ld with
      | true =>
        have HE : Hid (P = listTo (put r.T u) 8) := Lib.hid (by rw [← HFin.out]; unfold putL; rw [HP'.out]; rfl)
        have hBk := (HF.out wr HB.out).1
        have fB := blk_froz hBk 1
        obtain ⟨A9, c9, rfl, _⟩ := SUp.of_row HV.out
        have HS2 := Lib.hid (block_set hBk 1 (.slice A9 P.length c9))
        have HBk := Lib.hid hBk
        clear hBk
        go_wp2
        refine bodyPost_end (results_none rfl _ _ _) rfl ⟨rfl, ⟨.slice A9 P.length c9, ⟨?_, ?_, ?_⟩, ?_⟩, ?_⟩
        · rw [HS2.out, HOwn.out]; rfl
        · have hX1 := HX.out
          have hBl := HBl.out
          rw [← HE.out]
          exact bown_base (own_but HV.out (But.set (S := (· = B)) _ (p := ⟨B, 1, none⟩) rfl _) (fun j hj e => by
            rcases HV.out.2 with ⟨e2, _⟩ | ⟨g, _, _, e2, hge, _⟩
            · rw [e2] at hj; cases hj
            · have e3 : j = B := e
              rw [e2] at hj
              have e4 : g = j := by simpa [Value.ownBlock] using hj
              omega)) (by have := HBas.out; omega)
        · exact HOk.out.put HRt.out
        · intro b hb
          have hX1 := HX.out
          rcases HV.out.2 with ⟨e2, _⟩ | ⟨g, _, _, e2, hge, _⟩
          · rw [e2] at hb; cases hb
          · rw [e2] at hb
            have e4 : g = b := by simpa [Value.ownBlock] using hb
            omega
        · exact (But.of_below (HF.out wr HB.out).2.2.2).trans (But.set (S := (· = B)) _ (p := ⟨B, 1, none⟩) rfl _)
      | false =>
        have HE : Hid (P ++ [u] = listTo (put r.T u) 8) := Lib.hid (by rw [← HFin.out]; unfold putL; rw [HP'.out]; rfl)
        obtain ⟨d0, d1, d2⟩ := blk3 (HF.out wr HB.out).2.2.1
        go_wp2_with (at_builtin; refine wpList_append_up rfl _ _ rfl (X + 1) _ (P) rfl ?qa1 wr.heap.size u rfl ?qb1 ?qc1 ?qd1 ?_)
        case qa1 => exact HV.out.below (below1 _ _)
        case qb1 => exact up_new wr u 32
        case qc1 => have := HLen.out; simp; omega
        case qd1 => have := HB.out.size; have := HSz.out; simp; omega
        refine Lib.hid ?_
        intro v1 w1 hown1 hg1
        have HV1 := Lib.hid hown1
        have HB1 : Hid (Below (X + 1) W w1) := Lib.hid ((HB.out.alloc (by have := HB.out.size; have := HSz.out; omega) _).grown hg1 (by have := HB.out.size; have := HSz.out; simp; omega) (by intro r hr; rcases HV.out.2 with ⟨e, _⟩ | ⟨g, _, _, e, hge, _⟩ <;> rw [e] at hr <;> cases hr; exact hge))
        clear hown1 hg1
        clear d0 d1 d2 cB
        have hBk := (HF.out w1 HB1.out).1
        have cB : w1.cell? ⟨B, 1, none⟩ = some (.slice A q c) := by rw [cell_of_row _ _ _ _ _ _ hBk]; rfl
        have fB := blk_froz hBk 1
        obtain ⟨A9, c9, e9, _⟩ := SUp.of_row HV1.out
        rw [List.length_append, List.length_singleton] at e9
        subst e9
        have HS2 := Lib.hid (block_set hBk 1 (.slice A9 (P.length + 1) c9))
        have HBk := Lib.hid hBk
        clear hBk
        go_wp2
        refine bodyPost_end (results_none rfl _ _ _) rfl ⟨rfl, ⟨.slice A9 (P.length + 1) c9, ⟨?_, ?_, ?_⟩, ?_⟩, ?_⟩
        · rw [HS2.out, HOwn.out]; rfl
        · have hX1 := HX.out
          have hBl := HBl.out
          rw [← HE.out]
          exact bown_base (own_but HV1.out (But.set (S := (· = B)) _ (p := ⟨B, 1, none⟩) rfl _) (fun j hj e => by
            rcases HV1.out.2 with ⟨e2, _⟩ | ⟨g, _, _, e2, hge, _⟩
            · rw [e2] at hj; cases hj
            · have e3 : j = B := e
              rw [e2] at hj
              have e4 : g = j := by simpa [Value.ownBlock] using hj
              omega)) (by have := HBas.out; omega)
        · exact HOk.out.put HRt.out
        · intro b hb
          have hX1 := HX.out
          rcases HV1.out.2 with ⟨e2, _⟩ | ⟨g, _, _, e2, hge, _⟩
          · rw [e2] at hb; cases hb
          · rw [e2] at hb
            have e4 : g = b := by simpa [Value.ownBlock] using hb
            omega
        · exact (But.of_below (HF.out w1 HB1.out).2.2.2).trans (But.set (S := (· = B)) _ (p := ⟨B, 1, none⟩) rfl _)
end Go.Proofs.Ytmfokogckfoheaa
