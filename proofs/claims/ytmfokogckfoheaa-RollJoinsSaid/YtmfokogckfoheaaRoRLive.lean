/-
  Live of the document's roll (layer 9).
-/
import Derived.Test.YtmfokogckfoheaaRoRLeave
namespace Go.Proofs.Ytmfokogckfoheaa
open Go.RowKit Go.Maps
set_option linter.unusedSimpArgs false
set_option linter.unusedVariables false

theorem blk2 {W : World} {X : Nat} {a b : Value} {t : TypeId} (h : W.heap[X]? = some (.cells #[a, b] t (0, 0))) : W.cell? ⟨X, 0, none⟩ = some a ∧ W.cell? ⟨X, 1, none⟩ = some b := by
  refine ⟨?_, ?_⟩ <;> (rw [cell_of_row _ _ _ _ _ _ h]; rfl)
/-- Who lives by the document; of the others alone. -/
def selB (own : Int) (peers : Bool) (u : Up) : Bool := decide (u.st < 2) && !(peers && (u.node == own))
def selL (own : Int) (peers : Bool) (l : List Up) : List Int := (l.filter (selB own peers)).map Up.node
theorem selL_take {own : Int} {peers : Bool} {l : List Up} {q : Nat} (hq : q < l.length) : selL own peers (l.take (q + 1)) = selL own peers (l.take q) ++ (if selB own peers l[q] then [l[q].node] else []) := by
  rw [List.take_succ_eq_append_getElem hq]
  unfold selL
  rw [List.filter_append, List.map_append]
  congr 1
  cases h : selB own peers l[q] <;> simp [h]
theorem selL_len (own : Int) (peers : Bool) (l : List Up) : (selL own peers l).length ≤ l.length := by
  unfold selL
  rw [List.length_map]
  exact List.length_filter_le _ _
theorem selL_cons (own : Int) (peers : Bool) (u : Up) (l : List Up) : selL own peers (u :: l) = (if selB own peers u then [u.node] else []) ++ selL own peers l := by
  unfold selL
  rw [List.filter_cons]
  cases selB own peers u <;> simp
theorem livesL_cons (u : Up) (l : List Up) : livesL (u :: l) = (if u.lives then [u.node] else []) ++ livesL l := by
  unfold livesL
  rw [List.filter_cons]
  cases u.lives <;> simp
theorem othersL_append (own : Int) (a b : List Int) : othersL own (a ++ b) = othersL own a ++ othersL own b := by
  unfold othersL
  rw [List.filter_append]
theorem lives_sel {own : Int} : ∀ {l : List Up}, (∀ u ∈ l, u.right = true) → livesL l = selL own false l ∧ othersL own (livesL l) = selL own true l
  | [], _ => ⟨rfl, rfl⟩
  | u :: l, h => by
    obtain ⟨h1, h2⟩ := lives_sel (own := own) (l := l) (fun x hx => h x (List.mem_cons_of_mem _ hx))
    have hr := h u List.mem_cons_self
    unfold Up.right at hr
    have hr := of_decide_eq_true hr
    have e : u.lives = decide (u.st < 2) := by
      unfold Up.lives
      rw [Bool.eq_iff_iff]
      simp
      omega
    have e0 : selB own false u = decide (u.st < 2) := by unfold selB; simp
    have e1 : selB own true u = (decide (u.st < 2) && !(u.node == own)) := by unfold selB; simp
    rw [livesL_cons, selL_cons, selL_cons, othersL_append, h2, e, e0, e1]
    refine ⟨by rw [h1], ?_⟩
    congr 1
    unfold othersL
    cases hd : decide (u.st < 2) with
    | false => rfl
    | true =>
      cases hn : (u.node == own) with
      | true => simp [bne, hn]
      | false => simp [bne, hn]
theorem listTo_right {r : Ro} (h : r.ok) : ∀ u ∈ listTo r.T 8, u.right = true := fun u hu => by
  unfold listTo at hu
  obtain ⟨k, _, hk⟩ := List.mem_filterMap.1 hu
  exact (h.at_ _ _ hk).1
set_option maxHeartbeats 8000000 in
theorem rlive_any {base B : Nat} {v0 : Value} {r : Ro} (peers : Bool) (w : World) (hR : RrAt w base B v0 r) :
    Calls Try.prog 23 #[.pointer (some ⟨B, 0, none⟩), .bool peers] w (IntsPost w (selL r.own peers (listTo r.T 8))) := by
  obtain ⟨i0, hi, hz0, hz1, hz2⟩ := info_parts int_info
  have hL8 := listTo_len r.T 8
  obtain ⟨A, c, rfl, hS, hnc, hm⟩ := hR.sup
  obtain ⟨own, hown⟩ : ∃ o, r.own = o := ⟨_, rfl⟩
  have hblk := hR.blk
  rw [hown] at hblk ⊢
  obtain ⟨L, hL⟩ : ∃ L, listTo r.T 8 = L := ⟨_, rfl⟩
  rw [hL] at hL8 hS hnc hblk ⊢
  obtain ⟨n, hn⟩ : ∃ n, L.length = n := ⟨_, rfl⟩
  rw [hn] at hL8 hS hnc hblk
  have hBl : B < w.heap.size := block_lt hblk
  have HF : Hid (∀ w1, Below w.heap.size w w1 → w1.heap[B]? = some (.cells #[.int .i64 own, .slice A n c] 46 (0, 0)) ∧ SUp w1 A n L) := Lib.hid (fun w1 hb => ⟨(hb.block B hBl).trans hblk, hS.of_block hb⟩)
  have HLn := Lib.hid hn
  have hm' : (c : Int) ≤ 9223372036854775807 := by unfold maxLen at hm; omega
  have hn8 : (n : Int) ≤ 8 := by omega
  clear hR hS hblk hn hBl hown hL hm
  go_enter Try.func23, Try.ntmps23
  go_wp2
  go_loopw [5, 6] (fun v k wr => ∃ (q : Nat) (P : List Int), q ≤ n ∧ k = .int .i64 (q : Int) ∧ Hid (P = selL own peers (L.take q)) ∧ Hid (wr.ownsRow w.heap.size 3 1 v P.length (intsC P)) ∧ Hid (Below w.heap.size w wr)) (fun _ k _ => n - (intOf k).toNat)
  case atStart => exact ⟨0, [], Nat.zero_le _, rfl, Lib.hid rfl, Lib.hid (World.ownsRow_nil _ _ _ _), Lib.hid (Below.refl _ _)⟩
  case round =>
    obtain ⟨q, P, hq, rfl, HP, HV, HB⟩ := hrel
    obtain ⟨v, rfl⟩ : ∃ v, v = u5 := ⟨_, rfl⟩
    have HLen := Lib.hid (show P.length ≤ 8 by
      have h1 := selL_len own peers (L.take q)
      rw [← HP.out, List.length_take] at h1
      have := HLn.out
      omega)
    have cB := (blk2 (HF.out wr HB.out).1).2
    have cO := (blk2 (HF.out wr HB.out).1).1
    by_cases hlt : q < n
    · have hkl : q < L.length := by have := HLn.out; omega
      obtain ⟨b, off, rfl, hbl, _⟩ := (HF.out wr HB.out).2.at_ hlt hkl
      obtain ⟨x, hx⟩ : ∃ x, L[q] = x := ⟨_, rfl⟩
      have hsel := selL_take (own := own) (peers := peers) hkl
      rw [hx] at hsel
      obtain ⟨hc0, hc1, hc2⟩ := (HF.out wr HB.out).2.up hkl
      rw [hx] at hc0 hc1 hc2
      have HXk := Lib.hid hx
      have q1 : (q : Int) < (n : Int) := by omega
      have q0 : (0 : Int) ≤ (q : Int) := by omega
      clear hx hbl
      by_cases hst : x.st < 2
      · have zs : decide (x.st < 2) = true := decide_eq_true hst
        cases peers with
        | false =>
          have HSel : Hid (selL own false (L.take (q + 1)) = selL own false (L.take q) ++ [x.node]) := Lib.hid (by rw [hsel]; unfold selB; rw [zs]; rfl)
          clear hsel hst
          go_wp2
          go_quiet (fail)
          obtain ⟨w1, hw1⟩ : ∃ w1, wr.drewN nq = w1 := ⟨_, rfl⟩
          have HV1 : Hid (w1.ownsRow w.heap.size 3 1 v P.length (intsC P)) := Lib.hid (by rw [← hw1]; exact own_but HV.out ((But.refl (fun _ => False) _).drewN nq) (fun _ _ h => h))
          have HB1 : Hid (Below w.heap.size w w1) := Lib.hid (by rw [← hw1]; exact below_drewN HB.out nq)
          rw [hw1]
          clear hw1 hc0 hc1 hc2 cB cO
          obtain ⟨hc0, hc1, hc2⟩ := (HF.out w1 HB1.out).2.up hkl
          rw [HXk.out] at hc0 hc1 hc2
          have cB := (blk2 (HF.out w1 HB1.out).1).2
          go_wp2_with (at_builtin; refine wpList_append_val rfl _ _ _ rfl w.heap.size 3 i0 (.int .i64 0) 8 Try.underlying51 hi hz0 hz1 hz2 rfl v P.length (intsC P) rfl HV1.out (.int .i64 x.node) 3 rfl rfl ?qa ?qb ?qc ?_)
          case qa => have := HLen.out; unfold maxLen; omega
          case qb => have := HLen.out; omega
          case qc => exact HB1.out.size
          refine Lib.hid ?_
          intro v' w2 hown hg
          have HV2 : Hid (w2.ownsRow w.heap.size 3 1 v' (P ++ [x.node]).length (intsC (P ++ [x.node]))) := Lib.hid (by rw [List.length_append, List.length_singleton]; unfold intsC; rw [List.map_append]; exact hown)
          have HB2 : Hid (Below w.heap.size w w2) := Lib.hid ((HB1.out.alloc HB1.out.size _).grown hg (by have := HB1.out.size; simp; omega) (by intro r hr; rcases HV1.out.2 with ⟨e, _⟩ | ⟨g, _, _, e, hge, _⟩ <;> rw [e] at hr <;> cases hr; exact hge))
          clear hown hg hc0 hc1 hc2 cB
          go_wp2
          go_roundw
          case rel => exact ⟨q + 1, P ++ [x.node], by omega, by go_num, Lib.hid (by rw [HSel.out, ← HP.out]), HV2, HB2⟩
          case measure => simp [intOf]; omega
        | true =>
          cases hno : (x.node == own) with
          | true =>
            have HSel : Hid (selL own true (L.take (q + 1)) = selL own true (L.take q)) := Lib.hid (by rw [hsel]; unfold selB; rw [zs, hno]; simp)
            clear hsel hst
            go_wp2
            go_quiet (fail)
            obtain ⟨w1, hw1⟩ : ∃ w1, wr.drewN nq = w1 := ⟨_, rfl⟩
            have HV1 : Hid (w1.ownsRow w.heap.size 3 1 v P.length (intsC P)) := Lib.hid (by rw [← hw1]; exact own_but HV.out ((But.refl (fun _ => False) _).drewN nq) (fun _ _ h => h))
            have HB1 : Hid (Below w.heap.size w w1) := Lib.hid (by rw [← hw1]; exact below_drewN HB.out nq)
            rw [hw1]
            clear hw1 hc0 hc1 hc2 cB cO
            go_wp2
            go_roundw
            case rel => exact ⟨q + 1, P, by omega, by go_num, Lib.hid (by rw [HSel.out]; exact HP.out), HV1, HB1⟩
            case measure => simp [intOf]; omega
          | false =>
            have HSel : Hid (selL own true (L.take (q + 1)) = selL own true (L.take q) ++ [x.node]) := Lib.hid (by rw [hsel]; unfold selB; rw [zs, hno]; rfl)
            clear hsel hst
            go_wp2
            go_quiet (fail)
            obtain ⟨w1, hw1⟩ : ∃ w1, wr.drewN nq = w1 := ⟨_, rfl⟩
            have HV1 : Hid (w1.ownsRow w.heap.size 3 1 v P.length (intsC P)) := Lib.hid (by rw [← hw1]; exact own_but HV.out ((But.refl (fun _ => False) _).drewN nq) (fun _ _ h => h))
            have HB1 : Hid (Below w.heap.size w w1) := Lib.hid (by rw [← hw1]; exact below_drewN HB.out nq)
            rw [hw1]
            clear hw1 hc0 hc1 hc2 cB cO
            obtain ⟨hc0, hc1, hc2⟩ := (HF.out w1 HB1.out).2.up hkl
            rw [HXk.out] at hc0 hc1 hc2
            have cB := (blk2 (HF.out w1 HB1.out).1).2
            go_wp2_with (at_builtin; refine wpList_append_val rfl _ _ _ rfl w.heap.size 3 i0 (.int .i64 0) 8 Try.underlying51 hi hz0 hz1 hz2 rfl v P.length (intsC P) rfl HV1.out (.int .i64 x.node) 3 rfl rfl ?ra ?rb ?rc ?_)
            case ra => have := HLen.out; unfold maxLen; omega
            case rb => have := HLen.out; omega
            case rc => exact HB1.out.size
            refine Lib.hid ?_
            intro v' w2 hown hg
            have HV2 : Hid (w2.ownsRow w.heap.size 3 1 v' (P ++ [x.node]).length (intsC (P ++ [x.node]))) := Lib.hid (by rw [List.length_append, List.length_singleton]; unfold intsC; rw [List.map_append]; exact hown)
            have HB2 : Hid (Below w.heap.size w w2) := Lib.hid ((HB1.out.alloc HB1.out.size _).grown hg (by have := HB1.out.size; simp; omega) (by intro r hr; rcases HV1.out.2 with ⟨e, _⟩ | ⟨g, _, _, e, hge, _⟩ <;> rw [e] at hr <;> cases hr; exact hge))
            clear hown hg hc0 hc1 hc2 cB
            go_wp2
            go_roundw
            case rel => exact ⟨q + 1, P ++ [x.node], by omega, by go_num, Lib.hid (by rw [HSel.out, ← HP.out]), HV2, HB2⟩
            case measure => simp [intOf]; omega
      · have zs : decide (x.st < 2) = false := decide_eq_false hst
        have HSel : Hid (selL own peers (L.take (q + 1)) = selL own peers (L.take q)) := Lib.hid (by rw [hsel]; unfold selB; rw [zs]; simp)
        clear hsel hst
        go_wp2
        go_quiet (fail)
        obtain ⟨w1, hw1⟩ : ∃ w1, wr.drewN nq = w1 := ⟨_, rfl⟩
        have HV1 : Hid (w1.ownsRow w.heap.size 3 1 v P.length (intsC P)) := Lib.hid (by rw [← hw1]; exact own_but HV.out ((But.refl (fun _ => False) _).drewN nq) (fun _ _ h => h))
        have HB1 : Hid (Below w.heap.size w w1) := Lib.hid (by rw [← hw1]; exact below_drewN HB.out nq)
        rw [hw1]
        clear hw1 hc0 hc1 hc2 cB cO
        go_wp2
        go_roundw
        case rel => exact ⟨q + 1, P, by omega, by go_num, Lib.hid (by rw [HSel.out]; exact HP.out), HV1, HB1⟩
        case measure => simp [intOf]; omega
    · obtain rfl : q = n := by omega
      have HE : Hid (P = selL own peers L) := Lib.hid (by rw [HP.out, List.take_of_length_le (by have := HLn.out; omega)])
      obtain ⟨A4, c4, rfl, hS4, hn4, hm4⟩ := ints_of_row HV.out
      have HS4 := Lib.hid (And.intro hS4 (And.intro hn4 hm4))
      clear hS4 hn4 hm4
      go_wp2
      go_ret
      rw [← HE.out]
      exact ⟨A4, c4, rfl, HS4.out.1, HS4.out.2.1, HS4.out.2.2, HB.out⟩
end Go.Proofs.Ytmfokogckfoheaa
