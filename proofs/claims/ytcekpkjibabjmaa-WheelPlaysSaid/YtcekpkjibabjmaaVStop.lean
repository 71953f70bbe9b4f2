/-
  has, Stop and Left of the document's wheel, walked (layer 6).
-/
import Derived.Test.YtcekpkjibabjmaaVMem
import Derived.Test.YtcekpkjibabjmaaWLeft
namespace Go.Proofs.Ytcekpkjibabjmaa
open Go.RowKit
set_option linter.unusedSimpArgs false

theorem ref_cells {w : World} {B2 : Nat} {z : Int} {v : Value} (hh : w.heap[B2]? = some (.cells #[.int .i64 z, v] 28 (0, 0))) : w.cell? ⟨B2, 0, none⟩ = some (.int .i64 z) ∧ w.cell? ⟨B2, 1, none⟩ = some v ∧ w.frozen? ⟨B2, 0, none⟩ = false ∧ w.frozen? ⟨B2, 1, none⟩ = false :=
  ⟨by rw [cell_of_row _ _ _ _ _ _ hh]; rfl, by rw [cell_of_row _ _ _ _ _ _ hh]; rfl, by simp [World.frozen?, hh], by simp [World.frozen?, hh]⟩
theorem hasL_false {L : Tm} {id : Int} (h : ∀ x ∈ L, x.1 ≠ id) : hasL L id = false := by unfold hasL; rw [dueOf_none.2 h]; rfl
theorem hasL_true {L : Tm} {id : Int} {x : Int × Nat} (h : x ∈ L) (e : x.1 = id) : hasL L id = true := by
  cases hd : dueOf L id with
  | none => exact absurd e (dueOf_none.1 hd x h)
  | some d => unfold hasL; rw [hd]; rfl
set_option maxHeartbeats 2000000 in
theorem rhas_any (Q : Nat → Prop) (w : World) (B2 : Nat) (s : St) (h : RwAt Q w B2 s) (id : Int) :
    Calls Try.prog 24 #[.pointer (some ⟨B2, 0, none⟩), .int .i64 id] w fun e w' => e = .returned (.bool (hasL s.L id)) ∧ w = w' := by
  obtain ⟨_, hok, A, n, c, hh, hr⟩ := h
  obtain ⟨_, c1, _, _⟩ := ref_cells hh
  have hn : s.L.length = n := hr.1
  have hn64 := hok.most
  obtain ⟨L, hL⟩ : ∃ L, s.L = L := ⟨_, rfl⟩
  rw [hL] at hr hn hn64 ⊢
  have HR := Lib.hid hr
  have HN := Lib.hid hn
  have q1 : (n : Int) ≤ 64 := by omega
  clear hr hn hh hok hL
  go_enter Try.func24, Try.ntmps24
  go_wp2
  go_loop [5] (fun kv => ∃ k : Nat, kv = .int .i64 (k : Int) ∧ k ≤ n ∧ Hid (∀ x ∈ L.take k, x.1 ≠ id)) (fun kv => n - (RowKit.intOf kv).toNat)
  case atStart => exact ⟨0, rfl, Nat.zero_le _, Lib.hid (by simp)⟩
  case round =>
    obtain ⟨k, rfl, hk, hno⟩ := hrel
    by_cases hlt : k < n
    · have hkl : k < L.length := by rw [HN.out]; exact hlt
      obtain ⟨b, off, rfl, _, _, hat⟩ := HR.out.2 (by omega)
      obtain ⟨cr, _⟩ := hat k hkl
      obtain ⟨y, hy⟩ : ∃ y, L[k].1 = y := ⟨_, rfl⟩
      rw [hy] at cr
      have q2 : (k : Int) < (n : Int) := by omega
      have hmem : L[k] ∈ L := List.getElem_mem hkl
      by_cases hyy : y = id
      · have z1 : (y == id) = true := by rw [beq_iff_eq]; exact hyy
        have HT := Lib.hid (hasL_true hmem (hy.trans hyy))
        clear hat hy hmem hyy
        go_wp2
        go_ret
        exact ⟨ret_b HT.out.symm, rfl⟩
      · have z1 : (y == id) = false := by rw [beq_eq_false_iff_ne]; exact hyy
        have HT : Hid (∀ x ∈ L.take (k + 1), x.1 ≠ id) := Lib.hid (fun x hx => by
          rw [List.take_succ_eq_append_getElem hkl] at hx
          rcases List.mem_append.1 hx with hx | hx
          · exact hno.out x hx
          · obtain rfl := List.mem_singleton.1 hx
            rw [hy]; exact hyy)
        clear hat hy hmem hyy
        go_wp2
        go_round
        case rel => exact ⟨k + 1, by go_num, by omega, HT⟩
        case measure => simp [RowKit.intOf]; omega
    · obtain rfl : k = n := by omega
      have HT : Hid (hasL L id = false) := Lib.hid (hasL_false (fun x hx => hno.out x (by rw [List.take_of_length_le (by rw [HN.out]; exact Nat.le_refl _)]; exact hx)))
      go_wp2
      go_ret
      exact ⟨ret_b HT.out.symm, rfl⟩
theorem delL_snoc (id : Int) (L : Tm) (x : Int × Nat) : delL id (L ++ [x]) = if x.1 = id then delL id L else delL id L ++ [x] := by
  unfold delL
  rw [List.filter_append]
  by_cases h : x.1 = id
  · rw [if_pos h, List.filter_cons_of_neg (by simp [h])]; simp
  · rw [if_neg h, List.filter_cons_of_pos (by simp [h])]; simp
/-- The document's wheel with its row set anew. -/
theorem RwAt.setRow {Q : Nat → Prop} {w w' : World} {B2 : Nat} {s : St} {L : Tm} {A : Option Addr} {n c : Nat} (h : RwAt Q w B2 s) (hQ : ∀ k, w.heap.size ≤ k → Q k) (hb : Below w.heap.size w w') (hr : TmRow (fun b => w.heap.size ≤ b) w' A n L) (hok : (St.mk s.now L).ok) :
    RwAt Q (w'.setCell ⟨B2, 1, none⟩ (.slice A n c)) B2 ⟨s.now, L⟩ ∧ But (· = B2) w (w'.setCell ⟨B2, 1, none⟩ (.slice A n c)) := by
  obtain ⟨h0, _, A0, n0, c0, hh, _⟩ := h
  have hlt := block_lt hh
  have hh' := (hb.block B2 hlt).trans hh
  have hs : But (· = B2) w' (w'.setCell ⟨B2, 1, none⟩ (.slice A n c)) := But.set (S := (· = B2)) _ (p := ⟨B2, 1, none⟩) rfl _
  have hb2 : But (· = B2) w w' := But.of_below hb
  refine ⟨⟨h0, hok, A, n, c, by rw [block_set hh' 1 _]; rfl, ?_⟩, hb2.trans hs⟩
  have h1 := hr.but hs (fun b e hl hq => by subst e; omega)
  exact h1.mono (fun b _ hq => ⟨hQ b hq, fun e => by subst e; omega⟩)
set_option maxHeartbeats 4000000 in
set_option maxRecDepth 100000 in
theorem rstop_any (Q : Nat → Prop) (w : World) (B2 : Nat) (s : St) (h : RwAt Q w B2 s) (hQ : ∀ k, w.heap.size ≤ k → Q k) (id : Int) :
    Calls Try.prog 11 #[.pointer (some ⟨B2, 0, none⟩), .int .i64 id] w fun e w' => e = .returned (.bool (hasL s.L id)) ∧ RwAt Q w' B2 (s.stop id) ∧ But (· = B2) w w' := by
  have HHas := Lib.hid (rhas_any Q w B2 s h id)
  have HH := Lib.hid h
  obtain ⟨_, hok, A, n, c, hh, hr⟩ := h
  have hn : s.L.length = n := hr.1
  have hn64 := hok.most
  have HOk := Lib.hid (hok.stop id)
  obtain ⟨L, hL⟩ : ∃ L, s.L = L := ⟨_, rfl⟩
  rw [hL] at hr hn hn64
  obtain ⟨hb, hhb⟩ : ∃ hb, hasL s.L id = hb := ⟨_, rfl⟩
  rw [hhb] at HHas ⊢
  have HStop : Hid (s.stop id = ⟨s.now, delL id L⟩) := Lib.hid (by unfold St.stop; rw [hL])
  have HR := Lib.hid hr
  have HN := Lib.hid hn
  have HHh := Lib.hid hh
  have q1 : (n : Int) ≤ 64 := by omega
  have HN64 := Lib.hid hn64
  clear hr hn hh hok hL hhb hn64
  go_enter Try.func11, Try.ntmps11
  go_wp2_with fail
  refine HHas.out.mono ?_
  rintro e w' ⟨rfl, rfl⟩
  go_wp2
  go_loopw [6, 7] (fun lv kv wr => ∃ k : Nat, kv = .int .i64 (k : Int) ∧ k ≤ n ∧ Hid (wr.ownsRow w.heap.size 56 2 lv (delL id (L.take k)).length (flat (delL id (L.take k)))) ∧ Hid (Below w.heap.size w wr)) (fun _ kv _ => n - (RowKit.intOf kv).toNat)
  case atStart => exact ⟨0, rfl, Nat.zero_le _, Lib.hid (World.ownsRow_nil _ _ _ _), Lib.hid (Below.refl _ _)⟩
  case round =>
    obtain ⟨k, rfl, hk, hown, hbe⟩ := hrel
    obtain ⟨_, c1, _, _⟩ := ref_cells ((hbe.out.block B2 HH.out.lt).trans HHh.out)
    by_cases hlt : k < n
    · have hkl : k < L.length := by rw [HN.out]; exact hlt
      have hrr := HR.out.but (But.of_below (S := fun _ => False) hbe.out) (fun _ h => h.elim)
      obtain ⟨b, off, rfl, _, _, hat⟩ := hrr.2 (by omega)
      obtain ⟨cr, cr2⟩ := hat k hkl
      obtain ⟨x, hx⟩ : ∃ x, L[k] = x := ⟨_, rfl⟩
      rw [hx] at cr cr2
      have htk : L.take (k + 1) = L.take k ++ [x] := by rw [List.take_succ_eq_append_getElem hkl, hx]
      have hdl := delL_snoc id (L.take k) x
      rw [← htk] at hdl
      have q2 : (k : Int) < (n : Int) := by omega
      by_cases hyy : x.1 = id
      · rw [if_pos hyy] at hdl
        have z1 : (x.1 == id) = true := by rw [beq_iff_eq]; exact hyy
        have HO : Hid (∀ v, wr.ownsRow w.heap.size 56 2 v (delL id (L.take k)).length (flat (delL id (L.take k))) → wr.ownsRow w.heap.size 56 2 v (delL id (L.take (k + 1))).length (flat (delL id (L.take (k + 1))))) := Lib.hid (by rw [hdl]; exact fun v h => h)
        clear hat hx htk hdl hyy hrr
        go_wp2
        go_roundw
        case rel => exact ⟨k + 1, by go_num, by omega, Lib.hid (HO.out _ hown.out), hbe⟩
        case measure => simp [RowKit.intOf]; omega
      · rw [if_neg hyy] at hdl
        have z1 : (x.1 == id) = false := by rw [beq_eq_false_iff_ne]; exact hyy
        have HDl := Lib.hid hdl
        have hsm : (delL id (L.take k)).length ≤ 4096 := by
          have h1 := length_delL_le (L.take k) id
          have h2 := List.length_take_le k L
          have h3 := HN64.out
          omega
        clear hat hx htk hdl hyy hrr
        have HB := hbe
        have hsz := hbe.out.size
        go_wp2_with (at_builtin; refine wpList_append_tm rfl (.tmp 30) (.tmp 38) rfl w.heap.size _ (delL id (L.take k)) rfl hown.out x rfl hsm hsz ?_)
        refine Lib.hid ?_
        intro v1 w1 hown1 hg1
        have HO1 : Hid (w1.ownsRow w.heap.size 56 2 v1 (delL id (L.take (k + 1))).length (flat (delL id (L.take (k + 1))))) := Lib.hid (by rw [HDl.out, List.length_append]; exact hown1)
        have HB1 : Hid (Below w.heap.size w w1) := Lib.hid ((HB.out.alloc HB.out.size _).grown hg1 (by have := HB.out.size; simp; omega) (fun j hj => (hown.out.lt j hj).1))
        clear hown1 hg1 hsz
        go_wp2
        go_roundw
        case rel => exact ⟨k + 1, by go_num, by omega, HO1, HB1⟩
        case measure => simp [RowKit.intOf]; omega
    · obtain rfl : k = n := by omega
      have hfull : L.take k = L := List.take_of_length_le (by rw [HN.out]; exact Nat.le_refl _)
      have hown2 := hown.out
      rw [hfull] at hown2
      obtain ⟨A1, c2, rfl, hrow⟩ := TmRow.own hown2
      obtain ⟨_, _, f0, f1⟩ := ref_cells ((hbe.out.block B2 HH.out.lt).trans HHh.out)
      have hfin := RwAt.setRow (c := c2) HH.out hQ hbe.out hrow (by rw [← HStop.out]; exact HOk.out)
      rw [← HStop.out] at hfin
      have HF := Lib.hid hfin
      clear hfull hown2 hrow hfin hlt
      go_wp2
      go_ret
      exact ⟨rfl, HF.out⟩
end Go.Proofs.Ytcekpkjibabjmaa
