/-
  Tick of the document's wheel, walked (layer 6).
-/
import Derived.Test.YtcekpkjibabjmaaVLook
namespace Go.Proofs.Ytcekpkjibabjmaa
open Go.RowKit
set_option linter.unusedSimpArgs false
set_option linter.unusedVariables false

theorem dueL_snoc (N : Nat) (L : Tm) (x : Int × Nat) : dueL N (L ++ [x]) = if x.2 = N then dueL N L ++ [x.1] else dueL N L := by
  unfold dueL
  rw [List.filter_append]
  by_cases h : x.2 = N
  · rw [if_pos h, List.filter_cons_of_pos (by simp [h])]; simp
  · rw [if_neg h, List.filter_cons_of_neg (by simp [h])]; simp
theorem restL_snoc (N : Nat) (L : Tm) (x : Int × Nat) : restL N (L ++ [x]) = if x.2 = N then restL N L else restL N L ++ [x] := by
  unfold restL
  rw [List.filter_append]
  by_cases h : x.2 = N
  · rw [if_pos h, List.filter_cons_of_neg (by simp [h])]; simp
  · rw [if_neg h, List.filter_cons_of_pos (by simp [h])]; simp
theorem rows_ne {w : World} {base base' : Nat} {e e' : TypeId} {sz sz' n n' : Nat} {v v' : Value} {xs xs' : List Value} (h : w.ownsRow base e sz v n xs) (h' : w.ownsRow base' e' sz' v' n' xs') (hne : e ≠ e') (b : Nat) (hb : v.ownBlock = some b) (hb' : v'.ownBlock = some b) : False := by
  rcases h.2 with ⟨rfl, _⟩ | ⟨g, cap, cur, rfl, _, hh, _⟩
  · cases hb
  · cases hb
    rcases h'.2 with ⟨rfl, _⟩ | ⟨g', cap', cur', rfl, _, hh', _⟩
    · cases hb'
    · cases hb'
      rw [hh] at hh'
      simp only [Option.some.injEq, Obj.cells.injEq] at hh'
      exact hne hh'.2.1
/-- What the document's tick leaves. -/
def RTicked (Q : Nat → Prop) (w : World) (B2 : Nat) (s : St) (e : Ending) (w' : World) : Prop :=
  ∃ v, e = .returned v ∧ w'.ownsRow w.heap.size 3 1 v s.due.length (s.due.map encZ) ∧ RwAt Q w' B2 s.tick ∧ But (· = B2) w w'
set_option maxHeartbeats 8000000 in
set_option maxRecDepth 100000 in
theorem rtick_any (Q : Nat → Prop) (w : World) (B2 : Nat) (s : St) (h : RwAt Q w B2 s) (hQ : ∀ k, w.heap.size ≤ k → Q k) (hN : s.now < 1099511627776) :
    Calls Try.prog 15 #[.pointer (some ⟨B2, 0, none⟩)] w (RTicked Q w B2 s) := by
  obtain ⟨i0, hi, hz0, hz1, hz2⟩ := info_parts int_info
  have HQ0 := Lib.hid h.1
  obtain ⟨_, hok, A, n, c, hh, hr⟩ := h
  have hn : s.L.length = n := hr.1
  have hn64 := hok.most
  obtain ⟨L, hL⟩ : ∃ L, s.L = L := ⟨_, rfl⟩
  obtain ⟨N, hNN⟩ : ∃ N, s.now + 1 = N := ⟨_, rfl⟩
  have HTk : Hid (s.tick = ⟨N, restL N L⟩ ∧ s.due = dueL N L ∧ (St.mk N (restL N L)).ok) := Lib.hid (by
    have h1 : s.tick = ⟨N, restL N L⟩ := by unfold St.tick; rw [hNN, hL]
    exact ⟨h1, by unfold St.due; rw [hNN, hL], h1 ▸ hok.tick⟩)
  rw [hL] at hr hn hn64
  obtain ⟨c0, _, f0, _⟩ := ref_cells hh
  obtain ⟨w1, hW1⟩ : ∃ w1, w.setCell ⟨B2, 0, none⟩ (.int .i64 ((s.now : Int) + 1)) = w1 := ⟨_, rfl⟩
  have hlt2 := block_lt hh
  have hb1 : But (· = B2) w w1 := by rw [← hW1]; exact But.set (S := (· = B2)) _ (p := ⟨B2, 0, none⟩) rfl _
  have hs1 : w1.heap.size = w.heap.size := by rw [← hW1]; simp [World.setCell]
  have hh1 : w1.heap[B2]? = some (.cells #[.int .i64 (N : Int), .slice A n c] 28 (0, 0)) := by
    rw [← hW1, block_set hh 0 _, show (N : Int) = (s.now : Int) + 1 by omega]
    rfl
  have hr1 := hr.but hb1 (fun b e _ hq => hq.2 e)
  have HR := Lib.hid hr1
  have HN := Lib.hid hn
  have HH1 := Lib.hid hh1
  have HW1 := Lib.hid hW1
  have HB1 := Lib.hid hb1
  have HS1 := Lib.hid hs1
  have HN64 := Lib.hid hn64
  have q1 : (n : Int) ≤ 64 := by omega
  have q4 : (s.now : Int) < 1099511627776 := by omega
  have q5 : (0 : Int) ≤ (s.now : Int) := by omega
  clear hr hr1 hn hh hh1 hok hL hW1 hb1 hs1 hn64
  go_enter Try.func15, Try.ntmps15
  go_wp2
  rw [HW1.out]
  go_loopw [3, 4, 5] (fun dv lv kv wr => ∃ k : Nat, kv = .int .i64 (k : Int) ∧ k ≤ n ∧ Hid (wr.ownsRow w1.heap.size 3 1 dv (dueL N (L.take k)).length ((dueL N (L.take k)).map encZ)) ∧ Hid (wr.ownsRow w1.heap.size 56 2 lv (restL N (L.take k)).length (flat (restL N (L.take k)))) ∧ Hid (Below w1.heap.size w1 wr)) (fun _ _ kv _ => n - (RowKit.intOf kv).toNat)
  case atStart => exact ⟨0, rfl, Nat.zero_le _, Lib.hid (World.ownsRow_nil _ _ _ _), Lib.hid (World.ownsRow_nil _ _ _ _), Lib.hid (Below.refl _ _)⟩
  case round =>
    obtain ⟨k, rfl, hk, hdo, hlo, hbe⟩ := hrel
    have hlt1 : B2 < w1.heap.size := by rw [HS1.out]; exact hlt2
    obtain ⟨c0r, c1r, _, f1r⟩ := ref_cells ((hbe.out.block B2 hlt1).trans HH1.out)
    by_cases hlt : k < n
    · have hkl : k < L.length := by rw [HN.out]; exact hlt
      have hrr := HR.out.but (But.of_below (S := fun _ => False) hbe.out) (fun _ h => h.elim)
      obtain ⟨b, off, rfl, _, _, hat⟩ := hrr.2 (by omega)
      obtain ⟨cr, cr2⟩ := hat k hkl
      have htk := List.take_succ_eq_append_getElem hkl
      obtain ⟨x, hx⟩ : ∃ x, L[k] = x := ⟨_, rfl⟩
      rw [hx] at cr cr2 htk
      have hd := dueL_snoc N (L.take k) x
      have hl := restL_snoc N (L.take k) x
      rw [← htk] at hd hl
      have q2 : (k : Int) < (n : Int) := by omega
      have q3 : (0 : Int) ≤ (k : Int) := by omega
      have hdl : (dueL N (L.take k)).length ≤ 4096 := by
        unfold dueL
        rw [List.length_map]
        have h1 := List.length_filter_le (fun x : Int × Nat => x.2 == N) (L.take k)
        have h2 := List.length_take_le k L
        have h3 := HN64.out
        omega
      have hll : (restL N (L.take k)).length ≤ 4096 := by
        unfold restL
        have h1 := List.length_filter_le (fun x : Int × Nat => !(x.2 == N)) (L.take k)
        have h2 := List.length_take_le k L
        have h3 := HN64.out
        omega
      have HB := hbe
      have hsz := hbe.out.size
      by_cases hyy : x.2 = N
      · rw [if_pos hyy] at hd hl
        have HD := Lib.hid hd
        have HL := Lib.hid hl
        have z1 : ((x.2 : Int) == (N : Int)) = true := by rw [beq_iff_eq]; omega
        clear hat hx htk hd hl hyy hrr
        go_wp2
        go_quiet (fail)
        have hb2 : Below w1.heap.size w1 (wr.drewN nq) := below_drewN HB.out nq
        have hdo2 : (wr.drewN nq).ownsRow w1.heap.size 3 1 _ (dueL N (L.take k)).length ((dueL N (L.take k)).map encZ) := hdo.out
        have hsz2 : w1.heap.size ≤ (wr.drewN nq).heap.size := hsz
        go_wp2_with (at_builtin; refine wpList_append_val rfl (.tmp 36) (.tmp 45) 35 rfl w1.heap.size 3 i0 (.int .i64 0) 8 Try.underlying35 hi hz0 hz1 hz2 rfl _ _ _ rfl hdo2 (.int .i64 x.1) 3 rfl rfl ?c1 ?c2 ?c3 ?_)
        case c1 => unfold maxLen; omega
        case c2 => omega
        case c3 => exact hsz2
        refine Lib.hid ?_
        intro v3 w3 hown3 hg3
        have hlo2 : ((wr.drewN nq).alloc (.cells #[.int .i64 x.1] 3)).ownsRow w1.heap.size 56 2 _ (restL N (L.take k)).length (flat (restL N (L.take k))) := World.ownsRow.alloc hlo.out _
        have hdo3 : ((wr.drewN nq).alloc (.cells #[.int .i64 x.1] 3)).ownsRow w1.heap.size 3 1 _ (dueL N (L.take k)).length ((dueL N (L.take k)).map encZ) := World.ownsRow.alloc hdo2 _
        have hlo3 := own_but hlo2 (But.of_grown (S := fun b => _ = some b) hg3 (fun r e _ => e)) (fun b e e2 => rows_ne hlo2 hdo3 (by decide) b e e2)
        have HD3 : Hid (w3.ownsRow w1.heap.size 3 1 v3 (dueL N (L.take (k + 1))).length ((dueL N (L.take (k + 1))).map encZ)) := Lib.hid (by rw [HD.out, List.length_append, List.map_append]; exact hown3)
        have HL3 : Hid (w3.ownsRow w1.heap.size 56 2 _ (restL N (L.take (k + 1))).length (flat (restL N (L.take (k + 1))))) := Lib.hid (by rw [HL.out]; exact hlo3)
        have HB3 : Hid (Below w1.heap.size w1 w3) := Lib.hid ((hb2.alloc hb2.size _).grown hg3 (by simp; omega) (fun j hj => (hdo2.lt j hj).1))
        clear hown3 hg3 hsz hb2 hdo2 hsz2 hlo2 hdo3 hlo3
        go_wp2
        go_roundw
        case rel => exact ⟨k + 1, by go_num, by omega, HD3, HL3, HB3⟩
        case measure => simp [RowKit.intOf]; omega
      · rw [if_neg hyy] at hd hl
        have HD := Lib.hid hd
        have HL := Lib.hid hl
        have z1 : ((x.2 : Int) == (N : Int)) = false := by rw [beq_eq_false_iff_ne]; omega
        clear hat hx htk hd hl hyy hrr
        go_wp2
        go_quiet (fail)
        have hb2 : Below w1.heap.size w1 (wr.drewN nq) := below_drewN HB.out nq
        have hlo2 : (wr.drewN nq).ownsRow w1.heap.size 56 2 _ (restL N (L.take k)).length (flat (restL N (L.take k))) := hlo.out
        have hsz2 : w1.heap.size ≤ (wr.drewN nq).heap.size := hsz
        go_wp2_with (at_builtin; refine wpList_append_tm rfl (.tmp 47) (.tmp 55) rfl w1.heap.size _ (restL N (L.take k)) rfl hlo2 x rfl hll hsz2 ?_)
        refine Lib.hid ?_
        intro v3 w3 hown3 hg3
        have hdo2 : ((wr.drewN nq).alloc (.cells #[.int .i64 x.1, .int .i64 (x.2 : Int)] 56)).ownsRow w1.heap.size 3 1 _ (dueL N (L.take k)).length ((dueL N (L.take k)).map encZ) := World.ownsRow.alloc hdo.out _
        have hlo3 : ((wr.drewN nq).alloc (.cells #[.int .i64 x.1, .int .i64 (x.2 : Int)] 56)).ownsRow w1.heap.size 56 2 _ (restL N (L.take k)).length (flat (restL N (L.take k))) := World.ownsRow.alloc hlo2 _
        have hdo3 := own_but hdo2 (But.of_grown (S := fun b => _ = some b) hg3 (fun r e _ => e)) (fun b e e2 => rows_ne hdo2 hlo3 (by decide) b e e2)
        have HD3 : Hid (w3.ownsRow w1.heap.size 3 1 _ (dueL N (L.take (k + 1))).length ((dueL N (L.take (k + 1))).map encZ)) := Lib.hid (by rw [HD.out]; exact hdo3)
        have HL3 : Hid (w3.ownsRow w1.heap.size 56 2 v3 (restL N (L.take (k + 1))).length (flat (restL N (L.take (k + 1))))) := Lib.hid (by rw [HL.out, List.length_append]; exact hown3)
        have HB3 : Hid (Below w1.heap.size w1 w3) := Lib.hid ((hb2.alloc hb2.size _).grown hg3 (by simp; omega) (fun j hj => (hlo2.lt j hj).1))
        clear hown3 hg3 hsz hb2 hdo2 hsz2 hlo2 hdo3 hlo3
        go_wp2
        go_roundw
        case rel => exact ⟨k + 1, by go_num, by omega, HD3, HL3, HB3⟩
        case measure => simp [RowKit.intOf]; omega
    · obtain rfl : k = n := by omega
      have hfull : L.take k = L := List.take_of_length_le (by rw [HN.out]; exact Nat.le_refl _)
      have hdo2 := hdo.out
      have hlo2 := hlo.out
      rw [hfull] at hdo2 hlo2
      obtain ⟨A1, c2, rfl, hrow⟩ := TmRow.own hlo2
      obtain ⟨ht1, ht2, ht3⟩ := HTk.out
      have hfin : ∀ v, wr.ownsRow w1.heap.size 3 1 v (dueL N L).length ((dueL N L).map encZ) → RTicked Q w B2 s (.returned v) (wr.setCell ⟨B2, 1, none⟩ (.slice A1 (restL N L).length c2)) := fun v hv => by
        have hs : But (· = B2) wr (wr.setCell ⟨B2, 1, none⟩ (.slice A1 (restL N L).length c2)) := But.set (S := (· = B2)) _ (p := ⟨B2, 1, none⟩) rfl _
        have hv2 := own_but hv hs (fun b e e2 => by have := (hv.lt b e).1; omega)
        have hh3 := block_set ((hbe.out.block B2 hlt1).trans HH1.out) 1 (.slice A1 (restL N L).length c2)
        refine ⟨v, rfl, by rw [ht2, ← HS1.out]; exact hv2, ?_, (HB1.out.trans (But.of_below hbe.out)).trans hs⟩
        rw [ht1]
        refine ⟨HQ0.out, ht3, A1, _, c2, by rw [hh3]; rfl, ?_⟩
        have h1 := hrow.but hs (fun b e _ hq => by subst e; omega)
        exact h1.mono (fun b _ hq => ⟨hQ b (by have := HS1.out; omega), fun e => by subst e; omega⟩)
      have HF := Lib.hid (hfin _ hdo2)
      clear hfull hdo2 hlo2 hrow hfin hlt ht1 ht2 ht3
      go_wp2
      go_ret
      exact HF.out
end Go.Proofs.Ytcekpkjibabjmaa
