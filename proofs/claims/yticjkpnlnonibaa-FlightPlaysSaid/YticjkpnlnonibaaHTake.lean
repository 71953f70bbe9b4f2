/-
  One packet taken out, all to a node taken out (layer 7).
-/
import Derived.Test.YticjkpnlnonibaaHDelF
namespace Go.Proofs.Yticjkpnlnonibaa
open Go.RowKit
set_option linter.unusedSimpArgs false
set_option linter.unusedVariables false

theorem FlAt.turn {w w' : World} {B : Nat} {v v' : Value} {s s' : Fl} (h : FlAt w B v s) (hb : But (Sof B v) w w') (hblk : w'.heap[B]? = some (.cells #[v', .int .i64 (s'.most : Int), .int .i64 (s'.sent : Int)] 58 (0, 0)))
    (hrow : itRow w' 0 v' s'.L) (hbody : ∀ x ∈ s'.L, x ∈ s.L ∨ (BodyAt w' x.p ∧ Typed w' x.p)) (hok : s'.ok) : FlAt w' B v' s' :=
  ⟨hblk, hrow, fun x hx => by
    rcases hbody x hx with h1 | h1
    · exact ⟨(h.body x h1).1.but hb (h.outs h1), (h.body x h1).2.but hb (h.outs h1)⟩
    · exact h1, hok⟩
theorem but_set4 (W : World) (X : Nat) (a b c d : Value) : But (· = X) W ((((W.setCell ⟨X, 0, none⟩ a).setCell ⟨X, 1, none⟩ b).setCell ⟨X, 2, none⟩ c).setCell ⟨X, 3, none⟩ d) :=
  (((But.set (S := (· = X)) W (p := ⟨X, 0, none⟩) rfl a).trans (But.set (S := (· = X)) _ (p := ⟨X, 1, none⟩) rfl b)).trans (But.set (S := (· = X)) _ (p := ⟨X, 2, none⟩) rfl c)).trans (But.set (S := (· = X)) _ (p := ⟨X, 3, none⟩) rfl d)
theorem Fl.out_mem {s : Fl} {pick : Int} {x : It} (h : x ∈ (s.out pick).L) : x ∈ s.L := List.mem_of_mem_eraseIdx h
theorem take_none (w : World) (B c : Nat) (A : Option Addr) (pick : Int) (hc : w.cell? ⟨B, 0, none⟩ = some (.slice A 0 c)) :
    Calls Try.prog 29 #[.pointer (some ⟨B, 0, none⟩), .int .i64 pick] w fun e w' => e = .returned (.tuple #[.agg #[.int .i64 0, .int .i64 0, .int .i64 0, .slice none 0 0], .bool false]) ∧ Below w.heap.size w w' := by
  have hB := bcell_lt hc
  simp only at hB
  have hal : Below w.heap.size w (w.alloc (.cells #[.int .i64 0, .int .i64 0, .int .i64 0, .slice none 0 0] 49)) := (Below.refl _ w).alloc (Nat.le_refl _) _
  have HP := Lib.hid (picked_none _ B c A pick ((hal.cell (p := ⟨B, 0, none⟩) hB).trans hc))
  have HAl := Lib.hid hal
  have hbx := heap_alloc_new w (.cells #[.int .i64 0, .int .i64 0, .int .i64 0, .slice none 0 0] 49)
  have hf0 := blk_froz hbx 0
  have hf1 := blk_froz hbx 1
  have hf2 := blk_froz hbx 2
  have hf3 := blk_froz hbx 3
  obtain ⟨d0, d1, d2, d3⟩ := blk4 hbx
  clear hal hbx hc
  go_enter Try.func29, Try.ntmps29
  go_wp2_with fail
  refine HP.out.mono ?_
  rintro e w' ⟨rfl, rfl⟩
  go_wp2
  refine bodyPost_ret (v := .tuple #[.agg #[.int .i64 0, .int .i64 0, .int .i64 0, .slice none 0 0], .bool false]) (by simp [results, Try.results29, go_sem, d0, d1, d2, d3]) rfl ?_
  exact ⟨rfl, HAl.out⟩
set_option maxHeartbeats 4000000 in
theorem take_any (w : World) (B : Nat) (v : Value) (s : Fl) (h : FlAt w B v s) (pick : Int) (hn : 0 < s.L.length) (hk : pickOf s.L.length pick < s.L.length) :
    Calls Try.prog 29 #[.pointer (some ⟨B, 0, none⟩), .int .i64 pick] w fun e w' => e = .returned (.tuple #[itV s.L[pickOf s.L.length pick], .bool true]) ∧ (∃ v', FlAt w' B v' (s.out pick) ∧ v'.ownBlock = v.ownBlock) ∧ But (Sof B v) w w' := by
  obtain ⟨g, c, hv, hnc, hm, _, hg⟩ := h.row.some_ hn
  have hlen := h.ok.len
  have hmost := h.ok.most
  obtain ⟨c0, c1, c2⟩ := h.cells
  have hrow := h.row
  rw [hv] at hrow c0
  obtain ⟨x, hx⟩ : ∃ x, s.L[pickOf s.L.length pick] = x := ⟨_, rfl⟩
  obtain ⟨r0, r1, r2, r3⟩ := hrow.at_ hk
  rw [hx] at r0 r1 r2 r3 ⊢
  have hBg : B ≠ g := fun e => h.rowB (by rw [hv, ← e]; rfl)
  have hB := h.lt
  have HH := Lib.hid h
  have HV := Lib.hid hv
  have HHK := Lib.hid hk
  obtain ⟨k, hkk⟩ : ∃ k, pickOf s.L.length pick = k := ⟨_, rfl⟩
  have HKK := Lib.hid hkk
  rw [hkk] at hk r0 r1 r2 r3
  obtain ⟨n, hnn⟩ : ∃ n, s.L.length = n := ⟨_, rfl⟩
  have HNN := Lib.hid hnn
  have hn2 : n ≤ 256 := by omega
  obtain ⟨W1, hW1⟩ : ∃ W1, w.alloc (.cells #[.int .i64 0, .int .i64 0, .int .i64 0, .slice none 0 0] 49) = W1 := ⟨_, rfl⟩
  have hal : Below w.heap.size w W1 := by rw [← hW1]; exact (Below.refl _ w).alloc (Nat.le_refl _) _
  have hs1 : W1.heap.size = w.heap.size + 1 := by rw [← hW1]; simp
  have hz1 : W1.heap[w.heap.size]? = some (.cells #[.int .i64 0, .int .i64 0, .int .i64 0, .slice none 0 0] 49 (0, 0)) := by rw [← hW1]; exact heap_alloc_new w _
  obtain ⟨W2, hW2⟩ : ∃ W2, W1.alloc (.cells #[.int .i64 (x.id : Int), .int .i64 x.p.fr, .int .i64 x.p.to, .slice x.p.A x.p.body.length x.p.c] 49) = W2 := ⟨_, rfl⟩
  have hal2 : Below W1.heap.size W1 W2 := by rw [← hW2]; exact (Below.refl _ W1).alloc (Nat.le_refl _) _
  have hs2 : W2.heap.size = w.heap.size + 2 := by rw [← hW2]; simp; omega
  have hz2 : W2.heap[w.heap.size]? = some (.cells #[.int .i64 0, .int .i64 0, .int .i64 0, .slice none 0 0] 49 (0, 0)) := (hal2.block _ (by omega)).trans hz1
  have hx2 : W2.heap[w.heap.size + 1]? = some (.cells #[.int .i64 (x.id : Int), .int .i64 x.p.fr, .int .i64 x.p.to, .slice x.p.A x.p.body.length x.p.c] 49 (0, 0)) := by rw [← hW2, ← hs1]; exact heap_alloc_new W1 _
  have hb2 : Below w.heap.size w W2 := hal.trans (hal2.mono hal.size)
  rw [hnn] at c0 hrow hn hnc
  have HP := Lib.hid (picked_any W1 B n c _ pick hn hn2 ((hal.cell (p := ⟨B, 0, none⟩) hB).trans c0))
  rw [← hnn, hkk] at HP
  have HD := Lib.hid (delete_any W2 g c k (k + 1) s.L (by rw [hnn]; exact hrow.below hb2) hk rfl (by omega))
  rw [hnn] at HD
  have C0 := (hal.cell (p := ⟨B, 0, none⟩) hB).trans c0
  have R0 := (hal.cell (p := ⟨g, k * 4, none⟩) hg).trans r0
  have R1 := (hal.cell (p := ⟨g, k * 4 + 1, none⟩) hg).trans r1
  have R2 := (hal.cell (p := ⟨g, k * 4 + 2, none⟩) hg).trans r2
  have R3 := (hal.cell (p := ⟨g, k * 4 + 3, none⟩) hg).trans r3
  have E0 := (hb2.cell (p := ⟨B, 0, none⟩) hB).trans c0
  have HB2 := Lib.hid hb2
  have HZ2 := Lib.hid hz2
  have HX2 := Lib.hid hx2
  have HHg := Lib.hid hrow
  have HW1 := Lib.hid hW1
  have HW2 := Lib.hid hW2
  have q1 : (k : Int) < (n : Int) := by omega
  have q2 : (n : Int) ≤ 256 := by omega
  clear hW1 hW2 hal hal2 hz1 hz2 hx2 hb2 hx h hv hkk hnn hrow r0 r1 r2 r3 c0 c1 c2
  go_enter Try.func29, Try.ntmps29
  go_wp2_with fail
  rw [HW1.out]
  refine HP.out.mono ?_
  rintro e w' ⟨rfl, hw'⟩
  rw [hw']
  clear hw' HP
  go_wp2_with fail
  rw [HW2.out]
  refine HD.out.mono ?_
  clear HD
  rintro e w3 ⟨rfl, hrow3, hb3⟩
  have hB3 : w3.heap[B]? = some (.cells #[v, .int .i64 (s.most : Int), .int .i64 (s.sent : Int)] 58 (0, 0)) :=
    (hb3.block B (Nat.lt_of_lt_of_le hB HB2.out.size) hBg).trans ((HB2.out.block B hB).trans HH.out.blk)
  have hgl : g < w.heap.size := hg
  have hz3 := (hb3.block w.heap.size (by omega) (fun e => by omega)).trans HZ2.out
  have hx3 := (hb3.block (w.heap.size + 1) (by omega) (fun e => by omega)).trans HX2.out
  have hs3 := hb3.size
  obtain ⟨b0, _, _⟩ := blk3 hB3
  have bf := blk_froz hB3 0
  obtain ⟨d0, d1, d2, d3⟩ := blk4 hz3
  have df0 := blk_froz hz3 0
  have df1 := blk_froz hz3 1
  have df2 := blk_froz hz3 2
  have df3 := blk_froz hz3 3
  obtain ⟨e0, e1, e2, e3⟩ := blk4 hx3
  have q5 : B ≠ w.heap.size := by omega
  have q6 : B ≠ w.heap.size + 1 := by omega
  have HROW3 := Lib.hid hrow3
  have HB3 := Lib.hid hb3
  have HBB3 := Lib.hid hB3
  clear hrow3 hb3 hB3 hz3 hx3
  go_wp2
  refine bodyPost_ret (v := .tuple #[itV x, .bool true]) (by simp [results, Try.results29, go_sem, d0, d1, d2, d3, itV]) rfl ?_
  have h := HH.out
  have hv := HV.out
  have hn := HNN.out
  have hB4 : But (Sof B v) w (w3.setCell ⟨B, 0, none⟩ (.slice (some ⟨g, 0, none⟩) (n - 1) c)) :=
    ((But.of_below (S := Sof B v) HB2.out).trans (HB3.out.mono (fun k e => by rw [e, hv]; exact .inr rfl))).trans (But.set (S := Sof B v) w3 (p := ⟨B, 0, none⟩) (.inl rfl) _)
  have hb5 := but_set4 (w3.setCell ⟨B, 0, none⟩ (.slice (some ⟨g, 0, none⟩) (n - 1) c)) w.heap.size (.int .i64 (x.id : Int)) (.int .i64 x.p.fr) (.int .i64 x.p.to) (.slice x.p.A x.p.body.length x.p.c)
  have hB5 := hB4.then_ hb5 (fun i e hi => by omega)
  refine ⟨rfl, ⟨.slice (some ⟨g, 0, none⟩) (n - 1) c, ?_, by rw [hv]; rfl⟩, hB5⟩
  refine h.turn hB5 ?_ ?_ (fun y hy => .inl (Fl.out_mem hy)) (h.ok.out pick)
  · rw [hb5.block B (by simp [World.setCell]; omega) q5]
    exact block_set HBB3.out 0 _
  · unfold Fl.out
    rw [HKK.out]
    refine itRow.but (S := fun k => k = w.heap.size) (itRow.but (S := fun k => k = B) HROW3.out (But.set w3 (S := fun k => k = B) (p := ⟨B, 0, none⟩) rfl _) ?_) hb5 ?_
    · intro b e e2
      cases e
      exact hBg e2.symm
    · intro b e e2
      cases e
      have : g = w.heap.size := e2
      omega
theorem keep_is (s : Fl) (to : Int) : (s.lose to).L = keepTo to s.L := rfl
set_option maxHeartbeats 4000000 in
theorem lose_any (w : World) (B : Nat) (v : Value) (s : Fl) (h : FlAt w B v s) (to : Int) :
    Calls Try.prog 31 #[.pointer (some ⟨B, 0, none⟩), .int .i64 to] w fun e w' => e = .returned (.int .i64 ((s.L.length : Int) - ((s.lose to).L.length : Int))) ∧ (∃ v', FlAt w' B v' (s.lose to) ∧ v'.ownBlock = v.ownBlock) ∧ But (Sof B v) w w' := by
  obtain ⟨A, c, hv, _⟩ := h.row.form
  have hlen := h.ok.len
  have hmost := h.ok.most
  obtain ⟨c0, c1, c2⟩ := h.cells
  have hrow := h.row
  rw [hv] at hrow c0
  have hB := h.lt
  obtain ⟨g, hA, hgX⟩ : ∃ g, (0 < s.L.length → A = some ⟨g, 0, none⟩) ∧ w.heap.size ≠ g := by
    rcases Nat.eq_zero_or_pos s.L.length with h0 | h0
    · exact ⟨w.heap.size + 1, fun h => by omega, by omega⟩
    · obtain ⟨g, c', e, _, _, _, hg⟩ := hrow.some_ h0
      simp only [Value.slice.injEq] at e
      exact ⟨g, fun _ => e.1, by omega⟩
  obtain ⟨n, hnn⟩ : ∃ n, s.L.length = n := ⟨_, rfl⟩
  have hAB : A ≠ some ⟨B, 0, none⟩ := fun e => h.rowB (by rw [hv, e]; rfl)
  obtain ⟨m, hmm⟩ : ∃ m, (keepTo to s.L).length = m := ⟨_, rfl⟩
  have hmn : m ≤ n := by rw [← hmm, ← hnn]; exact keepTo_le _ _
  obtain ⟨W1, hW1⟩ : ∃ W1, w.alloc (.cells #[.int .i64 to] 3) = W1 := ⟨_, rfl⟩
  have hal : Below w.heap.size w W1 := by rw [← hW1]; exact (Below.refl _ w).alloc (Nat.le_refl _) _
  have hX : W1.cell? ⟨w.heap.size, 0, none⟩ = some (.int .i64 to) := by rw [← hW1]; exact blk_cells (heap_alloc_new w _) 0 _ rfl
  have HH := Lib.hid h
  have HV := Lib.hid hv
  have HAB := Lib.hid hAB
  have HMM := Lib.hid hmm
  have HNN := Lib.hid hnn
  rw [hnn] at hrow hA c0
  have HD := Lib.hid (delf_any W1 A g n c w.heap.size to s.L hnn (by omega) (hrow.below hal) hA hX hgX)
  rw [hmm] at HD
  have C0 := (hal.cell (p := ⟨B, 0, none⟩) hB).trans c0
  rw [keep_is, hmm]
  have HAl := Lib.hid hal
  have HW1 := Lib.hid hW1
  have q1 : (m : Int) ≤ (n : Int) := by omega
  have q2 : (n : Int) ≤ 256 := by omega
  clear hW1 hal hX hAB hA h hv hnn hmm hrow c1 c2
  go_enter Try.func31, Try.ntmps31
  go_wp2_with fail
  rw [HW1.out]
  refine HD.out.mono ?_
  clear HD c0
  rintro e w3 ⟨⟨m', rfl, rfl, hrow3⟩, hb3⟩
  have hB3 : w3.heap[B]? = some (.cells #[v, .int .i64 (s.most : Int), .int .i64 (s.sent : Int)] 58 (0, 0)) :=
    (hb3.block B (Nat.lt_of_lt_of_le hB HAl.out.size) HAB.out).trans ((HAl.out.block B hB).trans HH.out.blk)
  obtain ⟨b0, _, _⟩ := blk3 hB3
  have bf := blk_froz hB3 0
  have HROW3 := Lib.hid hrow3
  have HB3 := Lib.hid hb3
  have HBB3 := Lib.hid hB3
  clear hrow3 hb3 hB3
  go_wp2
  go_ret
  have h := HH.out
  have hv := HV.out
  have hB4 : But (Sof B v) w (w3.setCell ⟨B, 0, none⟩ (.slice A m' c)) :=
    ((But.of_below (S := Sof B v) HAl.out).trans (HB3.out.mono (fun k e => by rw [hv, e]; exact .inr rfl))).trans (But.set (S := Sof B v) w3 (p := ⟨B, 0, none⟩) (.inl rfl) _)
  refine ⟨by rw [HNN.out]; rfl, ⟨.slice A m' c, ?_, by rw [hv]; cases A <;> rfl⟩, hB4⟩
  refine h.turn hB4 (block_set HBB3.out 0 _) ?_ (fun y hy => .inl (List.mem_filter.1 hy).1) (h.ok.lose to)
  refine itRow.but (S := fun k => k = B) HROW3.out (But.set w3 (S := fun k => k = B) (p := ⟨B, 0, none⟩) rfl _) ?_
  intro b e e2
  refine h.rowB ?_
  rw [hv, ← e2]
  cases A <;> exact e
end Go.Proofs.Yticjkpnlnonibaa
