import Derived.Test.YtilkbfmaofmjoaaGreatDoorZj11
namespace Go.Proofs.YtilkbfmaofmjoaaGreatDoor
open Go.RowKit Go.Shelf
set_option linter.unusedSimpArgs false
set_option linter.unusedVariables false
theorem run_closure_any {p_ : Prop} (h_ : p_ := by
  have hm : t.l.length ≤ 9223372036854775807 := by have := h.le; have := h.max; unfold maxLen at this; omega
  have c2 := h.c2
  have cx := cellsN hx 0 _ rfl
  have cy := cellsN hy 0 _ rfl
  rw [geK_at hi]
  obtain ⟨b, off, rfl, hbl, hit⟩ := h.row.at_ hi hi
  obtain ⟨r, hr⟩ : ∃ r, t.l[i] = r := ⟨_, rfl⟩
  rw [hr] at hit ⊢
  have e0 := (tr_cells hit).1
  have hg := run_geq_str r.key key _ rfl
  obtain ⟨L, hL⟩ : ∃ L, t.l.length = L := ⟨_, rfl⟩
  rw [hL] at c2 hi hm
  have n0 : (0 : Int) ≤ (i : Int) := by omega
  have n1 : (i : Int) < (L : Int) := by omega
  clear h hx hy hit hr hL
  go_enter f_find1, n_find1
  go_wp2
  go_quiet (fail)
  go_wp2
  go_ret
  exact ⟨rfl, below_drewN (Below.refl _ _) _⟩) : p_ := h_
set_option maxHeartbeats 1000000 in
theorem run_find_any {p_ : Prop} (h_ : p_ := by
  obtain ⟨hok, A, c, h⟩ := h
  have h64 : t.l.length ≤ 64 := Nat.le_trans hok.len hok.most.2
  obtain ⟨X, hX⟩ : ∃ X, w.heap.size = X := ⟨_, rfl⟩
  have b1 := below1 w #[.pointer (some ⟨B, 0, none⟩)] tPT
  have k1 := heap_alloc_new w (.cells #[.pointer (some ⟨B, 0, none⟩)] tPT)
  obtain ⟨W1, hW1⟩ : ∃ W1, w.alloc (.cells #[.pointer (some ⟨B, 0, none⟩)] tPT) = W1 := ⟨_, rfl⟩
  have s1 : W1.heap.size = X + 1 := by rw [← hW1, ← hX]; simp
  rw [hW1] at b1 k1
  have b2 := below1 W1 #[.string key] 9
  have k2 := heap_alloc_new W1 (.cells #[.string key] 9)
  obtain ⟨W2, hW2⟩ : ∃ W2, W1.alloc (.cells #[.string key] 9) = W2 := ⟨_, rfl⟩
  rw [hW2] at b2 k2
  rw [hX] at k1
  rw [s1] at k2
  have k1' := (b2.block X (by omega)).trans k1
  have h2 := (h.below b1).below b2
  have hb2 : Below w.heap.size w W2 := b1.trans (b2.mono b1.size)
  have hs := hok.rise
  have HQ : Hid (∀ m : Nat, m ≤ t.l.length → (∀ i, i < m → geK t.l key i = false) → (∀ i, m ≤ i → i < t.l.length → geK t.l key i = true) → plc t.l key = m) := Lib.hid fun m a b c => geK_plc hs a b c
  have HS := Lib.hid (search_any g_find1 t.l.length (enters_of f_find1 (by kernel_rfl) rfl) (by omega) #[.pointer (some ⟨X, 0, none⟩), .pointer (some ⟨X + 1, 0, none⟩)] (geK t.l key) W2 (fun i W hi hw => closure_any key X (X + 1) i (h2.below hw) ((hw.block X (block_lt k1')).trans k1') ((hw.block (X + 1) (block_lt k2)).trans k2) hi) (geK_mono hs key))
  have HT := Lib.hid h2
  have HB2 := Lib.hid hb2
  have HK1 := Lib.hid k1'
  have HK2 := Lib.hid k2
  have HX := Lib.hid hX
  have HW1 := Lib.hid hW1
  have HW2 := Lib.hid hW2
  have HR := Lib.hid hs
  have c2 := h.c2
  have hBl := h.lt
  clear hok h b1 k1 hW1 b2 k2 hW2 k1' h2 hb2 hs hX s1
  obtain ⟨L, hL⟩ : ∃ L, t.l.length = L := ⟨_, rfl⟩
  rw [hL] at c2 h64 HS HQ
  have HL := Lib.hid hL
  clear hL
  obtain ⟨pl, hpl⟩ : ∃ pl, plc t.l key = pl := ⟨_, rfl⟩
  obtain ⟨hv, hhv⟩ : ∃ hv, hasB t.l key = hv := ⟨_, rfl⟩
  rw [hpl, hhv]
  have HPl := Lib.hid hpl
  have HHv := Lib.hid hhv
  clear hpl hhv
  go_enter f_find, n_find
  go_wp2_with fail
  rw [HW1.out, HX.out, HW2.out]
  go_wp2_with fail
  refine HS.out.mono ?_
  rintro e w3 ⟨m, rfl, hm, hI, hb3⟩
  have hq := HQ.out m hm hI.1 hI.2
  have ht := HT.out.below hb3
  have d1 := cellsN ((hb3.block X (block_lt HK1.out)).trans HK1.out) 0 _ rfl
  have d2 := cellsN ((hb3.block (X + 1) (block_lt HK2.out)).trans HK2.out) 0 _ rfl
  have d3 : w3.cell? ⟨B, 2, none⟩ = some (.slice A L c) := by have := ht.c2; rw [HL.out] at this; exact this
  have HB3 : Hid (Below w.heap.size w w3) := Lib.hid (HB2.out.trans (hb3.mono HB2.out.size))
  obtain rfl : m = pl := hq.symm.trans HPl.out
  by_cases hlt : m < L
  · have hml : m < t.l.length := by rw [HL.out]; exact hlt
    have hp : hasB t.l key = ((t.l[m]'hml).key.toList == key.toList) := by
      have := hasB_at HR.out (k := key) (by rw [hq]; exact hml)
      simp only [hq] at this
      exact this
    obtain ⟨b, off, rfl, hbl, hit⟩ := ht.row.at_ hml hml
    obtain ⟨r, hr⟩ : ∃ r, t.l[m] = r := ⟨_, rfl⟩
    rw [hr] at hit hp
    have e0 := (tr_cells hit).1
    obtain rfl : hv = (r.key.toList == key.toList) := HHv.out.symm.trans hp
    have g0 : decide ((m : Int) < (L : Int)) = true := decide_eq_true (by omega)
    have g1 : decide (m < L) = true := decide_eq_true hlt
    have n0 : (0 : Int) ≤ (m : Int) := by omega
    have n1 : (m : Int) < (L : Int) := by omega
    clear hp HHv hit hr hq ht hb3 hI c2 hBl HS hml
    go_wp2
    go_quiet (fail)
    go_wp2
    go_ret2
    exact ⟨rfl, below_drewN HB3.out _⟩
  · have hp : hasB t.l key = false := hasB_end HR.out (by rw [hq, HL.out]; exact hlt)
    obtain rfl : hv = false := HHv.out.symm.trans hp
    have g0 : decide ((m : Int) < (L : Int)) = false := decide_eq_false (by omega)
    have g1 : decide (m < L) = false := decide_eq_false hlt
    clear hp HHv hq ht hb3 hI c2 hBl HS
    go_wp2
    go_quiet (fail)
    go_wp2
    go_ret2
    exact ⟨rfl, below_drewN HB3.out _⟩) : p_ := h_
end Go.Proofs.YtilkbfmaofmjoaaGreatDoor
