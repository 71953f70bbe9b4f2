/-
  Where a key's row stands: find, by sort.Search and a closure, walked.
-/
import Derived.Test.YtmegfkclpjddgaaZj21
import Derived.Lib.AppendZerosOnto
import Derived.Lib.Walk
namespace Go.Proofs.Ytmegfkclpjddgaa.It
open Go.RowKit Go.Shelf
set_option linter.unusedSimpArgs false
set_option linter.unusedVariables false

/-- '>=' of two texts. -/
theorem run_geq_str (x y : ByteArray) (b : Bool) (h : ltT x y = b) (w : World) : (binOp .geq 9 (.string x) (.string y)).run Try.prog w = .ok (.bool !b) w := by
  unfold ltT at h
  simp [binOp, Op.binOp, Try.underlying9, Op.stringOp, h]
theorem closure_any {S : Nat → Prop} {w : World} {B : Nat} {A : Option Addr} {c : Nat} {t : Tb Rl} (key : ByteArray) (X Y : Nat) (i : Nat) (h : TIs S w B A c t) (hx : w.heap[X]? = some (.cells #[.pointer (some ⟨B, 0, none⟩)] 57 (0, 0))) (hy : w.heap[Y]? = some (.cells #[.string key] 9 (0, 0))) (hi : i < t.l.length) :
    Calls Try.prog 92 #[.int .i64 (i : Int), .pointer (some ⟨X, 0, none⟩), .pointer (some ⟨Y, 0, none⟩)] w fun e w' => e = .returned (.bool (geK t.l key i)) ∧ Below w.heap.size w w' := by
  have hm : t.l.length ≤ 9223372036854775807 := by have := h.le; have := h.max; unfold maxLen at this; omega
  have c2 := h.c2
  have cx := cellsN hx 0 _ rfl
  have cy := cellsN hy 0 _ rfl
  rw [geK_at hi]
  obtain ⟨b, off, rfl, hbl, hit⟩ := h.row.at_ hi hi
  obtain ⟨r, hr⟩ : ∃ r, t.l[i] = r := ⟨_, rfl⟩
  rw [hr] at hit ⊢
  have e0 := (tr_cells hit).1
  have hg := run_geq_str r.key key _ rfl
  obtain ⟨L, hL⟩ : ∃ L, t.l.length = L := ⟨_, rfl⟩
  rw [hL] at c2 hi hm
  have n0 : (0 : Int) ≤ (i : Int) := by omega
  have n1 : (i : Int) < (L : Int) := by omega
  clear h hx hy hit hr hL
  go_enter Try.func92, Try.ntmps92
  go_wp2
  go_quiet (fail)
  go_wp2
  go_ret
  exact ⟨rfl, below_drewN (Below.refl _ _) _⟩
set_option maxHeartbeats 1000000 in
theorem find_any {S : Nat → Prop} {w : World} {B : Nat} {t : Tb Rl} (key : ByteArray) (h : TAt S w B t) :
    Calls Try.prog 74 #[.pointer (some ⟨B, 0, none⟩), .string key] w fun e w' => e = .returned (.tuple #[.int .i64 (plc t.l key : Int), .bool (hasB t.l key)]) ∧ Below w.heap.size w w' := by
  obtain ⟨hok, A, c, h⟩ := h
  have h64 : t.l.length ≤ 64 := Nat.le_trans hok.len hok.most.2
  obtain ⟨X, hX⟩ : ∃ X, w.heap.size = X := ⟨_, rfl⟩
  have b1 := below1 w #[.pointer (some ⟨B, 0, none⟩)] 57
  have k1 := heap_alloc_new w (.cells #[.pointer (some ⟨B, 0, none⟩)] 57)
  obtain ⟨W1, hW1⟩ : ∃ W1, w.alloc (.cells #[.pointer (some ⟨B, 0, none⟩)] 57) = W1 := ⟨_, rfl⟩
  have s1 : W1.heap.size = X + 1 := by rw [← hW1, ← hX]; simp
  rw [hW1] at b1 k1
  have b2 := below1 W1 #[.string key] 9
  have k2 := heap_alloc_new W1 (.cells #[.string key] 9)
  obtain ⟨W2, hW2⟩ : ∃ W2, W1.alloc (.cells #[.string key] 9) = W2 := ⟨_, rfl⟩
  rw [hW2] at b2 k2
  rw [hX] at k1
  rw [s1] at k2
  have k1' := (b2.block X (by omega)).trans k1
  have h2 := (h.below b1).below b2
  have hb2 : Below w.heap.size w W2 := b1.trans (b2.mono b1.size)
  have hs := hok.rise
  have HQ : Hid (∀ m : Nat, m ≤ t.l.length → (∀ i, i < m → geK t.l key i = false) → (∀ i, m ≤ i → i < t.l.length → geK t.l key i = true) → plc t.l key = m) := Lib.hid fun m a b c => geK_plc hs a b c
  have HS := Lib.hid (search_any 92 t.l.length (enters_of Try.func92 (by kernel_rfl) rfl) (by omega) #[.pointer (some ⟨X, 0, none⟩), .pointer (some ⟨X + 1, 0, none⟩)] (geK t.l key) W2 (fun i W hi hw => closure_any key X (X + 1) i (h2.below hw) ((hw.block X (block_lt k1')).trans k1') ((hw.block (X + 1) (block_lt k2)).trans k2) hi) (geK_mono hs key))
  have HT := Lib.hid h2
  have HB2 := Lib.hid hb2
  have HK1 := Lib.hid k1'
  have HK2 := Lib.hid k2
  have HX := Lib.hid hX
  have HW1 := Lib.hid hW1
  have HW2 := Lib.hid hW2
  have HR := Lib.hid hs
  have c2 := h.c2
  have hBl := h.lt
  clear hok h b1 k1 hW1 b2 k2 hW2 k1' h2 hb2 hs hX s1
  obtain ⟨L, hL⟩ : ∃ L, t.l.length = L := ⟨_, rfl⟩
  rw [hL] at c2 h64 HS HQ
  have HL := Lib.hid hL
  clear hL
  obtain ⟨pl, hpl⟩ : ∃ pl, plc t.l key = pl := ⟨_, rfl⟩
  obtain ⟨hv, hhv⟩ : ∃ hv, hasB t.l key = hv := ⟨_, rfl⟩
  rw [hpl, hhv]
  have HPl := Lib.hid hpl
  have HHv := Lib.hid hhv
  clear hpl hhv
  go_enter Try.func74, Try.ntmps74
  go_wp2_with fail
  rw [HW1.out, HX.out, HW2.out]
  go_wp2_with fail
  refine HS.out.mono ?_
  rintro e w3 ⟨m, rfl, hm, hI, hb3⟩
  have hq := HQ.out m hm hI.1 hI.2
  have ht := HT.out.below hb3
  have d1 := cellsN ((hb3.block X (block_lt HK1.out)).trans HK1.out) 0 _ rfl
  have d2 := cellsN ((hb3.block (X + 1) (block_lt HK2.out)).trans HK2.out) 0 _ rfl
  have d3 : w3.cell? ⟨B, 2, none⟩ = some (.slice A L c) := by have := ht.c2; rw [HL.out] at this; exact this
  have HB3 : Hid (Below w.heap.size w w3) := Lib.hid (HB2.out.trans (hb3.mono HB2.out.size))
  obtain rfl : m = pl := hq.symm.trans HPl.out
  by_cases hlt : m < L
  · have hml : m < t.l.length := by rw [HL.out]; exact hlt
    have hp : hasB t.l key = ((t.l[m]'hml).key.toList == key.toList) := by
      have := hasB_at HR.out (k := key) (by rw [hq]; exact hml)
      simp only [hq] at this
      exact this
    obtain ⟨b, off, rfl, hbl, hit⟩ := ht.row.at_ hml hml
    obtain ⟨r, hr⟩ : ∃ r, t.l[m] = r := ⟨_, rfl⟩
    rw [hr] at hit hp
    have e0 := (tr_cells hit).1
    obtain rfl : hv = (r.key.toList == key.toList) := HHv.out.symm.trans hp
    have g0 : decide ((m : Int) < (L : Int)) = true := decide_eq_true (by omega)
    have g1 : decide (m < L) = true := decide_eq_true hlt
    have n0 : (0 : Int) ≤ (m : Int) := by omega
    have n1 : (m : Int) < (L : Int) := by omega
    clear hp HHv hit hr hq ht hb3 hI c2 hBl HS hml
    go_wp2
    go_quiet (fail)
    go_wp2
    go_ret2
    exact ⟨rfl, below_drewN HB3.out _⟩
  · have hp : hasB t.l key = false := hasB_end HR.out (by rw [hq, HL.out]; exact hlt)
    obtain rfl : hv = false := HHv.out.symm.trans hp
    have g0 : decide ((m : Int) < (L : Int)) = false := decide_eq_false (by omega)
    have g1 : decide (m < L) = false := decide_eq_false hlt
    clear hp HHv hq ht hb3 hI c2 hBl HS
    go_wp2
    go_quiet (fail)
    go_wp2
    go_ret2
    exact ⟨rfl, below_drewN HB3.out _⟩
end Go.Proofs.Ytmegfkclpjddgaa.It
/-
  slices.Grow of no row and slices.Concat at rows, walked.
-/
namespace Go.Proofs.Ytmegfkclpjddgaa.It
open Go.RowKit
set_option linter.unusedSimpArgs false
set_option linter.unusedVariables false

set_option maxHeartbeats 1000000 in
theorem grow_any (n : Nat) (hn : n ≤ 1000) (w : World) :
    Calls Try.prog 93 #[.slice none 0 0, .int .i64 (n : Int)] w fun e w' => ∃ v, e = .returned v ∧ twRow w' w.heap.size v [] ∧ Below w.heap.size w w' := by
  obtain ⟨i0, hi, hz0, hz1, hz2⟩ := info_parts tw_info
  have h1 : ¬ ((n : Int) < 0) := by omega
  by_cases hn0 : n = 0
  · subst hn0
    go_enter Try.func93, Try.ntmps93
    go_wp2
    go_ret
    exact ⟨_, rfl, rowK.nil _ _, Below.refl _ _⟩
  · have hrz : ∀ ty, (Builtin.append_ #[75, 3] ty #[.slice none 0 0, .int .i64 (n : Int)]).run Try.prog w =
      .ok (.slice (some ⟨w.heap.size, 0, none⟩) n (grownCap w n 0 78)) (w.drew.alloc (.cells (Builtin.zeroCells (Value.agg #[.string ⟨#[]⟩, .string ⟨#[]⟩, .string ⟨#[]⟩, .bool false, .int .u64 0, .int .u64 0]).cells n ++ Builtin.zeroCells (Value.agg #[.string ⟨#[]⟩, .string ⟨#[]⟩, .string ⟨#[]⟩, .bool false, .int .u64 0, .int .u64 0]).cells (grownCap w n 0 78 - n)) 78)) := fun ty => by
      have h := Lib.run_append_grow_zeros (P := Try.prog) w 75 3 ty 78 i0 _ .i64 .i64 Try.underlying75 Try.underlying3 hi hz0 none 0 0 [] (run_firstCells_none w.drew i0.size 0 0 0) n (by omega) (by rw [hz1]; decide) (by omega) (by omega) (by rw [hz2]; omega)
        (growslice_fits (by omega) (by rw [hz2]; omega))
      simpa using h
    have hge := grownCap_ge w n 0 78
    have hle := grownCap_le_maxLen w n 0 78 (by unfold maxLen; omega)
    obtain ⟨G, hG⟩ : ∃ G, grownCap w n 0 78 = G := ⟨_, rfl⟩
    obtain ⟨zs, hzs⟩ : ∃ zs, (Builtin.zeroCells (Value.agg #[.string ⟨#[]⟩, .string ⟨#[]⟩, .string ⟨#[]⟩, .bool false, .int .u64 0, .int .u64 0]).cells n ++ Builtin.zeroCells (Value.agg #[.string ⟨#[]⟩, .string ⟨#[]⟩, .string ⟨#[]⟩, .bool false, .int .u64 0, .int .u64 0]).cells (G - n)) = zs := ⟨_, rfl⟩
    rw [hG] at hrz hge hle
    rw [hzs] at hrz
    have hsz : zs.size = G * 6 := by
      have e4 : (Value.agg #[.string ⟨#[]⟩, .string ⟨#[]⟩, .string ⟨#[]⟩, .bool false, .int .u64 0, .int .u64 0]).cells.size = 6 := rfl
      rw [← hzs, Array.size_append, size_zeroCells, size_zeroCells, e4]
      omega
    have hr : Hid (twRow (w.alloc (.cells zs 78)).drew w.heap.size (.slice (some ⟨w.heap.size, 0, none⟩) 0 G) []) := Lib.hid ⟨rfl, .inr ⟨w.heap.size, G, zs, rfl, Nat.le_refl _, heap_alloc_new w _, Nat.zero_le _, hle, hsz, by simp⟩⟩
    have hb : Hid (Below w.heap.size w (w.alloc (.cells zs 78)).drew) := Lib.hid (below_drewN (below1 w zs _) 1)
    have h2 : (n : Int) > 0 := by omega
    unfold maxLen at hle
    clear hG hzs hsz hi hz0 hz1 hz2
    go_enter Try.func93, Try.ntmps93
    go_wp2_with (at_builtin; refine Lib.wpList_append_run _ rfl _ _ _ _ rfl _ _ rfl rfl _ _ (hrz _) ?_)
    go_ret
    exact ⟨_, rfl, hr.out, hb.out⟩
set_option maxHeartbeats 2000000 in
theorem concat_any (Z : Nat) (ps : List (Pc Rl)) (w : World) (h : Pcs trC 6 w Z ps) (hl : ps.length ≤ 100) (hj : (joinP ps).length ≤ 1000) :
    Calls Try.prog 75 #[.slice (some ⟨Z, 0, none⟩) ps.length ps.length] w fun e w' => ∃ v, e = .returned v ∧ twRow w' w.heap.size v (joinP ps) ∧ Below w.heap.size w w' := by
  have H := Lib.hid h
  obtain ⟨m, hm⟩ : ∃ m, ps.length = m := ⟨_, rfl⟩
  obtain ⟨i0, hi, hz0, hz1, hz2⟩ := info_parts tw_info
  have HI := Lib.hid (And.intro hi (And.intro hz0 (And.intro hz1 hz2)))
  have HTk := Lib.hid (joinP_take ps)
  obtain ⟨J, hJ⟩ : ∃ J, joinP ps = J := ⟨_, rfl⟩
  rw [hJ] at hj HTk ⊢
  have hjl : J.length ≤ 1000 := hj
  rw [hm] at hl ⊢
  have HM := Lib.hid hm
  have HJ := Lib.hid hJ
  have HGr := Lib.hid (grow_any J.length hj w)
  obtain ⟨g0, hg0⟩ : ∃ g0, w.heap.size = g0 := ⟨_, rfl⟩
  rw [hg0] at HGr ⊢
  have HG0 := Lib.hid hg0
  obtain ⟨M, hN⟩ : ∃ M, J.length = M := ⟨_, rfl⟩
  rw [hN] at hjl HGr HTk
  have HN := Lib.hid hN
  clear h hm hJ hg0 hj hN hi hz0 hz1 hz2
  go_enter Try.func75, Try.ntmps75
  go_wp2
  go_loop [3, 11] (fun s3 s11 => ∃ k : Nat, k ≤ m ∧ s11 = .int .i64 (k : Int) ∧ s3 = .int .i64 ((joinP (ps.take k)).length : Int)) (fun _ s11 => m - (intOf s11).toNat)
  case atStart => exact ⟨0, Nat.zero_le _, rfl, rfl⟩
  case round =>
    obtain ⟨k, hk, rfl, rfl⟩ := hrel
    by_cases hlt : k < m
    · have hkl : k < ps.length := by rw [HM.out]; exact hlt
      have cz := H.out.cell k hkl
      have hst := joinP_step hkl
      have hn1 := HTk.out (k + 1)
      rw [hst, List.length_append] at hn1
      obtain ⟨p, hp⟩ : ∃ p, ps[k] = p := ⟨_, rfl⟩
      rw [hp] at cz hst hn1
      obtain ⟨a, ha⟩ : ∃ a, (joinP (ps.take k)).length = a := ⟨_, rfl⟩
      obtain ⟨b, hb⟩ : ∃ b, p.l.length = b := ⟨_, rfl⟩
      rw [hb] at cz
      rw [ha, hb] at hn1
      have HS : Hid ((joinP (ps.take (k + 1))).length = a + b) := Lib.hid (by rw [hst, List.length_append, ha, hb])
      have h0 : ¬ ((a : Int) + (b : Int) < 0) := by omega
      rw [ha]
      clear hst hp ha hb
      go_wp2
      go_round
      case rel => exact ⟨k + 1, by omega, by go_num, by rw [HS.out]; go_num⟩
      case measure => simp [intOf]; omega
    · obtain rfl : k = m := by omega
      have he : (joinP (ps.take k)).length = M := by rw [List.take_of_length_le (by rw [HM.out]; exact Nat.le_refl _), HJ.out, HN.out]
      rw [he]
      clear he
      go_wp2_with fail
      refine HGr.out.mono ?_
      rintro e w1 ⟨v, rfl, hr1, hb1⟩
      have HR1 := Lib.hid hr1
      have HB1 := Lib.hid hb1
      clear hr1 hb1 HGr
      go_wp2
      go_loopw [6, 27] (fun s6 s27 wr => ∃ j : Nat, j ≤ k ∧ s27 = .int .i64 (j : Int) ∧ Hid (twRow wr g0 s6 (joinP (ps.take j))) ∧ Hid (Below g0 w wr)) (fun _ s27 _ => k - (intOf s27).toNat)
      case atStart => exact ⟨0, Nat.zero_le _, rfl, HR1, HB1⟩
      case round =>
        obtain ⟨j, hj, rfl, hrow, hb⟩ := hrel
        by_cases hlt2 : j < k
        · have hkl : j < ps.length := by rw [HM.out]; exact hlt2
          have hps := H.out.below (by rw [HG0.out]; exact hb.out)
          have cz := hps.cell j hkl
          have hok := hps.ok _ (List.getElem_mem hkl)
          have hst := joinP_step hkl
          have hn1 := HTk.out (j + 1)
          rw [hst, List.length_append] at hn1
          obtain ⟨p, hp⟩ : ∃ p, ps[j] = p := ⟨_, rfl⟩
          rw [hp] at cz hst hn1 hok
          have HS := Lib.hid hst
          have HOk := Lib.hid hok
          have HN1 := Lib.hid hn1
          obtain ⟨A, c, l⟩ := p
          have hsz := hb.out.size
          clear hst hp hps hn1 hok
          go_wp2_with (at_builtin; refine wpList_append_sk rfl (.tmp 31) (.tmp 32) 75 rfl i0 _ 72 Try.underlying75 HI.out.1 HI.out.2.1 HI.out.2.2.1 HI.out.2.2.2 rfl (by decide) trC_len trC_one g0 _ _ rfl hrow.out A c l rfl HOk.out.row HOk.out.nil ?qa ?qb ?qc ?_)
          case qa => have := HN1.out; unfold maxLen; omega
          case qb => have := HN1.out; omega
          case qc => rw [← HG0.out]; exact hsz
          refine Lib.hid ?_
          intro v' w' hown hgr
          rw [← HS.out] at hown
          have HR := Lib.hid hown
          have HB := Lib.hid (show Below g0 w w' from hb.out.grown hgr (by rw [← HG0.out]; exact hsz) fun _ e => (hrow.out.from _ e).1)
          clear hown hgr
          go_wp2
          go_roundw
          case rel => exact ⟨j + 1, by omega, by go_num, HR, HB⟩
          case measure => simp [intOf]; omega
        · obtain rfl : j = k := by omega
          have he : joinP (ps.take j) = J := by rw [List.take_of_length_le (by rw [HM.out]; exact Nat.le_refl _), HJ.out]
          rw [he] at hrow
          clear he
          go_wp2
          go_ret
          exact ⟨_, rfl, hrow.out, hb.out⟩
end Go.Proofs.Ytmegfkclpjddgaa.It
