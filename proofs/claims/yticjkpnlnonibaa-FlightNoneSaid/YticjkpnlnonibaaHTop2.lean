/-
  Deliver, Drop and Copy of the program's flight (layer 7).
-/
import Derived.Test.YticjkpnlnonibaaHTop
namespace Go.Proofs.Yticjkpnlnonibaa
open Go.RowKit
set_option linter.unusedSimpArgs false
set_option linter.unusedVariables false

theorem BodyAt.lt {w : World} {p : Pk} (h : BodyAt w p) {b off : Nat} (e : p.A = some ⟨b, off, none⟩) (hn : 0 < p.body.length) : b < w.heap.size := by
  obtain ⟨b', off', e', hb, _⟩ := h.1.2 hn
  rw [e] at e'
  simp only [Option.some.injEq, Addr.mk.injEq] at e'
  omega
/-- Behind the call, what is new may be written. -/
theorem Gone.new {w w1 w2 : World} {B : Nat} {v : Value} {s : Fl} {s' : Fl} (h : FlAt w B v s) (hsub : ∀ x ∈ s'.L, x ∈ s.L) (hg : Gone w B v s' w1) (hb : But (fun k => w.heap.size ≤ k) w1 w2) : Gone w B v s' w2 := by
  obtain ⟨⟨v', h1, h2⟩, h3⟩ := hg
  refine ⟨⟨v', h1.but hb (fun e => by have := h.lt; omega) (fun b e e2 => ?_) (fun x hx b off e hn e2 => ?_), h2⟩, h3.then_ hb (fun i e hi => by omega)⟩
  · rw [h2] at e
    have := h.row.lt e
    omega
  · have := (h.body x (hsub x hx)).1.lt e hn
    omega
theorem Gone.of_below {w W : World} {B : Nat} {v : Value} {s' : Fl} {w' : World} (hb : Below w.heap.size w W) (h : Gone W B v s' w') : Gone w B v s' w' := ⟨h.1, (But.of_below hb).trans h.2⟩
theorem but_set3 (W : World) (X : Nat) (a b c : Value) : But (· = X) W (((W.setCell ⟨X, 0, none⟩ a).setCell ⟨X, 1, none⟩ b).setCell ⟨X, 2, none⟩ c) :=
  ((But.set (S := (· = X)) W (p := ⟨X, 0, none⟩) rfl a).trans (But.set (S := (· = X)) _ (p := ⟨X, 1, none⟩) rfl b)).trans (But.set (S := (· = X)) _ (p := ⟨X, 2, none⟩) rfl c)
theorem set3_blk {W : World} {X : Nat} {u0 u1 u2 : Value} {t : TypeId} (h : W.heap[X]? = some (.cells #[u0, u1, u2] t (0, 0))) (a b c : Value) (o : Obj) :
    (((((W.setCell ⟨X, 0, none⟩ a).setCell ⟨X, 1, none⟩ b).setCell ⟨X, 2, none⟩ c)).alloc o).heap[X]? = some (.cells #[a, b, c] t (0, 0)) := by
  have h1 := block_set (block_set (block_set h 0 a) 1 b) 2 c
  rw [heap_alloc_old _ _ (block_lt h1)]
  exact h1
set_option maxHeartbeats 4000000 in
theorem deliver_some (w : World) (B : Nat) (v : Value) (s : Fl) (h : FlAt w B v s) (pick : Int) (hn : 0 < s.L.length) (hk : pickOf s.L.length pick < s.L.length) :
    Calls Try.prog 14 #[.pointer (some ⟨B, 0, none⟩), .int .i64 pick] w fun e w' => e = .returned (.tuple #[pkV s.L[pickOf s.L.length pick].p, .bool true]) ∧ Gone w B v (s.out pick) w' := by
  obtain ⟨W0, hW0⟩ : ∃ W0, w.alloc (.cells #[.int .i64 0, .int .i64 0, .slice none 0 0] 30) = W0 := ⟨_, rfl⟩
  have hal : Below w.heap.size w W0 := by rw [← hW0]; exact (Below.refl _ w).alloc (Nat.le_refl _) _
  have hbx : W0.heap[w.heap.size]? = some (.cells #[.int .i64 0, .int .i64 0, .slice none 0 0] 30 (0, 0)) := by rw [← hW0]; exact heap_alloc_new w _
  have HM := Lib.hid (made_fl W0 B v s (h.below hal))
  have HT := Lib.hid (take_any W0 B v s (h.below hal) pick hn hk)
  obtain ⟨x, hx⟩ : ∃ x, s.L[pickOf s.L.length pick] = x := ⟨_, rfl⟩
  rw [hx] at HT ⊢
  have HH := Lib.hid h
  have HBX := Lib.hid hbx
  have HAl := Lib.hid hal
  obtain ⟨X, hX⟩ : ∃ X, w.heap.size = X := ⟨_, rfl⟩
  have HX := Lib.hid hX
  have HW0 := Lib.hid hW0
  unfold itV at HT
  unfold pkV
  clear hW0 hal hbx hX h hx hn hk
  go_enter Try.func14, Try.ntmps14
  go_wp2_with fail
  rw [HW0.out, HX.out]
  refine HM.out.mono ?_
  rintro e w' ⟨rfl, hw'⟩
  rw [hw']
  clear hw' HM
  go_wp2_with fail
  refine HT.out.mono ?_
  clear HT
  rintro e w1 ⟨rfl, hg1, hg2⟩
  have hXB : ¬ Sof B v w.heap.size := fun e => by
    rcases e with e | e
    · have := HH.out.lt; omega
    · have := HH.out.row.lt e; omega
  have hb1 := (hg2.block w.heap.size (block_lt HBX.out) hXB).trans HBX.out
  rw [HX.out] at hb1
  obtain ⟨d0, d1, d2⟩ := blk3 hb1
  have f0 := blk_froz hb1 0
  have f1 := blk_froz hb1 1
  have f2 := blk_froz hb1 2
  have hX1 := block_lt hb1
  have HG : Hid (Gone w B v (s.out pick) w1) := Lib.hid (Gone.of_below HAl.out ⟨hg1, hg2⟩)
  have HB1 := Lib.hid hb1
  clear hg1 hg2 hXB hb1
  go_wp2
  obtain ⟨e0, e1, e2⟩ := blk3 (set3_blk HB1.out (.int .i64 x.p.fr) (.int .i64 x.p.to) (.slice x.p.A x.p.body.length x.p.c) (.cells #[.int .i64 (x.id : Int), .int .i64 x.p.fr, .int .i64 x.p.to, .slice x.p.A x.p.body.length x.p.c] TF))
  refine bodyPost_ret (v := .tuple #[.agg #[.int .i64 x.p.fr, .int .i64 x.p.to, .slice x.p.A x.p.body.length x.p.c], .bool true]) (by simp [results, Try.results14, go_sem, e0, e1, e2]) rfl ?_
  refine ⟨rfl, Gone.new HH.out (fun y hy => Fl.out_mem hy) HG.out ?_⟩
  have hx := HX.out
  have hsz := HG.out.2.size
  exact ((but_set3 w1 X _ _ _).mono (fun k e => by show w.heap.size ≤ k; omega)).trans (But.of_below (S := fun k => w.heap.size ≤ k) ((Below.refl _ _).alloc (Nat.le_refl _) _))
set_option maxHeartbeats 4000000 in
theorem deliver_none (w : World) (B : Nat) (v : Value) (s : Fl) (h : FlAt w B v s) (pick : Int) (hn : s.L.length = 0) :
    Calls Try.prog 14 #[.pointer (some ⟨B, 0, none⟩), .int .i64 pick] w fun e w' => e = .returned (.tuple #[.agg #[.int .i64 0, .int .i64 0, .slice none 0 0], .bool false]) ∧ Below w.heap.size w w' := by
  obtain ⟨W0, hW0⟩ : ∃ W0, w.alloc (.cells #[.int .i64 0, .int .i64 0, .slice none 0 0] 30) = W0 := ⟨_, rfl⟩
  have hal : Below w.heap.size w W0 := by rw [← hW0]; exact (Below.refl _ w).alloc (Nat.le_refl _) _
  have hbx : W0.heap[w.heap.size]? = some (.cells #[.int .i64 0, .int .i64 0, .slice none 0 0] 30 (0, 0)) := by rw [← hW0]; exact heap_alloc_new w _
  have HM := Lib.hid (made_fl W0 B v s (h.below hal))
  obtain ⟨A, c, hv, _⟩ := h.row.form
  have hc0 := (h.below hal).cells.1
  rw [hv, hn] at hc0
  have HT := Lib.hid (take_none W0 B c A pick hc0)
  have HBX := Lib.hid hbx
  have HAl := Lib.hid hal
  obtain ⟨X, hX⟩ : ∃ X, w.heap.size = X := ⟨_, rfl⟩
  have HX := Lib.hid hX
  have HW0 := Lib.hid hW0
  clear hW0 hal hbx hX h hn hv hc0
  go_enter Try.func14, Try.ntmps14
  go_wp2_with fail
  rw [HW0.out, HX.out]
  refine HM.out.mono ?_
  rintro e w' ⟨rfl, hw'⟩
  rw [hw']
  clear hw' HM
  go_wp2_with fail
  refine HT.out.mono ?_
  clear HT
  rintro e w1 ⟨rfl, hg2⟩
  have hb1 := (hg2.block w.heap.size (block_lt HBX.out)).trans HBX.out
  rw [HX.out] at hb1
  obtain ⟨d0, d1, d2⟩ := blk3 hb1
  have f0 := blk_froz hb1 0
  have f1 := blk_froz hb1 1
  have f2 := blk_froz hb1 2
  have hX1 := block_lt hb1
  have HG : Hid (Below w.heap.size w w1) := Lib.hid (HAl.out.trans (hg2.mono HAl.out.size))
  have HB1 := Lib.hid hb1
  clear hg2 hb1
  go_wp2
  obtain ⟨e0, e1, e2⟩ := blk3 (set3_blk HB1.out (.int .i64 0) (.int .i64 0) (.slice none 0 0) (.cells #[.int .i64 0, .int .i64 0, .int .i64 0, .slice none 0 0] TF))
  refine bodyPost_ret (v := .tuple #[.agg #[.int .i64 0, .int .i64 0, .slice none 0 0], .bool false]) (by simp [results, Try.results14, go_sem, e0, e1, e2]) rfl ?_
  refine ⟨rfl, ?_⟩
  have hx := HX.out
  have hsz := HG.out.size
  exact ((But.of_below (S := fun k => w.heap.size ≤ k) HG.out).trans (((but_set3 w1 X _ _ _).mono (fun k e => by show w.heap.size ≤ k; omega)).trans (But.of_below (S := fun k => w.heap.size ≤ k) ((Below.refl _ _).alloc (Nat.le_refl _) _)))).below (Nat.le_refl _) (fun k hk e => by omega)
set_option maxHeartbeats 4000000 in
theorem drop_some (w : World) (B : Nat) (v : Value) (s : Fl) (h : FlAt w B v s) (pick : Int) (hn : 0 < s.L.length) (hk : pickOf s.L.length pick < s.L.length) :
    Calls Try.prog 16 #[.pointer (some ⟨B, 0, none⟩), .int .i64 pick] w fun e w' => e = .returned (.tuple #[.int .i64 (s.L[pickOf s.L.length pick].id : Int), .bool true]) ∧ Gone w B v (s.out pick) w' := by
  have HM := Lib.hid (made_fl w B v s h)
  have HT := Lib.hid (take_any w B v s h pick hn hk)
  obtain ⟨x, hx⟩ : ∃ x, s.L[pickOf s.L.length pick] = x := ⟨_, rfl⟩
  rw [hx] at HT ⊢
  have HH := Lib.hid h
  unfold itV at HT
  clear h hx hn hk
  go_enter Try.func16, Try.ntmps16
  go_wp2_with fail
  refine HM.out.mono ?_
  rintro e w' ⟨rfl, hw'⟩
  rw [hw']
  clear hw' HM
  go_wp2_with fail
  refine HT.out.mono ?_
  clear HT
  rintro e w1 ⟨rfl, hg1, hg2⟩
  have HG : Hid (Gone w B v (s.out pick) w1) := Lib.hid ⟨hg1, hg2⟩
  clear hg1 hg2
  go_wp2
  go_ret2
  refine ⟨rfl, Gone.new HH.out (fun y hy => Fl.out_mem hy) HG.out ?_⟩
  exact But.of_below (S := fun k => w.heap.size ≤ k) ((Below.refl w1.heap.size w1).alloc (Nat.le_refl _) _)
theorem drop_none (w : World) (B : Nat) (v : Value) (s : Fl) (h : FlAt w B v s) (pick : Int) (hn : s.L.length = 0) :
    Calls Try.prog 16 #[.pointer (some ⟨B, 0, none⟩), .int .i64 pick] w fun e w' => e = .returned (.tuple #[.int .i64 0, .bool false]) ∧ Below w.heap.size w w' := by
  have HM := Lib.hid (made_fl w B v s h)
  obtain ⟨A, c, hv, _⟩ := h.row.form
  have hc0 := h.cells.1
  rw [hv, hn] at hc0
  have HT := Lib.hid (take_none w B c A pick hc0)
  clear h hn hv hc0
  go_enter Try.func16, Try.ntmps16
  go_wp2_with fail
  refine HM.out.mono ?_
  rintro e w' ⟨rfl, hw'⟩
  rw [hw']
  clear hw' HM
  go_wp2_with fail
  refine HT.out.mono ?_
  clear HT
  rintro e w1 ⟨rfl, hg⟩
  have HG := Lib.hid hg
  clear hg
  go_wp2
  go_ret2
  exact ⟨rfl, HG.out.alloc HG.out.size _⟩
set_option maxHeartbeats 4000000 in
theorem copy_some (w : World) (B : Nat) (v : Value) (s : Fl) (h : FlAt w B v s) (pick : Int) (hs : s.sent < 1099511627775) (hf : s.full = false) (hn : 0 < s.L.length) (hk : pickOf s.L.length pick < s.L.length) :
    Calls Try.prog 17 #[.pointer (some ⟨B, 0, none⟩), .int .i64 pick] w fun e w' => e = .returned (.tuple #[.int .i64 ((s.sent + 1 : Nat) : Int), .bool true]) ∧ Flown w B v s s.L[pickOf s.L.length pick].p w' := by
  have HM := Lib.hid (made_fl w B v s h)
  have HF := Lib.hid (full_any w B v s h)
  rw [hf] at HF
  obtain ⟨g, c, hv, hnc, hm, _, hg⟩ := h.row.some_ hn
  have hlen := h.ok.len
  have hmost := h.ok.most
  have c0 := h.cells.1
  have hrow := h.row
  rw [hv] at hrow c0
  obtain ⟨r0, r1, r2, r3⟩ := hrow.at_ hk
  have hxm := List.getElem_mem hk
  have hxb := h.body _ hxm
  have hxo := h.outs hxm
  have hx14 := h.ok.body _ hxm
  obtain ⟨x, hx⟩ : ∃ x, s.L[pickOf s.L.length pick] = x := ⟨_, rfl⟩
  rw [hx] at r0 r1 r2 r3 hxb hxo hx14 ⊢
  have HP : Hid (∀ q, Calls Try.prog 30 #[.pointer (some ⟨B, 0, none⟩), .int .i64 pick] (w.drewN q) fun e w' => e = .returned (.tuple #[.int .i64 (pickOf s.L.length pick : Int), .bool true]) ∧ w' = w.drewN q) := Lib.hid (fun q => picked_any (w.drewN q) B s.L.length c (some ⟨g, 0, none⟩) pick hn (by omega) c0)
  have HFly : Hid (∀ q, Calls Try.prog 27 #[.pointer (some ⟨B, 0, none⟩), .agg #[.int .i64 x.p.fr, .int .i64 x.p.to, .slice x.p.A x.p.body.length x.p.c]] (w.drewN q) fun e w' => e = .returned (.int .i64 ((s.sent + 1 : Nat) : Int)) ∧ Flown w B v s x.p w') := Lib.hid (fun q =>
    (fly_any _ B v s x.p (h.below (bel_drewN q)) (hxb.1.below (bel_drewN q)) hxo hs hf hx14).mono (fun e w' ⟨he, hF⟩ => ⟨he, hF.of_below (bel_drewN q)⟩))
  obtain ⟨k, hkk⟩ : ∃ k, pickOf s.L.length pick = k := ⟨_, rfl⟩
  rw [hkk] at hk r0 r1 r2 r3 HP
  obtain ⟨n, hnn⟩ : ∃ n, s.L.length = n := ⟨_, rfl⟩
  rw [hnn] at hk c0
  have q1 : (k : Int) < (n : Int) := by omega
  have q0 : (0 : Int) ≤ (k : Int) := by omega
  clear h hv hn hrow hx hkk hnn hxm hxb hxo hx14
  go_enter Try.func17, Try.ntmps17
  go_wp2_with fail
  refine HM.out.mono ?_
  rintro e w' ⟨rfl, hw'⟩
  rw [hw']
  clear hw' HM
  go_wp2_with fail
  refine HF.out.mono ?_
  rintro e w' ⟨rfl, q, hw'⟩
  rw [hw']
  clear hw' HF
  go_wp2_with fail
  refine (HP.out q).mono ?_
  rintro e w' ⟨rfl, hw'⟩
  rw [hw']
  clear hw' HP
  go_wp2_with fail
  refine (HFly.out q).mono ?_
  clear HFly
  rintro e w' ⟨rfl, hF⟩
  have HF := Lib.hid hF
  clear hF
  go_wp2
  go_ret2
  exact ⟨rfl, HF.out⟩
theorem copy_none (w : World) (B : Nat) (v : Value) (s : Fl) (h : FlAt w B v s) (pick : Int) (hn : s.full = true ∨ s.L.length = 0) :
    Calls Try.prog 17 #[.pointer (some ⟨B, 0, none⟩), .int .i64 pick] w fun e w' => e = .returned (.tuple #[.int .i64 0, .bool false]) ∧ Below w.heap.size w w' := by
  have HM := Lib.hid (made_fl w B v s h)
  have HF := Lib.hid (full_any w B v s h)
  obtain ⟨A, c, hv, _⟩ := h.row.form
  have hc0 := h.cells.1
  rw [hv] at hc0
  have HP : Hid (s.L.length = 0 → ∀ q, Calls Try.prog 30 #[.pointer (some ⟨B, 0, none⟩), .int .i64 pick] (w.drewN q) fun e w' => e = .returned (.tuple #[.int .i64 0, .bool false]) ∧ w' = w.drewN q) := Lib.hid (fun h0 q => picked_none (w.drewN q) B c A pick (by rw [h0] at hc0; exact hc0))
  have HN := Lib.hid hn
  clear h hn hv hc0
  go_enter Try.func17, Try.ntmps17
  go_wp2_with fail
  refine HM.out.mono ?_
  rintro e w' ⟨rfl, hw'⟩
  rw [hw']
  clear hw' HM
  go_wp2_with fail
  refine HF.out.mono ?_
  rintro e w' ⟨rfl, q, hw'⟩
  rw [hw']
  clear hw' HF
  cases hfull : s.full with
  | true =>
    clear hfull HP
    go_wp2
    go_ret2
    exact ⟨rfl, bel_drewN q⟩
  | false =>
    have h0 : s.L.length = 0 := by
      rcases HN.out with h | h
      · rw [hfull] at h; cases h
      · exact h
    have HP2 := Lib.hid (HP.out h0 q)
    clear hfull HP h0
    go_wp2_with fail
    refine HP2.out.mono ?_
    rintro e w' ⟨rfl, hw'⟩
    rw [hw']
    clear hw' HP2
    go_wp2
    go_ret2
    exact ⟨rfl, bel_drewN q⟩
end Go.Proofs.Yticjkpnlnonibaa
