/-
  The document's: Same; Send where nothing is sent; Copy (layer 7).
-/
import Derived.Test.YticjkpnlnonibaaHTop2
namespace Go.Proofs.Yticjkpnlnonibaa
open Go.RowKit
set_option linter.unusedSimpArgs false
set_option linter.unusedVariables false

theorem own_conv {w : World} {p : Pk} (h : BodyAt w p) : (convert 28 9 (.slice p.A p.body.length p.c)).run Try.prog w = .ok (.string ⟨p.body.toArray⟩) w := by
  obtain ⟨h, _⟩ := h
  obtain ⟨fr, to, xs, A, c⟩ := p
  simp only at h ⊢
  rcases Nat.eq_zero_or_pos xs.length with h0 | hp
  · obtain rfl : xs = [] := List.eq_nil_of_length_eq_zero h0
    rw [show ([] : List UInt8).length = 0 from rfl, run_convert_bytes_string w _ _ _ _ 0 c Try.underlying28 Try.underlying5 Try.underlying9]
    cases A <;> simp [Conv.bytesToString, loadCells]
    all_goals rfl
  · obtain ⟨b, off, rfl, _, hc⟩ := h.2 hp
    refine run_convert_bytes_back w _ _ _ ⟨b, off, none⟩ c xs Try.underlying28 Try.underlying5 Try.underlying9 fun j hj => ?_
    rw [plain_add, hc j (by simpa using hj)]
    simp [byteV]
def sameB (p q : Pk) : Bool := decide (p.strip = q.strip)
theorem sameB_iff (p q : Pk) : sameB p q = true ↔ p.fr = q.fr ∧ p.to = q.to ∧ p.body = q.body := by
  unfold sameB Pk.strip
  simp
set_option maxHeartbeats 4000000 in
theorem same_any (w : World) (p q : Pk) (hp : BodyAt w p) (hq : BodyAt w q) (r : Bool) (hr : sameB p q = r) :
    Calls Try.prog 15 #[.agg #[.int .i64 p.fr, .int .i64 p.to, .slice p.A p.body.length p.c], .agg #[.int .i64 q.fr, .int .i64 q.to, .slice q.A q.body.length q.c]] w fun e w' => e = .returned (.bool r) ∧ Below w.heap.size w w' := by
  have hb : Below w.heap.size w ((w.alloc (.cells #[.int .i64 p.fr, .int .i64 p.to, .slice p.A p.body.length p.c] 30)).alloc (.cells #[.int .i64 q.fr, .int .i64 q.to, .slice q.A q.body.length q.c] 30)) := ((Below.refl _ w).alloc (Nat.le_refl _) _).alloc (by simp) _
  have k1 := own_conv (hp.below hb)
  have k2 := own_conv (hq.below hb)
  have HB := Lib.hid hb
  have hs := sameB_iff p q
  rw [hr] at hs
  have HS := Lib.hid hs
  obtain ⟨n, hn⟩ : ∃ n, p.body.length = n := ⟨_, rfl⟩
  obtain ⟨m, hm⟩ : ∃ m, q.body.length = m := ⟨_, rfl⟩
  rw [hn] at k1 k2 HB ⊢
  rw [hm] at k1 k2 HB ⊢
  clear hp hq hb hr hs hn hm
  by_cases h1 : p.fr = q.fr
  · by_cases h2 : p.to = q.to
    · have z1 : (p.fr == q.fr) = true := by rw [beq_iff_eq]; exact h1
      have z2 : (p.to == q.to) = true := by rw [beq_iff_eq]; exact h2
      by_cases h3 : p.body = q.body
      · have hr : r = true := HS.out.2 ⟨h1, h2, h3⟩
        rw [h3] at k1
        rw [h1, h2] at k1 k2 ⊢
        clear z1 z2
        subst hr
        go_enter Try.func15, Try.ntmps15
        go_wp2
        go_ret
        refine ⟨rfl, ?_⟩
        have := HB.out
        rwa [h1, h2] at this
      · have hr : r = false := by
          cases r with
          | false => rfl
          | true => exact absurd (HS.out.1 rfl).2.2 h3
        have H3 := Lib.hid h3
        rw [h1, h2] at k1 k2 HB ⊢
        subst hr
        clear z1 z2 h3
        go_enter Try.func15, Try.ntmps15
        go_wp2
        go_ret
        exact ⟨by simp [H3.out], HB.out⟩
    · have z2 : (p.to == q.to) = false := by rw [beq_eq_false_iff_ne]; exact h2
      have hr : r = false := by
        cases r with
        | false => rfl
        | true => exact absurd (HS.out.1 rfl).2.1 h2
      rw [h1] at k1 k2 HB ⊢
      subst hr
      clear k1 k2
      go_enter Try.func15, Try.ntmps15
      go_wp2
      go_ret
      exact ⟨by simp, HB.out⟩
  · have z1 : (p.fr == q.fr) = false := by rw [beq_eq_false_iff_ne]; exact h1
    have hr : r = false := by
      cases r with
      | false => rfl
      | true => exact absurd (HS.out.1 rfl).1 h1
    subst hr
    clear k1 k2
    go_enter Try.func15, Try.ntmps15
    go_wp2
    go_ret
    exact ⟨by simp, HB.out⟩
set_option maxHeartbeats 2000000 in
theorem rsend_no (base : Nat) (w : World) (B : Nat) (v : Value) (s : Fl) (p : Pk) (h : RfAt base w B v s) (hm : s.may p = false) :
    Calls Try.prog 21 #[.pointer (some ⟨B, 0, none⟩), .agg #[.int .i64 p.fr, .int .i64 p.to, .slice p.A p.body.length p.c]] w fun e w' => e = .returned (.tuple #[.int .i64 0, .bool false]) ∧ Below w.heap.size w w' := by
  obtain ⟨W0, hW0⟩ : ∃ W0, w.alloc (.cells #[.int .i64 p.fr, .int .i64 p.to, .slice p.A p.body.length p.c] 30) = W0 := ⟨_, rfl⟩
  have hal : Below w.heap.size w W0 := by rw [← hW0]; exact (Below.refl _ w).alloc (Nat.le_refl _) _
  have hbx : W0.heap[w.heap.size]? = some (.cells #[.int .i64 p.fr, .int .i64 p.to, .slice p.A p.body.length p.c] 30 (0, 0)) := by rw [← hW0]; exact heap_alloc_new w _
  obtain ⟨x0, x1, x2⟩ := blk3 hbx
  obtain ⟨A, c, hv, _⟩ := h.row.form
  obtain ⟨c0, c1, c2⟩ := (h.below hal).cells
  rw [hv] at c0
  obtain ⟨X, hX⟩ : ∃ X, w.heap.size = X := ⟨_, rfl⟩
  have HX := Lib.hid hX
  have HW0 := Lib.hid hW0
  have HAl := Lib.hid hal
  rw [hX] at x0 x1 x2
  have HM : Hid (s.may p = false) := Lib.hid hm
  obtain ⟨n, hn⟩ : ∃ n, s.L.length = n := ⟨_, rfl⟩
  obtain ⟨m, hmm⟩ : ∃ m, s.most = m := ⟨_, rfl⟩
  have HF : Hid (s.full = decide (m ≤ n)) := Lib.hid (by rw [Fl.full, hn, hmm])
  rw [hn] at c0
  rw [hmm] at c2
  clear h hW0 hal hbx hX hm hv hn hmm
  by_cases hfull : m ≤ n
  · have z1 : decide (m ≤ n) = true := decide_eq_true hfull
    go_enter Try.func21, Try.ntmps21
    go_wp2_with fail
    rw [HW0.out, HX.out]
    go_quiet (fail)
    go_wp2
    go_ret2
    exact ⟨rfl, HAl.out.trans ((bel_drewN nq).mono HAl.out.size)⟩
  · have z1 : decide (m ≤ n) = false := decide_eq_false hfull
    have hb : ¬ p.body.length ≤ 1400 := fun hb => by
      have := HM.out
      rw [Fl.may, HF.out, z1, decide_eq_true hb] at this
      cases this
    have z2 : decide (1400 < p.body.length) = true := by simp; omega
    go_enter Try.func21, Try.ntmps21
    go_wp2_with fail
    rw [HW0.out, HX.out]
    go_quiet (fail)
    go_wp2
    go_ret2
    exact ⟨rfl, HAl.out.trans ((bel_drewN nq).mono HAl.out.size)⟩
theorem RFlown.of_below {base : Nat} {w W : World} {B : Nat} {v : Value} {s : Fl} {p : Pk} {w' : World} (hb : Below w.heap.size w W) (h : RFlown base W B v s p w') : RFlown base w B v s p w' := by
  obtain ⟨v', h1, h3, h4⟩ := h
  exact ⟨v', h1, (But.of_below hb).trans h3, fun b e => (h4 b e).imp id (fun h => Nat.le_trans hb.size h)⟩
theorem rcopy_some (base : Nat) (w : World) (B : Nat) (v : Value) (s : Fl) (h : RfAt base w B v s) (hbase : base ≤ w.heap.size) (pick : Int) (hs : s.sent < 1099511627775) (hf : s.full = false) (hn : 0 < s.L.length) (hk : pickOf s.L.length pick < s.L.length) :
    Calls Try.prog 23 #[.pointer (some ⟨B, 0, none⟩), .int .i64 pick] w fun e w' => e = .returned (.tuple #[.int .i64 ((s.sent + 1 : Nat) : Int), .bool true]) ∧ RFlown base w B v s s.L[pickOf s.L.length pick].p w' := by
  obtain ⟨g, c, hv, hnc, hm, _, hg⟩ := h.row.some_ hn
  have hlen := h.ok.len
  have hmost := h.ok.most
  have c0 := h.cells.1
  have hrow := h.row
  rw [hv] at hrow c0
  obtain ⟨r0, r1, r2, r3⟩ := hrow.at_ hk
  have hxm := List.getElem_mem hk
  have hxb := h.body _ hxm
  have hx14 := h.ok.body _ hxm
  obtain ⟨x, hx⟩ : ∃ x, s.L[pickOf s.L.length pick] = x := ⟨_, rfl⟩
  rw [hx] at r0 r1 r2 r3 hxb hx14 ⊢
  have HP := Lib.hid (rpicked_any w B s.L.length c (some ⟨g, 0, none⟩) pick hn (by omega) c0)
  have HS := Lib.hid (rsend_yes base w B v s x.p h hbase hxb.1 hxb.2 hs hf hx14)
  obtain ⟨k, hkk⟩ : ∃ k, pickOf s.L.length pick = k := ⟨_, rfl⟩
  rw [hkk] at hk r0 r1 r2 r3 HP
  obtain ⟨n, hnn⟩ : ∃ n, s.L.length = n := ⟨_, rfl⟩
  rw [hnn] at hk c0
  have q1 : (k : Int) < (n : Int) := by omega
  have q0 : (0 : Int) ≤ (k : Int) := by omega
  clear h hv hn hrow hx hkk hnn hxm hxb hx14
  go_enter Try.func23, Try.ntmps23
  go_wp2_with fail
  refine HP.out.mono ?_
  rintro e w' ⟨rfl, hw'⟩
  rw [hw']
  clear hw' HP
  go_wp2_with fail
  refine HS.out.mono ?_
  clear HS
  rintro e w' ⟨rfl, hF⟩
  have HF := Lib.hid hF
  clear hF
  go_wp2
  go_ret2
  exact ⟨rfl, HF.out⟩
theorem rcopy_none (base : Nat) (w : World) (B : Nat) (v : Value) (s : Fl) (h : RfAt base w B v s) (pick : Int) (hn : s.L.length = 0) :
    Calls Try.prog 23 #[.pointer (some ⟨B, 0, none⟩), .int .i64 pick] w fun e w' => e = .returned (.tuple #[.int .i64 0, .bool false]) ∧ Below w.heap.size w w' := by
  obtain ⟨A, c, hv, _⟩ := h.row.form
  have hc0 := h.cells.1
  rw [hv, hn] at hc0
  have HP := Lib.hid (rpicked_none w B c A pick hc0)
  clear h hn hv hc0
  go_enter Try.func23, Try.ntmps23
  go_wp2_with fail
  refine HP.out.mono ?_
  rintro e w' ⟨rfl, hw'⟩
  rw [hw']
  clear hw' HP
  go_wp2
  go_ret2
  exact ⟨rfl, Below.refl _ _⟩
theorem rcopy_full (base : Nat) (w : World) (B : Nat) (v : Value) (s : Fl) (h : RfAt base w B v s) (pick : Int) (hf : s.full = true) (hn : 0 < s.L.length) (hk : pickOf s.L.length pick < s.L.length) :
    Calls Try.prog 23 #[.pointer (some ⟨B, 0, none⟩), .int .i64 pick] w fun e w' => e = .returned (.tuple #[.int .i64 0, .bool false]) ∧ Below w.heap.size w w' := by
  obtain ⟨g, c, hv, hnc, hm, _, hg⟩ := h.row.some_ hn
  have hlen := h.ok.len
  have hmost := h.ok.most
  have c0 := h.cells.1
  have hrow := h.row
  rw [hv] at hrow c0
  obtain ⟨r0, r1, r2, r3⟩ := hrow.at_ hk
  obtain ⟨x, hx⟩ : ∃ x, s.L[pickOf s.L.length pick] = x := ⟨_, rfl⟩
  rw [hx] at r0 r1 r2 r3
  have HP := Lib.hid (rpicked_any w B s.L.length c (some ⟨g, 0, none⟩) pick hn (by omega) c0)
  have HS := Lib.hid (rsend_no base w B v s x.p h (by rw [Fl.may, hf]; rfl))
  obtain ⟨k, hkk⟩ : ∃ k, pickOf s.L.length pick = k := ⟨_, rfl⟩
  rw [hkk] at hk r0 r1 r2 r3 HP
  obtain ⟨n, hnn⟩ : ∃ n, s.L.length = n := ⟨_, rfl⟩
  rw [hnn] at hk c0
  have q1 : (k : Int) < (n : Int) := by omega
  have q0 : (0 : Int) ≤ (k : Int) := by omega
  clear h hv hn hrow hx hkk hnn
  go_enter Try.func23, Try.ntmps23
  go_wp2_with fail
  refine HP.out.mono ?_
  rintro e w' ⟨rfl, hw'⟩
  rw [hw']
  clear hw' HP
  go_wp2_with fail
  refine HS.out.mono ?_
  clear HS
  rintro e w' ⟨rfl, hF⟩
  have HF := Lib.hid hF
  clear hF
  go_wp2
  go_ret2
  exact ⟨rfl, HF.out⟩
end Go.Proofs.Yticjkpnlnonibaa
