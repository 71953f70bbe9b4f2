/-
  Whatever is sent, picked and lost, what is in flight is what the document says: the law sodalitylaw07.FlightPlays over the contracts (layer 7).
-/
import Derived.Test.YticjkpnlnonibaaHStep
import Derived.Test.YticjkpnlnonibaaHFrame
namespace Go.Proofs.Yticjkpnlnonibaa
open Go.RowKit
set_option linter.unusedSimpArgs false
set_option linter.unusedVariables false

theorem BodyAt.outs {w : World} {p : Pk} (h : BodyAt w p) : Outs (fun k => w.heap.size ≤ k) p := fun b off e hn hs => by
  have := h.lt e hn
  omega
theorem SpAt.but {w w' : World} {b o : Nat} {s : Sp} (h : SpAt w b o s) (hb : But (fun k => w.heap.size ≤ k) w w') : SpAt w' b o s := by
  obtain ⟨h0, h1, h2, h3, h4, h5⟩ := h
  have key : ∀ i v, w.cell? ⟨b, i, none⟩ = some v → w'.cell? ⟨b, i, none⟩ = some v := fun i v hv => by
    have := bcell_lt hv
    exact (hb.cell (p := ⟨b, i, none⟩) this (fun e => absurd this (Nat.not_lt.2 e))).trans hv
  exact ⟨key _ _ h0, key _ _ h1, key _ _ h2, key _ _ h3, key _ _ h4, h5.but hb h5.outs⟩
set_option maxHeartbeats 8000000 in
set_option maxRecDepth 100000 in
theorem plays_walk (most : Int) (A : Option Addr) (n c : Nat) (ss : List Sp) (w : World) (hS : SSp w A n ss) (hn : n ≤ maxLen) :
    Calls Try.prog 3 #[.int .i64 most, .slice A n c] w fun e w' => e = .returned (.bool true) ∧ Below w.heap.size w w' := by
  unfold maxLen at hn
  have HWk := Lib.hid (fun w => works_any w)
  have HN1 := Lib.hid (new_any most w)
  obtain ⟨W0, hW0⟩ : ∃ W0, w.alloc (.cells #[.slice none 0 0, .int .i64 (capOf most : Int), .int .i64 0] 58) = W0 := ⟨_, rfl⟩
  have b0 : Below w.heap.size w W0 := by rw [← hW0]; exact (Below.refl _ w).alloc (Nat.le_refl _) _
  have s0 : W0.heap.size = w.heap.size + 1 := by rw [← hW0]; simp
  have hf := FlAt.new w most
  rw [hW0] at hf HN1
  have HN2 := Lib.hid (rnew_any most W0)
  obtain ⟨W1, hW1⟩ : ∃ W1, W0.alloc (.cells #[.slice none 0 0, .int .i64 0, .int .i64 (capOf most : Int)] 62) = W1 := ⟨_, rfl⟩
  have b1 : Below W0.heap.size W0 W1 := by rw [← hW1]; exact (Below.refl _ W0).alloc (Nat.le_refl _) _
  have hr := RfAt.new w.heap.size W0 most (by omega)
  rw [hW1] at hr HN2
  obtain ⟨B, hB⟩ : ∃ B, w.heap.size = B := ⟨_, rfl⟩
  obtain ⟨B2, hB2⟩ : ∃ B2, W0.heap.size = B2 := ⟨_, rfl⟩
  have hpair : Pair w.heap.size W1 B (.slice none 0 0) (Fl.new most) B2 (.slice none 0 0) (Fl.new most) := by
    rw [hB2] at hr
    have hf' := hf.below b1
    rw [hB] at hf' hr ⊢
    exact ⟨hf', hr, Nat.le_refl _, fun b e => (by cases e), fun b e => (by cases e)⟩
  have HP := Lib.hid hpair
  have HBw : Hid (But (fun k => w.heap.size ≤ k) w W1) := Lib.hid (But.of_below (b0.trans (b1.mono (by omega))))
  rw [hB] at HN1
  rw [hB2] at HN2
  have HSS := Lib.hid hS
  have HSl := Lib.hid hS.1
  clear hS hW0 hW1 b0 b1 s0 hf hr hB hB2 hpair
  go_enter Try.func3, Try.ntmps3
  go_wp2_with fail
  refine HN1.out.mono ?_
  rintro e w' ⟨rfl, hw'⟩
  rw [hw']
  clear hw' HN1
  go_wp2_with fail
  refine HN2.out.mono ?_
  rintro e w' ⟨rfl, hw'⟩
  rw [hw']
  clear hw' HN2
  go_wp2
  go_loopw [7] (fun kv wr => ∃ (k : Nat) (v : Value) (s : Fl) (v2 : Value) (t : Fl), kv = .int .i64 (k : Int) ∧ k ≤ n ∧ k ≤ 80 ∧ Hid (Pair w.heap.size wr B v s B2 v2 t) ∧ Hid (s.same t) ∧ Hid (s.sent ≤ k) ∧ Hid (But (fun k => w.heap.size ≤ k) w wr)) (fun kv _ => 80 - (RowKit.intOf kv).toNat)
  case atStart => exact ⟨0, _, _, _, _, rfl, Nat.zero_le _, Nat.zero_le _, HP, Lib.hid (.refl _), Lib.hid (Nat.le_refl _), HBw⟩
  case round =>
    obtain ⟨k, v, s, v2, t, rfl, hk, hk80, HPr, HST, HSE, HBu⟩ := hrel
    by_cases hlt : k < n ∧ k < 80
    · obtain ⟨hlt1, hlt2⟩ := hlt
      have hkl : k < ss.length := by rw [HSl.out]; exact hlt1
      obtain ⟨b, off, rfl, hbl, hat⟩ := HSS.out.2 (by omega)
      have hx := (hat k hkl).but HBu.out
      have hxo := (hat k hkl).2.2.2.2.2.outs
      obtain ⟨x, hxx⟩ : ∃ x, ss[k] = x := ⟨_, rfl⟩
      rw [hxx] at hx hxo
      obtain ⟨x0, x1, x2, x3, x4, x5⟩ := hx
      have q1 : (k : Int) < (n : Int) := by omega
      have q2 : (k : Int) < 80 := by omega
      have hse := HSE.out
      have HStep := Lib.hid (step_any HPr.out HST.out x.n x.p x5 hxo (by omega) x.kind)
      clear hat hxx x5 hxo hse
      go_wp2_with fail
      refine HStep.out.mono ?_
      clear HStep
      rintro e w1 ⟨rfl, ⟨v', s', v2', t', hp1, hst1, hse1⟩, hb1⟩
      have hse := HSE.out
      have HL := Lib.hid (list_walk w.heap.size w1 B B2 v' v2' s' t' hp1 hst1 (by omega))
      have HP1 := Lib.hid hp1
      have HST1 := Lib.hid hst1
      have HSE1 : Hid (s'.sent ≤ k + 1) := Lib.hid (by omega)
      have HB1 := Lib.hid (HBu.out.trans hb1)
      clear hp1 hst1 hse1 hb1 hse x0 x1 x2 x3 x4
      go_wp2_with fail
      refine HL.out.mono ?_
      clear HL
      rintro e w2 ⟨rfl, hb2⟩
      have HP2 := Lib.hid (HP1.out.below hb2)
      have HB2' := Lib.hid (HB1.out.trans (But.of_below hb2))
      clear hb2
      go_wp2
      go_roundw
      case rel => exact ⟨k + 1, v', s', v2', t', by go_num, by omega, by omega, HP2, HST1, HSE1, HB2'⟩
      case measure => simp [RowKit.intOf]; omega
    · have hse := HSE.out
      have HL := Lib.hid (list_walk w.heap.size wr B B2 v v2 s t HPr.out HST.out (by omega))
      have hend : k = n ∨ (k < n ∧ k = 80) := by omega
      clear hse
      rcases hend with rfl | ⟨hkn, rfl⟩
      · go_wp2_with fail
        refine HL.out.mono ?_
        clear HL
        rintro e w2 ⟨rfl, hb2⟩
        have HK := Lib.hid (HWk.out w2)
        have HB2' := Lib.hid (HBu.out.trans (But.of_below hb2))
        clear hb2
        go_wp2_with fail
        refine HK.out.mono ?_
        rintro e w3 ⟨rfl, hb3⟩
        have HB3 := Lib.hid (HB2'.out.trans (But.of_below hb3))
        clear hb3
        go_wp2
        go_ret
        exact ⟨rfl, HB3.out.below (Nat.le_refl _) (fun k hk e => by omega)⟩
      · have q1 : (80 : Int) < (n : Int) := by omega
        go_wp2_with fail
        refine HL.out.mono ?_
        clear HL
        rintro e w2 ⟨rfl, hb2⟩
        have HK := Lib.hid (HWk.out w2)
        have HB2' := Lib.hid (HBu.out.trans (But.of_below hb2))
        clear hb2
        go_wp2_with fail
        refine HK.out.mono ?_
        rintro e w3 ⟨rfl, hb3⟩
        have HB3 := Lib.hid (HB2'.out.trans (But.of_below hb3))
        clear hb3
        go_wp2
        go_ret
        exact ⟨rfl, HB3.out.below (Nat.le_refl _) (fun k hk e => by omega)⟩
end Go.Proofs.Yticjkpnlnonibaa
