/-
  Each number that was given is delivered, dropped or lost just once, or in flight; and what is delivered is a packet that was sent: the law sodalitylaw07.FlightOnce over the contracts (layer 7).
-/
import Derived.Test.YticjkpnlnonibaaHOnce
import Derived.Test.YticjkpnlnonibaaPlaysLaw7
namespace Go.Proofs.Yticjkpnlnonibaa
open Go.RowKit
set_option linter.unusedSimpArgs false
set_option linter.unusedVariables false

def onceR (gs : Nat) (m : Nat) (c4 : Nat) (j : Nat) (Y : Nat) (q : Pk) (u : Pk) (r : Bool) : Nat → Value → World → Prop
  | 0, v, _ => v = .bool false
  | 1, v, _ => v = .bool false
  | 2, v, _ => v = .slice (some ⟨gs, 0, none⟩) m c4
  | 3, v, _ => v = .int .i64 (j : Int)
  | 4, v, _ => v = .pointer (some ⟨gs, j * 3, none⟩)
  | 5, v, _ => v = .agg #[.int .i64 q.fr, .int .i64 q.to, .slice q.A q.body.length q.c]
  | 6, v, _ => v = .agg #[.int .i64 u.fr, .int .i64 u.to, .slice u.A u.body.length u.c]
  | 7, v, _ => v = .bool r
  | 8, v, _ => v = .bool r
  | 9, v, _ => v = .bool r
  | _, _, _ => True
theorem onceR_stable (gs : Nat) (m : Nat) (c4 : Nat) (j : Nat) (Y : Nat) (q : Pk) (u : Pk) (r : Bool) : ∀ i v w w', onceR gs m c4 j Y q u r i v w → True → onceR gs m c4 j Y q u r i v w'
  | 0, _, _, _, h, _ | 1, _, _, _, h, _ | 2, _, _, _, h, _ | 3, _, _, _, h, _ | 4, _, _, _, h, _ | 5, _, _, _, h, _ | 6, _, _, _, h, _ | 7, _, _, _, h, _ | 8, _, _, _, h, _ | 9, _, _, _, h, _ => h
  | _ + 10, _, _, _, h, _ => h

theorem pkRow.ge {w : World} {base : Nat} {v : Value} {l : List Pk} (h : pkRow w base v l) {b : Nat} (hb : v.ownBlock = some b) : base ≤ b := by
  rcases h.2 with ⟨rfl, _⟩ | ⟨g, cap, cur, rfl, hg, _⟩
  · cases hb
  · cases hb; exact hg
theorem On.grow {base : Nat} {w w' : World} {B : Nat} {v : Value} {s : Fl} {sv sv' : Value} {pl : List Pk} (h : On base w B v s sv pl) {p : Pk} (hp : BodyAt w p) (ho : Outs (fun k => base ≤ k) p) (hrow : pkRow w' base sv' (pl ++ [p])) (hb : But (fun k => sv.ownBlock = some k) w w') : On base w' B v s sv' (pl ++ [p]) := by
  have hsub : ∀ k, sv.ownBlock = some k → base ≤ k := fun k hk => h.row.ge hk
  have hcell : ∀ k, sv.ownBlock = some k → ∃ cur, w.heap[k]? = some (.cells cur TP (0, 0)) := fun k hk => h.row.cells hk
  refine ⟨h.fl.but hb (fun e => ?_) (fun b e e2 => ?_) (fun x hx b off e hn e2 => ?_), h.geB, h.geV, hrow, fun q hq => ?_⟩
  · obtain ⟨cur, hc⟩ := hcell _ e
    exact h.fl.notT hc (by decide) (by decide) (.inl rfl)
  · obtain ⟨cur, hc⟩ := hcell _ e2
    exact h.fl.notT hc (by decide) (by decide) (.inr e)
  · obtain ⟨cur, hc⟩ := hcell _ e2
    obtain ⟨b', off', cur', e', hh⟩ := (h.fl.body x hx).2 hn
    rw [e] at e'
    simp only [Option.some.injEq, Addr.mk.injEq] at e'
    obtain ⟨rfl, _⟩ := e'
    have := hc.symm.trans hh
    simp only [Option.some.injEq, Obj.cells.injEq] at this
    exact absurd this.2.1 (by decide)
  · rcases List.mem_append.1 hq with h1 | h1
    · exact ⟨(h.body q h1).1.but hb (fun b off e hn hs => (h.body q h1).2 b off e hn (hsub b hs)), (h.body q h1).2⟩
    · obtain rfl := List.mem_singleton.1 h1
      exact ⟨hp.but hb (fun b off e hn hs => ho b off e hn (hsub b hs)), ho⟩
theorem Typed.pick {w : World} {B : Nat} {v : Value} {s : Fl} (h : FlAt w B v s) (n : Int) : Outs (Sof B v) (s.pick n).p := by
  intro b off e hn hs
  obtain ⟨b', off', cur, e', hh⟩ := (h.picked n).2 hn
  rw [e] at e'
  simp only [Option.some.injEq, Addr.mk.injEq] at e'
  obtain ⟨rfl, _⟩ := e'
  exact h.notT hh (by decide) (by decide) hs
set_option maxHeartbeats 16000000 in
set_option maxRecDepth 100000 in
theorem once_walk (A : Option Addr) (n c : Nat) (ss : List Sp) (w : World) (hS : SSp w A n ss) (hn : n ≤ maxLen) :
    Calls Try.prog 4 #[.slice A n c] w fun e w' => e = .returned (.bool true) ∧ Below w.heap.size w w' := by
  unfold maxLen at hn
  have HWk := Lib.hid (fun w => works_any w)
  have HN1 := Lib.hid (new_any 256 w)
  obtain ⟨W0, hW0⟩ : ∃ W0, w.alloc (.cells #[.slice none 0 0, .int .i64 (capOf 256 : Int), .int .i64 0] 58) = W0 := ⟨_, rfl⟩
  have b0 : Below w.heap.size w W0 := by rw [← hW0]; exact (Below.refl _ w).alloc (Nat.le_refl _) _
  have hf := FlAt.new w 256
  rw [hW0] at hf HN1
  obtain ⟨B, hB⟩ : ∃ B, w.heap.size = B := ⟨_, rfl⟩
  have hon : On w.heap.size W0 B (.slice none 0 0) (Fl.new 256) (.slice none 0 0) [] := by
    rw [hB] at hf ⊢
    exact ⟨hf, Nat.le_refl _, (fun b e => by cases e), pkRow.nil _ _, (fun p h => by cases h)⟩
  have HOn := Lib.hid hon
  have HB0 : Hid (But (fun k => w.heap.size ≤ k) w W0) := Lib.hid (But.of_below b0)
  rw [hB] at HN1
  have HSS := Lib.hid hS
  have HSl := Lib.hid hS.1
  obtain ⟨i0, hi, hz0, hz1, hz2⟩ := info_parts pk_info
  clear hS hW0 b0 hf hB hon
  go_enter Try.func4, Try.ntmps4
  go_wp2_with fail
  refine HN1.out.mono ?_
  rintro e w' ⟨rfl, hw'⟩
  rw [hw']
  clear hw' HN1
  go_wp2
  go_loopw [4, 5, 6] (fun sv ov kv wr => ∃ (k o : Nat) (v : Value) (s : Fl) (pl : List Pk), kv = .int .i64 (k : Int) ∧ ov = .int .i64 (o : Int) ∧ k ≤ n ∧ k ≤ 80 ∧ pl.length ≤ k ∧ Hid (On w.heap.size wr B v s sv pl) ∧ Hid (Cnt o s) ∧ Hid (FromL pl s) ∧ s.sent ≤ k ∧ o ≤ k ∧ Hid (But (fun k => w.heap.size ≤ k) w wr)) (fun _ _ kv _ => 80 - (RowKit.intOf kv).toNat)
  case atStart => exact ⟨0, 0, _, _, [], rfl, rfl, Nat.zero_le _, Nat.zero_le _, Nat.zero_le _, HOn, Lib.hid rfl, Lib.hid (fun q hq => by cases hq), Nat.le_refl _, Nat.le_refl _, HB0⟩
  case round =>
    obtain ⟨k, o, v, s, pl, rfl, rfl, hk, hk80, hplk, HO, HCt, HFr, hse, hok, HBu⟩ := hrel
    have qo : (o : Int) ≤ 80 := by omega
    by_cases hlt : k < n ∧ k < 80
    · obtain ⟨hlt1, hlt2⟩ := hlt
      have hkl : k < ss.length := by rw [HSl.out]; exact hlt1
      obtain ⟨b, off, rfl, hbl, hat⟩ := HSS.out.2 (by omega)
      have hx := (hat k hkl).but HBu.out
      have hxo := (hat k hkl).2.2.2.2.2.outs
      obtain ⟨x, hxx⟩ : ∃ x, ss[k] = x := ⟨_, rfl⟩
      rw [hxx] at hx hxo
      obtain ⟨kind, nn, p⟩ := x
      obtain ⟨x0, x1, x2, x3, x4, x5⟩ := hx
      simp only at x0 x1 x2 x3 x4 x5 hxo
      have q1 : (k : Int) < (n : Int) := by omega
      have q2 : (k : Int) < 80 := by omega
      obtain ⟨W1, hW1⟩ : ∃ W1, wr.alloc (.cells #[.int .i64 kind, .int .i64 nn, .int .i64 p.fr, .int .i64 p.to, .slice p.A p.body.length p.c] 32) = W1 := ⟨_, rfl⟩
      have b1 : Below wr.heap.size wr W1 := by rw [← hW1]; exact (Below.refl _ wr).alloc (Nat.le_refl _) _
      have hbx : W1.heap[wr.heap.size]? = some (.cells #[.int .i64 kind, .int .i64 nn, .int .i64 p.fr, .int .i64 p.to, .slice p.A p.body.length p.c] 32 (0, 0)) := by rw [← hW1]; exact heap_alloc_new wr _
      obtain ⟨X, hX⟩ : ∃ X, wr.heap.size = X := ⟨_, rfl⟩
      have hXl := bcell_lt x0
      rw [hX] at hbx
      have HO1 := Lib.hid (HO.out.below b1)
      have HBx := Lib.hid hbx
      have HBd := Lib.hid (x5.below b1)
      have HXo := Lib.hid hxo
      have HB1 := Lib.hid (HBu.out.trans (But.of_below b1))
      have HW1 := Lib.hid hW1
      have HX := Lib.hid hX
      have HOuts : Hid (Outs (Sof B v) p) := Lib.hid (fun b off e hn hs => hxo b off e hn (HO.out.geS hs))
      clear hat hxx x5 hxo hW1 b1 hbx hX hXl
      by_cases k1 : kind = 1
      · subst k1
        have hsd := fl_deliver HO1.out.fl nn
        have hpk := HO1.out.fl.picked nn
        have hpo := Typed.pick HO1.out.fl nn
        have hfp := HFr.out.pick nn
        have hct := HCt.out.out nn
        obtain ⟨u, hu⟩ : ∃ u, (s.pick nn).p = u := ⟨_, rfl⟩
        obtain ⟨r1, hr1⟩ : ∃ r, s.any = r := ⟨_, rfl⟩
        rw [hu, hr1] at hsd
        rw [hu] at hpk hpo hfp
        rw [hr1] at hfp hct
        unfold pkV at hsd
        have HSd := Lib.hid hsd
        have HPk := Lib.hid hpk.1
        have HPo := Lib.hid hpo
        have HFp := Lib.hid hfp
        have HCo := Lib.hid hct
        obtain ⟨xb0, xb1, xb2, xb3, xb4⟩ := blk5 HBx.out
        obtain ⟨A4, c4, e4⟩ := HO1.out.row.form
        subst e4
        clear hsd hpk hpo hfp hct hu hr1
        go_wp2_with fail
        rw [HW1.out, HX.out]
        go_wp2_with fail
        refine HSd.out.mono ?_
        clear HSd xb0 xb1 xb2 xb3 xb4
        rintro e w2 ⟨rfl, v', s', hf', hsm, hb2, hl2⟩
        have ho2 := HO1.out.left hf' hb2 hl2
        have hub := HPk.out.but hb2 HPo.out
        obtain ⟨W3, hW3⟩ : ∃ W3, w2.alloc (.cells #[.int .i64 u.fr, .int .i64 u.to, .slice u.A u.body.length u.c] TP) = W3 := ⟨_, rfl⟩
        have b3 : Below w2.heap.size w2 W3 := by rw [← hW3]; exact (Below.refl _ w2).alloc (Nat.le_refl _) _
        have hy3 : W3.heap[w2.heap.size]? = some (.cells #[.int .i64 u.fr, .int .i64 u.to, .slice u.A u.body.length u.c] TP (0, 0)) := by rw [← hW3]; exact heap_alloc_new w2 _
        obtain ⟨Y, hY⟩ : ∃ Y, w2.heap.size = Y := ⟨_, rfl⟩
        rw [hY] at hy3
        have HO3 := Lib.hid (ho2.below b3)
        have HU3 := Lib.hid (hub.below b3)
        have HY3 := Lib.hid hy3
        have HC3 := Lib.hid (HCo.out.same hsm)
        have HF3 := Lib.hid ((HFr.out.out nn).same hsm)
        have HB3 := Lib.hid ((HB1.out.trans (HO1.out.butS hb2)).trans (But.of_below b3))
        have hse3 : s'.sent ≤ k + 1 := by rw [hsm.sent]; show s.sent ≤ k + 1; omega
        have HW3 := Lib.hid hW3
        have HYY := Lib.hid hY
        obtain ⟨m, hm⟩ : ∃ m, pl.length = m := ⟨_, rfl⟩
        have HM := Lib.hid hm
        have qm : (m : Int) ≤ 80 := by omega
        have hm80 : m ≤ k := by omega
        rw [hm]
        clear hf' hsm hb2 hl2 ho2 hub hW3 b3 hy3 hY hm
        go_wp2_with fail
        rw [HW3.out, HYY.out]
        go_wp2_with fail
        go_loopw [12, 13] (fun fv jv wr2 => ∃ (j : Nat) (fb : Bool), jv = .int .i64 (j : Int) ∧ fv = .bool fb ∧ j ≤ m ∧ Hid (∀ q ∈ pl.take j, sameB q u = true → fb = true) ∧ Hid (Go.Rel.Grew W3 wr2)) (fun _ jv _ => m - (RowKit.intOf jv).toNat)
        case atStart => exact ⟨0, false, rfl, rfl, Nat.zero_le _, Lib.hid (fun q hq => by simp at hq), Lib.hid (Go.Rel.Grew.refl _)⟩
        case round =>
          obtain ⟨j, fb, rfl, rfl, hj, HAll, HG⟩ := hrel
          by_cases hjm : j < m
          · have hjl : j < pl.length := by rw [HM.out]; exact hjm
            have ho4 := HO3.out.below HG.out
            have hrow := ho4.row
            obtain ⟨gs, cs, e5⟩ := hrow.some_ (by omega)
            rw [HM.out] at e5
            simp only [Value.slice.injEq, true_and] at e5
            rw [HM.out] at hrow
            obtain ⟨rfl, rfl⟩ := e5
            have hq3 := hrow.at_ hjl
            have hqb := (ho4.body _ (List.getElem_mem hjl)).1
            have htk := List.take_succ_eq_append_getElem hjl
            obtain ⟨q, hq⟩ : ∃ q, pl[j] = q := ⟨_, rfl⟩
            rw [hq] at hq3 hqb htk
            obtain ⟨r, hr⟩ : ∃ r, sameB q u = r := ⟨_, rfl⟩
            have hub4 := HU3.out.below HG.out
            have HSame : Hid (∀ w', Go.Rel.Grew wr w' → Calls Try.prog 15 #[.agg #[.int .i64 q.fr, .int .i64 q.to, .slice q.A q.body.length q.c], .agg #[.int .i64 u.fr, .int .i64 u.to, .slice u.A u.body.length u.c]] w' fun e w2 => e = .returned (.bool r) ∧ Below w'.heap.size w' w2) := Lib.hid (fun w' hb => same_any w' q u (hqb.below hb) (hub4.below hb) r hr)
            have HQ : Hid (∀ w', Go.Rel.Grew wr w' → w'.cell? ⟨gs, j * 3, none⟩ = some (.int .i64 q.fr) ∧ w'.cell? ⟨gs, j * 3 + 1, none⟩ = some (.int .i64 q.to) ∧ w'.cell? ⟨gs, j * 3 + 2, none⟩ = some (.slice q.A q.body.length q.c)) := Lib.hid (fun w' hb =>
              ⟨(hb.cell (p := ⟨gs, j * 3, none⟩) (bcell_lt hq3.1)).trans hq3.1, (hb.cell (p := ⟨gs, j * 3 + 1, none⟩) (bcell_lt hq3.2.1)).trans hq3.2.1, (hb.cell (p := ⟨gs, j * 3 + 2, none⟩) (bcell_lt hq3.2.2)).trans hq3.2.2⟩)
            have HY : Hid (∀ w', Go.Rel.Grew wr w' → w'.cell? ⟨Y, 0, none⟩ = some (.int .i64 u.fr) ∧ w'.cell? ⟨Y, 1, none⟩ = some (.int .i64 u.to) ∧ w'.cell? ⟨Y, 2, none⟩ = some (.slice u.A u.body.length u.c)) := Lib.hid (fun w' hb =>
              blk3 (((Go.Rel.Grew.trans HG.out hb).block Y (block_lt HY3.out)).trans HY3.out))
            have HIx : Hid ((0 : Int) ≤ (j : Int) ∧ (j : Int) < (m : Int)) := Lib.hid ⟨by omega, by omega⟩
            have qj : (j : Int) < (m : Int) := by omega
            have HTk := Lib.hid htk
            have HR := Lib.hid hr
            clear ho4 hrow hq3 hqb htk hq hr hub4
            cases fb with
            | true =>
              go_wp2_with fail
              go_quiet (fail)
              have HG' := Lib.hid (Go.Rel.Grew.trans HG.out (bel_drewN nq))
              go_wp2
              go_roundw
              case rel => exact ⟨j + 1, true, by go_num, rfl, by omega, Lib.hid (fun _ _ _ => rfl), HG'⟩
              case measure => simp [RowKit.intOf]; omega
            | false =>
              have HNext : Hid (∀ q' ∈ pl.take (j + 1), sameB q' u = true → r = true) := Lib.hid (fun q' hq' hs => by
                rw [HTk.out] at hq'
                rcases List.mem_append.1 hq' with h1 | h1
                · exact absurd (HAll.out q' h1 hs) (by decide)
                · obtain rfl := List.mem_singleton.1 h1
                  rw [← HR.out]; exact hs)
              go_wp2_with fail
              refine Go.Rel.wp_region_hold (by kernel_rfl) (by kernel_rfl) (by kernel_rfl) (by kernel_rfl) (fun f w' => Go.Rel.Grew wr w') (fun _ _ => True) (fun _ _ _ _ _ => trivial) trivial (bel_drewN 1) (onceR gs m c4 j Y q u r) (onceR_stable gs m c4 j Y q u r) ?hsteps ?hend
              case hsteps =>
                refine (.cons ?_ (.cons ?_ (.cons ?_ (.cons ?_ (.cons ?_ (.cons ?_ (.cons ?_ (.cons ?_ (.cons ?_ (.cons ?_ .nil))))))))))
                · intro f a w' hI hf hanc hdesc hle hs' hold hd K hK
                  have f12 : a.tmps[12]? = some (.bool false) := hold 12 9 (by kernel_rfl) (hdesc 12 9 (by kernel_rfl))
                  unfold Go.Rel.stepOf
                  go_simp
                  exact hK _ _ trivial (hI) rfl
                · intro f a w' hI hf hanc hdesc hle hs' hold hd K hK
                  obtain ⟨_, t0, rfl⟩ := hd 0 73 (by kernel_rfl)
                  unfold Go.Rel.stepOf
                  go_simp
                  exact hK _ _ trivial (hI) rfl
                · intro f a w' hI hf hanc hdesc hle hs' hold hd K hK
                  obtain ⟨_, tg, rfl⟩ := hd 1 74 (by kernel_rfl)
                  have f4 : a.tmps[4]? = some (.slice (some ⟨gs, 0, none⟩) m c4) := hs'.2.2 4 (by kernel_rfl)
                  unfold Go.Rel.stepOf
                  go_simp
                  exact hK _ _ trivial (hI) rfl
                · intro f a w' hI hf hanc hdesc hle hs' hold hd K hK
                  obtain ⟨_, tg, rfl⟩ := hd 1 74 (by kernel_rfl)
                  have f13 : a.tmps[13]? = some (.int .i64 (j : Int)) := hs'.2.2 13 (by kernel_rfl)
                  unfold Go.Rel.stepOf
                  go_simp
                  exact hK _ _ trivial (hI) rfl
                · intro f a w' hI hf hanc hdesc hle hs' hold hd K hK
                  obtain ⟨_, tg, rfl⟩ := hd 1 74 (by kernel_rfl)
                  obtain ⟨_, t2, rfl⟩ := hd 2 75 (by kernel_rfl)
                  obtain ⟨_, t3, rfl⟩ := hd 3 76 (by kernel_rfl)
                  have i1 := HIx.out.1
                  have i2 := HIx.out.2
                  unfold Go.Rel.stepOf
                  go_simp
                  exact hK _ _ trivial (hI) rfl
                · intro f a w' hI hf hanc hdesc hle hs' hold hd K hK
                  obtain ⟨_, tg, rfl⟩ := hd 1 74 (by kernel_rfl)
                  obtain ⟨_, t4, rfl⟩ := hd 4 77 (by kernel_rfl)
                  obtain ⟨x0, x1, x2⟩ := HQ.out w' hI
                  unfold Go.Rel.stepOf
                  go_simp
                  exact hK _ _ trivial (hI) rfl
                · intro f a w' hI hf hanc hdesc hle hs' hold hd K hK
                  obtain ⟨_, tg, rfl⟩ := hd 1 74 (by kernel_rfl)
                  have f10 : a.tmps[10]? = some (.pointer (some ⟨Y, 0, none⟩)) := hs'.2.2 10 (by kernel_rfl)
                  obtain ⟨x0, x1, x2⟩ := HY.out w' hI
                  unfold Go.Rel.stepOf
                  go_simp
                  exact hK _ _ trivial (hI) rfl
                · intro f a w' hI hf hanc hdesc hle hs' hold hd K hK
                  obtain ⟨_, tg, rfl⟩ := hd 1 74 (by kernel_rfl)
                  obtain ⟨_, t5, rfl⟩ := hd 5 78 (by kernel_rfl)
                  obtain ⟨_, t6, rfl⟩ := hd 6 79 (by kernel_rfl)
                  unfold Go.Rel.stepOf
                  go_simp
                  refine (HSame.out w' hI).mono ?_
                  rintro e w2 ⟨rfl, hb⟩
                  exact hK _ _ trivial (Go.Rel.Grew.trans hI hb) rfl
                · intro f a w' hI hf hanc hdesc hle hs' hold hd K hK
                  obtain ⟨_, t1, rfl⟩ := hd 1 74 (by kernel_rfl)
                  obtain ⟨_, t7, rfl⟩ := hd 7 80 (by kernel_rfl)
                  unfold Go.Rel.stepOf
                  go_simp
                  exact hK _ _ trivial (hI) rfl
                · intro f a w' hI hf hanc hdesc hle hs' hold hd K hK
                  obtain ⟨_, t8, rfl⟩ := hd 8 81 (by kernel_rfl)
                  unfold Go.Rel.stepOf
                  go_simp
                  exact hK _ _ trivial (hI) rfl
              case hend =>
                intro f a w5 hall hI hle hs' hR'
                have HG' := Lib.hid (Go.Rel.Grew.trans HG.out hI)
                clear hI hall hle
                obtain ⟨v73, s73, _⟩ := hR' 0 73 (by kernel_rfl)
                obtain ⟨v74, s74, _⟩ := hR' 1 74 (by kernel_rfl)
                obtain ⟨v75, s75, _⟩ := hR' 2 75 (by kernel_rfl)
                obtain ⟨v76, s76, _⟩ := hR' 3 76 (by kernel_rfl)
                obtain ⟨v77, s77, _⟩ := hR' 4 77 (by kernel_rfl)
                obtain ⟨v78, s78, _⟩ := hR' 5 78 (by kernel_rfl)
                obtain ⟨v79, s79, _⟩ := hR' 6 79 (by kernel_rfl)
                obtain ⟨v80, s80, _⟩ := hR' 7 80 (by kernel_rfl)
                obtain ⟨v81, s81, _⟩ := hR' 8 81 (by kernel_rfl)
                obtain ⟨_, s12, rfl⟩ := hR' 9 12 (by kernel_rfl)
                have e := hs'.shape
                simp only [List.toList_toArray, List.foldl, Go.Rel.reset, Array.getD_eq_getD_getElem?, s73, s74, s75, s76, s77, s78, s79, s80, s81, s12, Option.getD_some] at e
                simp at e
                clear hR' hs' s73 s74 s75 s76 s77 s78 s79 s80 s81 s12
                subst e
                go_wp2
                go_roundw
                case rel => exact ⟨j + 1, r, by go_num, rfl, by omega, HNext, HG'⟩
                case measure => simp [RowKit.intOf]; omega
          · obtain rfl : m = j := by omega
            have htk : pl.take m = pl := List.take_of_length_le (by rw [HM.out]; exact Nat.le_refl _)
            have HO5 : Hid (On w.heap.size wr B v' s' (.slice A4 m c4) pl) := Lib.hid (by
              have := HO3.out.below HG.out
              rw [HM.out] at this
              exact this)
            have HB5 := Lib.hid (HB3.out.trans (But.of_below HG.out))
            cases r1 with
            | true =>
              obtain ⟨q, hq, hqs⟩ := HFp.out rfl
              have hfb : fb = true := HAll.out q (by rw [htk]; exact hq) (decide_eq_true hqs)
              subst hfb
              clear hq hqs htk
              go_wp2
              go_roundw
              case rel => exact ⟨k + 1, o + 1, v', s', pl, by go_num, by go_num, by omega, by omega, by rw [HM.out]; omega, HO5, HC3, HF3, hse3, by omega, HB5⟩
              case measure => simp [RowKit.intOf]; omega
            | false =>
              clear htk
              go_wp2
              go_roundw
              case rel => exact ⟨k + 1, o, v', s', pl, by go_num, rfl, by omega, by omega, by rw [HM.out]; omega, HO5, HC3, HF3, hse3, by omega, HB5⟩
              case measure => simp [RowKit.intOf]; omega
      · by_cases k0 : kind = 0
        · subst k0
          have hsd := fl_send HO1.out.fl p HBd.out HOuts.out (by omega)
          obtain ⟨xb0, xb1, xb2, xb3, xb4⟩ := blk5 HBx.out
          cases hr : s.may p with
          | false =>
            rw [hr] at hsd
            have hsq : s.send p = s := by unfold Fl.send; rw [hr]; rfl
            rw [hsq] at hsd
            have HSd := Lib.hid hsd
            clear hsd hr hsq
            go_wp2_with fail
            rw [HW1.out, HX.out]
            go_wp2_with fail
            refine HSd.out.mono ?_
            clear HSd
            rintro e w2 ⟨rfl, v', s', hf', hsm, hb2, hl2⟩
            have HO2 := Lib.hid (HO1.out.left hf' hb2 hl2)
            have HC2 := Lib.hid (HCt.out.same hsm)
            have HF2 := Lib.hid (HFr.out.same hsm)
            have HB2 := Lib.hid (HB1.out.trans (HO1.out.butS hb2))
            have hse2 : s'.sent ≤ k + 1 := by rw [hsm.sent]; omega
            clear hf' hsm hb2 hl2
            go_wp2
            go_roundw
            case rel => exact ⟨k + 1, o, v', s', pl, by go_num, rfl, by omega, by omega, by omega, HO2, HC2, HF2, hse2, by omega, HB2⟩
            case measure => simp [RowKit.intOf]; omega
          | true =>
            rw [hr] at hsd
            have hsq : s.send p = s.fly p := by unfold Fl.send; rw [hr]; rfl
            rw [hsq] at hsd
            obtain ⟨d, hd⟩ : ∃ d, s.sent + 1 = d := ⟨_, rfl⟩
            have hnum : s.num true = (d : Int) := by rw [← hd]; rfl
            rw [hnum] at hsd
            have HSd := Lib.hid hsd
            have qd : (d : Int) ≤ 81 := by omega
            clear hsd hr hsq hnum
            go_wp2_with fail
            rw [HW1.out, HX.out]
            go_wp2_with fail
            refine HSd.out.mono ?_
            clear HSd xb0 xb1 xb2 xb3 xb4
            rintro e w2 ⟨rfl, v', s', hf', hsm, hb2, hl2⟩
            have hx2 := (hb2.block X (block_lt HBx.out) (HO1.out.fl.notT HBx.out (by decide) (by decide))).trans HBx.out
            have ho2 := HO1.out.left hf' hb2 hl2
            have hbd2 := HBd.out.but (HO1.out.butS hb2) (fun b off e hn => HXo.out b off e hn)
            have hsd2 : s'.sent = d := by rw [hsm.sent, ← hd]; rfl
            have hal : Below w2.heap.size w2 (w2.alloc (.cells #[.int .i64 p.fr, .int .i64 p.to, .slice p.A p.body.length p.c] TP)) := (Below.refl _ w2).alloc (Nat.le_refl _) _
            have HO2 := Lib.hid (ho2.below hal)
            have HRow2 := Lib.hid (ho2.row.below hal)
            have HBd2 := Lib.hid (hbd2.below hal)
            have HSD2 := Lib.hid hsd2
            have HC2 := Lib.hid ((HCt.out.fly p).same hsm)
            have HF2 : Hid (FromL (pl ++ [p]) s') := Lib.hid ((HFr.out.fly (fun q hq => List.mem_append_left _ hq) (List.mem_append_right _ (List.mem_singleton.2 rfl)) rfl).same hsm)
            have HB2 := Lib.hid ((HB1.out.trans (HO1.out.butS hb2)).trans (But.of_below hal))
            have hbase : w.heap.size ≤ w2.heap.size := ho2.baseW
            obtain ⟨xb0, xb1, xb2, xb3, xb4⟩ := blk5 hx2
            clear hf' hsm hb2 hl2 hx2 ho2 hbd2 hsd2 hal
            go_wp2_with (at_builtin; refine wpList_append_new rfl _ _ 36 rfl w.heap.size TP i0 _ 3 40 Try.underlying36 hi hz0 hz1 hz2 pk_zc (by decide) _ pl.length (pksC pl) rfl ?qa ⟨w2.heap.size, 0, none⟩ 1 (pkC p) rfl rfl ?qb (pkC_one p) ?qc ?qd ?qe ?_)
            case qa => exact HRow2.out
            case qb => exact pkC_news (heap_alloc_new w2 _)
            case qc => unfold maxLen; omega
            case qd => omega
            case qe => simp; omega
            refine Lib.hid ?_
            intro sv' w4 hown hg
            have hbg : But (fun i => u4.ownBlock = some i) (w2.alloc (.cells #[.int .i64 p.fr, .int .i64 p.to, .slice p.A p.body.length p.c] TP)) w4 := But.of_grown hg (fun r e _ => e)
            have ho4 := HO2.out.grow HBd2.out HXo.out (pkRow.snoc hown) hbg
            have HO4 := Lib.hid ho4
            have HB4 := Lib.hid (HB2.out.trans (hbg.mono (fun i e => HO2.out.row.ge e)))
            have hst := sent_any w4 B v' s' ho4.fl (by rw [HSD2.out]; omega)
            rw [HSD2.out] at hst
            have HSt := Lib.hid hst
            clear hown hg hbg ho4 hst xb0 xb1 xb2 xb3 xb4
            go_wp2_with fail
            refine HSt.out.mono ?_
            rintro e w' ⟨rfl, hw'⟩
            rw [hw']
            clear hw' HSt
            go_wp2
            go_roundw
            case rel => exact ⟨k + 1, o, v', s', pl ++ [p], by go_num, rfl, by omega, by omega, by simp; omega, HO4, HC2, HF2, by rw [HSD2.out]; omega, by omega, HB4⟩
            case measure => simp [RowKit.intOf]; omega
        · by_cases k2 : kind = 2
          · subst k2
            have hsd := fl_drop HO1.out.fl nn
            obtain ⟨d, hd⟩ : ∃ d, (s.pick nn).id = d := ⟨_, rfl⟩
            obtain ⟨r, hr⟩ : ∃ r, s.any = r := ⟨_, rfl⟩
            have hct := HCt.out.out nn
            rw [hr] at hct hsd
            rw [hd] at hsd
            have HCo := Lib.hid hct
            have HSd := Lib.hid hsd
            obtain ⟨xb0, xb1, xb2, xb3, xb4⟩ := blk5 HBx.out
            clear hsd hd hr hct
            go_wp2_with fail
            rw [HW1.out, HX.out]
            go_wp2_with fail
            refine HSd.out.mono ?_
            clear HSd
            rintro e w2 ⟨rfl, v', s', hf', hsm, hb2, hl2⟩
            have HO2 := Lib.hid (HO1.out.left hf' hb2 hl2)
            have HC2 := Lib.hid (HCo.out.same hsm)
            have HF2 := Lib.hid ((HFr.out.out nn).same hsm)
            have HB2 := Lib.hid (HB1.out.trans (HO1.out.butS hb2))
            have hse2 : s'.sent ≤ k + 1 := by rw [hsm.sent]; show s.sent ≤ k + 1; omega
            clear hf' hsm hb2 hl2
            cases r with
            | true =>
              go_wp2
              go_roundw
              case rel => exact ⟨k + 1, o + 1, v', s', pl, by go_num, by go_num, by omega, by omega, by omega, HO2, HC2, HF2, hse2, by omega, HB2⟩
              case measure => simp [RowKit.intOf]; omega
            | false =>
              go_wp2
              go_roundw
              case rel => exact ⟨k + 1, o, v', s', pl, by go_num, rfl, by omega, by omega, by omega, HO2, HC2, HF2, hse2, by omega, HB2⟩
              case measure => simp [RowKit.intOf]; omega
          · by_cases k3 : kind = 3
            · subst k3
              have hsd := fl_copy HO1.out.fl nn (by omega)
              obtain ⟨r, hr⟩ : ∃ r, (!s.full && s.any) = r := ⟨_, rfl⟩
              obtain ⟨d, hd⟩ : ∃ d, s.num r = d := ⟨_, rfl⟩
              rw [hr, hd] at hsd
              have HSd := Lib.hid hsd
              have HCs := Lib.hid (Fl.copy_sent s nn)
              obtain ⟨xb0, xb1, xb2, xb3, xb4⟩ := blk5 HBx.out
              clear hsd hd hr
              go_wp2_with fail
              rw [HW1.out, HX.out]
              go_wp2_with fail
              refine HSd.out.mono ?_
              clear HSd
              rintro e w2 ⟨rfl, v', s', hf', hsm, hb2, hl2⟩
              have HO2 := Lib.hid (HO1.out.left hf' hb2 hl2)
              have HC2 := Lib.hid ((HCt.out.copy nn).same hsm)
              have HF2 := Lib.hid ((HFr.out.copy nn).same hsm)
              have HB2 := Lib.hid (HB1.out.trans (HO1.out.butS hb2))
              have hse2 : s'.sent ≤ k + 1 := by rw [hsm.sent]; have := HCs.out; omega
              clear hf' hsm hb2 hl2
              go_wp2
              go_roundw
              case rel => exact ⟨k + 1, o, v', s', pl, by go_num, rfl, by omega, by omega, by omega, HO2, HC2, HF2, hse2, by omega, HB2⟩
              case measure => simp [RowKit.intOf]; omega
            · have hsd := fl_lose HO1.out.fl nn
              obtain ⟨hct, hle⟩ := HCt.out.lose nn
              obtain ⟨d, hd⟩ : ∃ d, s.L.length - (s.lose nn).L.length = d := ⟨_, rfl⟩
              have hdi : (s.L.length : Int) - ((s.lose nn).L.length : Int) = (d : Int) := by omega
              rw [hdi] at hsd
              rw [hd] at hct
              have hcc : o + d + (s.lose nn).L.length = s.sent := hct
              have qd : (d : Int) ≤ 80 := by omega
              have qod : o + d ≤ k := by omega
              have HCo := Lib.hid hct
              have HSd := Lib.hid hsd
              obtain ⟨xb0, xb1, xb2, xb3, xb4⟩ := blk5 HBx.out
              have z0 : (kind == 0) = false := by rw [beq_eq_false_iff_ne]; exact k0
              have z1 : (kind == 1) = false := by rw [beq_eq_false_iff_ne]; exact k1
              have z2 : (kind == 2) = false := by rw [beq_eq_false_iff_ne]; exact k2
              have z3 : (kind == 3) = false := by rw [beq_eq_false_iff_ne]; exact k3
              clear hsd hd hdi hct hcc hle
              go_wp2_with fail
              rw [HW1.out, HX.out]
              go_wp2_with fail
              refine HSd.out.mono ?_
              clear HSd
              rintro e w2 ⟨rfl, v', s', hf', hsm, hb2, hl2⟩
              have HO2 := Lib.hid (HO1.out.left hf' hb2 hl2)
              have HC2 := Lib.hid (HCo.out.same hsm)
              have HF2 := Lib.hid ((HFr.out.lose nn).same hsm)
              have HB2 := Lib.hid (HB1.out.trans (HO1.out.butS hb2))
              have hse2 : s'.sent ≤ k + 1 := by rw [hsm.sent]; show s.sent ≤ k + 1; omega
              clear hf' hsm hb2 hl2
              go_wp2
              go_roundw
              case rel => exact ⟨k + 1, o + d, v', s', pl, by go_num, by go_num, by omega, by omega, by omega, HO2, HC2, HF2, hse2, by omega, HB2⟩
              case measure => simp [RowKit.intOf]; omega
    · have HS := Lib.hid (sent_any wr B v s HO.out.fl (by omega))
      have HCn := Lib.hid (count_any wr B v s HO.out.fl)
      obtain ⟨sn, hsn⟩ : ∃ sn, s.sent = sn := ⟨_, rfl⟩
      obtain ⟨ln, hln⟩ : ∃ ln, s.L.length = ln := ⟨_, rfl⟩
      have hct : o + ln = sn := by rw [← hsn, ← hln]; exact HCt.out
      rw [hsn] at HS
      rw [hln] at HCn
      have qn : (sn : Int) = (o : Int) + (ln : Int) := by omega
      have HQn := Lib.hid qn
      have ql : (ln : Int) ≤ 80 := by omega
      have HK := Lib.hid (HWk.out wr)
      have hend : k = n ∨ (k < n ∧ k = 80) := by omega
      clear hsn hln hct qn
      rcases hend with rfl | ⟨hkn, rfl⟩
      · go_wp2_with fail
        refine HS.out.mono ?_
        rintro e w' ⟨rfl, hw'⟩
        rw [hw']
        clear hw' HS
        go_wp2_with fail
        refine HCn.out.mono ?_
        rintro e w' ⟨rfl, hw'⟩
        rw [hw']
        clear hw' HCn
        rw [HQn.out]
        go_wp2_with fail
        refine HK.out.mono ?_
        rintro e w3 ⟨rfl, hb3⟩
        have HB3 := Lib.hid (HBu.out.trans (But.of_below hb3))
        clear hb3
        go_wp2
        go_ret
        exact ⟨rfl, HB3.out.below (Nat.le_refl _) (fun k hk e => absurd hk (Nat.not_lt.2 e))⟩
      · have q1 : (80 : Int) < (n : Int) := by omega
        go_wp2_with fail
        refine HS.out.mono ?_
        rintro e w' ⟨rfl, hw'⟩
        rw [hw']
        clear hw' HS
        go_wp2_with fail
        refine HCn.out.mono ?_
        rintro e w' ⟨rfl, hw'⟩
        rw [hw']
        clear hw' HCn
        rw [HQn.out]
        go_wp2_with fail
        refine HK.out.mono ?_
        rintro e w3 ⟨rfl, hb3⟩
        have HB3 := Lib.hid (HBu.out.trans (But.of_below hb3))
        clear hb3
        go_wp2
        go_ret
        exact ⟨rfl, HB3.out.below (Nat.le_refl _) (fun k hk e => absurd hk (Nat.not_lt.2 e))⟩
end Go.Proofs.Yticjkpnlnonibaa
