/-
  Next of the document's ring, walked (layer 12).
-/
import Derived.Test.YtckeknhoimgccaaPrRefA
import Derived.Test.YtckeknhoimgccaaERefO
import Derived.Test.YtckeknhoimgccaaAcc
import Derived.Deep.LoopGhost
namespace Go.Proofs.Ytckeknhoimgccaa
open Go.RowKit
set_option linter.unusedSimpArgs false
set_option linter.unusedVariables false

/-- What the document's Next gives. -/
def RNextP (S : Nat → Prop) (B bw : Nat) (g : Rg) (d : Dr) (live : List Int) (w : World) (e : Ending) (w' : World) : Prop :=
  e = .returned (.tuple #[.int .i64 (g.asked live d).1, .bool (g.asked live d).2.1]) ∧ RgAt false S w' B (g.asked live d).2.2 ∧ RwAt S w' bw (d.asked g live) ∧ But (fun k => k = B ∨ k = bw) w w'
/-- What stands as a try begins. -/
structure RnSt (S : Nat → Prop) (B bw : Nat) (A2 : Option Addr) (n2 c2 : Nat) (live : List Int) (g : Rg) (d : Dr) (w0 : World) (k : Nat) (gc : Rg) (dc : Dr) (w : World) : Prop where
  ring : RgAt false S w B gc
  dw : RwAt S w bw dc
  lst : Lst S w A2 n2 c2 live
  but : But (fun k => k = B ∨ k = bw) w0 w
  how : (k = 0 ∧ gc = g ∧ dc = d) ∨ (k = 1 ∧ gc = g.again d ∧ dc = d.afterO g.row.length ∧ scan live g.row g.at_ = none) ∨ (k = 2 ∧ gc = ⟨(g.again d).row, (g.again d).row.length⟩ ∧ dc = d.afterO g.row.length ∧ scan live g.row g.at_ = none ∧ scan live (g.again d).row 0 = none)
section
variable {S : Nat → Prop} {B bw : Nat} {A2 : Option Addr} {n2 c2 : Nat} {live : List Int} {g : Rg} {d : Dr} {w0 w w' : World} {k : Nat} {gc : Rg} {dc : Dr}
/-- Found at a try: that is what is asked. -/
theorem RnSt.found (h : RnSt S B bw A2 n2 c2 live g d w0 k gc dc w) (hk : k < 2) {x : Int} {j : Nat} (hs : scan live gc.row gc.at_ = some (x, j)) : g.asked live d = (x, true, ⟨gc.row, j⟩) ∧ d.asked g live = dc := by
  rcases h.how with ⟨_, rfl, rfl⟩ | ⟨_, rfl, rfl, h1⟩ | ⟨h2, _⟩
  · exact Rg.asked_first hs
  · exact Rg.asked_second h1 hs
  · omega
theorem RnSt.none_ (h : RnSt S B bw A2 n2 c2 live g d w0 k gc dc w) (hk : k = 2) : g.asked live d = (0, false, gc) ∧ d.asked g live = dc := by
  rcases h.how with ⟨h0, _⟩ | ⟨h0, _⟩ | ⟨_, rfl, rfl, h1, h2⟩
  · omega
  · omega
  · exact Rg.asked_none h1 h2
end
def rnR (S : Nat → Prop) (B : Nat) (b : Nat) (off : Nat) (c : Nat) (ob : Nat) (oo : Nat) (oc : Nat) (L : Nat) (m : Nat) (x : Nat) (z : Int) (A' : Option Addr) (c' : Nat) : Nat → Value → World → Prop
  | 0, v, _ => v = .slice A' m c'
  | 1, v, _ => v = .pointer (some ⟨B, 0, none⟩)
  | 2, v, _ => v = .pointer (some ⟨B, 0, none⟩)
  | 3, v, _ => v = .pointer (some ⟨B, 0, none⟩)
  | 4, v, _ => v = .slice (some ⟨b, off, none⟩) L c
  | 5, v, _ => v = .slice (some ⟨ob, oo, none⟩) L oc
  | 6, v, _ => v = .int .i64 (m : Int)
  | 7, v, _ => v = .pointer (some ⟨ob, oo + m, none⟩)
  | 8, v, _ => v = .int .i64 (x : Int)
  | 9, v, _ => v = .pointer (some ⟨b, off + x, none⟩)
  | 10, v, _ => v = .int .i64 z
  | 11, v, w => True
  | 12, v, w => True
  | 13, v, w => True
  | _, _, _ => True
theorem rnR_stable (S : Nat → Prop) (B : Nat) (b : Nat) (off : Nat) (c : Nat) (ob : Nat) (oo : Nat) (oc : Nat) (L : Nat) (m : Nat) (x : Nat) (z : Int) (A' : Option Addr) (c' : Nat) : ∀ i v w w', rnR S B b off c ob oo oc L m x z A' c' i v w → But S w w' → rnR S B b off c ob oo oc L m x z A' c' i v w'
  | 0, _, _, _, h, _ | 1, _, _, _, h, _ | 2, _, _, _, h, _ | 3, _, _, _, h, _ | 4, _, _, _, h, _ | 5, _, _, _, h, _ | 6, _, _, _, h, _ | 7, _, _, _, h, _ | 8, _, _, _, h, _ | 9, _, _, _, h, _ | 10, _, _, _, h, _ => h
  | 11, _, _, _, h, g => trivial
  | 12, _, _, _, h, g => trivial
  | 13, _, _, _, h, g => trivial
  | _ + 14, _, _, _, h, _ => h

set_option maxHeartbeats 8000000 in
set_option maxRecDepth 100000 in
theorem rnext_any {S : Nat → Prop} {B bw : Nat} {g : Rg} {d : Dr} (A2 : Option Addr) (n2 c2 : Nat) (live : List Int) (w : World) (h : RgAt false S w B g) (hd : RwAt S w bw d) (hl : Lst S w A2 n2 c2 live) (hS : ∀ k, S k → k < w.heap.size) (hne : bw ≠ B) :
    Calls Try.prog 16 #[.pointer (some ⟨B, 0, none⟩), .slice A2 n2 c2, .pointer (some ⟨bw, 0, none⟩)] w (RNextP S B bw g d live w) := by
  obtain ⟨i0, hi, hz0, hz1, hz2⟩ := info_parts int_info
  have HSt0 : Hid (RnSt S B bw A2 n2 c2 live g d w 0 g d w) := Lib.hid ⟨h, hd, hl, But.refl _ _, .inl ⟨rfl, rfl, rfl⟩⟩
  have HS := Lib.hid hS
  have HNe := Lib.hid hne
  clear h hd hl hS hne
  go_enter Try.func16, Try.ntmps16
  go_wp2
  go_loopw [8] (fun tv wr => ∃ (k : Nat) (gc : Rg) (dc : Dr), k ≤ 2 ∧ tv = .int .i64 (k : Int) ∧ Hid (RnSt S B bw A2 n2 c2 live g d w k gc dc wr)) (fun tv _ => 2 - (intOf tv).toNat)
  case atStart => exact ⟨0, g, d, by omega, rfl, HSt0⟩
  case round =>
    obtain ⟨k, gc, dc, hk2, rfl, hst⟩ := hrel
    obtain ⟨wo, rfl⟩ : ∃ wo : World, wo = wr := ⟨_, rfl⟩
    by_cases hk : k < 2
    · have hring := hst.out.ring
      obtain ⟨hok, A, c, hri0⟩ := hring
      have hf := Rg.few hok
      have hpos := hok.pos
      have HOk := Lib.hid hok
      have HI := Lib.hid hri0
      obtain ⟨L, hL⟩ : ∃ L, gc.row.length = L := ⟨_, rfl⟩
      rw [hL] at hf hpos
      have HL := Lib.hid hL
      have q0 : (k : Int) < 2 := by omega
      clear hok hri0 hL
      go_wp2
      go_loopg [9] (L - gc.at_) (fun q _ wi => ∃ j : Nat, j + q = L ∧ Hid (RgIs false S wi B A c ⟨gc.row, j⟩ ∧ But (· = B) wo wi ∧ scan live gc.row gc.at_ = scan live gc.row j))
      case atStart => exact ⟨gc.at_, by omega, Lib.hid ⟨HI.out, But.refl _ _, rfl⟩⟩
      case round =>
        obtain ⟨j, hj, hin⟩ := hrel
        obtain ⟨wi, rfl⟩ : ∃ wi : World, wi = wr := ⟨_, rfl⟩
        have hri := hin.out.1
        have cl : wi.cell? ⟨B, 0, none⟩ = some (.slice A L c) := by have := hri.cl; rw [← HL.out]; exact this
        have co : wi.cell? ⟨B, 1, none⟩ = some (.int .i64 (j : Int)) := hri.co
        have f1 : wi.frozen? ⟨B, 1, none⟩ = false := hri.froz 1
        by_cases hlt : j < L
        · have hj' : j < gc.row.length := by rw [HL.out]; exact hlt
          obtain ⟨b, off, rfl, _, hc⟩ := hri.node (k := j) hj'
          have q1 : (0 : Int) ≤ (j : Int) := by omega
          have q2 : (j : Int) < (L : Int) := by omega
          have q3 : (j : Int) ≤ 8 := by omega
          have HHit : Hid (live.contains gc.row[j] = true → scan live gc.row gc.at_ = some (gc.row[j], j + 1)) := Lib.hid (fun e => hin.out.2.2.trans (scan_hit hj' e))
          have HMiss : Hid (live.contains gc.row[j] = false → scan live gc.row gc.at_ = scan live gc.row (j + 1)) := Lib.hid (fun e => hin.out.2.2.trans (scan_miss hj' e))
          have hc' : wi.cell? ⟨b, off + j, none⟩ = some (.int .i64 gc.row[j]) := hc
          obtain ⟨x, hx⟩ : ∃ x, gc.row[j] = x := ⟨_, rfl⟩
          rw [hx] at hc' HHit HMiss
          have HSet : Hid (∀ q, RgIs false S ((wi.drewN q).setCell ⟨B, 1, none⟩ (.int .i64 ((j : Int) + 1))) B (some ⟨b, off, none⟩) c ⟨gc.row, j + 1⟩ ∧ But (· = B) wo ((wi.drewN q).setCell ⟨B, 1, none⟩ (.int .i64 ((j : Int) + 1)))) := Lib.hid (fun q => by
            have hri2 := hri.below (below_drewN (Below.refl _ wi) q)
            exact ⟨hri2.setAt (j + 1), (hin.out.2.1.drewN q).trans (But.set_ (· = B) _ B 1 _ rfl)⟩)
          clear hri hc hx hj'
          go_wp2
          go_quiet (fail)
          go_wp2
          go_quiet (fail)
          go_wp2_with fail
          refine (rhas_any A2 n2 c2 live x _ (hst.out.lst.but (HSet.out _).2 (fun k e => by rw [e]; exact HI.out.mine))).mono ?_
          rintro e w' ⟨rfl, rfl⟩
          cases hb : live.contains x with
          | true =>
            have HE := Lib.hid (hst.out.found hk (HHit.out hb))
            have HFk : Hid (Rg.ok ⟨gc.row, j + 1⟩) := Lib.hid ⟨HOk.out.once, HOk.out.nodes, by show j + 1 ≤ gc.row.length; rw [HL.out]; omega⟩
            clear hb
            go_wp2
            go_ret2
            unfold RNextP
            rw [HE.out.1, HE.out.2]
            exact ⟨rfl, ⟨HFk.out, _, _, (HSet.out _).1⟩, hst.out.dw.but (HSet.out _).2 (fun k e => by rw [e]; exact HI.out.mine) HNe.out, hst.out.but.trans ((HSet.out _).2.mono fun k e => .inl e)⟩
          | false =>
            have HE := Lib.hid (HMiss.out hb)
            clear hb
            go_wp2
            go_roundg (gk - 1)
            case rel => exact ⟨j + 1, by omega, Lib.hid ⟨(HSet.out _).1, (HSet.out _).2, HE.out⟩⟩
            case measure => omega
        · obtain rfl : j = L := by omega
          have HE : Hid (scan live gc.row gc.at_ = none) := Lib.hid (by
            rw [hin.out.2.2, ← HL.out]
            exact scan_end live gc.row)
          have q2 : ¬ (j : Int) < (j : Int) := by omega
          have HIn := hin
          have HDi : Hid (∀ q, RwAt S (wi.drewN q) bw dc) := Lib.hid (fun q => (hst.out.dw.but hin.out.2.1 (fun k e => by rw [e]; exact HI.out.mine) HNe.out).below (below_drewN (Below.refl _ wi) q))
          have HRi : Hid (∀ q, RgIs false S (wi.drewN q) B A c ⟨gc.row, j⟩) := Lib.hid (fun q => hri.below (below_drewN (Below.refl _ wi) q))
          have HSi : Hid (∀ i, S i → i < wi.heap.size) := Lib.hid (fun i hs => by have h1 := HS.out i hs; have h2 := hst.out.but.size; have h3 := hin.out.2.1.size; omega)
          clear hri
          by_cases hk0 : k = 0
          · subst hk0
            go_wp2
            go_quiet (fail)
            go_wp2_with fail
            obtain ⟨w1, hw1⟩ : ∃ w1, wi.drewN nq = w1 := ⟨_, rfl⟩
            have hD1 := HDi.out nq
            have hR1 := HRi.out nq
            rw [hw1] at hD1 hR1 ⊢
            have hsz1 : w1.heap.size = wi.heap.size := by rw [← hw1]; rfl
            have hB1 : But (· = B) wo w1 := by rw [← hw1]; exact HIn.out.2.1.drewN nq
            have HW1 := Lib.hid hw1
            have hor := rorder_any S bw dc (j : Int) w1 hD1
            have hdo := order_length (j : Int) dc
            have hone := order_once hD1.1.1 (j : Int)
            rw [sizeO_of (by omega)] at hdo hone
            obtain ⟨is, his⟩ : ∃ is, dc.order (j : Int) = is := ⟨_, rfl⟩
            obtain ⟨d2, hd2⟩ : ∃ d2, dc.afterO (j : Int) = d2 := ⟨_, rfl⟩
            rw [his] at hor hdo hone
            rw [hd2] at hor
            have HOr := Lib.hid hor
            have HIs := Lib.hid his
            have HD2 := Lib.hid hd2
            have HDo := Lib.hid hdo
            have HOne := Lib.hid hone.2
            have HR1 := Lib.hid hR1
            have HB1 := Lib.hid hB1
            have HS1 : Hid (∀ i, S i → i < w1.heap.size) := Lib.hid (fun i hs => by rw [hsz1]; exact HSi.out i hs)
            clear hw1 hD1 hR1 hB1 hor hdo hone his hd2 hsz1 co f1 cl
            refine HOr.out.mono ?_
            rintro e w2 ⟨⟨oA, oc, rfl, hov, _, hob⟩, hdw2, hbw2⟩
            rw [HDo.out] at hov ⊢
            have hR2 := HR1.out.but hbw2 (fun i e => by rw [e]; exact hdw2.2.1) (fun e => HNe.out e.symm)
            obtain ⟨g0, hg0⟩ : ∃ g0, w2.heap.size = g0 := ⟨_, rfl⟩
            have HG := Lib.hid hg0
            have HOv := Lib.hid hov
            have HR2 := Lib.hid hR2
            have HDw2 := Lib.hid hdw2
            have HB2 : Hid (But (fun i => i = B ∨ i = bw) wo w2) := Lib.hid ((HB1.out.mono fun i e => .inl e).trans (hbw2.mono fun i e => .inr e))
            have HS2 : Hid (∀ i, S i → i < g0) := Lib.hid (fun i hs => by have := HS1.out i hs; have := hbw2.size; omega)
            have cl : w2.cell? ⟨B, 0, none⟩ = some (.slice A j c) := by have := hR2.cl; rw [← HL.out]; rw [← HL.out] at this; exact this
            clear hov hob hdw2 hbw2 hR2 hg0
            go_wp2
            go_loopw [11, 12] (fun vv iv wb => ∃ (m : Nat) (A' : Option Addr) (c' : Nat), m ≤ j ∧ iv = .int .i64 (m : Int) ∧ vv = .slice A' m c' ∧ Hid (wb.ownsRow g0 3 1 (.slice A' m c') m ((pickL gc.row (is.take m)).map nV)) ∧ Hid (Below g0 w2 wb)) (fun _ iv _ => j - (intOf iv).toNat)
            case atStart => exact ⟨0, none, 0, Nat.zero_le _, rfl, rfl, Lib.hid (World.ownsRow_nil _ _ _ _), Lib.hid (Below.refl _ _)⟩
            case round =>
              obtain ⟨m, A', c', hm, rfl, rfl, hown, hbb⟩ := hrel
              have hbw : Below w2.heap.size w2 wr := by rw [HG.out]; exact hbb.out
              have hgs : g0 ≤ wr.heap.size := by rw [← HG.out]; exact hbw.size
              by_cases hml : m < j
              · have hm' : m < is.length := by rw [HDo.out]; exact hml
                obtain ⟨ob, oo, rfl, hobl, hoc⟩ := HOv.out.at_ hml
                rw [List.getElem_map] at hoc
                have hxl := HOne.out is[m] (List.getElem_mem hm')
                have hsn0 : (pickL gc.row (is.take (m + 1))).map nV = (pickL gc.row (is.take m)).map nV ++ [.int .i64 (gc.row.getD is[m] 0)] := by
                  rw [List.take_succ_eq_append_getElem hm']
                  unfold pickL
                  rw [List.map_append, List.map_append]
                  rfl
                obtain ⟨x, hx⟩ : ∃ x, is[m] = x := ⟨_, rfl⟩
                rw [hx] at hoc hxl hsn0
                have hxr : x < gc.row.length := by rw [HL.out]; exact hxl
                obtain ⟨b, off, rfl, hbl, hcz⟩ := HR2.out.node (k := x) hxr
                have hcz' : w2.cell? ⟨b, off + x, none⟩ = some (.int .i64 gc.row[x]) := hcz
                rw [show gc.row.getD x 0 = gc.row[x] by simp [List.getD, hxr]] at hsn0
                obtain ⟨z, hz⟩ : ∃ z, gc.row[x] = z := ⟨_, rfl⟩
                rw [hz] at hcz' hsn0
                unfold iV at hoc
                have HSn := Lib.hid hsn0
                have hg0' := HG.out
                have HCl : Hid (∀ w', Below g0 wr w' → w'.cell? ⟨B, 0, none⟩ = some (.slice (some ⟨b, off, none⟩) j c)) := Lib.hid (fun w' hb => ((hbb.out.trans hb).cell (p := ⟨B, 0, none⟩) (by have := HR2.out.lt; show B < g0; omega)).trans (by have := HR2.out.cl; rw [← HL.out]; exact this))
                have HCo : Hid (∀ w', Below g0 wr w' → w'.cell? ⟨ob, oo + m, none⟩ = some (.int .i64 (x : Int))) := Lib.hid (fun w' hb => ((hbb.out.trans hb).cell (p := ⟨ob, oo + m, none⟩) (by show ob < g0; omega)).trans hoc)
                have HCz : Hid (∀ w', Below g0 wr w' → w'.cell? ⟨b, off + x, none⟩ = some (.int .i64 z)) := Lib.hid (fun w' hb => ((hbb.out.trans hb).cell (p := ⟨b, off + x, none⟩) (by show b < g0; omega)).trans hcz')
                have HK : Hid ((0 : Int) ≤ (m : Int) ∧ (m : Int) < (j : Int) ∧ (x : Int) < (j : Int)) := Lib.hid ⟨by omega, by omega, by omega⟩
                have HOwn0 := hown
                have HGB : Hid (g0 ≤ wr.heap.size) := Lib.hid hgs
                clear hm' hobl hoc hsn0 hx hxr hbl hcz hcz' hz hg0' hbw cl hgs
                go_wp2
                refine Go.Rel.wp_region_acts (by kernel_rfl) (by kernel_rfl) (by kernel_rfl) (by kernel_rfl) (AccJ 3 g0 11 12 13 75 76 11 (.slice A' m c') m ((pickL gc.row (is.take m)).map nV) (.int .i64 z) wr) (But (Up g0)) (fun _ _ _ h k => h.trans k) ((But.refl _ _).drew) (AccJ.start HOwn0.out (by rfl)) (rnR (Up g0) B b off c ob oo oc j m x z A' c') (rnR_stable (Up g0) B b off c ob oo oc j m x z A' c') ?hs5 ?he5
                case hs5 =>
                  refine (.cons ?_ (.cons ?_ (.cons ?_ (.cons ?_ (.cons ?_ (.cons ?_ (.cons ?_ (.cons ?_ (.cons ?_ (.cons ?_ (.cons ?_ (.cons ?_ (.cons ?_ (.cons ?_ .nil))))))))))))))
                  · intro f a w' hI hf hanc hdesc hle hs' hd K hK
                    have f11 : a.tmps[11]? = some (.slice A' m c') := hI.slot (hdesc 12 13 (by kernel_rfl))
                    unfold Go.Rel.stepOf
                    go_simp
                    exact hK _ _ (But.refl _ _) (hI.keep (j := 0) (t := 64) (by decide) (by decide) _) rfl
                  · intro f a w' hI hf hanc hdesc hle hs' hd K hK
                    have f0 : a.tmps[0]? = some (.pointer (some ⟨B, 0, none⟩)) := hs'.2.2 0 (by kernel_rfl)
                    unfold Go.Rel.stepOf
                    go_simp
                    exact hK _ _ (But.refl _ _) (hI.keep (j := 1) (t := 65) (by decide) (by decide) _) rfl
                  · intro f a w' hI hf hanc hdesc hle hs' hd K hK
                    obtain ⟨_, t1, rfl⟩ := hd 1 65 (by kernel_rfl)
                    unfold Go.Rel.stepOf
                    go_simp
                    exact hK _ _ (But.refl _ _) (hI.keep (j := 2) (t := 66) (by decide) (by decide) _) rfl
                  · intro f a w' hI hf hanc hdesc hle hs' hd K hK
                    obtain ⟨_, t2, rfl⟩ := hd 2 66 (by kernel_rfl)
                    unfold Go.Rel.stepOf
                    go_simp
                    exact hK _ _ (But.refl _ _) (hI.keep (j := 3) (t := 67) (by decide) (by decide) _) rfl
                  · intro f a w' hI hf hanc hdesc hle hs' hd K hK
                    obtain ⟨_, t3, rfl⟩ := hd 3 67 (by kernel_rfl)
                    have cl := HCl.out w' hI.bel
                    unfold Go.Rel.stepOf
                    go_simp
                    exact hK _ _ (But.refl _ _) (hI.keep (j := 4) (t := 68) (by decide) (by decide) _) rfl
                  · intro f a w' hI hf hanc hdesc hle hs' hd K hK
                    have f10 : a.tmps[10]? = some (.slice (some ⟨ob, oo, none⟩) j oc) := hs'.2.2 10 (by kernel_rfl)
                    unfold Go.Rel.stepOf
                    go_simp
                    exact hK _ _ (But.refl _ _) (hI.keep (j := 5) (t := 69) (by decide) (by decide) _) rfl
                  · intro f a w' hI hf hanc hdesc hle hs' hd K hK
                    have f12 : a.tmps[12]? = some (.int .i64 (m : Int)) := hs'.2.2 12 (by kernel_rfl)
                    unfold Go.Rel.stepOf
                    go_simp
                    exact hK _ _ (But.refl _ _) (hI.keep (j := 6) (t := 70) (by decide) (by decide) _) rfl
                  · intro f a w' hI hf hanc hdesc hle hs' hd K hK
                    obtain ⟨_, t5, rfl⟩ := hd 5 69 (by kernel_rfl)
                    obtain ⟨_, t6, rfl⟩ := hd 6 70 (by kernel_rfl)
                    have q1 := HK.out.1
                    have q2 := HK.out.2.1
                    unfold Go.Rel.stepOf
                    go_simp
                    exact hK _ _ (But.refl _ _) (hI.keep (j := 7) (t := 71) (by decide) (by decide) _) rfl
                  · intro f a w' hI hf hanc hdesc hle hs' hd K hK
                    obtain ⟨_, t7, rfl⟩ := hd 7 71 (by kernel_rfl)
                    have cc := HCo.out w' hI.bel
                    unfold Go.Rel.stepOf
                    go_simp
                    exact hK _ _ (But.refl _ _) (hI.keep (j := 8) (t := 72) (by decide) (by decide) _) rfl
                  · intro f a w' hI hf hanc hdesc hle hs' hd K hK
                    obtain ⟨_, t4, rfl⟩ := hd 4 68 (by kernel_rfl)
                    obtain ⟨_, t8, rfl⟩ := hd 8 72 (by kernel_rfl)
                    have q3 := HK.out.2.2
                    unfold Go.Rel.stepOf
                    go_simp
                    exact hK _ _ (But.refl _ _) (hI.keep (j := 9) (t := 73) (by decide) (by decide) _) rfl
                  · intro f a w' hI hf hanc hdesc hle hs' hd K hK
                    obtain ⟨_, t9, rfl⟩ := hd 9 73 (by kernel_rfl)
                    have cz := HCz.out w' hI.bel
                    unfold Go.Rel.stepOf
                    go_simp
                    exact hK _ _ (But.refl _ _) (hI.keep (j := 10) (t := 74) (by decide) (by decide) _) rfl
                  · intro f a w' hI hf hanc hdesc hle hs' hd K hK
                    obtain ⟨_, t10, rfl⟩ := hd 10 74 (by kernel_rfl)
                    have zA : f 12 = false := hdesc 12 12 (by kernel_rfl)
                    have zS : f 13 = false := hdesc 12 13 (by kernel_rfl)
                    unfold Go.Rel.stepOf
                    go_simp
                    exact hK _ _ (But.up ((Below.refl _ _).alloc (Nat.le_trans HGB.out hI.bel.size) _)) (AccJ.lay hI HGB.out (by decide) zA zS) trivial
                  · intro f a w' hI hf hanc hdesc hle hs' hd K hK
                    obtain ⟨_, t0, rfl⟩ := hd 0 64 (by kernel_rfl)
                    obtain ⟨_, t11, _⟩ := hd 11 75 (by kernel_rfl)
                    have zB : f 11 = true := hanc 12 11 (by kernel_rfl)
                    have zS : f 13 = false := hdesc 12 13 (by kernel_rfl)
                    obtain ⟨v3, w3, hr3, hb3, hJ3⟩ := hI.append (P := Try.prog) HGB.out (by decide) zB hf zS 27 27 i0 (.int .i64 0) 8 Try.underlying27 hi hz0 hz1 hz2 rfl rfl (by unfold maxLen; omega) (by omega) t11
                    exact acc_stepOf_append (.tmp 64) (.tmp 75) 27 rfl rfl (by simp [Act.eval, t0]) (by simp [Act.eval, t11]) hr3 (hK _ _ hb3 hJ3 trivial)
                  · intro f a w' hI hf hanc hdesc hle hs' hd K hK
                    obtain ⟨_, t12, _⟩ := hd 12 76 (by kernel_rfl)
                    unfold Go.Rel.stepOf
                    go_simp
                    exact hK _ _ (But.refl _ _) (hI.set (by decide) (by decide) (hanc 12 12 (by kernel_rfl)) t12) trivial
                case he5 =>
                  intro f a w5 hall hJ hle hs' hR'
                  obtain ⟨v11, s11, _⟩ := hR' 13 11 (by kernel_rfl)
                  have ho5 := hJ.fin (hall 13 (by decide)) _ s11
                  obtain ⟨A5, c5, rfl, _⟩ := RV.own ho5
                  have HO5 := Lib.hid ho5
                  have HB5 := Lib.hid hJ.bel
                  clear ho5 hJ hall hle
                  obtain ⟨v64, s64, _⟩ := hR' 0 64 (by kernel_rfl)
                  obtain ⟨v65, s65, _⟩ := hR' 1 65 (by kernel_rfl)
                  obtain ⟨v66, s66, _⟩ := hR' 2 66 (by kernel_rfl)
                  obtain ⟨v67, s67, _⟩ := hR' 3 67 (by kernel_rfl)
                  obtain ⟨v68, s68, _⟩ := hR' 4 68 (by kernel_rfl)
                  obtain ⟨v69, s69, _⟩ := hR' 5 69 (by kernel_rfl)
                  obtain ⟨v70, s70, _⟩ := hR' 6 70 (by kernel_rfl)
                  obtain ⟨v71, s71, _⟩ := hR' 7 71 (by kernel_rfl)
                  obtain ⟨v72, s72, _⟩ := hR' 8 72 (by kernel_rfl)
                  obtain ⟨v73, s73, _⟩ := hR' 9 73 (by kernel_rfl)
                  obtain ⟨v74, s74, _⟩ := hR' 10 74 (by kernel_rfl)
                  obtain ⟨v75, s75, _⟩ := hR' 11 75 (by kernel_rfl)
                  obtain ⟨v76, s76, _⟩ := hR' 12 76 (by kernel_rfl)
                  have e := hs'.shape
                  simp only [List.toList_toArray, List.foldl, Go.Rel.reset, Array.getD_eq_getD_getElem?, s64, s65, s66, s67, s68, s69, s70, s71, s72, s73, s74, s75, s76, s11, Option.getD_some] at e
                  simp at e
                  clear hR' hs' s64 s65 s66 s67 s68 s69 s70 s71 s72 s73 s74 s75 s76 s11
                  subst e
                  rw [← HSn.out] at HO5
                  have HB6 : Hid (Below g0 w2 w5) := Lib.hid (hbb.out.trans HB5.out)
                  go_wp2
                  go_roundw
                  case rel => exact ⟨m + 1, A5, c5, by omega, by go_num, rfl, HO5, HB6⟩
                  case measure => simp [intOf]; omega
              · obtain rfl : m = j := by omega
                have hRw := HR2.out.below hbw
                have hp : pickL gc.row (is.take m) = (gc.again dc).row := by
                  rw [List.take_of_length_le (by rw [HDo.out]; exact Nat.le_refl _), ← HIs.out, ← HL.out]
                  rfl
                have hown' := hown.out
                rw [hp] at hown'
                obtain ⟨A9, c9, e9, hR, hnil, hnc, hmx, hbase⟩ := RV.own hown'
                simp only [Value.slice.injEq, true_and] at e9
                obtain ⟨rfl, rfl⟩ := e9
                have hpl : (gc.again dc).row.length = m := by
                  rw [← hp, pickL_length, List.length_take, HDo.out]
                  omega
                have h5 := hRw.setRow (A' := A') (c' := c') (row := (gc.again dc).row) (by
                  rw [hpl]
                  exact ⟨hR, fun b off e _ hs => by have h1 := hbase b off e; have h2 := HS2.out b hs; omega⟩) (by omega) hmx hnil
                have h6 := h5.setAt 0
                rw [hpl] at h6
                have hset : But (· = B) wr ((wr.setCell ⟨B, 0, none⟩ (.slice A' m c')).setCell ⟨B, 1, none⟩ (.int .i64 0)) := (But.set_ (· = B) wr B 0 _ rfl).trans (But.set_ (· = B) _ B 1 _ rfl)
                have hhow := hst.out.how
                have e1 : gc = g ∧ dc = d := by
                  rcases hhow with ⟨_, h1, h2⟩ | ⟨h0, _⟩ | ⟨h0, _⟩
                  · exact ⟨h1, h2⟩
                  · omega
                  · omega
                obtain ⟨rfl, rfl⟩ := e1
                have hbut : But (fun i => i = B ∨ i = bw) wo ((wr.setCell ⟨B, 0, none⟩ (.slice A' m c')).setCell ⟨B, 1, none⟩ (.int .i64 0)) := (HB2.out.trans (But.of_below hbw)).trans (hset.mono fun i e => .inl e)
                have HNext : Hid (RnSt S B bw A2 n2 c2 live gc dc w 1 (gc.again dc) d2 ((wr.setCell ⟨B, 0, none⟩ (.slice A' m c')).setCell ⟨B, 1, none⟩ (.int .i64 0))) := Lib.hid ⟨⟨Rg.again_ok HOk.out hst.out.dw.1.1, A', c', h6⟩, (HDw2.out.below hbw).but hset (fun i e => by rw [e]; exact HR2.out.mine) HNe.out, hst.out.lst.but hbut (fun i e => e.elim (fun e => by rw [e]; exact HR2.out.mine) (fun e => by rw [e]; exact HDw2.out.2.1)), hst.out.but.trans hbut, .inr (.inl ⟨rfl, rfl, by rw [← HD2.out, ← HL.out], HE.out⟩)⟩
                have cl2 : wr.cell? ⟨B, 0, none⟩ = some (.slice A m c) := by have := hRw.cl; rw [← HL.out]; rw [← HL.out] at this; exact this
                have co2 : wr.cell? ⟨B, 1, none⟩ = some (.int .i64 (m : Int)) := hRw.co
                have f0 : wr.frozen? ⟨B, 0, none⟩ = false := hRw.froz 0
                have f1 : wr.frozen? ⟨B, 1, none⟩ = false := hRw.froz 1
                clear hRw hp hown' hR hbase hpl h5 h6 hset hhow hbut hbw cl
                go_wp2
                go_roundw
                case rel => exact ⟨1, gc.again dc, d2, by omega, by go_num, HNext⟩
                case measure => simp [intOf]
          · have hk1 : k = 1 := by omega
            subst hk1
            have HNext : Hid (∀ q, RnSt S B bw A2 n2 c2 live g d w 2 ⟨gc.row, gc.row.length⟩ dc (wi.drewN q)) := Lib.hid (fun q => by
              have hbut : But (fun i => i = B ∨ i = bw) wo (wi.drewN q) := (HIn.out.2.1.mono fun i e => .inl e).drewN q
              refine ⟨⟨Rg.at_end HOk.out, A, c, by have := HRi.out q; rw [HL.out]; exact this⟩, HDi.out q, hst.out.lst.but hbut (fun i e => e.elim (fun e => by rw [e]; exact HI.out.mine) (fun e => by rw [e]; exact hst.out.dw.2.1)), hst.out.but.trans hbut, ?_⟩
              rcases hst.out.how with ⟨h0, _⟩ | ⟨_, h1, h2, h3⟩ | ⟨h0, _⟩
              · omega
              · refine .inr (.inr ⟨rfl, by rw [h1], h2, h3, ?_⟩)
                have := HE.out
                rw [h1] at this
                exact this
              · omega)
            go_wp2
            go_quiet (fail)
            go_wp2
            go_roundw
            case rel => exact ⟨2, _, _, by omega, by go_num, Lib.hid (HNext.out _)⟩
            case measure => simp [intOf]
    · have hk2' : k = 2 := by omega
      have HE := Lib.hid (hst.out.none_ hk2')
      subst hk2'
      go_wp2
      go_ret2
      unfold RNextP
      rw [HE.out.1, HE.out.2]
      exact ⟨rfl, hst.out.ring, hst.out.dw, hst.out.but⟩
end Go.Proofs.Ytckeknhoimgccaa
