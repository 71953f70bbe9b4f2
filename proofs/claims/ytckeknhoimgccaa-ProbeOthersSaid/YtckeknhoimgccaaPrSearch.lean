/-
  The search of the program's Next (a closure), and begin's plain part, walked (layer 12).
-/
import Derived.Test.YtckeknhoimgccaaPrApp
import Derived.Deep.LoopGhost
namespace Go.Proofs.Ytckeknhoimgccaa
open Go.RowKit
set_option linter.unusedSimpArgs false
set_option linter.unusedVariables false

/-- What a search tells, and the ring behind it. -/
def foundV : Option (Int × Nat) → Value
  | some (x, _) => .tuple #[.int .i64 x, .bool true]
  | none => .tuple #[.int .i64 0, .bool false]
def foundG (g : Rg) : Option (Int × Nat) → Rg
  | some (_, k) => ⟨g.row, k⟩
  | none => ⟨g.row, g.row.length⟩
theorem foundG_ok {g : Rg} (h : g.ok) (live : List Int) : (foundG g (scan live g.row g.at_)).ok := by
  cases hs : scan live g.row g.at_ with
  | none => exact Rg.at_end h
  | some xk => exact ⟨h.once, h.nodes, (scan_some hs).2.2.1⟩
set_option maxHeartbeats 4000000 in
set_option maxRecDepth 100000 in
theorem search_any {S : Nat → Prop} {B X0 X1 : Nat} {g : Rg} (A2 : Option Addr) (n2 c2 : Nat) (live : List Int) (w : World) (h : RgAt true S w B g) (hl : Lst S w A2 n2 c2 live)
    (h0 : w.heap[X0]? = some (.cells #[.pointer (some ⟨B, 0, none⟩)] 24 (0, 0))) (h1 : w.heap[X1]? = some (.cells #[.slice A2 n2 c2] 27 (0, 0))) (hX : X0 ≠ B ∧ X1 ≠ B) :
    Calls Try.prog 30 #[.pointer (some ⟨X0, 0, none⟩), .pointer (some ⟨X1, 0, none⟩)] w fun e w' => e = .returned (foundV (scan live g.row g.at_)) ∧ RgAt true S w' B (foundG g (scan live g.row g.at_)) ∧ But (· = B) w w' := by
  have HFok := Lib.hid (foundG_ok h.1 live)
  obtain ⟨hok, A, c, hi⟩ := h
  have hf := Rg.few hok
  have hpos := hok.pos
  have HI := Lib.hid hi
  have HLv := Lib.hid hl
  have H0 := Lib.hid h0
  have H1 := Lib.hid h1
  have HX := Lib.hid hX
  obtain ⟨L, hL⟩ : ∃ L, g.row.length = L := ⟨_, rfl⟩
  rw [hL] at hf hpos
  have HL := Lib.hid hL
  clear hok hi hl h0 h1 hX hL
  go_enter Try.func30, Try.ntmps30
  go_wp2
  go_loopg [4] (L - g.at_) (fun q _ wr => ∃ j : Nat, j + q = L ∧ Hid (RgIs true S wr B A c ⟨g.row, j⟩ ∧ But (· = B) w wr ∧ scan live g.row g.at_ = scan live g.row j))
  case atStart => exact ⟨g.at_, by omega, Lib.hid ⟨HI.out, But.refl _ _, rfl⟩⟩
  case round =>
    obtain ⟨j, hj, hst⟩ := hrel
    have hri := hst.out.1
    have cl : wr.cell? ⟨B, 1, none⟩ = some (.slice A L c) := by have := hri.cl; rw [← HL.out]; exact this
    have co : wr.cell? ⟨B, 2, none⟩ = some (.int .i64 (j : Int)) := hri.co
    have f2 : wr.frozen? ⟨B, 2, none⟩ = false := hri.froz 2
    have k0 : wr.heap[X0]? = some (.cells #[.pointer (some ⟨B, 0, none⟩)] 24 (0, 0)) := (hst.out.2.1.block X0 (block_lt H0.out) HX.out.1).trans H0.out
    have k1 : wr.heap[X1]? = some (.cells #[.slice A2 n2 c2] 27 (0, 0)) := (hst.out.2.1.block X1 (block_lt H1.out) HX.out.2).trans H1.out
    have c0 : wr.cell? ⟨X0, 0, none⟩ = some (.pointer (some ⟨B, 0, none⟩)) := by rw [cell_of_row _ _ _ _ _ _ k0]; rfl
    have c1 : wr.cell? ⟨X1, 0, none⟩ = some (.slice A2 n2 c2) := by rw [cell_of_row _ _ _ _ _ _ k1]; rfl
    by_cases hlt : j < L
    · have hj' : j < g.row.length := by rw [HL.out]; exact hlt
      obtain ⟨b, off, rfl, _, hc⟩ := hri.node (k := j) hj'
      have HLw := Lib.hid (HLv.out.but (hst.out.2.1) (fun k e => by rw [e]; exact HI.out.mine))
      have q1 : (0 : Int) ≤ (j : Int) := by omega
      have q2 : (j : Int) < (L : Int) := by omega
      have q3 : (j : Int) ≤ 8 := by omega
      have HXb := Lib.hid (show X0 ≠ B ∧ X1 ≠ B from HX.out)
      have n0 := HX.out.1
      have n1 := HX.out.2
      have HHit : Hid (live.contains g.row[j] = true → scan live g.row g.at_ = some (g.row[j], j + 1)) := Lib.hid (fun e => hst.out.2.2.trans (scan_hit hj' e))
      have HMiss : Hid (live.contains g.row[j] = false → scan live g.row g.at_ = scan live g.row (j + 1)) := Lib.hid (fun e => hst.out.2.2.trans (scan_miss hj' e))
      have hc' : wr.cell? ⟨b, off + j, none⟩ = some (.int .i64 g.row[j]) := hc
      obtain ⟨x, hx⟩ : ∃ x, g.row[j] = x := ⟨_, rfl⟩
      rw [hx] at hc' HHit HMiss
      have HSet : Hid (∀ q, RgIs true S ((wr.drewN q).setCell ⟨B, 2, none⟩ (.int .i64 ((j : Int) + 1))) B (some ⟨b, off, none⟩) c ⟨g.row, j + 1⟩ ∧ But (· = B) w ((wr.drewN q).setCell ⟨B, 2, none⟩ (.int .i64 ((j : Int) + 1)))) := Lib.hid (fun q => by
        have hri2 := hri.below (below_drewN (Below.refl _ wr) q)
        exact ⟨hri2.setAt (j + 1), (hst.out.2.1.drewN q).trans (But.set_ _ _ B 2 _ rfl)⟩)
      clear hri hc hx hj' k0 k1
      go_wp2
      go_quiet (fail)
      go_wp2
      go_quiet (fail)
      go_wp2_with fail
      refine (contains_any A2 n2 c2 live x _ (HLv.out.but (HSet.out _).2 (fun k e => by rw [e]; exact HI.out.mine))).mono ?_
      rintro e w' ⟨rfl, rfl⟩
      cases hb : live.contains x with
      | true =>
        have HE := Lib.hid (HHit.out hb)
        have HFk : Hid (Rg.ok ⟨g.row, j + 1⟩) := Lib.hid (by have := HFok.out; rw [HE.out] at this; exact this)
        clear hb
        go_wp2
        go_ret2
        rw [HE.out]
        exact ⟨rfl, ⟨HFk.out, _, _, (HSet.out _).1⟩, (HSet.out _).2⟩
      | false =>
        have HE := Lib.hid (HMiss.out hb)
        clear hb
        go_wp2
        go_roundg (gk - 1)
        case rel => exact ⟨j + 1, by omega, Lib.hid ⟨(HSet.out _).1, (HSet.out _).2, HE.out⟩⟩
        case measure => omega
    · obtain rfl : j = L := by omega
      have HE : Hid (scan live g.row g.at_ = none) := Lib.hid (by
        rw [hst.out.2.2, ← HL.out]
        exact scan_end live g.row)
      have HFk : Hid (Rg.ok ⟨g.row, g.row.length⟩) := Lib.hid (by have := HFok.out; rw [HE.out] at this; exact this)
      have HFin : Hid (∀ q, RgIs true S (wr.drewN q) B A c ⟨g.row, g.row.length⟩ ∧ But (· = B) w (wr.drewN q)) := Lib.hid (fun q => by
        have hri2 := hri.below (below_drewN (Below.refl _ wr) q)
        rw [HL.out]
        exact ⟨hri2, hst.out.2.1.drewN q⟩)
      have q2 : ¬ (j : Int) < (j : Int) := by omega
      have n0 := HX.out.1
      have n1 := HX.out.2
      clear hri k0 k1
      go_wp2
      go_quiet (fail)
      go_wp2
      go_ret2
      rw [HE.out]
      exact ⟨rfl, ⟨HFk.out, _, _, (HFin.out _).1⟩, (HFin.out _).2⟩
end Go.Proofs.Ytckeknhoimgccaa
