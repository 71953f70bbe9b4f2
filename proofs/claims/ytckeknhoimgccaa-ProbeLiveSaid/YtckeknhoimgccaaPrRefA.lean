/-
  The document's Has, Remove, walked (layer 12).
-/
import Derived.Test.YtckeknhoimgccaaPrApp
namespace Go.Proofs.Ytckeknhoimgccaa
open Go.RowKit
set_option linter.unusedSimpArgs false
set_option linter.unusedVariables false

set_option maxHeartbeats 1000000 in
theorem rhas_any {S : Nat → Prop} (A : Option Addr) (n c : Nat) (xs : List Int) (x : Int) (w : World) (h : Lst S w A n c xs) :
    Calls Try.prog 24 #[.slice A n c, .int .i64 x] w fun e w' => e = .returned (.bool (xs.contains x)) ∧ w = w' := by
  have hm := h.max
  have H := Lib.hid h
  have HL := Lib.hid h.len
  obtain ⟨bb, hbb⟩ : ∃ bb, xs.contains x = bb := ⟨_, rfl⟩
  rw [hbb]
  have HBB := Lib.hid hbb
  clear h hbb
  go_enter Try.func24, Try.ntmps24
  go_wp2
  go_loop [5] (fun iv => ∃ k : Nat, k ≤ n ∧ iv = .int .i64 (k : Int) ∧ Hid ((xs.take k).contains x = false)) (fun iv => n - (intOf iv).toNat)
  case atStart => exact ⟨0, Nat.zero_le _, rfl, Lib.hid (by simp)⟩
  case round =>
    obtain ⟨k, hk, rfl, hno⟩ := hrel
    by_cases hlt : k < n
    · have hk' : k < xs.length := by rw [HL.out]; exact hlt
      obtain ⟨b, off, rfl, _, hc⟩ := H.out.node hlt
      by_cases hx : xs[k] = x
      · have HE : Hid (xs.contains x = true) := Lib.hid (idxI_at hk' hno.out hx).1
        rw [hx] at hc
        clear hx hk'
        go_wp2
        go_ret
        rw [show bb = true from HBB.out.symm.trans HE.out]
        exact ⟨rfl, rfl⟩
      · have HNo : Hid ((xs.take (k + 1)).contains x = false) := Lib.hid (contains_snoc hk' hno.out hx)
        have hx2 : (xs[k] == x) = false := by rw [beq_eq_false_iff_ne]; exact hx
        obtain ⟨y, hy⟩ : ∃ y, xs[k] = y := ⟨_, rfl⟩
        rw [hy] at hc hx2
        clear hx hk' hy
        go_wp2
        go_round
        case rel => exact ⟨k + 1, by omega, by go_num, HNo⟩
        case measure => simp [intOf]; omega
    · obtain rfl : k = n := by omega
      have HE : Hid (xs.contains x = false) := Lib.hid (by
        have h1 := hno.out
        rw [List.take_of_length_le (by rw [HL.out]; exact Nat.le_refl _)] at h1
        exact h1)
      go_wp2
      go_ret
      rw [show bb = false from HBB.out.symm.trans HE.out]
      exact ⟨rfl, rfl⟩
/-- How many places it must go back: 0 or 1. -/
def lessOf (row : List Int) (at_ : Nat) (n : Int) (k : Nat) : Nat := if (row.take k).contains n = true ∧ (row.take k).idxOf n < at_ then 1 else 0
def keptOf (row : List Int) (n : Int) (k : Nat) : List Int := (row.take k).filter fun y => !(y == n)
theorem kept_hit {row : List Int} {n : Int} {k : Nat} (hk : k < row.length) (h : row[k] = n) : keptOf row n (k + 1) = keptOf row n k := by
  unfold keptOf
  rw [List.take_succ_eq_append_getElem hk, List.filter_append, h]
  simp
theorem kept_miss {row : List Int} {n : Int} {k : Nat} (hk : k < row.length) (h : row[k] ≠ n) : keptOf row n (k + 1) = keptOf row n k ++ [row[k]] := by
  unfold keptOf
  rw [List.take_succ_eq_append_getElem hk, List.filter_append]
  have : (row[k] == n) = false := by rw [beq_eq_false_iff_ne]; exact h
  simp [this]
theorem has_hit {row : List Int} {n : Int} {k : Nat} (hk : k < row.length) (h : row[k] = n) : (row.take (k + 1)).contains n = true := by
  rw [List.take_succ_eq_append_getElem hk, h]
  simp
theorem has_miss {row : List Int} {n : Int} {k : Nat} (hk : k < row.length) (h : row[k] ≠ n) : (row.take (k + 1)).contains n = (row.take k).contains n := by
  have hm : ∀ l : List Int, l.contains n = decide (n ∈ l) := fun l => by
    by_cases e : n ∈ l
    · simp [e]
    · simp [e]
  have h' : ¬ n = row[k] := fun e => h e.symm
  have e : n ∈ row.take (k + 1) ↔ n ∈ row.take k := by
    rw [List.take_succ_eq_append_getElem hk, List.mem_append, List.mem_singleton]
    exact ⟨fun e => e.resolve_right h', Or.inl⟩
  rw [hm, hm, decide_eq_decide.2 e]
theorem less_hit {row : List Int} (hd : row.Nodup) {at_ : Nat} {n : Int} {k : Nat} (hk : k < row.length) (h : row[k] = n) : lessOf row at_ n (k + 1) = if k < at_ then 1 else 0 := by
  have hn : n ∉ row.take k := fun hm => by
    obtain ⟨j, hj, e⟩ := List.mem_iff_getElem.1 hm
    rw [List.length_take] at hj
    rw [List.getElem_take] at e
    exact List.pairwise_iff_getElem.1 hd j k (by omega) hk (by omega) (e.trans h.symm)
  have hi : (row.take (k + 1)).idxOf n = k := by
    rw [List.take_succ_eq_append_getElem hk, List.idxOf_append, if_neg hn, h, List.idxOf_cons_self, List.length_take]
    omega
  unfold lessOf
  rw [has_hit hk h, hi]
  simp
theorem less_miss {row : List Int} {at_ : Nat} {n : Int} {k : Nat} (hk : k < row.length) (h : row[k] ≠ n) : lessOf row at_ n (k + 1) = lessOf row at_ n k := by
  unfold lessOf
  rw [has_miss hk h]
  by_cases hc : (row.take k).contains n = true
  · have hm : n ∈ row.take k := by simpa using hc
    have hi : (row.take (k + 1)).idxOf n = (row.take k).idxOf n := by
      rw [List.take_succ_eq_append_getElem hk, List.idxOf_append, if_pos hm]
    rw [hi]
  · have : ¬ ((row.take k).contains n = true ∧ (row.take (k + 1)).idxOf n < at_) := fun e => hc e.1
    have h2 : ¬ ((row.take k).contains n = true ∧ (row.take k).idxOf n < at_) := fun e => hc e.1
    rw [if_neg this, if_neg h2]
theorem less_le {g : Rg} (hg : g.ok) (n : Int) : lessOf g.row g.at_ n g.row.length ≤ g.at_ ∧ g.remove n = ⟨keptOf g.row n g.row.length, g.at_ - lessOf g.row g.at_ n g.row.length⟩ := by
  unfold lessOf keptOf Rg.remove
  rw [List.take_length]
  by_cases h : g.row.idxOf n < g.at_ ∧ g.row.contains n = true
  · rw [if_pos h, if_pos ⟨h.2, h.1⟩]
    exact ⟨by omega, rfl⟩
  · rw [if_neg h, if_neg (fun e => h ⟨e.2, e.1⟩)]
    exact ⟨Nat.zero_le _, rfl⟩
set_option maxHeartbeats 4000000 in
theorem rremove_any {S : Nat → Prop} {B : Nat} {g : Rg} (n : Int) (w : World) (h : RgAt false S w B g) (hS : ∀ k, S k → k < w.heap.size) :
    Calls Try.prog 14 #[.pointer (some ⟨B, 0, none⟩), .int .i64 n] w fun e w' => e = .returned (.bool (g.row.contains n)) ∧ RgAt false S w' B (g.remove n) ∧ But (· = B) w w' := by
  obtain ⟨i0, hi, hz0, hz1, hz2⟩ := info_parts int_info
  have HRok := Lib.hid (Rg.remove_ok h.1 n)
  have HLe := Lib.hid (less_le h.1 n)
  have HNd := Lib.hid h.1.once
  have HAll := Lib.hid (show g.row.take g.row.length = g.row from List.take_length)
  obtain ⟨hok, A, c, hri⟩ := h
  have hf := Rg.few hok
  have hpos := hok.pos
  have HI := Lib.hid hri
  have HSt := Lib.hid hS
  obtain ⟨g0, hg⟩ : ∃ g0, w.heap.size = g0 := ⟨_, rfl⟩
  have HG := Lib.hid hg
  obtain ⟨L, hL⟩ : ∃ L, g.row.length = L := ⟨_, rfl⟩
  rw [hL] at hf hpos HLe
  have HL := Lib.hid hL
  obtain ⟨b0, hb0⟩ : ∃ b0, g.row.contains n = b0 := ⟨_, rfl⟩
  rw [hb0]
  have HB0 := Lib.hid hb0
  clear hok hri hS hg hL hb0
  go_enter Try.func14, Try.ntmps14
  go_wp2
  go_loopw [5, 6, 7, 8] (fun vv bv lv iv wr => ∃ (k m z : Nat) (bb : Bool) (A' : Option Addr) (c' : Nat), k ≤ L ∧ m ≤ k ∧ z ≤ g.at_ ∧ iv = .int .i64 (k : Int) ∧ vv = .slice A' m c' ∧ bv = .bool bb ∧ lv = .int .i64 (z : Int) ∧ Hid ((g.row.take k).contains n = bb ∧ lessOf g.row g.at_ n k = z ∧ (keptOf g.row n k).length = m) ∧ Hid (wr.ownsRow g0 3 1 (.slice A' m c') m ((keptOf g.row n k).map nV)) ∧ Hid (Below g0 w wr)) (fun _ _ _ iv _ => L - (intOf iv).toNat)
  case atStart => exact ⟨0, 0, 0, false, none, 0, Nat.zero_le _, Nat.le_refl _, Nat.zero_le _, rfl, rfl, rfl, rfl, Lib.hid ⟨by simp, by simp [lessOf], rfl⟩, Lib.hid (World.ownsRow_nil _ _ _ _), Lib.hid (Below.refl _ _)⟩
  case round =>
    obtain ⟨k, m, z, bb, A', c', hk, hmk, hz, rfl, rfl, rfl, rfl, hst, hown, hb⟩ := hrel
    have hbw : Below w.heap.size w wr := by rw [HG.out]; exact hb.out
    have hgs : g0 ≤ wr.heap.size := by rw [← HG.out]; exact hbw.size
    have hri := HI.out.below hbw
    have cl : wr.cell? ⟨B, 0, none⟩ = some (.slice A L c) := by have := hri.cl; rw [HL.out] at this; exact this
    have co : wr.cell? ⟨B, 1, none⟩ = some (.int .i64 (g.at_ : Int)) := hri.co
    have HRi := Lib.hid hri
    by_cases hlt : k < L
    · have hk' : k < g.row.length := by rw [HL.out]; exact hlt
      obtain ⟨b, off, rfl, _, hc1⟩ := hri.node hk'
      have q1 : (k : Int) < (L : Int) := by omega
      have q2 : (0 : Int) ≤ (k : Int) := by omega
      by_cases hx : g.row[k] = n
      · have h1 := kept_hit hk' hx
        have h2 := less_hit HNd.out (at_ := g.at_) hk' hx
        have h3 := has_hit hk' hx
        have HO1 : Hid (wr.ownsRow g0 3 1 (.slice A' m c') m ((keptOf g.row n (k + 1)).map nV)) := Lib.hid (by rw [h1]; exact hown.out)
        by_cases hat : k < g.at_
        · have HSt1 : Hid ((g.row.take (k + 1)).contains n = true ∧ lessOf g.row g.at_ n (k + 1) = 1 ∧ (keptOf g.row n (k + 1)).length = m) := Lib.hid ⟨h3, by rw [h2, if_pos hat], by rw [h1]; exact hst.out.2.2⟩
          rw [hx] at hc1
          clear h1 h2 h3 hx hk' hbw hri
          go_wp2
          go_roundw
          case rel => exact ⟨k + 1, m, 1, true, A', c', by omega, by omega, by omega, by go_num, rfl, rfl, rfl, HSt1, HO1, hb⟩
          case measure => simp [intOf]; omega
        · have hnot : (g.row.take k).contains n = false := by
            cases hc : (g.row.take k).contains n with
            | false => rfl
            | true =>
              exfalso
              obtain ⟨j, hj, e⟩ := List.mem_iff_getElem.1 (List.contains_iff_mem.1 hc)
              rw [List.length_take] at hj
              rw [List.getElem_take] at e
              exact List.pairwise_iff_getElem.1 HNd.out j k (by omega) hk' (by omega) (e.trans hx.symm)
          have hz0' : z = 0 := by
            rw [← hst.out.2.1]
            unfold lessOf
            rw [hnot]
            rfl
          have HSt1 : Hid ((g.row.take (k + 1)).contains n = true ∧ lessOf g.row g.at_ n (k + 1) = z ∧ (keptOf g.row n (k + 1)).length = m) := Lib.hid ⟨h3, by rw [h2, if_neg hat, hz0'], by rw [h1]; exact hst.out.2.2⟩
          rw [hx] at hc1
          clear h1 h2 h3 hx hk' hbw hri hnot hz0'
          go_wp2
          go_roundw
          case rel => exact ⟨k + 1, m, z, true, A', c', by omega, by omega, by omega, by go_num, rfl, rfl, rfl, HSt1, HO1, hb⟩
          case measure => simp [intOf]; omega
      · have h1 := kept_miss hk' hx
        have h2 := less_miss (at_ := g.at_) hk' hx
        have h3 := has_miss hk' hx
        have HSt1 : Hid ((g.row.take (k + 1)).contains n = bb ∧ lessOf g.row g.at_ n (k + 1) = z) := Lib.hid ⟨h3.trans hst.out.1, h2.trans hst.out.2.1⟩
        have hx2 : (g.row[k] == n) = false := by rw [beq_eq_false_iff_ne]; exact hx
        obtain ⟨y, hy⟩ : ∃ y, g.row[k] = y := ⟨_, rfl⟩
        rw [hy] at hc1 h1 hx2
        have HH := Lib.hid h1
        clear h1 h2 h3 hx hk' hbw hri hy
        go_wp2_with (at_builtin; refine wpList_append_val rfl (.tmp 27) (.tmp 35) 27 rfl g0 3 i0 (.int .i64 0) 8 Try.underlying27 hi hz0 hz1 hz2 rfl (.slice A' m c') m ((keptOf g.row n k).map nV) rfl hown.out (.int .i64 y) _ rfl rfl ?c1 ?c2 ?c3 ?_)
        case c1 => unfold maxLen; omega
        case c2 => omega
        case c3 => exact hgs
        refine Lib.hid ?_
        intro v1 w1 hown1 hg1
        have hb1 : Below g0 w w1 := (hb.out.alloc hgs _).grown hg1 (by simp; omega) (fun j hj => (hown.out.lt j hj).1)
        have HB1 := Lib.hid hb1
        have e1 : (keptOf g.row n (k + 1)).map nV = (keptOf g.row n k).map nV ++ [.int .i64 y] := by rw [HH.out, List.map_append]; rfl
        rw [← e1] at hown1
        obtain ⟨A1, c1, rfl, _⟩ := RV.own hown1
        have HO1 := Lib.hid hown1
        have HSt2 : Hid ((g.row.take (k + 1)).contains n = bb ∧ lessOf g.row g.at_ n (k + 1) = z ∧ (keptOf g.row n (k + 1)).length = m + 1) := Lib.hid ⟨HSt1.out.1, HSt1.out.2, by rw [HH.out, List.length_append, hst.out.2.2]; rfl⟩
        clear hown1 hg1 hb1 e1
        go_wp2
        go_roundw
        case rel => exact ⟨k + 1, m + 1, z, bb, A1, c1, by omega, by omega, by omega, by go_num, rfl, rfl, rfl, HSt2, HO1, HB1⟩
        case measure => simp [intOf]; omega
    · obtain rfl : k = L := by omega
      have f0 : wr.frozen? ⟨B, 0, none⟩ = false := hri.froz 0
      have f1 : wr.frozen? ⟨B, 1, none⟩ = false := hri.froz 1
      obtain rfl : bb = b0 := by have := hst.out.1; rw [← HL.out, HAll.out, HB0.out] at this; exact this.symm
      have hrow : RVn S wr A' m ((keptOf g.row n k).map nV) ∧ m ≤ c' ∧ c' ≤ maxLen ∧ (A' = none → c' = 0) := by
        obtain ⟨A9, c9, e9, hR, hnil, hnc, hmx, hbase⟩ := RV.own hown.out
        simp only [Value.slice.injEq, true_and] at e9
        obtain ⟨rfl, rfl⟩ := e9
        exact ⟨⟨hR, fun b off e _ hs => by have h1 := hbase b off e; have h2 := HSt.out b hs; rw [HG.out] at h2; omega⟩, hnc, hmx, hnil⟩
      have hml := hst.out.2.2
      have hr2 : RgIs false S ((wr.setCell ⟨B, 0, none⟩ (.slice A' m c')).setCell ⟨B, 1, none⟩ (.int .i64 ((g.at_ : Int) - (z : Int)))) B A' c' (g.remove n) := by
        have h5 := hri.setRow (A' := A') (c' := c') (row := keptOf g.row n k) (by rw [hml]; exact hrow.1) (by rw [hml]; exact hrow.2.1) hrow.2.2.1 hrow.2.2.2
        have h6 := h5.setAt (g.at_ - z)
        rw [hml, show ((g.at_ - z : Nat) : Int) = (g.at_ : Int) - (z : Int) by omega] at h6
        rw [HLe.out.2, hst.out.2.1]
        exact h6
      have HFin : Hid (RgAt false S ((wr.setCell ⟨B, 0, none⟩ (.slice A' m c')).setCell ⟨B, 1, none⟩ (.int .i64 ((g.at_ : Int) - (z : Int)))) B (g.remove n) ∧ But (· = B) w ((wr.setCell ⟨B, 0, none⟩ (.slice A' m c')).setCell ⟨B, 1, none⟩ (.int .i64 ((g.at_ : Int) - (z : Int))))) := Lib.hid ⟨⟨HRok.out, A', c', hr2⟩, ((But.of_below hbw).trans (But.set_ (· = B) wr B 0 _ rfl)).trans (But.set_ (· = B) _ B 1 _ rfl)⟩
      have q3 : (g.at_ : Int) ≤ 8 := by omega
      clear hri hrow hr2 hml hbw
      go_wp2
      go_ret
      exact ⟨rfl, HFin.out.1, HFin.out.2⟩
end Go.Proofs.Ytckeknhoimgccaa
