/-
  The document's Add, walked (layer 12).
-/
import Derived.Test.YtckeknhoimgccaaPrRefA
import Derived.Test.YtckeknhoimgccaaERef
namespace Go.Proofs.Ytckeknhoimgccaa
open Go.RowKit
set_option linter.unusedSimpArgs false
set_option linter.unusedVariables false

theorem radd_no {S : Nat → Prop} {B : Nat} {g : Rg} (bw : Nat) (n : Int) (w : World) (h : RgAt false S w B g) (ht : g.takes n = false) : Calls Try.prog 12 #[.pointer (some ⟨B, 0, none⟩), .int .i64 n, .pointer (some ⟨bw, 0, none⟩)] w fun e w' => e = .returned (.bool false) ∧ w = w' := by
  obtain ⟨hok, A, c, hi⟩ := h
  have HC := Lib.hid (rhas_any A g.row.length c g.row n w (hi.lst (Rg.few hok)))
  have cl : w.cell? ⟨B, 0, none⟩ = some (.slice A g.row.length c) := hi.cl
  obtain ⟨L, hL⟩ : ∃ L, g.row.length = L := ⟨_, rfl⟩
  rw [hL] at HC cl
  have hcase : n < 0 ∨ (0 ≤ n ∧ 7 < n) ∨ (0 ≤ n ∧ n ≤ 7 ∧ g.row.contains n = true) := by
    by_cases h1 : 0 ≤ n ∧ n < 8
    · refine .inr (.inr ⟨h1.1, by omega, ?_⟩)
      cases hc : g.row.contains n with
      | true => rfl
      | false =>
        unfold Rg.takes nodeOk at ht
        rw [hc] at ht
        simp [h1] at ht
    · omega
  clear hi hok hL ht
  rcases hcase with h1 | ⟨h1, h2⟩ | ⟨h1, h2, h3⟩
  · go_enter Try.func12, Try.ntmps12
    go_wp2
    go_ret
    exact ⟨rfl, rfl⟩
  · have q : ¬ n < 0 := by omega
    go_enter Try.func12, Try.ntmps12
    go_wp2
    go_ret
    exact ⟨rfl, rfl⟩
  · have q : ¬ n < 0 := by omega
    have q2 : ¬ 7 < n := by omega
    rw [h3] at HC
    clear h3
    go_enter Try.func12, Try.ntmps12
    go_wp2_with fail
    refine HC.out.mono ?_
    rintro e w' ⟨rfl, rfl⟩
    go_wp2
    go_ret
    exact ⟨rfl, rfl⟩
/-- What has been laid of the new list, k nodes of the old one gone over. -/
def insL (row : List Int) (i : Nat) (n : Int) (k : Nat) : List Int := if k ≤ i then row.take k else putAt (row.take k) i n
theorem insL_zero (row : List Int) (i : Nat) (n : Int) : insL row i n 0 = [] := by simp [insL]
theorem insL_low {row : List Int} {i : Nat} {n : Int} {k : Nat} (hk : k < row.length) (h : k < i) : insL row i n (k + 1) = insL row i n k ++ [row[k]] := by
  unfold insL
  rw [if_pos (by omega), if_pos (by omega), List.take_succ_eq_append_getElem hk]
theorem insL_at {row : List Int} {n : Int} {k : Nat} (hk : k < row.length) : insL row k n (k + 1) = (insL row k n k ++ [n]) ++ [row[k]] := by
  unfold insL
  rw [if_neg (by omega), if_pos (Nat.le_refl _)]
  unfold putAt
  rw [List.take_take, Nat.min_eq_left (by omega), List.take_succ_eq_append_getElem hk, List.drop_append_of_le_length (by rw [List.length_take]; omega), List.drop_of_length_le (by rw [List.length_take]; omega)]
  simp
theorem insL_high {row : List Int} {i : Nat} {n : Int} {k : Nat} (hk : k < row.length) (h : i < k) : insL row i n (k + 1) = insL row i n k ++ [row[k]] := by
  unfold insL
  rw [if_neg (by omega), if_neg (by omega)]
  unfold putAt
  rw [List.take_take, List.take_take, Nat.min_eq_left (by omega), Nat.min_eq_left (by omega), List.take_succ_eq_append_getElem hk, List.drop_append_of_le_length (by rw [List.length_take]; omega)]
  simp
theorem insL_all {row : List Int} {i : Nat} {n : Int} (h : i < row.length) : insL row i n row.length = putAt row i n := by
  unfold insL
  rw [if_neg (by omega), List.take_length]
theorem insL_last (row : List Int) (n : Int) : insL row row.length n row.length ++ [n] = putAt row row.length n := by
  unfold insL putAt
  rw [if_pos (Nat.le_refl _), List.take_length, List.drop_length]
theorem insL_len {row : List Int} {i : Nat} {n : Int} {k : Nat} (hk : k ≤ row.length) : (insL row i n k).length = if k ≤ i then k else k + 1 := by
  unfold insL
  split
  · rw [List.length_take]; omega
  · rw [putAt_length, List.length_take]; omega
theorem insL_le {row : List Int} {i : Nat} {n : Int} {k : Nat} (hk : k ≤ row.length) : (insL row i n k).length ≤ k + 1 := by
  rw [insL_len hk]
  split <;> omega
set_option maxHeartbeats 8000000 in
theorem radd_yes {S : Nat → Prop} {B bw : Nat} {g : Rg} {d : Dr} (n : Int) (w : World) (h : RgAt false S w B g) (hd : RwAt S w bw d) (hS : ∀ k, S k → k < w.heap.size) (hne : bw ≠ B) (ht : g.takes n = true) :
    Calls Try.prog 12 #[.pointer (some ⟨B, 0, none⟩), .int .i64 n, .pointer (some ⟨bw, 0, none⟩)] w fun e w' => e = .returned (.bool true) ∧ RgAt false S w' B (g.add n (d.below (g.row.length + 1 : Nat))) ∧ RwAt S w' bw (d.next (g.row.length + 1 : Nat)) ∧ But (fun k => k = B ∨ k = bw) w w' := by
  obtain ⟨i0, hi, hz0, hz1, hz2⟩ := info_parts int_info
  have HAok := Lib.hid (Rg.add_ok h.1 ht (d.below (g.row.length + 1 : Nat)))
  obtain ⟨hok, A, c, hri⟩ := h
  have hf := Rg.few hok
  have hcn : g.row.contains n = false := by
    cases hc : g.row.contains n with
    | false => rfl
    | true => unfold Rg.takes at ht; rw [hc] at ht; simp at ht
  have hC := rhas_any A g.row.length c g.row n w (hri.lst hf)
  rw [hcn] at hC
  have cl : w.cell? ⟨B, 0, none⟩ = some (.slice A g.row.length c) := hri.cl
  obtain ⟨h1, h2⟩ := ((Rg.takes_iff g n).1 ht).1
  have hpos := hok.pos
  have hB := rbelow_any S bw d (g.row.length + 1 : Nat) w hd (by omega)
  have hlt := below_lt hd.1.1 (n := ((g.row.length + 1 : Nat) : Int)) (by omega)
  have HAll := Lib.hid (fun (i : Nat) (h : i < g.row.length) => insL_all (n := n) h)
  have HLast := Lib.hid (insL_last g.row n)
  have HLe := Lib.hid (fun (i k : Nat) (h : k ≤ g.row.length) => insL_le (i := i) (n := n) h)
  obtain ⟨L, hL⟩ : ∃ L, g.row.length = L := ⟨_, rfl⟩
  obtain ⟨ip, hii⟩ : ∃ ip, d.below (g.row.length + 1 : Nat) = ip := ⟨_, rfl⟩
  obtain ⟨d2, hd2⟩ : ∃ d2, d.next (g.row.length + 1 : Nat) = d2 := ⟨_, rfl⟩
  rw [hii] at hB hlt HAok ⊢
  rw [hd2] at hB ⊢
  rw [hL] at hC cl hf hlt hB hpos HAll HLast HLe
  rw [Int.natCast_add] at hB
  have hiL : ip ≤ L := by omega
  have HL := Lib.hid hL
  have HC := Lib.hid hC
  have HBl := Lib.hid hB
  have HI := Lib.hid hri
  have HS := Lib.hid hS
  have HNe := Lib.hid hne
  have q : ¬ n < 0 := by omega
  have q2 : ¬ 7 < n := by omega
  clear hok hri hC hL hii hd2 hB hd ht hcn hS hne hlt
  go_enter Try.func12, Try.ntmps12
  go_wp2_with fail
  refine HC.out.mono ?_
  rintro e w' ⟨rfl, rfl⟩
  go_wp2_with fail
  refine HBl.out.mono ?_
  rintro e w1 ⟨rfl, hd1, hb1⟩
  have hri1 := HI.out.but hb1 (fun k hk => by rw [hk]; exact hd1.2.1) (fun e => HNe.out e.symm)
  have HI1 := Lib.hid hri1
  have HD1 := Lib.hid hd1
  have HB1 := Lib.hid hb1
  have HS1 : Hid (∀ k, S k → k < w1.heap.size) := Lib.hid (fun k hk => Nat.lt_of_lt_of_le (HS.out k hk) hb1.size)
  obtain ⟨g0, hg⟩ : ∃ g0, w1.heap.size = g0 := ⟨_, rfl⟩
  have HG := Lib.hid hg
  clear hd1 hb1 hri1 cl hg
  go_wp2
  go_loopw [8, 9] (fun vv iv wr => ∃ (k m : Nat) (A' : Option Addr) (c' : Nat), k ≤ L ∧ m ≤ k + 1 ∧ iv = .int .i64 (k : Int) ∧ vv = .slice A' m c' ∧ Hid ((insL g.row ip n k).length = m) ∧ Hid (wr.ownsRow g0 3 1 (.slice A' m c') m ((insL g.row ip n k).map nV)) ∧ Hid (Below g0 w1 wr)) (fun _ iv _ => L - (intOf iv).toNat)
  case atStart => exact ⟨0, 0, none, 0, Nat.zero_le _, by omega, rfl, rfl, Lib.hid (by rw [insL_zero]; rfl), Lib.hid (by rw [insL_zero]; exact World.ownsRow_nil _ _ _ _), Lib.hid (Below.refl _ _)⟩
  case round =>
    obtain ⟨k, m, A', c', hk, hmk, rfl, rfl, hm, hown, hb⟩ := hrel
    have hbw : Below w1.heap.size w1 wr := by rw [HG.out]; exact hb.out
    have hgs : g0 ≤ wr.heap.size := by rw [← HG.out]; exact hbw.size
    have hri := HI1.out.below hbw
    have cl : wr.cell? ⟨B, 0, none⟩ = some (.slice A L c) := by have := hri.cl; rw [HL.out] at this; exact this
    by_cases hlt : k < L
    · have hk' : k < g.row.length := by rw [HL.out]; exact hlt
      obtain ⟨b, off, rfl, hblt, hc1⟩ := hri.node hk'
      have hbg : b < g0 := by
        have h3 := HI1.out.row.1.2 (by omega)
        obtain ⟨b', off', e', hlt', _⟩ := h3
        simp only [Option.some.injEq, Addr.mk.injEq] at e'
        have := HG.out
        omega
      have hBg : B < g0 := by have := HI1.out.lt; have := HG.out; omega
      have q1 : (k : Int) < (L : Int) := by omega
      have q0 : (0 : Int) ≤ (k : Int) := by omega
      have hL1 := insL_low (n := n) (i := ip) hk'
      have hL2 := insL_high (n := n) (i := ip) hk'
      have hL3 := insL_at (n := n) hk'
      have hm1 := HLe.out ip (k + 1) (by omega)
      obtain ⟨y, hy⟩ : ∃ y, g.row[k] = y := ⟨_, rfl⟩
      rw [hy] at hc1 hL1 hL2 hL3
      have HL1 := Lib.hid hL1
      have HL2 := Lib.hid hL2
      have HL3 := Lib.hid hL3
      clear hL1 hL2 hL3 hk' hbw hri hy
      rcases Nat.lt_trichotomy k ip with hki | hki | hki
      · have HH := Lib.hid (HL1.out hki)
        have q3 : ((k : Int) == (ip : Int)) = false := by rw [beq_eq_false_iff_ne]; omega
        go_wp2_with (at_builtin; refine wpList_append_val rfl (.tmp 48) (.tmp 56) 27 rfl g0 3 i0 (.int .i64 0) 8 Try.underlying27 hi hz0 hz1 hz2 rfl (.slice A' m c') m ((insL g.row ip n k).map nV) rfl hown.out (.int .i64 y) _ rfl rfl ?c1 ?c2 ?c3 ?_)
        case c1 => unfold maxLen; omega
        case c2 => omega
        case c3 => exact hgs
        refine Lib.hid ?_
        intro v1 w2 hown1 hg1
        have hb1 : Below g0 w1 w2 := (hb.out.alloc hgs _).grown hg1 (by simp; omega) (fun j hj => (hown.out.lt j hj).1)
        have HB2 := Lib.hid hb1
        have e1 : (insL g.row ip n (k + 1)).map nV = (insL g.row ip n k).map nV ++ [.int .i64 y] := by rw [HH.out, List.map_append]; rfl
        rw [← e1] at hown1
        obtain ⟨A1, c1, rfl, _⟩ := RV.own hown1
        have HO1 := Lib.hid hown1
        have HM1 : Hid ((insL g.row ip n (k + 1)).length = m + 1) := Lib.hid (by rw [HH.out, List.length_append, hm.out]; rfl)
        have hm2 : m + 1 ≤ k + 1 + 1 := by omega
        clear hown1 hg1 hb1 e1
        go_wp2
        go_roundw
        case rel => exact ⟨k + 1, m + 1, A1, c1, by omega, hm2, by go_num, rfl, HM1, HO1, HB2⟩
        case measure => simp [intOf]; omega
      · subst hki
        have HH := HL3
        have q3 : ((k : Int) == (k : Int)) = true := by simp
        go_wp2_with (at_builtin; refine wpList_append_val rfl (.tmp 44) (.tmp 46) 27 rfl g0 3 i0 (.int .i64 0) 8 Try.underlying27 hi hz0 hz1 hz2 rfl (.slice A' m c') m ((insL g.row k n k).map nV) rfl hown.out (.int .i64 n) _ rfl rfl ?c1 ?c2 ?c3 ?_)
        case c1 => unfold maxLen; omega
        case c2 => omega
        case c3 => exact hgs
        refine Lib.hid ?_
        intro v1 w2 hown1 hg1
        have hb1 : Below g0 w1 w2 := (hb.out.alloc hgs _).grown hg1 (by simp; omega) (fun j hj => (hown.out.lt j hj).1)
        have hgs2 : g0 ≤ w2.heap.size := by rw [← HG.out]; exact hb1.size
        have hbr : Below g0 wr w2 := ((Below.refl _ wr).alloc hgs _).grown hg1 (by simp; omega) (fun j hj => (hown.out.lt j hj).1)
        have cl2 : w2.cell? ⟨B, 0, none⟩ = some (.slice (some ⟨b, off, none⟩) L c) := (hbr.cell (p := ⟨B, 0, none⟩) hBg).trans cl
        have hc2 : w2.cell? ⟨b, off + k, none⟩ = some (.int .i64 y) := (hbr.cell (p := ⟨b, off + k, none⟩) hbg).trans hc1
        obtain ⟨A1, c1, rfl, _⟩ := RV.own hown1
        have HO1 := Lib.hid hown1
        have HB2 := Lib.hid hb1
        clear hown1 hg1 hb1 hbr cl hc1
        go_wp2_with (at_builtin; refine wpList_append_val rfl (.tmp 48) (.tmp 56) 27 rfl g0 3 i0 (.int .i64 0) 8 Try.underlying27 hi hz0 hz1 hz2 rfl (.slice A1 (m + 1) c1) (m + 1) ((insL g.row k n k).map nV ++ [.int .i64 n]) rfl HO1.out (.int .i64 y) _ rfl rfl ?d1 ?d2 ?d3 ?_)
        case d1 => unfold maxLen; omega
        case d2 => omega
        case d3 => exact hgs2
        refine Lib.hid ?_
        intro v3 w3 hown3 hg3
        have hb3 : Below g0 w1 w3 := (HB2.out.alloc hgs2 _).grown hg3 (by simp; omega) (fun j hj => (HO1.out.lt j hj).1)
        have HB3 := Lib.hid hb3
        have e1 : (insL g.row k n (k + 1)).map nV = (insL g.row k n k).map nV ++ [.int .i64 n, .int .i64 y] := by rw [HH.out, List.map_append, List.map_append, List.append_assoc]; rfl
        rw [← e1] at hown3
        obtain ⟨A3, c3, rfl, _⟩ := RV.own hown3
        have HO3 := Lib.hid hown3
        have hmle : m ≤ k := by
          have := insL_len (row := g.row) (i := k) (n := n) (k := k) (by rw [HL.out]; omega)
          rw [if_pos (Nat.le_refl _), hm.out] at this
          omega
        have HM3 : Hid ((insL g.row k n (k + 1)).length = m + 1 + 1) := Lib.hid (by rw [HH.out, List.length_append, List.length_append, hm.out]; rfl)
        have hm2 : m + 1 + 1 ≤ k + 1 + 1 := by omega
        clear hown3 hg3 hb3 e1
        go_wp2
        go_roundw
        case rel => exact ⟨k + 1, m + 1 + 1, A3, c3, by omega, hm2, by go_num, rfl, HM3, HO3, HB3⟩
        case measure => simp [intOf]; omega
      · have HH := Lib.hid (HL2.out hki)
        have q3 : ((k : Int) == (ip : Int)) = false := by rw [beq_eq_false_iff_ne]; omega
        go_wp2_with (at_builtin; refine wpList_append_val rfl (.tmp 48) (.tmp 56) 27 rfl g0 3 i0 (.int .i64 0) 8 Try.underlying27 hi hz0 hz1 hz2 rfl (.slice A' m c') m ((insL g.row ip n k).map nV) rfl hown.out (.int .i64 y) _ rfl rfl ?e1 ?e2 ?e3 ?_)
        case e1 => unfold maxLen; omega
        case e2 => omega
        case e3 => exact hgs
        refine Lib.hid ?_
        intro v1 w2 hown1 hg1
        have hb1 : Below g0 w1 w2 := (hb.out.alloc hgs _).grown hg1 (by simp; omega) (fun j hj => (hown.out.lt j hj).1)
        have HB2 := Lib.hid hb1
        have e1 : (insL g.row ip n (k + 1)).map nV = (insL g.row ip n k).map nV ++ [.int .i64 y] := by rw [HH.out, List.map_append]; rfl
        rw [← e1] at hown1
        obtain ⟨A1, c1, rfl, _⟩ := RV.own hown1
        have HO1 := Lib.hid hown1
        have HM1 : Hid ((insL g.row ip n (k + 1)).length = m + 1) := Lib.hid (by rw [HH.out, List.length_append, hm.out]; rfl)
        have hm2 : m + 1 ≤ k + 1 + 1 := by omega
        clear hown1 hg1 hb1 e1
        go_wp2
        go_roundw
        case rel => exact ⟨k + 1, m + 1, A1, c1, by omega, hm2, by go_num, rfl, HM1, HO1, HB2⟩
        case measure => simp [intOf]; omega
    · obtain rfl : k = L := by omega
      have HLk := HL
      have hBg : B < g0 := by have := HI1.out.lt; have := HG.out; omega
      have HFin : Hid (∀ w2 A2 c2, Below g0 w1 w2 → w2.ownsRow g0 3 1 (.slice A2 (k + 1) c2) (k + 1) ((putAt g.row ip n).map nV) → RgIs false S (w2.setCell ⟨B, 0, none⟩ (.slice A2 (k + 1) c2)) B A2 c2 ⟨putAt g.row ip n, g.at_⟩ ∧ RwAt S (w2.setCell ⟨B, 0, none⟩ (.slice A2 (k + 1) c2)) bw d2 ∧ But (fun k => k = B ∨ k = bw) w (w2.setCell ⟨B, 0, none⟩ (.slice A2 (k + 1) c2))) := Lib.hid (fun w2 A2 c2 hb2 ho2 => by
        have hb2' : Below w1.heap.size w1 w2 := by rw [HG.out]; exact hb2
        have hr2 := HI1.out.below hb2'
        obtain ⟨A9, c9, e9, hR, hnil, hnc, hmx, hbase⟩ := RV.own ho2
        simp only [Value.slice.injEq, true_and] at e9
        obtain ⟨rfl, rfl⟩ := e9
        have hpl : (putAt g.row ip n).length = k + 1 := by rw [putAt_length, HLk.out]
        have h5 := hr2.setRow (A' := A2) (c' := c2) (row := putAt g.row ip n) (by
          rw [hpl]
          exact ⟨hR, fun b off e _ hs => by have h1 := hbase b off e; have h2 := HS1.out b hs; have := HG.out; omega⟩) (by omega) hmx hnil
        rw [hpl] at h5
        have hset : But (· = B) w2 (w2.setCell ⟨B, 0, none⟩ (.slice A2 (k + 1) c2)) := But.set_ _ w2 B 0 _ rfl
        exact ⟨h5, (HD1.out.below hb2').but hset (fun k e => by rw [e]; exact HI1.out.mine) HNe.out, ((HB1.out.mono fun k e => .inr e).trans (But.of_below hb2')).trans (hset.mono fun k e => .inl e)⟩)
      have HTail : Hid (∀ w3 A2 c2, RgIs false S w3 B A2 c2 ⟨putAt g.row ip n, g.at_⟩ → RwAt S w3 bw d2 → But (fun k => k = B ∨ k = bw) w w3 → ip < g.at_ → RgAt false S (w3.setCell ⟨B, 1, none⟩ (.int .i64 ((g.at_ : Int) + 1))) B (g.add n ip) ∧ RwAt S (w3.setCell ⟨B, 1, none⟩ (.int .i64 ((g.at_ : Int) + 1))) bw d2 ∧ But (fun k => k = B ∨ k = bw) w (w3.setCell ⟨B, 1, none⟩ (.int .i64 ((g.at_ : Int) + 1)))) := Lib.hid (fun w3 A2 c2 h3 h4 h5 hlt3 => by
        have hset : But (· = B) w3 (w3.setCell ⟨B, 1, none⟩ (.int .i64 ((g.at_ : Int) + 1))) := But.set_ _ w3 B 1 _ rfl
        refine ⟨⟨HAok.out, A2, c2, ?_⟩, h4.but hset (fun k e => by rw [e]; exact h3.mine) HNe.out, h5.trans (hset.mono fun k e => .inl e)⟩
        have h6 := h3.setAt (g.at_ + 1)
        unfold Rg.add
        rw [if_pos hlt3]
        exact h6)
      have HTail2 : Hid (∀ w3 A2 c2, RgIs false S w3 B A2 c2 ⟨putAt g.row ip n, g.at_⟩ → ¬ ip < g.at_ → RgAt false S w3 B (g.add n ip)) := Lib.hid (fun w3 A2 c2 h3 hlt3 => ⟨HAok.out, A2, c2, by
        unfold Rg.add
        rw [if_neg hlt3]
        exact h3⟩)
      have f0 : wr.frozen? ⟨B, 0, none⟩ = false := hri.froz 0
      have q5 : (g.at_ : Int) ≤ 8 := by omega
      by_cases hik : ip = k
      · subst hik
        have hm1 : m = ip := by
          have := insL_len (row := g.row) (i := ip) (n := n) (k := ip) (by rw [HLk.out]; omega)
          rw [if_pos (Nat.le_refl _), hm.out] at this
          exact this
        subst hm1
        have q3 : ((m : Int) == (m : Int)) = true := by simp
        clear hri hbw
        go_wp2_with (at_builtin; refine wpList_append_val rfl (.tmp 65) (.tmp 67) 27 rfl g0 3 i0 (.int .i64 0) 8 Try.underlying27 hi hz0 hz1 hz2 rfl (.slice A' m c') m ((insL g.row m n m).map nV) rfl hown.out (.int .i64 n) _ rfl rfl ?f1 ?f2 ?f3 ?_)
        case f1 => unfold maxLen; omega
        case f2 => omega
        case f3 => exact hgs
        refine Lib.hid ?_
        intro v1 w2 hown1 hg1
        have hb1 : Below g0 w1 w2 := (hb.out.alloc hgs _).grown hg1 (by simp; omega) (fun j hj => (hown.out.lt j hj).1)
        have e1 : (insL g.row m n m).map nV ++ [.int .i64 n] = (putAt g.row m n).map nV := by
          rw [← HLast.out, List.map_append]
          rfl
        rw [e1] at hown1
        obtain ⟨A1, c1, rfl, _⟩ := RV.own hown1
        obtain ⟨hr3, hw3, hbb3⟩ := HFin.out w2 A1 c1 hb1 hown1
        have cl2 : w2.cell? ⟨B, 0, none⟩ = some (.slice A m c) := by
          have hbr : Below g0 wr w2 := ((Below.refl _ wr).alloc hgs _).grown hg1 (by simp; omega) (fun j hj => (hown.out.lt j hj).1)
          exact (hbr.cell (p := ⟨B, 0, none⟩) hBg).trans cl
        have f02 : w2.frozen? ⟨B, 0, none⟩ = false := (HI1.out.below (by rw [HG.out]; exact hb1)).froz 0
        have co : w2.cell? ⟨B, 1, none⟩ = some (.int .i64 (g.at_ : Int)) := (HI1.out.below (by rw [HG.out]; exact hb1)).co
        have f1 : w2.frozen? ⟨B, 1, none⟩ = false := (HI1.out.below (by rw [HG.out]; exact hb1)).froz 1
        have HR3 := Lib.hid hr3
        have HD3 := Lib.hid hw3
        have HB3 := Lib.hid hbb3
        clear hown1 hg1 hb1 e1 hr3 hw3 hbb3 cl
        by_cases hat : m < g.at_
        · exfalso
          omega
        · have HT := Lib.hid (HTail2.out (w2.setCell ⟨B, 0, none⟩ (.slice A1 (m + 1) c1)) A1 c1 HR3.out hat)
          go_wp2
          go_ret
          exact ⟨rfl, HT.out, HD3.out, HB3.out⟩
      · have hm1 : m = k + 1 := by
          have := insL_len (row := g.row) (i := ip) (n := n) (k := k) (by rw [HLk.out]; omega)
          rw [if_neg (by omega), hm.out] at this
          exact this
        subst hm1
        have q3 : ((ip : Int) == (k : Int)) = false := by rw [beq_eq_false_iff_ne]; omega
        have hown' := hown.out
        rw [HAll.out ip (by omega)] at hown'
        obtain ⟨hr3, hw3, hbb3⟩ := HFin.out wr A' c' hb.out hown'
        have co : wr.cell? ⟨B, 1, none⟩ = some (.int .i64 (g.at_ : Int)) := (hri).co
        have f1 : wr.frozen? ⟨B, 1, none⟩ = false := (hri).froz 1
        have HR3 := Lib.hid hr3
        have HD3 := Lib.hid hw3
        have HB3 := Lib.hid hbb3
        clear hown' hr3 hw3 hbb3 hri hbw
        by_cases hat : ip < g.at_
        · have HT := Lib.hid (HTail.out (wr.setCell ⟨B, 0, none⟩ (.slice A' (k + 1) c')) A' c' HR3.out HD3.out HB3.out hat)
          go_wp2
          go_ret
          exact ⟨rfl, HT.out.1, HT.out.2.1, HT.out.2.2⟩
        · have HT := Lib.hid (HTail2.out (wr.setCell ⟨B, 0, none⟩ (.slice A' (k + 1) c')) A' c' HR3.out hat)
          go_wp2
          go_ret
          exact ⟨rfl, HT.out, HD3.out, HB3.out⟩
end Go.Proofs.Ytckeknhoimgccaa
