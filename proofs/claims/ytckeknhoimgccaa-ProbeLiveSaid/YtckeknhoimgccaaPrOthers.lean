/-
  Others of the program's ring, walked (layer 12).
-/
import Derived.Test.YtckeknhoimgccaaPrWalkB
import Derived.Test.YtckeknhoimgccaaESome
namespace Go.Proofs.Ytckeknhoimgccaa
open Go.RowKit
set_option linter.unusedSimpArgs false
set_option linter.unusedVariables false

/-- A row of nodes in new memory. -/
def IRw (w : World) (xs : List Int) (e : Ending) (w' : World) : Prop :=
  ∃ A c, e = .returned (.slice A xs.length c) ∧ RV w' A xs.length (xs.map nV) ∧ xs.length ≤ c ∧ c ≤ maxLen ∧ (A = none → c = 0) ∧ (∀ b off, A = some ⟨b, off, none⟩ → w.heap.size ≤ b)
theorem IRow.rw {w w1 w' : World} {xs : List Int} {e : Ending} (h : IRow w1 xs e w') (hs : w.heap.size ≤ w1.heap.size) : IRw w xs e w' ∧ Below w1.heap.size w1 w' := by
  obtain ⟨A, c, e, h1, h2, h3, h4, h5, h6⟩ := h
  exact ⟨⟨A, c, e, h1, h2, h3, h4, fun b off e => Nat.le_trans hs (h5 b off e)⟩, h6⟩
/-- Those that live, but one. -/
def butL (live : List Int) (x : Int) : List Int := live.filter fun y => !(y == x)
theorem butL_len (live : List Int) (x : Int) : (butL live x).length ≤ live.length := List.length_filter_le _ _
theorem butL_hit {live : List Int} {x : Int} {k : Nat} (hk : k < live.length) (h : live[k] = x) : butL (live.take (k + 1)) x = butL (live.take k) x := by
  unfold butL
  rw [List.take_succ_eq_append_getElem hk, List.filter_append, h]
  simp
theorem butL_miss {live : List Int} {x : Int} {k : Nat} (hk : k < live.length) (h : live[k] ≠ x) : butL (live.take (k + 1)) x = butL (live.take k) x ++ [live[k]] := by
  unfold butL
  rw [List.take_succ_eq_append_getElem hk, List.filter_append]
  have : (live[k] == x) = false := by rw [beq_eq_false_iff_ne]; exact h
  simp [this]
/-- What Others tells. -/
def othersL (live : List Int) (x many : Int) (d : Dr) : List Int := pickL (butL live x) (d.some_ (butL live x).length many)
theorem othersno_ring (v vd : Value) (A : Option Addr) (n c : Nat) (x many : Int) (w : World) (h : NoRg w v) : Calls Try.prog 18 #[v, .slice A n c, .int .i64 x, .int .i64 many, vd] w fun e w' => e = .returned (.slice none 0 0) ∧ w = w' := by
  have HM := Lib.hid (made_no v w h)
  clear h
  go_enter Try.func18, Try.ntmps18
  go_wp2_with fail
  refine HM.out.mono ?_
  rintro e w' ⟨rfl, rfl⟩
  go_wp2
  go_ret
  exact ⟨rfl, rfl⟩
set_option maxHeartbeats 4000000 in
theorem others_any {S : Nat → Prop} {B : Nat} {g : Rg} {d : Dr} (vd : Value) (A : Option Addr) (n c : Nat) (live : List Int) (x many : Int) (w : World) (h : RgAt true S w B g) (hd : DwAt S w vd d) (hl : Lst S w A n c live) (hn : n ≤ 64) (hne : ¬ Tgt vd B) :
    Calls Try.prog 18 #[.pointer (some ⟨B, 0, none⟩), .slice A n c, .int .i64 x, .int .i64 many, vd] w fun e w' => IRw w (othersL live x many d) e w' ∧ RgAt true S w' B g ∧ DwAt S w' vd (d.afterO (butL live x).length) ∧ But (Tgt vd) w w' := by
  obtain ⟨i0, hi, hz0, hz1, hz2⟩ := info_parts int_info
  have HM : Hid (Calls Try.prog 25 #[.pointer (some ⟨B, 0, none⟩)] w fun e w' => e = .returned (.bool true) ∧ w = w') := Lib.hid (by
    obtain ⟨_, A, c, hi⟩ := h
    exact made_yes w hi)
  have H := Lib.hid h
  have HD := Lib.hid hd
  have HLv := Lib.hid hl
  have HL := Lib.hid hl.len
  have HNe := Lib.hid hne
  obtain ⟨g0, hg⟩ : ∃ g0, w.heap.size = g0 := ⟨_, rfl⟩
  have HG := Lib.hid hg
  clear h hd hl hne hg
  go_enter Try.func18, Try.ntmps18
  go_wp2_with fail
  refine HM.out.mono ?_
  rintro e w' ⟨rfl, rfl⟩
  go_wp2
  go_loopw [11, 19] (fun vv iv wr => ∃ (k m : Nat) (A' : Option Addr) (c' : Nat), k ≤ n ∧ m ≤ k ∧ iv = .int .i64 (k : Int) ∧ vv = .slice A' m c' ∧ Hid ((butL (live.take k) x).length = m) ∧ Hid (wr.ownsRow g0 3 1 (.slice A' m c') m ((butL (live.take k) x).map nV)) ∧ Hid (Below g0 w wr)) (fun _ iv _ => n - (intOf iv).toNat)
  case atStart => exact ⟨0, 0, none, 0, Nat.zero_le _, Nat.le_refl _, rfl, rfl, Lib.hid rfl, Lib.hid (World.ownsRow_nil _ _ _ _), Lib.hid (Below.refl _ _)⟩
  case round =>
    obtain ⟨k, m, A', c', hk, hmk, rfl, rfl, hm, hown, hb⟩ := hrel
    by_cases hlt : k < n
    · have hk' : k < live.length := by rw [HL.out]; exact hlt
      have hbw : Below w.heap.size w wr := by rw [HG.out]; exact hb.out
      have hgs : g0 ≤ wr.heap.size := by rw [← HG.out]; exact hbw.size
      obtain ⟨b, off, rfl, _, hc1⟩ := (HLv.out.below hbw).node hlt
      have q1 : (k : Int) < (n : Int) := by omega
      have q2 : (0 : Int) ≤ (k : Int) := by omega
      by_cases hx : live[k] = x
      · have hh := butL_hit hk' hx
        have HO1 : Hid (wr.ownsRow g0 3 1 (.slice A' m c') m ((butL (live.take (k + 1)) x).map nV)) := Lib.hid (by rw [hh]; exact hown.out)
        have HM1 : Hid ((butL (live.take (k + 1)) x).length = m) := Lib.hid (by rw [hh]; exact hm.out)
        rw [hx] at hc1
        clear hh hx hk' hbw
        go_wp2
        go_roundw
        case rel => exact ⟨k + 1, m, A', c', by omega, by omega, by go_num, rfl, HM1, HO1, hb⟩
        case measure => simp [intOf]; omega
      · have hh := butL_miss hk' hx
        have hx2 : (live[k] == x) = false := by rw [beq_eq_false_iff_ne]; exact hx
        obtain ⟨y, hy⟩ : ∃ y, live[k] = y := ⟨_, rfl⟩
        rw [hy] at hc1 hh hx2
        have HH := Lib.hid hh
        clear hh hx hk' hbw hy
        go_wp2_with (at_builtin; refine wpList_append_val rfl (.tmp 26) (.tmp 28) 27 rfl g0 3 i0 (.int .i64 0) 8 Try.underlying27 hi hz0 hz1 hz2 rfl (.slice A' m c') m ((butL (live.take k) x).map nV) rfl hown.out (.int .i64 y) _ rfl rfl ?c1 ?c2 ?c3 ?_)
        case c1 => unfold maxLen; omega
        case c2 => omega
        case c3 => exact hgs
        refine Lib.hid ?_
        intro v1 w1 hown1 hg1
        have hb1 : Below g0 w w1 := (hb.out.alloc hgs _).grown hg1 (by simp; omega) (fun j hj => (hown.out.lt j hj).1)
        have HB1 := Lib.hid hb1
        have e1 : (butL (live.take (k + 1)) x).map nV = (butL (live.take k) x).map nV ++ [.int .i64 y] := by rw [HH.out, List.map_append]; rfl
        rw [← e1] at hown1
        obtain ⟨A1, c1, rfl, _⟩ := RV.own hown1
        have HO1 := Lib.hid hown1
        have HM1 : Hid ((butL (live.take (k + 1)) x).length = m + 1) := Lib.hid (by rw [HH.out, List.length_append, hm.out]; rfl)
        clear hown1 hg1 hb1 e1
        go_wp2
        go_roundw
        case rel => exact ⟨k + 1, m + 1, A1, c1, by omega, by omega, by go_num, rfl, HM1, HO1, HB1⟩
        case measure => simp [intOf]; omega
    · obtain rfl : k = n := by omega
      have hbw : Below w.heap.size w wr := by rw [HG.out]; exact hb.out
      have hall : live.take k = live := List.take_of_length_le (by rw [HL.out]; exact Nat.le_refl _)
      have hm' := hm.out
      have hown' := hown.out
      rw [hall] at hm' hown'
      obtain ⟨A9, c9, e9, hR, hnil, hnc, hmx, hbase⟩ := RV.own hown'
      simp only [Value.slice.injEq, true_and] at e9
      obtain ⟨rfl, rfl⟩ := e9
      have hds := HD.out.below hbw
      have HSm := Lib.hid (some_any S vd d (m : Int) many wr hds)
      have hin := some_in hds.1.1 m many (by omega)
      have hlen : (d.some_ (m : Int) many).length ≤ 64 := by
        unfold Dr.some_
        rw [List.length_take, order_length, sizeO_of (by omega)]
        omega
      obtain ⟨is, his⟩ : ∃ is, d.some_ (m : Int) many = is := ⟨_, rfl⟩
      have HIs := Lib.hid his
      rw [his] at hin hlen HSm
      have HIn := Lib.hid hin.2
      have HR := Lib.hid hR
      have HBs := Lib.hid hbase
      have HM' := Lib.hid hm'
      have HR1 := Lib.hid (H.out.below hbw)
      have HBw := Lib.hid hbw
      obtain ⟨L2, hL2⟩ : ∃ L2, is.length = L2 := ⟨_, rfl⟩
      have HL2 := Lib.hid hL2
      rw [hL2] at hlen
      clear hall hm' hown' hR hbase hds hin his hL2 hbw
      go_wp2_with fail
      refine HSm.out.mono ?_
      rintro e w2 ⟨⟨A3, c3, rfl, hv3, hnc3, hbase3⟩, hd3, hb3⟩
      rw [HL2.out] at hv3 hnc3 ⊢
      have hS0 : ∀ b off, A' = some ⟨b, off, none⟩ → ¬ Tgt vd b := fun b off e ht => by
        have h1 := HBs.out b off e
        have h2 := HD.out.lt b ht
        have h3 := HG.out
        omega
      have hrow : Lst (Tgt vd) w2 A' m c' (butL live x) := ⟨⟨HR.out.but hb3 (fun b off e _ => hS0 b off e), fun b off e _ => hS0 b off e⟩, hnc, by omega⟩
      have HPk := Lib.hid (picked_any (S := Tgt vd) (T := S) A' m c' (butL live x) A3 L2 c3 is w2 hrow hv3 HIn.out (by omega))
      have HD3 := Lib.hid hd3
      have HB3 : Hid (But (Tgt vd) w w2) := Lib.hid ((But.of_below HBw.out).trans hb3)
      have HR3 : Hid (RgAt true S w2 B g) := Lib.hid (HR1.out.but hb3 (fun k hk => hd3.names k hk) HNe.out)
      clear hS0 hrow hd3 hb3 hv3 hbase3
      go_wp2_with fail
      refine HPk.out.mono ?_
      rintro e w3 hr3
      obtain ⟨⟨A4, c4, rfl, hr4⟩, hb4⟩ := IRow.rw (w := w) hr3 HB3.out.size
      have HR4 := Lib.hid hr4
      have HB4 := Lib.hid hb4
      clear hr3 hr4 hb4
      go_wp2
      go_ret
      have eo : othersL live x many d = pickL (butL live x) is := by unfold othersL; rw [HM'.out, HIs.out]
      rw [eo, HM'.out]
      exact ⟨⟨A4, c4, rfl, HR4.out⟩, HR3.out.below HB4.out, HD3.out.below HB4.out, HB3.out.trans (But.of_below HB4.out)⟩
end Go.Proofs.Ytckeknhoimgccaa
