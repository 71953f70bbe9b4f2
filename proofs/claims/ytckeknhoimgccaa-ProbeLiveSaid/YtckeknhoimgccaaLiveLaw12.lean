/-
  Who is asked is one of the row that is live; nobody is, just if none is: the law sodalitylaw12.ProbeLive, walked.
-/
import Derived.Test.YtckeknhoimgccaaPrBits
namespace Go.Proofs.Ytckeknhoimgccaa
open Go.RowKit
set_option linter.unusedSimpArgs false
set_option linter.unusedVariables false

/-- A list of lists: a list's cell. -/
def liC (s : Sl Int) : List Value := [.slice s.A s.l.length s.c]
theorem ItAt.li {w : World} {b o : Nat} {s : Sl Int} (h : ItAt liC w b o s) : w.cell? ⟨b, o, none⟩ = some (.slice s.A s.l.length s.c) := h 0 _ rfl
def anyL (row live : List Int) (j : Nat) : Bool := (row.take j).any fun x => live.contains x
theorem anyL_zero (row live : List Int) : anyL row live 0 = false := by simp [anyL]
theorem anyL_succ {row live : List Int} {j : Nat} (hj : j < row.length) : anyL row live (j + 1) = (anyL row live j || live.contains row[j]) := by
  unfold anyL
  rw [List.take_succ_eq_append_getElem hj, List.any_append]
  simp
theorem anyL_all (row live : List Int) : anyL row live row.length = true ↔ ∃ x ∈ row, x ∈ live := by
  unfold anyL
  rw [List.take_length, List.any_eq_true]
  simp
/-- Who is asked. -/
theorem asked_live {g : Rg} (h : g.ok) {d : Dr} (hd : okDr d) (live : List Int) : (g.asked live d).2.1 = anyL g.row live g.row.length ∧ ((g.asked live d).2.1 = true → g.row.contains (g.asked live d).1 = true ∧ live.contains (g.asked live d).1 = true) ∧ (g.asked live d).2.2.row.length = g.row.length := by
  have hp := Rg.asked_perm h hd
  obtain ⟨h1, h2⟩ := Rg.next_live (g := g) (live := live) hp
  refine ⟨?_, fun e => ?_, (Rg.next_row (g := g) (live := live) hp).length_eq⟩
  · rw [Bool.eq_iff_iff]
    exact h2.trans (anyL_all g.row live).symm
  · obtain ⟨h3, h4⟩ := h1 e
    exact ⟨List.contains_iff_mem.2 h3, List.contains_iff_mem.2 h4⟩
/-- What stands throughout. -/
structure LiSt (B b : Nat) (w0 w : World) (g : Rg) (d : Dr) : Prop where
  pr : PrIs (Two B b) B b w g d
  bel : Below w0.heap.size w0 w
set_option maxHeartbeats 16000000 in
set_option maxRecDepth 100000 in
theorem live_walk (A : Option Addr) (n c : Nat) (xs : List Nat) (z : Int) (A2 : Option Addr) (n2 c2 : Nat) (ss : List (Sl Int)) (w : World) (hR : RV w A n (xs.map u32V)) (hnil : A = none → c = 0) (hnc : n ≤ c) (hn : n ≤ 35184372088832) (hx : ∀ x ∈ xs, x < 4294967296) (hz0 : 0 ≤ z) (hz1 : z ≤ 255) (hS : SK liC 1 w A2 n2 ss) (hL : ∀ s ∈ ss, Liv w s) (hn2 : n2 ≤ maxLen) :
    Calls Try.prog 5 #[.slice A n c, .int .u8 z, .slice A2 n2 c2] w fun e w' => e = .returned (.bool true) ∧ Below w.heap.size w w' := by
  unfold maxLen at hn2
  have HN := Lib.hid (fun w => rgnew_any w)
  have HD := Lib.hid (fun w' hb => new_any A n c xs w' (hR.below (w' := w') hb) hnil hnc hn hx)
  have HSS := Lib.hid hS
  have HSl := Lib.hid hS.1
  have HLv := Lib.hid hL
  have HWk := Lib.hid (fun w => works_any w)
  obtain ⟨B, hB⟩ : ∃ B, w.heap.size = B := ⟨_, rfl⟩
  have HB := Lib.hid hB
  clear hR hnil hx hS hL hB
  go_enter Try.func5, Try.ntmps5
  go_wp2_with fail
  refine (HN.out _).mono ?_
  rintro e w2 ⟨rfl, hw2⟩
  rw [HB.out]
  have hbw2 : Below w.heap.size w w2 := by rw [hw2]; exact (Below.refl _ _).alloc (Nat.le_refl _) _
  have HW2 := Lib.hid hw2
  have HD2 := Lib.hid (HD.out w2 hbw2)
  clear hw2 hbw2
  go_wp2_with fail
  refine HD2.out.mono ?_
  rintro e w3 ⟨b, rfl, hb, hb2, hd, hbl⟩
  obtain ⟨d0, hd0⟩ : ∃ d0 : Dr, ⟨xs.take 4096, 0⟩ = d0 := ⟨_, rfl⟩
  rw [hd0] at hd
  obtain ⟨hp, hbw⟩ := pr_made HB.out HW2.out hb hb2 hd hbl
  have hbB : B + 1 ≤ b := by rw [HW2.out] at hb; simp at hb; rw [HB.out] at hb; exact hb
  have HbB : Hid (w.heap.size ≤ B ∧ w.heap.size ≤ b) := Lib.hid ⟨by have := HB.out; omega, by have := HB.out; omega⟩
  have HA0 : Hid (LiSt B b w w3 Rg.new d0) := Lib.hid ⟨hp, hbw⟩
  clear hb hb2 hd hbl hd0 hp hbw hbB
  go_wp2
  go_loopw [9] (fun iv wr => ∃ (k : Nat) (g : Rg) (d : Dr), k ≤ 8 ∧ iv = .int .i64 (k : Int) ∧ Hid (LiSt B b w wr g d)) (fun iv _ => 8 - (intOf iv).toNat)
  case atStart => exact ⟨0, Rg.new, d0, by omega, rfl, HA0⟩
  case round =>
    clear HA0
    obtain ⟨k, g, d, hk, rfl, hst⟩ := hrel
    by_cases hlt : k < 8
    · cases hon : onB z k with
      | true =>
        have hq : (bits BinOp.and IntKind.u8 (z / 2 ^ k) 1 == 1) = true := hon
        have HAdd := Lib.hid (hst.out.pr.add (k : Int))
        clear hon
        go_wp2_with fail
        refine HAdd.out.mono ?_
        rintro e w4 ⟨rfl, hp4, hb4⟩
        have HA4 : Hid (LiSt B b w w4 (g.added k d) (d.added g k)) := Lib.hid ⟨hp4, two_below hb4 hst.out.bel HbB.out.1 HbB.out.2⟩
        clear hp4 hb4
        go_wp2
        go_roundw
        case rel => exact ⟨k + 1, _, _, by omega, by go_num, HA4⟩
        case measure => simp [intOf]; omega
      | false =>
        have hq : (bits BinOp.and IntKind.u8 (z / 2 ^ k) 1 == 1) = false := hon
        clear hon
        go_wp2
        go_roundw
        case rel => exact ⟨k + 1, g, d, by omega, by go_num, hst⟩
        case measure => simp [intOf]; omega
    · obtain rfl : k = 8 := by omega
      go_wp2
      go_loopw [10] (fun iv wq => ∃ (k : Nat) (g : Rg) (d : Dr), k ≤ n2 ∧ k ≤ 30 ∧ iv = .int .i64 (k : Int) ∧ Hid (LiSt B b w wq g d)) (fun iv _ => 30 - (intOf iv).toNat)
      case atStart => exact ⟨0, g, d, Nat.zero_le _, by omega, rfl, hst⟩
      case round =>
        clear hst
        obtain ⟨k, g, d, hk, hk30, rfl, hst⟩ := hrel
        obtain ⟨wo, rfl⟩ : ∃ wo : World, wo = wr := ⟨_, rfl⟩
        by_cases hlt : k < n2 ∧ k < 30
        · obtain ⟨hlt1, hlt2⟩ := hlt
          have hk' : k < ss.length := by rw [HSl.out]; exact hlt1
          obtain ⟨lb, lo, rfl, hlbl, hat⟩ := HSS.out.2 (by omega)
          have hxk := hat k hk'
          rw [Nat.mul_one] at hxk
          obtain ⟨s, hs⟩ : ∃ s, ss[k] = s := ⟨_, rfl⟩
          have hliv : Liv w s := by rw [← hs]; exact HLv.out _ (List.getElem_mem hk')
          rw [hs] at hxk
          have HLi : Hid (∀ w', Below w.heap.size w w' → w'.cell? ⟨lb, lo + k, none⟩ = some (.slice s.A s.l.length s.c)) := Lib.hid (fun w' h => (h.cell (p := ⟨lb, lo + k, none⟩) hlbl).trans hxk.li)
          have hl0 : Lst (Two B b) w s.A s.l.length s.c s.l := hliv.lst (fun i hi e => by have := HbB.out; rcases e with rfl | rfl <;> omega)
          have HL0 := Lib.hid hl0
          have hlist := hst.out.pr.list
          obtain ⟨hq1, hq2, hq3⟩ := asked_live hst.out.pr.ok hst.out.pr.okD.1 s.l
          have hf := Rg.few hst.out.pr.ok
          obtain ⟨L, hLL⟩ : ∃ L, g.row.length = L := ⟨_, rfl⟩
          obtain ⟨sA, sn, sc, sl, hse⟩ : ∃ sA sn sc sl, s.A = sA ∧ s.l.length = sn ∧ s.c = sc ∧ s.l = sl := ⟨_, _, _, _, rfl, rfl, rfl, rfl⟩
          obtain ⟨e1, e2, e3, e4⟩ := hse
          rw [e1, e2, e3] at HLi HL0
          rw [e4] at HL0 hq1 hq2 hq3
          rw [hLL] at hq1 hq3 hf
          have HLL := Lib.hid hLL
          have HQ1 := Lib.hid hq1
          have HQ2 := Lib.hid hq2
          have HQ3 := Lib.hid hq3
          have HList := Lib.hid hlist
          have q1 : (k : Int) < (n2 : Int) := by omega
          have q2 : (0 : Int) ≤ (k : Int) := by omega
          clear hk' hat hxk hs hliv hl0 hlist hq1 hq2 hq3 hLL e1 e2 e3 e4 hlbl
          go_wp2_with fail
          refine HList.out.mono ?_
          rintro e w4 ⟨Ar, cr, rfl, hrv, hrc, hrm, hrn, hrb, hrbel⟩
          rw [HLL.out] at hrv hrc ⊢
          have HRow : Hid (Lst (Two B b) w4 Ar L cr g.row) := Lib.hid ⟨⟨hrv, fun b' off e _ hs => by have h1 := hrb b' off e; have h2 := hst.out.pr.lt b' hs; omega⟩, hrc, by omega⟩
          have HS4 : Hid (LiSt B b w w4 g d) := Lib.hid ⟨hst.out.pr.below hrbel, hst.out.bel.trans (hrbel.mono hst.out.bel.size)⟩
          clear hrv hrc hrm hrn hrb hrbel
          go_wp2
          go_loopw [12, 13] (fun av jv wi => ∃ (j : Nat) (ab : Bool), j ≤ L ∧ av = .bool ab ∧ jv = .int .i64 (j : Int) ∧ Hid (anyL g.row sl j = ab) ∧ Hid (Below w4.heap.size w4 wi)) (fun _ jv _ => L - (intOf jv).toNat)
          case atStart => exact ⟨0, false, Nat.zero_le _, rfl, rfl, Lib.hid (anyL_zero _ _), Lib.hid (Below.refl _ _)⟩
          case round =>
            obtain ⟨j, ab, hj, rfl, rfl, hab, hbi⟩ := hrel
            obtain ⟨wi, rfl⟩ : ∃ wi : World, wi = wr := ⟨_, rfl⟩
            have hbw : Below w.heap.size w wi := HS4.out.bel.trans (hbi.out.mono HS4.out.bel.size)
            have cL := HLi.out wi hbw
            by_cases hlj : j < L
            · have hj' : j < g.row.length := by rw [HLL.out]; exact hlj
              obtain ⟨rb, ro, rfl, _, hcr⟩ := (HRow.out.below hbi.out).node hlj
              have hsucc := anyL_succ (live := sl) hj'
              rw [hab.out] at hsucc
              obtain ⟨y, hy⟩ : ∃ y, g.row[j] = y := ⟨_, rfl⟩
              rw [hy] at hcr hsucc
              have HHas : Hid (∀ q, Calls Try.prog 24 #[.slice sA sn sc, .int .i64 y] (wi.drewN q) fun e w' => e = .returned (.bool (sl.contains y)) ∧ w' = wi.drewN q) := Lib.hid (fun q => (rhas_any sA sn sc sl y (wi.drewN q) (HL0.out.below (below_drewN hbw q))).mono fun _ _ h => ⟨h.1, h.2.symm⟩)
              have z1 : (0 : Int) ≤ (j : Int) := by omega
              have z2 : (j : Int) < (L : Int) := by omega
              have HSu := Lib.hid hsucc
              clear hsucc hy hj' hbw
              cases ab with
              | true =>
                have HAb : Hid (anyL g.row sl (j + 1) = true) := Lib.hid (by rw [HSu.out]; rfl)
                go_wp2
                go_quiet (fail)
                go_wp2
                go_roundw
                case rel => exact ⟨j + 1, true, by omega, rfl, by go_num, HAb, Lib.hid (below_drewN hbi.out _)⟩
                case measure => simp [intOf]; omega
              | false =>
                obtain ⟨hb, hhb⟩ : ∃ hb, sl.contains y = hb := ⟨_, rfl⟩
                have HAb : Hid (anyL g.row sl (j + 1) = hb) := Lib.hid (by rw [HSu.out, hhb]; rfl)
                rw [hhb] at HHas
                clear hhb
                go_wp2
                go_quiet ((go_at_call 24; with_reducible exact Calls.quiet_of_same (HHas.out _)))
                go_wp2
                go_roundw
                case rel => exact ⟨j + 1, hb, by omega, rfl, by go_num, HAb, Lib.hid (below_drewN hbi.out _)⟩
                case measure => simp [intOf]; omega
            · obtain rfl : j = L := by omega
              have hsi : LiSt B b w wi g d := ⟨HS4.out.pr.below hbi.out, hbw⟩
              have HNx := Lib.hid (hsi.pr.next sA sn sc sl (HL0.out.below hbw))
              have HRi := Lib.hid (HRow.out.below hbi.out)
              have hq1 := HQ1.out
              have hq2 := HQ2.out
              have hq3 := HQ3.out
              rw [hab.out] at hq1
              obtain ⟨x, hx⟩ : ∃ x, (g.asked sl d).1 = x := ⟨_, rfl⟩
              obtain ⟨g5, hg5⟩ : ∃ g5, (g.asked sl d).2.2 = g5 := ⟨_, rfl⟩
              rw [hq1, hx, hg5] at HNx
              rw [hq1, hx] at hq2
              rw [hg5] at hq3
              have HQ2' := Lib.hid hq2
              have HQ3' := Lib.hid hq3
              have HSi := Lib.hid hsi
              clear hq1 hq2 hq3 hx hg5 hsi hbw
              go_wp2_with fail
              refine HNx.out.mono ?_
              rintro e w6 ⟨rfl, hp6, hb6⟩
              have HS6 : Hid (LiSt B b w w6 g5 (d.asked g sl)) := Lib.hid ⟨hp6, two_below hb6 HSi.out.bel HbB.out.1 HbB.out.2⟩
              have HL6 := Lib.hid (HL0.out.below HS6.out.bel)
              have HR6 := Lib.hid (HRi.out.but hb6 (fun _ k => k))
              have HList6 := Lib.hid hp6.list
              have cL6 := HLi.out w6 HS6.out.bel
              clear hp6 hb6 cL
              cases ab with
              | true =>
                obtain ⟨t1, t2⟩ := HQ2'.out rfl
                have hh1 := rhas_any Ar j cr g.row x w6 HR6.out
                have hh2 := rhas_any sA sn sc sl x w6 HL6.out
                rw [t1] at hh1
                rw [t2] at hh2
                have HH1 := Lib.hid hh1
                have HH2 := Lib.hid hh2
                clear t1 t2 hh1 hh2
                go_wp2_with fail
                refine HH1.out.mono ?_
                rintro e w' ⟨rfl, rfl⟩
                go_wp2_with fail
                refine HH2.out.mono ?_
                rintro e w' ⟨rfl, rfl⟩
                go_wp2_with fail
                refine HList6.out.mono ?_
                rintro e w7 ⟨Ar7, cr7, rfl, _, _, _, _, _, hrbel⟩
                rw [HQ3'.out]
                have HS7 : Hid (LiSt B b w w7 g5 (d.asked g sl)) := Lib.hid ⟨HS6.out.pr.below hrbel, HS6.out.bel.trans (hrbel.mono HS6.out.bel.size)⟩
                clear hrbel cL6
                go_wp2
                go_roundw
                case rel =>
                  repeat apply Exists.intro
                  exact ⟨⟨k + 1, g5, _, by omega, by omega, by go_num, HS7⟩, rfl⟩
                case measure => simp [intOf]; omega
              | false =>
                go_wp2_with fail
                refine HList6.out.mono ?_
                rintro e w7 ⟨Ar7, cr7, rfl, _, _, _, _, _, hrbel⟩
                rw [HQ3'.out]
                have HS7 : Hid (LiSt B b w w7 g5 (d.asked g sl)) := Lib.hid ⟨HS6.out.pr.below hrbel, HS6.out.bel.trans (hrbel.mono HS6.out.bel.size)⟩
                clear hrbel cL6
                go_wp2
                go_roundw
                case rel =>
                  repeat apply Exists.intro
                  exact ⟨⟨k + 1, g5, _, by omega, by omega, by go_num, HS7⟩, rfl⟩
                case measure => simp [intOf]; omega
        · have hge : ¬ ((k : Int) < (n2 : Int)) ∨ ((k : Int) < (n2 : Int) ∧ ¬ ((k : Int) < 30)) := by omega
          have HW := Lib.hid (HWk.out wo)
          have HF := Lib.hid hst.out.bel
          clear hlt
          rcases hge with r1 | ⟨r1, r2⟩
          all_goals
            go_wp2_with fail
            refine HW.out.mono ?_
            rintro e w7 ⟨rfl, hb7⟩
            have HB7 := Lib.hid hb7
            clear hb7
            go_wp2
            go_ret
            exact ⟨rfl, HF.out.trans (HB7.out.mono HF.out.size)⟩
end Go.Proofs.Ytckeknhoimgccaa
