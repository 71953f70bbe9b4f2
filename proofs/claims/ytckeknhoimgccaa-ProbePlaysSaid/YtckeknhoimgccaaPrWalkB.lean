/-
  Clone, picked, List, At of the program's ring, walked (layer 12).
-/
import Derived.Test.YtckeknhoimgccaaPrWalkA
import Derived.WalkSpells
namespace Go.Proofs.Ytckeknhoimgccaa
open Go.RowKit
set_option linter.unusedSimpArgs false
set_option linter.unusedVariables false

set_option maxHeartbeats 1000000 in
theorem clone_any {S : Nat → Prop} (A : Option Addr) (n c : Nat) (xs : List Int) (w : World) (h : Lst S w A n c xs) (hnil : A = none → c = 0) (hn : n ≤ 4096) :
    Calls Try.prog 36 #[.slice A n c] w (IRow w xs) := by
  obtain ⟨i0, hi, hz0, hz1, hz2⟩ := info_parts int_info
  have hl := h.len
  have hnc := h.le
  cases A with
  | none =>
    have hc0 := hnil rfl
    obtain rfl : n = 0 := by omega
    obtain rfl : xs = [] := List.eq_nil_of_length_eq_zero hl
    subst hc0
    clear h
    have qn := fun (w : World) => Lib.run_eql_slice_nil (P := Try.prog) w 27 3 none 0 0 0 0 Try.underlying27
    go_enter Try.func36, Try.ntmps36
    go_wp2
    go_ret
    exact ⟨none, 0, rfl, RV.zero _ _, Nat.le_refl _, Nat.zero_le _, fun _ => rfl, (fun b off e => by cases e), Below.refl _ _⟩
  | some ad =>
    have H := Lib.hid h
    have HL := Lib.hid hl
    have qn := fun (w : World) => Lib.run_eql_slice_nil (P := Try.prog) w 27 3 (some ad) n c 0 0 Try.underlying27
    clear h hl hnil
    go_enter Try.func36, Try.ntmps36
    have HOwn : Hid ((w.alloc (.cells #[] 3)).ownsRow w.heap.size 3 1 (.slice (some ⟨w.heap.size, 0, none⟩) 0 0) 0 []) := Lib.hid (World.ownsRow_made w #[] 0 (Nat.le_refl _) (by unfold maxLen; omega) rfl)
    have hb0 : Below w.heap.size w (w.alloc (.cells #[] 3)) := (Below.refl _ _).alloc (Nat.le_refl _) _
    have HR : Hid (RV (w.alloc (.cells #[] 3)) (some ad) n (xs.map nV)) := Lib.hid (H.out.rv.1.below hb0)
    have HB0 := Lib.hid hb0
    clear hb0
    go_wp2_with (at_builtin; refine wpList_append_rv rfl (.tmp 5) (.tmp 6) 27 rfl w.heap.size 3 i0 (.int .i64 0) 8 Try.underlying27 hi hz0 hz1 hz2 rfl (.slice (some ⟨w.heap.size, 0, none⟩) 0 0) 0 [] rfl HOwn.out (some ad) n c (xs.map nV) rfl (fun e => by cases e) HR.out (nV_one xs) ?c1 ?c2 ?c3 ?_)
    case c1 => unfold maxLen; omega
    case c2 => omega
    case c3 => simp
    refine Lib.hid ?_
    intro v1 w1 hown hg
    have hb1 : Below w.heap.size w w1 := HB0.out.grown hg (by simp) (fun j hj => by simp [Value.ownBlock] at hj; omega)
    have HO : Hid (IRow w xs (.returned v1) w1) := Lib.hid (by
      rw [← HL.out] at hown
      exact IRow.of_own hown (Nat.le_refl _) hb1)
    clear hown hg hb1
    go_wp2
    go_ret
    exact HO.out
set_option maxHeartbeats 2000000 in
theorem picked_any {S T : Nat → Prop} (A : Option Addr) (n c : Nat) (l : List Int) (A2 : Option Addr) (m c2 : Nat) (is : List Nat) (w : World) (h : Lst S w A n c l) (h2 : RV w A2 m (is.map iV)) (hin : ∀ i ∈ is, i < n) (hm : m ≤ 4096) :
    Calls Try.prog 33 #[.slice A n c, .slice A2 m c2] w (IRow w (pickL l is)) := by
  obtain ⟨i0, hi, hz0, hz1, hz2⟩ := info_parts int_info
  have H := Lib.hid h
  have H2 := Lib.hid h2
  have HL : Hid (is.length = m) := Lib.hid (by simpa using h2.1)
  have hx := h.max
  have HIn := Lib.hid hin
  obtain ⟨g, hg⟩ : ∃ g, w.heap.size = g := ⟨_, rfl⟩
  have HG := Lib.hid hg
  clear h h2 hin hg
  go_enter Try.func33, Try.ntmps33
  go_wp2
  go_loopw [5, 10] (fun vv iv wr => ∃ (k : Nat) (A' : Option Addr) (c' : Nat), k ≤ m ∧ iv = .int .i64 (k : Int) ∧ vv = .slice A' k c' ∧ Hid (wr.ownsRow g 3 1 (.slice A' k c') k ((pickL l (is.take k)).map nV)) ∧ Hid (Below g w wr)) (fun _ iv _ => m - (intOf iv).toNat)
  case atStart => exact ⟨0, none, 0, Nat.zero_le _, rfl, rfl, Lib.hid (World.ownsRow_nil _ _ _ _), Lib.hid (Below.refl _ _)⟩
  case round =>
    obtain ⟨k, A', c', hk, rfl, rfl, hown, hb⟩ := hrel
    by_cases hlt : k < m
    · have hk' : k < is.length := by rw [HL.out]; exact hlt
      have hbw : Below w.heap.size w wr := by rw [HG.out]; exact hb.out
      have hgs : g ≤ wr.heap.size := by rw [← HG.out]; exact hbw.size
      obtain ⟨b, off, rfl, _, hc1⟩ := (H2.out.below hbw).at_ hlt
      rw [List.getElem_map] at hc1
      have hix := HIn.out is[k] (List.getElem_mem hk')
      have hsn0 : (pickL l (is.take (k + 1))).map nV = (pickL l (is.take k)).map nV ++ [.int .i64 (l.getD is[k] 0)] := by
        rw [List.take_succ_eq_append_getElem hk']
        unfold pickL
        rw [List.map_append, List.map_append]
        rfl
      obtain ⟨x, hx⟩ : ∃ x, is[k] = x := ⟨_, rfl⟩
      rw [hx] at hc1 hix hsn0
      obtain ⟨b2, off2, rfl, _, hc2⟩ := (H.out.below hbw).node hix
      have hxl : x < l.length := by rw [H.out.len]; exact hix
      have hsn := hsn0
      rw [show l.getD x 0 = l[x] by simp [List.getD, hxl]] at hsn
      obtain ⟨z, hz⟩ : ∃ z, l[x] = z := ⟨_, rfl⟩
      rw [hz] at hc2 hsn
      unfold iV at hc1
      have HSn := Lib.hid hsn
      have q1 : (k : Int) < (m : Int) := by omega
      have q2 : (0 : Int) ≤ (k : Int) := by omega
      have q3 : (x : Int) < (n : Int) := by omega
      have q4 : (0 : Int) ≤ (x : Int) := by omega
      clear hsn hsn0 hz hxl hbw hx
      go_wp2_with (at_builtin; refine wpList_append_val rfl (.tmp 14) (.tmp 19) 27 rfl g 3 i0 (.int .i64 0) 8 Try.underlying27 hi hz0 hz1 hz2 rfl (.slice A' k c') k ((pickL l (is.take k)).map nV) rfl hown.out (.int .i64 z) _ rfl rfl ?c1 ?c2 ?c3 ?_)
      case c1 => unfold maxLen; omega
      case c2 => omega
      case c3 => exact hgs
      refine Lib.hid ?_
      intro v1 w1 hown1 hg1
      have hb1 : Below g w w1 := (hb.out.alloc hgs _).grown hg1 (by simp; omega) (fun j hj => (hown.out.lt j hj).1)
      have HB1 := Lib.hid hb1
      rw [← HSn.out] at hown1
      obtain ⟨A1, c1, rfl, _⟩ := RV.own hown1
      have HO1 := Lib.hid hown1
      clear hown1 hg1 hb1
      go_wp2
      go_roundw
      case rel => exact ⟨k + 1, A1, c1, by omega, by go_num, rfl, HO1, HB1⟩
      case measure => simp [intOf]; omega
    · obtain rfl : k = m := by omega
      have HO : Hid (IRow w (pickL l is) (.returned (.slice A' k c')) wr) := Lib.hid (by
        have h1 := hown.out
        rw [List.take_of_length_le (by rw [HL.out]; exact Nat.le_refl _)] at h1
        have h3 : (pickL l is).length = k := by rw [pickL_length, HL.out]
        rw [← h3] at h1 ⊢
        exact IRow.of_own h1 (by rw [HG.out]; exact Nat.le_refl _) (by rw [HG.out]; exact hb.out))
      go_wp2
      go_ret
      exact HO.out
theorem list_no (v : Value) (w : World) (h : NoRg w v) : Calls Try.prog 20 #[v] w fun e w' => e = .returned (.slice none 0 0) ∧ w = w' := by
  have HM := Lib.hid (made_no v w h)
  clear h
  go_enter Try.func20, Try.ntmps20
  go_wp2_with fail
  refine HM.out.mono ?_
  rintro e w' ⟨rfl, rfl⟩
  go_wp2
  go_ret
  exact ⟨rfl, rfl⟩
theorem at_no (v : Value) (w : World) (h : NoRg w v) : Calls Try.prog 21 #[v] w fun e w' => e = .returned (.int .i64 0) ∧ w = w' := by
  have HM := Lib.hid (made_no v w h)
  clear h
  go_enter Try.func21, Try.ntmps21
  go_wp2_with fail
  refine HM.out.mono ?_
  rintro e w' ⟨rfl, rfl⟩
  go_wp2
  go_ret
  exact ⟨rfl, rfl⟩
/-- The list of a ring, as a list. -/
theorem RgIs.lst {p : Bool} {S : Nat → Prop} {w : World} {B : Nat} {A : Option Addr} {c : Nat} {g : Rg} (h : RgIs p S w B A c g) (hg : g.row.length ≤ 8) : Lst S w A g.row.length c g.row := ⟨h.row, h.le, by omega⟩
theorem list_any {S : Nat → Prop} {B : Nat} {g : Rg} (w : World) (h : RgAt true S w B g) : Calls Try.prog 20 #[.pointer (some ⟨B, 0, none⟩)] w (IRow w g.row) := by
  obtain ⟨hok, A, c, hi⟩ := h
  have HM := Lib.hid (made_yes w hi)
  have hf := Rg.few hok
  have HC := Lib.hid (clone_any A g.row.length c g.row w (hi.lst hf) hi.nil (by omega))
  have cl : w.cell? ⟨B, 1, none⟩ = some (.slice A g.row.length c) := hi.cl
  obtain ⟨n, hn⟩ : ∃ n, g.row.length = n := ⟨_, rfl⟩
  rw [hn] at cl HC
  clear hi hok hf hn
  go_enter Try.func20, Try.ntmps20
  go_wp2_with fail
  refine HM.out.mono ?_
  rintro e w' ⟨rfl, rfl⟩
  go_wp2_with fail
  refine HC.out.mono ?_
  rintro e w1 h1
  obtain ⟨A1, c1, rfl, h2⟩ := h1
  have H2 := Lib.hid h2
  clear h2
  go_wp2
  go_ret
  exact ⟨A1, c1, rfl, H2.out⟩
theorem at_any {S : Nat → Prop} {B : Nat} {g : Rg} (w : World) (h : RgAt true S w B g) : Calls Try.prog 21 #[.pointer (some ⟨B, 0, none⟩)] w fun e w' => e = .returned (.int .i64 (g.at_ : Int)) ∧ w = w' := by
  obtain ⟨hok, A, c, hi⟩ := h
  have HM := Lib.hid (made_yes w hi)
  have co : w.cell? ⟨B, 2, none⟩ = some (.int .i64 (g.at_ : Int)) := hi.co
  clear hi hok
  go_enter Try.func21, Try.ntmps21
  go_wp2_with fail
  refine HM.out.mono ?_
  rintro e w' ⟨rfl, rfl⟩
  go_wp2
  go_ret
  exact ⟨rfl, rfl⟩
end Go.Proofs.Ytckeknhoimgccaa
