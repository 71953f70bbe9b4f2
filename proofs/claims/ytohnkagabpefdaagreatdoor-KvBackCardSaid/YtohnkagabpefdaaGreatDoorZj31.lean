/-
  The document's store: drop, List, walked (layer 16).
-/
import Derived.Test.YtohnkagabpefdaaGreatDoorZj29
import Derived.Test.YtohnkagabpefdaaGreatDoorZj30
namespace Go.Proofs.YtohnkagabpefdaaGreatDoor
open Go.RowKit
set_option linter.unusedSimpArgs false
set_option linter.unusedVariables false

theorem enRow.snoc_below {w0 wr w' : World} {base : Nat} {v : Value} {l : List En} (h : enRow wr base v l) (hb : Below base w0 wr) (hB : base ≤ wr.heap.size) {o : Obj} (hg : (wr.alloc o).grownBy w' v.ownBlock) : Below base w0 w' :=
  (hb.alloc hB o).grown hg (by simp; omega) fun _ e => (h.from _ e).1
theorem off_step {l : List (En)} {k : Nat} {key : ByteArray} (hk : k < l.length) : offR (l.take (k + 1)) key = offR (l.take k) key ++ (if l[k].key = key then [] else [l[k]]) := by
  unfold offR
  rw [List.take_succ_eq_append_getElem hk, List.filter_append]
  by_cases h : l[k].key = key
  · rw [if_pos h, List.filter_cons_of_neg (by simp [h])]; rfl
  · rw [if_neg h, List.filter_cons_of_pos (by rw [text_other.2 h]; rfl)]; rfl
/-- Of what the call itself has made, the table may have it. -/
theorem KrIs.fresh {S : Nat → Prop} {w : World} {B g0 : Nat} {A : Option Addr} {c : Nat} {t : Tb Kp} (h : KrIs S w B A c t) : KrIs (fun k => S k ∨ g0 ≤ k) w B A c t := h.narrow fun _ _ h => .inl h
set_option maxHeartbeats 4000000 in
theorem krdrop_any {S : Nat → Prop} {B : Nat} {t : Tb Kp} (key : ByteArray) (i : Nat) (w : World) (h : KrAt S w B t) (hi : i < 18446744073709551616) :
    Calls Tryz.prog 55 #[.pointer (some ⟨B, 0, none⟩), .string key, .int .u64 (i : Int)] w fun e w' => e = .returned (.tuple #[]) ∧ KrAt (fun k => S k ∨ w.heap.size ≤ k) w' B (t.drop key i) ∧ But (· = B) w w' := by
  obtain ⟨hok, A, c, h⟩ := h
  have h64 : t.l.length ≤ 64 := Nat.le_trans hok.len hok.most.2
  have HOk := Lib.hid hok
  have H := Lib.hid h
  obtain ⟨X, hX⟩ : ∃ X, w.heap.size = X := ⟨_, rfl⟩
  have HX := Lib.hid hX
  have hBX : B < X := hX ▸ h.lt
  obtain ⟨L, hL⟩ : ∃ L, t.l.length = L := ⟨_, rfl⟩
  rw [hL] at h64
  have HL := Lib.hid hL
  rw [hX]
  have HBW : Hid (Below w.heap.size w w) := Lib.hid (Below.refl _ _)
  have hX0 : X ≤ X := Nat.le_refl _
  have hm : L ≤ 9223372036854775807 := by omega
  clear hok h hX hL
  go_enter Tryz.func55, Tryz.ntmps55
  go_wp2
  go_loopw [6, 7] (fun vv iv wr => ∃ k : Nat, k ≤ L ∧ iv = .int .i64 (k : Int) ∧ Hid (enRow wr X vv (offR (t.l.take k) key)) ∧ Hid (Below X w wr)) (fun _ iv _ => L - (intOf iv).toNat)
  case atStart => exact ⟨0, Nat.zero_le _, rfl, Lib.hid (rowK.nil _ _), Lib.hid (HX.out ▸ Below.refl _ _)⟩
  case round =>
    obtain ⟨k, hk, rfl, hrow, hb⟩ := hrel
    have ht := H.out.below (by rw [HX.out]; exact hb.out)
    have c1 : wr.cell? ⟨B, 1, none⟩ = some (.slice A L c) := by have := ht.c1; rw [HL.out] at this; exact this
    by_cases hlt : k < L
    · have hkl : k < t.l.length := by rw [HL.out]; exact hlt
      obtain ⟨b, off, rfl, hbl, hit⟩ := ht.row.at_ hkl hkl
      have hs := off_step (key := key) hkl
      obtain ⟨y, hy⟩ : ∃ y, t.l[k] = y := ⟨_, rfl⟩
      rw [hy] at hit hs
      obtain ⟨e0, e1, e2, e3, e4, e5⟩ := Kt.tr_cells hit
      by_cases hz : y.key = key
      · have zz : (y.key.toList == key.toList) = true := text_same.2 hz
        rw [if_pos hz, List.append_nil] at hs
        have HR := Lib.hid (show enRow wr X u6 (offR (t.l.take (k + 1)) key) by rw [hs]; exact hrow.out)
        clear hs hz hy hit ht
        go_wp2
        go_roundw
        case rel => exact ⟨k + 1, by omega, by go_num, HR, hb⟩
        case measure => simp [intOf]; omega
      · have zz : (y.key.toList == key.toList) = false := text_other.2 hz
        rw [if_neg hz] at hs
        have HS := Lib.hid hs
        have hle : (offR (t.l.take k) key).length ≤ 1000 := by
          have := off_length (t.l.take k) key
          rw [List.length_take] at this
          omega
        clear hs hz hy hit ht
        go_wp2_with (at_builtin; refine wpList_append_en rfl (.tmp 27) (.tmp 35) rfl X _ _ rfl ?qa wr.heap.size y rfl ?qb hle ?qc ?_)
        case qa => exact hrow.out.below ((Below.refl _ _).alloc (Nat.le_refl _) _)
        case qb => exact en_new wr y _
        case qc => have := hb.out.size; have := HX.out; simp; omega
        refine Lib.hid ?_
        intro v' w' hown hgr
        have HB' := Lib.hid (enRow.snoc_below hrow.out hb.out (by have := hb.out.size; have := HX.out; omega) hgr)
        rw [← HS.out] at hown
        have HR := Lib.hid hown
        clear hown hgr
        go_wp2
        go_roundw
        case rel => exact ⟨k + 1, by omega, by go_num, HR, HB'⟩
        case measure => simp [intOf]; omega
    · have hke : offR (t.l.take k) key = offR t.l key := by rw [List.take_of_length_le (by rw [HL.out]; omega)]
      rw [hke] at hrow
      obtain ⟨M, hM⟩ : ∃ M, offR t.l key = M := ⟨_, rfl⟩
      rw [hM] at hrow
      have hSM : (t.drop key i) = ({ t with l := M } : Tb Kp).raise i := by rw [← hM]; rfl
      have hOk2 : Hid ((t.drop key i).Ok) := Lib.hid (HOk.out.drop key hi)
      obtain ⟨A2, c2, rfl, hSK, hnc, hmc, hge⟩ := SK.of_row Kt.trC_len hrow.out
      obtain ⟨m, hmm⟩ : ∃ m, M.length = m := ⟨_, rfl⟩
      have hset : Hid (KrIs (fun k => S k ∨ X ≤ k) (wr.setCell ⟨B, 1, none⟩ (.slice A2 m c2)) B A2 c2 { t with l := M }) := Lib.hid (by
        rw [← hmm]
        exact (ht.fresh (g0 := X)).setRows hSK (fun b off e _ => ⟨.inr (hge b off e), by have := hge b off e; omega⟩) hnc hmc)
      have hf := ht.froz 1
      have hbl := ht.lt
      have hlast : t.last < 18446744073709551616 := HOk.out.lst
      have HR := Lib.hid (krraise_any (A := A2) (c := c2) (t := { t with l := M }) i _ hset.out hlast hi)
      have HSM := Lib.hid hSM
      rw [hmm] at hrow ⊢
      clear hke hM hSM hSK hnc hmc hge hmm ht
      go_wp2_with fail
      refine HR.out.mono ?_
      rintro e w2 ⟨rfl, hr2, hb2⟩
      have H2 := Lib.hid hr2
      have HB2 := Lib.hid hb2
      clear hr2 hb2 HR
      go_wp2
      refine bodyPost_end (results_none rfl _ _ _) rfl ?_
      refine ⟨rfl, ⟨hOk2.out, A2, c2, by rw [HSM.out]; exact H2.out⟩, ?_⟩
      have hbw : Below w.heap.size w wr := HBW.out.trans (hb.out.mono (by have := HX.out; omega))
      exact ((But.of_below hbw).trans (But.set (S := (· = B)) wr (p := ⟨B, 1, none⟩) rfl _)).trans HB2.out

theorem und_step {l : List (En)} {k : Nat} {p : ByteArray} (hk : k < l.length) : undR (l.take (k + 1)) p = undR (l.take k) p ++ (if underB l[k].key.data.toList p.data.toList = true then [l[k]] else []) := by
  unfold undR
  rw [List.take_succ_eq_append_getElem hk, List.filter_append]
  by_cases h : underB l[k].key.data.toList p.data.toList = true
  · rw [if_pos h, List.filter_cons_of_pos (by simpa using h)]; rfl
  · rw [if_neg h, List.filter_cons_of_neg (by simpa using h)]; rfl
set_option maxHeartbeats 4000000 in
theorem krlist_any {S : Nat → Prop} {B : Nat} {t : Tb Kp} (p : ByteArray) (w : World) (h : KrAt S w B t) (hp : p.size ≤ maxLen) :
    Calls Tryz.prog 32 #[.pointer (some ⟨B, 0, none⟩), .string p] w fun e w' => ∃ v, e = .returned v ∧ enRow w' w.heap.size v (undR t.l p) ∧ Below w.heap.size w w' := by
  obtain ⟨hok, A, c, h⟩ := h
  have h64 : t.l.length ≤ 64 := Nat.le_trans hok.len hok.most.2
  have HU : Hid (∀ (x : En) (_ : x ∈ t.l) (w1 : World), Calls Tryz.prog 60 #[.string x.key, .string p] w1 fun e w' => e = .returned (.bool (underB x.key.data.toList p.data.toList)) ∧ w1 = w') := Lib.hid fun x hx w1 => runder_any x.key p w1 (hok.key x hx) hp
  have H := Lib.hid h
  obtain ⟨g0, hX⟩ : ∃ g0, w.heap.size = g0 := ⟨_, rfl⟩
  have HG0 := Lib.hid hX
  obtain ⟨L, hL⟩ : ∃ L, t.l.length = L := ⟨_, rfl⟩
  rw [hL] at h64
  have HL := Lib.hid hL
  have hm : L ≤ 9223372036854775807 := by omega
  obtain ⟨M, hM⟩ : ∃ M, undR t.l p = M := ⟨_, rfl⟩
  rw [hM, hX]
  have HM := Lib.hid hM
  clear hok h hX hL hp hM
  go_enter Tryz.func32, Tryz.ntmps32
  go_wp2
  go_loopw [5, 6] (fun vv iv wr => ∃ k : Nat, k ≤ L ∧ iv = .int .i64 (k : Int) ∧ Hid (enRow wr g0 vv (undR (t.l.take k) p)) ∧ Hid (Below g0 w wr)) (fun _ iv _ => L - (intOf iv).toNat)
  case atStart => exact ⟨0, Nat.zero_le _, rfl, Lib.hid (rowK.nil _ _), Lib.hid (HG0.out ▸ Below.refl _ _)⟩
  case round =>
    obtain ⟨k, hk, rfl, hrow, hb⟩ := hrel
    have ht := H.out.below (by rw [HG0.out]; exact hb.out)
    have c1 : wr.cell? ⟨B, 1, none⟩ = some (.slice A L c) := by have := ht.c1; rw [HL.out] at this; exact this
    by_cases hlt : k < L
    · have hkl : k < t.l.length := by rw [HL.out]; exact hlt
      obtain ⟨b, off, rfl, hbl, hit⟩ := ht.row.at_ hkl hkl
      have hs := und_step (p := p) hkl
      have HUk := Lib.hid (HU.out t.l[k] (List.getElem_mem _) wr)
      obtain ⟨y, hy⟩ : ∃ y, t.l[k] = y := ⟨_, rfl⟩
      rw [hy] at hit hs HUk
      obtain ⟨e0, e1, e2, e3, e4, e5⟩ := Kt.tr_cells hit
      obtain ⟨ub, hub⟩ : ∃ ub, underB y.key.data.toList p.data.toList = ub := ⟨_, rfl⟩
      rw [hub] at hs HUk
      have HS := Lib.hid hs
      clear hs hy hit ht hub
      go_wp2_with fail
      refine HUk.out.mono ?_
      rintro e w' ⟨rfl, rfl⟩
      clear HUk
      cases ub with
      | false =>
        have HR := Lib.hid (show enRow wr g0 u5 (undR (t.l.take (k + 1)) p) by rw [HS.out, if_neg (by simp), List.append_nil]; exact hrow.out)
        go_wp2
        go_roundw
        case rel => exact ⟨k + 1, by omega, by go_num, HR, hb⟩
        case measure => simp [intOf]; omega
      | true =>
        have hle : (undR (t.l.take k) p).length ≤ 1000 := by
          have := und_length (t.l.take k) p
          rw [List.length_take] at this
          omega
        go_wp2_with (at_builtin; refine wpList_append_en rfl (.tmp 26) (.tmp 34) rfl g0 _ _ rfl ?qa wr.heap.size y rfl ?qb hle ?qc ?_)
        case qa => exact hrow.out.below ((Below.refl _ _).alloc (Nat.le_refl _) _)
        case qb => exact en_new wr y _
        case qc => have := hb.out.size; have := HG0.out; simp; omega
        refine Lib.hid ?_
        intro v' w' hown hgr
        have HB' := Lib.hid (enRow.snoc_below hrow.out hb.out (by have := hb.out.size; have := HG0.out; omega) hgr)
        rw [show undR (t.l.take k) p ++ [y] = undR (t.l.take (k + 1)) p by rw [HS.out]; simp] at hown
        have HR := Lib.hid hown
        clear hown hgr
        go_wp2
        go_roundw
        case rel => exact ⟨k + 1, by omega, by go_num, HR, HB'⟩
        case measure => simp [intOf]; omega
    · have hke : undR (t.l.take k) p = M := by rw [List.take_of_length_le (by rw [HL.out]; omega), HM.out]
      rw [hke] at hrow
      clear hke ht
      go_wp2
      go_ret
      exact ⟨_, rfl, hrow.out, hb.out⟩
end Go.Proofs.YtohnkagabpefdaaGreatDoor
