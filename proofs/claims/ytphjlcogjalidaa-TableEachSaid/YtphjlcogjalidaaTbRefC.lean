/-
  The document's Under, walked (layer 15).
-/
import Derived.Test.YtphjlcogjalidaaTbRefB
import Derived.Test.YtphjlcogjalidaaTbUnder
namespace Go.Proofs.Ytphjlcogjalidaa
open Go.RowKit
set_option linter.unusedSimpArgs false
set_option linter.unusedVariables false

/-- The rows under a prefix. -/
def undR (l : List (Rw Int)) (p : ByteArray) : List (Rw Int) := l.filter fun x => underB x.key.data.toList p.data.toList
theorem und_step {l : List (Rw Int)} {k : Nat} {p : ByteArray} (hk : k < l.length) : undR (l.take (k + 1)) p = undR (l.take k) p ++ (if underB l[k].key.data.toList p.data.toList = true then [l[k]] else []) := by
  unfold undR
  rw [List.take_succ_eq_append_getElem hk, List.filter_append]
  by_cases h : underB l[k].key.data.toList p.data.toList = true
  · rw [if_pos h, List.filter_cons_of_pos (by simpa using h)]; rfl
  · rw [if_neg h, List.filter_cons_of_neg (by simpa using h)]; rfl
theorem und_length (l : List (Rw Int)) (p : ByteArray) : (undR l p).length ≤ l.length := List.length_filter_le _ _
set_option maxHeartbeats 4000000 in
theorem runderT_any {S : Nat → Prop} {B : Nat} {t : Tb Int} (p : ByteArray) (w : World) (h : RtAt S w B t) (hp : p.size ≤ maxLen) :
    Calls Try.prog 26 #[.pointer (some ⟨B, 0, none⟩), .string p] w fun e w' => ∃ v, e = .returned v ∧ trRow w' w.heap.size v (undR t.l p) ∧ Below w.heap.size w w' := by
  obtain ⟨hok, A, c, h⟩ := h
  have h64 : t.l.length ≤ 64 := Nat.le_trans hok.len hok.most.2
  have HU : Hid (∀ (x : Rw Int) (_ : x ∈ t.l) (w1 : World), Calls Try.prog 34 #[.string x.key, .string p] w1 fun e w' => e = .returned (.bool (underB x.key.data.toList p.data.toList)) ∧ w1 = w') := Lib.hid fun x hx w1 => runder_any x.key p w1 (hok.key x hx) hp
  have H := Lib.hid h
  obtain ⟨g0, hX⟩ : ∃ g0, w.heap.size = g0 := ⟨_, rfl⟩
  have HG0 := Lib.hid hX
  obtain ⟨L, hL⟩ : ∃ L, t.l.length = L := ⟨_, rfl⟩
  rw [hL] at h64
  have HL := Lib.hid hL
  have hm : L ≤ 9223372036854775807 := by omega
  obtain ⟨M, hM⟩ : ∃ M, undR t.l p = M := ⟨_, rfl⟩
  rw [hM, hX]
  have HM := Lib.hid hM
  clear hok h hX hL hp hM
  go_enter Try.func26, Try.ntmps26
  go_wp2
  go_loopw [5, 6] (fun vv iv wr => ∃ k : Nat, k ≤ L ∧ iv = .int .i64 (k : Int) ∧ Hid (trRow wr g0 vv (undR (t.l.take k) p)) ∧ Hid (Below g0 w wr)) (fun _ iv _ => L - (intOf iv).toNat)
  case atStart => exact ⟨0, Nat.zero_le _, rfl, Lib.hid (rowK.nil _ _), Lib.hid (HG0.out ▸ Below.refl _ _)⟩
  case round =>
    obtain ⟨k, hk, rfl, hrow, hb⟩ := hrel
    have ht := H.out.below (by rw [HG0.out]; exact hb.out)
    have c1 : wr.cell? ⟨B, 1, none⟩ = some (.slice A L c) := by have := ht.c1; rw [HL.out] at this; exact this
    by_cases hlt : k < L
    · have hkl : k < t.l.length := by rw [HL.out]; exact hlt
      obtain ⟨b, off, rfl, hbl, hit⟩ := ht.row.at_ hkl hkl
      have hs := und_step (p := p) hkl
      have HUk := Lib.hid (HU.out t.l[k] (List.getElem_mem _) wr)
      obtain ⟨y, hy⟩ : ∃ y, t.l[k] = y := ⟨_, rfl⟩
      rw [hy] at hit hs HUk
      obtain ⟨e0, e1, e2, e3⟩ := tr_cells hit
      obtain ⟨ub, hub⟩ : ∃ ub, underB y.key.data.toList p.data.toList = ub := ⟨_, rfl⟩
      rw [hub] at hs HUk
      have HS := Lib.hid hs
      clear hs hy hit ht hub
      go_wp2_with fail
      refine HUk.out.mono ?_
      rintro e w' ⟨rfl, rfl⟩
      clear HUk
      cases ub with
      | false =>
        have HR := Lib.hid (show trRow wr g0 u5 (undR (t.l.take (k + 1)) p) by rw [HS.out, if_neg (by simp), List.append_nil]; exact hrow.out)
        go_wp2
        go_roundw
        case rel => exact ⟨k + 1, by omega, by go_num, HR, hb⟩
        case measure => simp [intOf]; omega
      | true =>
        have hle : (undR (t.l.take k) p).length ≤ 1000 := by
          have := und_length (t.l.take k) p
          rw [List.length_take] at this
          omega
        go_wp2_with (at_builtin; refine wpList_append_tr rfl (.tmp 26) (.tmp 34) rfl g0 _ _ rfl ?qa wr.heap.size y rfl ?qb hle ?qc ?_)
        case qa => exact hrow.out.below ((Below.refl _ _).alloc (Nat.le_refl _) _)
        case qb => exact tr_new wr y _
        case qc => have := hb.out.size; have := HG0.out; simp; omega
        refine Lib.hid ?_
        intro v' w' hown hgr
        have HB' := Lib.hid (trRow.snoc_below hrow.out hb.out (by have := hb.out.size; have := HG0.out; omega) hgr)
        rw [show undR (t.l.take k) p ++ [y] = undR (t.l.take (k + 1)) p by rw [HS.out]; simp] at hown
        have HR := Lib.hid hown
        clear hown hgr
        go_wp2
        go_roundw
        case rel => exact ⟨k + 1, by omega, by go_num, HR, HB'⟩
        case measure => simp [intOf]; omega
    · have hke : undR (t.l.take k) p = M := by rw [List.take_of_length_le (by rw [HL.out]; omega), HM.out]
      rw [hke] at hrow
      clear hke ht
      go_wp2
      go_ret
      exact ⟨_, rfl, hrow.out, hb.out⟩
end Go.Proofs.Ytphjlcogjalidaa
