/-
  The document's Under's and Drop's loops: the document's Drop, walked (layer 15).
-/
import Derived.Test.YtphjlcogjalidaaTbRefA
namespace Go.Proofs.Ytphjlcogjalidaa
open Go.RowKit
set_option linter.unusedSimpArgs false
set_option linter.unusedVariables false

theorem off_step {l : List (Rw Int)} {k : Nat} {key : ByteArray} (hk : k < l.length) : offR (l.take (k + 1)) key = offR (l.take k) key ++ (if l[k].key = key then [] else [l[k]]) := by
  unfold offR
  rw [List.take_succ_eq_append_getElem hk, List.filter_append]
  by_cases h : l[k].key = key
  · rw [if_pos h, List.filter_cons_of_neg (by simp [h])]; rfl
  · rw [if_neg h, List.filter_cons_of_pos (by rw [text_other.2 h]; rfl)]; rfl
/-- Of what the call itself has made, the table may have it. -/
theorem RtIs.fresh {S : Nat → Prop} {w : World} {B g0 : Nat} {A : Option Addr} {c : Nat} {t : Tb Int} (h : RtIs S w B A c t) : RtIs (fun k => S k ∨ g0 ≤ k) w B A c t := h.narrow fun _ _ h => .inl h
set_option maxHeartbeats 4000000 in
theorem rdrop_any {S : Nat → Prop} {B : Nat} {t : Tb Int} (key : ByteArray) (i : Nat) (w : World) (h : RtAt S w B t) (hi : i < 18446744073709551616) :
    Calls Try.prog 24 #[.pointer (some ⟨B, 0, none⟩), .string key, .int .u64 (i : Int)] w fun e w' => e = .returned (.bool (getR t.l key).isSome) ∧ RtAt (fun k => S k ∨ w.heap.size ≤ k) w' B (if (getR t.l key).isSome then t.drop key i else t) ∧ But (· = B) w w' := by
  obtain ⟨hok, A, c, h⟩ := h
  have h64 : t.l.length ≤ 64 := Nat.le_trans hok.len hok.most.2
  have HOk := Lib.hid hok
  have H := Lib.hid h
  have HG := Lib.hid (rget_any key w h)
  obtain ⟨X, hX⟩ : ∃ X, w.heap.size = X := ⟨_, rfl⟩
  have HX := Lib.hid hX
  have hBX : B < X := hX ▸ h.lt
  obtain ⟨L, hL⟩ : ∃ L, t.l.length = L := ⟨_, rfl⟩
  rw [hL] at h64
  have HL := Lib.hid hL
  obtain ⟨o, ho⟩ : ∃ o, getR t.l key = o := ⟨_, rfl⟩
  rw [ho] at HG ⊢
  rw [hX]
  have HO := Lib.hid ho
  clear hok h hX hL ho
  go_enter Try.func24, Try.ntmps24
  go_wp2_with fail
  refine HG.out.mono ?_
  rintro e w1 ⟨rfl, hb1⟩
  have HB1 := Lib.hid hb1
  clear HG hb1
  cases o with
  | none =>
    unfold gotR
    simp only [Option.getD_none, Option.isSome_none]
    unfold trV
    go_wp2
    go_ret
    have hb : Below w.heap.size w (w1.alloc (.cells #[.string noRw.key, .int .i64 noRw.val, .int .u64 (noRw.made : Int), .int .u64 (noRw.ix : Int)] 35)) := HB1.out.alloc HB1.out.size _
    exact ⟨rfl, ⟨HOk.out, A, c, (H.out.below hb).fresh⟩, But.of_below hb⟩
  | some r =>
    unfold gotR
    simp only [Option.getD_some, Option.isSome_some]
    unfold trV
    obtain ⟨W, hW⟩ : ∃ W, w1.alloc (.cells #[.string r.key, .int .i64 r.val, .int .u64 (r.made : Int), .int .u64 (r.ix : Int)] 35) = W := ⟨_, rfl⟩
    have hb : Below w.heap.size w W := by rw [← hW]; exact HB1.out.alloc HB1.out.size _
    obtain ⟨g0, hg0⟩ : ∃ g0, W.heap.size = g0 := ⟨_, rfl⟩
    have hX0 : X ≤ g0 := by rw [← HX.out, ← hg0]; exact hb.size
    have HW := Lib.hid hW
    have HT := Lib.hid (H.out.below hb)
    have HBW := Lib.hid hb
    have HG0 := Lib.hid hg0
    have hm : L ≤ 9223372036854775807 := by omega
    clear hW hb hg0
    go_wp2_with fail
    rw [HW.out]
    go_loopw [9, 10] (fun vv iv wr => ∃ k : Nat, k ≤ L ∧ iv = .int .i64 (k : Int) ∧ Hid (trRow wr g0 vv (offR (t.l.take k) key)) ∧ Hid (Below g0 W wr)) (fun _ iv _ => L - (intOf iv).toNat)
    case atStart => exact ⟨0, Nat.zero_le _, rfl, Lib.hid (rowK.nil _ _), Lib.hid (HG0.out ▸ Below.refl _ _)⟩
    case round =>
      obtain ⟨k, hk, rfl, hrow, hb⟩ := hrel
      have ht := HT.out.below (by rw [HG0.out]; exact hb.out)
      have c1 : wr.cell? ⟨B, 1, none⟩ = some (.slice A L c) := by have := ht.c1; rw [HL.out] at this; exact this
      by_cases hlt : k < L
      · have hkl : k < t.l.length := by rw [HL.out]; exact hlt
        obtain ⟨b, off, rfl, hbl, hit⟩ := ht.row.at_ hkl hkl
        have hs := off_step (key := key) hkl
        obtain ⟨y, hy⟩ : ∃ y, t.l[k] = y := ⟨_, rfl⟩
        rw [hy] at hit hs
        obtain ⟨e0, e1, e2, e3⟩ := tr_cells hit
        by_cases hz : y.key = key
        · have zz : (y.key.toList == key.toList) = true := text_same.2 hz
          rw [if_pos hz, List.append_nil] at hs
          have HR := Lib.hid (show trRow wr g0 u9 (offR (t.l.take (k + 1)) key) by rw [hs]; exact hrow.out)
          clear hs hz hy hit ht
          go_wp2
          go_roundw
          case rel => exact ⟨k + 1, by omega, by go_num, HR, hb⟩
          case measure => simp [intOf]; omega
        · have zz : (y.key.toList == key.toList) = false := text_other.2 hz
          rw [if_neg hz] at hs
          have HS := Lib.hid hs
          have hle : (offR (t.l.take k) key).length ≤ 1000 := by
            have := off_length (t.l.take k) key
            rw [List.length_take] at this
            omega
          clear hs hz hy hit ht
          go_wp2_with (at_builtin; refine wpList_append_tr rfl (.tmp 38) (.tmp 46) rfl g0 _ _ rfl ?qa wr.heap.size y rfl ?qb hle ?qc ?_)
          case qa => exact hrow.out.below ((Below.refl _ _).alloc (Nat.le_refl _) _)
          case qb => exact tr_new wr y _
          case qc => have := hb.out.size; have := HG0.out; simp; omega
          refine Lib.hid ?_
          intro v' w' hown hgr
          have HB' := Lib.hid (trRow.snoc_below hrow.out hb.out (by have := hb.out.size; have := HG0.out; omega) hgr)
          rw [← HS.out] at hown
          have HR := Lib.hid hown
          clear hown hgr
          go_wp2
          go_roundw
          case rel => exact ⟨k + 1, by omega, by go_num, HR, HB'⟩
          case measure => simp [intOf]; omega
      · have hke : offR (t.l.take k) key = offR t.l key := by rw [List.take_of_length_le (by rw [HL.out]; omega)]
        rw [hke] at hrow
        obtain ⟨M, hM⟩ : ∃ M, offR t.l key = M := ⟨_, rfl⟩
        rw [hM] at hrow
        have hSM : (t.drop key i) = ({ t with l := M } : Tb Int).raise i := by rw [← hM]; rfl
        have hOk2 : Hid ((t.drop key i).Ok) := Lib.hid (HOk.out.drop key hi)
        obtain ⟨A2, c2, rfl, hSK, hnc, hmc, hge⟩ := SK.of_row trC_len hrow.out
        obtain ⟨m, hmm⟩ : ∃ m, M.length = m := ⟨_, rfl⟩
        have hset : Hid (RtIs (fun k => S k ∨ X ≤ k) (wr.setCell ⟨B, 1, none⟩ (.slice A2 m c2)) B A2 c2 { t with l := M }) := Lib.hid (by
          rw [← hmm]
          exact (ht.fresh (g0 := X)).setRows hSK (fun b off e _ => ⟨.inr (Nat.le_trans hX0 (hge b off e)), by have := hge b off e; omega⟩) hnc hmc)
        have hf := ht.froz 1
        have hbl := ht.lt
        have hlast : t.last < 18446744073709551616 := HOk.out.lst
        have HR := Lib.hid (rraise_any (A := A2) (c := c2) (t := { t with l := M }) i _ hset.out hlast hi)
        have HSM := Lib.hid hSM
        rw [hmm] at hrow ⊢
        clear hke hM hSM hSK hnc hmc hge hmm ht
        go_wp2_with fail
        refine HR.out.mono ?_
        rintro e w2 ⟨rfl, hr2, hb2⟩
        have H2 := Lib.hid hr2
        have HB2 := Lib.hid hb2
        clear hr2 hb2 HR
        go_wp2
        go_ret
        refine ⟨rfl, ⟨hOk2.out, A2, c2, by rw [HSM.out]; exact H2.out⟩, ?_⟩
        have hbw : Below w.heap.size w wr := HBW.out.trans (hb.out.mono (by have := HX.out; omega))
        exact ((But.of_below hbw).trans (But.set (S := (· = B)) wr (p := ⟨B, 1, none⟩) rfl _)).trans HB2.out
end Go.Proofs.Ytphjlcogjalidaa
