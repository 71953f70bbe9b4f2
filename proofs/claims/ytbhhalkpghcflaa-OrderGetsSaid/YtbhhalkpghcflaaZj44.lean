/-
  The document's read, walked behind the texts (layer 20).
-/
import Derived.Test.YtbhhalkpghcflaaZj43
namespace Go.Proofs.Ytbhhalkpghcflaa
open Go.RowKit
set_option linter.unusedSimpArgs false
set_option linter.unusedVariables false

set_option maxRecDepth 100000 in
set_option maxHeartbeats 4000000 in
theorem fd_tail (deep : Bool) (may : Nat) (S : Nat → Prop) (R : Nat) (s : St) (w : World) (kn : Nat) (s1 : St) (P : Nat) (hP : w.heap.size = P) (hRP : R < P) (hk255 : kn ≤ 255) (HG2 : Hid ((kindG may).rd s = (kn, s1))) (hss : ByteArray) (hz : hss.size = 16) (HX : Hid (∀ i (hi : i < 16), hss[i]'(by omega) = if hasB kn i then 120 else 46))
    (HDK : Hid (hasB kn 15 = (maskN (kn : Int) &&& may).testBit 15)) (HSUB2 : Hid (hasB kn 15 = true → ∀ W s', w.heap.size ≤ W.heap.size → RfAt S W R s' → Calls Try.prog 30 #[.pointer (some ⟨R, 0, none⟩), .bool true] W (FdP 32767 S R W s')))
    (HSN : Hid (∀ k, w.heap.size ≤ k → S k)) (HSP : Hid (S P ∧ S (P + 1))) (w9 : World) (LOW9 : Hid (But (fun k => k = R) w w9)) (HP9 : Hid (w9.heap[P]? = some (.cells #[.int .i64 0, .int .i64 0, .int .i64 0, .int .i64 0, .string ⟨#[]⟩, .string ⟨#[]⟩, .string ⟨#[]⟩, .string ⟨#[]⟩, .string ⟨#[]⟩, .string ⟨#[]⟩, .string ⟨#[]⟩, .string ⟨#[]⟩, .slice none 0 0, .bool false, .int .u64 0, .int .u64 0, .slice none 0 0] TCm (0, 0)))) (HSZ9 : Hid (P + 1 < w9.heap.size)) (ST : Hid (LpD S R (P + 1) w9.heap.size kn s1 11 w9))
    (u2 u3 u7 u8 u9 u10 u11 u12 u13 u14 u15 u16 u17 u18 u19 u20 u21 u22 u23 u24 u25 u26 u27 u28 u29 u30 u31 u32 u33 u34 u35 u36 u37 u38 u39 u40 u41 u42 u43 u44 u45 u46 u47 u48 u49 u50 u51 u52 u53 u54 u55 u56 u57 u58 u59 u60 u61 u62 u63 u64 u65 u66 u67 u68 u69 u70 u71 u72 u73 u74 u75 u76 u77 u78 u79 u80 u81 u82 u83 u84 u85 u86 u87 u88 u89 u90 u91 u92 u93 u94 u95 u96 u97 u98 u99 u100 u101 u102 u103 u104 u105 u106 u107 u108 u109 u110 u111 u112 u113 u114 u115 u116 u117 u118 u119 u120 u121 u122 u123 u124 u125 u126 u127 u128 u129 u130 u131 u132 u133 u134 u135 u136 u137 u138 u139 u140 u141 u142 u143 u144 u145 u146 : Value) : Code.wp Try.prog (tailN 11 bodF) (bodyPost Try.prog Try.f30 (FdP may S R w s)) { tmps := #[.pointer (some ⟨R, 0, none⟩), .bool deep, u2, u3, .pointer (some ⟨P, 0, none⟩), .pointer (some ⟨P + 1, 0, none⟩), .string hss, u7, u8, u9, u10, u11, u12, u13, u14, u15, u16, u17, u18, u19, u20, u21, u22, u23, u24, u25, u26, u27, u28, u29, u30, u31, u32, u33, u34, u35, u36, u37, u38, u39, u40, u41, u42, u43, u44, u45, u46, u47, u48, u49, u50, u51, u52, u53, u54, u55, u56, u57, u58, u59, u60, u61, u62, u63, u64, u65, u66, u67, u68, u69, u70, u71, u72, u73, u74, u75, u76, u77, u78, u79, u80, u81, u82, u83, u84, u85, u86, u87, u88, u89, u90, u91, u92, u93, u94, u95, u96, u97, u98, u99, u100, u101, u102, u103, u104, u105, u106, u107, u108, u109, u110, u111, u112, u113, u114, u115, u116, u117, u118, u119, u120, u121, u122, u123, u124, u125, u126, u127, u128, u129, u130, u131, u132, u133, u134, u135, u136, u137, u138, u139, u140, u141, u142, u143, u144, u145, u146], defers := [] } w9 := by
  have hsz9 := HSZ9.out
  change Code.wp _ (Code.seq _ _) _ _ _
  have g11 := HX.out 11 (by omega)
  obtain ⟨B11, hB11⟩ : ∃ B, hasB kn 11 = B := ⟨_, rfl⟩
  rw [hB11] at g11
  have i11 : 11 < hss.size := by omega
  have t11 : (((hss[11]'i11).toNat : Int) == 120) = B11 := by rw [g11]; cases B11 <;> rfl
  have H11 := Lib.hid hB11
  clear g11 hB11
  go_upto_if 99 with (fail)
  go_cut [102] (fun sx wx => But (fun j => j = R ∨ j = P + 1) w9 wx ∧ LpD S R (P + 1) w9.heap.size kn s1 12 wx)
  case first =>
    obtain ⟨hlw, hst⟩ := (⟨But.refl _ _, ST.out⟩ : But (fun j => j = R ∨ j = P + 1) w9 _ ∧ LpD S R (P + 1) w9.heap.size kn s1 11 _)
    have HLWk := Lib.hid hlw
    have HSTk := Lib.hid hst
    have hszk := hlw.size
    clear hlw hst
    cases B11 with
    | true =>
      have C2 := Lib.hid (fTexts_any S R 8 80 _ _ HSTk.out.rd (by decide) (by decide) (.inl (by decide)))
      obtain ⟨vs, hvs⟩ : ∃ vs, (itText 80).listOut 8 (stK kn s1 11) = vs := ⟨_, rfl⟩
      rw [show (8 : Int).toNat = 8 from rfl, show (80 : Int).toNat = 80 from rfl, hvs] at C2
      have HVS := Lib.hid hvs
      clear hvs
      go_wp2_with fail
      refine C2.out.mono ?_
      rintro e wa ⟨A, c, rfl, hrv, hown, hra, hba⟩
      obtain ⟨⟨c0, q0⟩, f0⟩ := HSTk.out.cell (k := 12) hba (by decide) (by omega) (by omega)
      have hf : (fvC 11).rd (stK kn s1 11) = ((textsF.rd (stK kn s1 11)).1, (itText 80).listNext 8 (stK kn s1 11)) := by rw [show fvC 11 = textsF from rfl, textsF_rd]
      rw [List.length_map] at hrv hown
      have hcv : CellV w9.heap.size wa (.texts vs) (.slice A vs.length c) := ⟨A, _, c, rfl, hrv, (fun b off e hn2 => Nat.le_trans hszk (hown b off e hn2)), by rw [← HVS.out]; have := listOut_len (stK kn s1 11); unfold maxLen; omega, fun t ht => by rw [← HVS.out] at ht; have := listOut_le (stK kn s1 11) t ht; unfold maxLen; omega⟩
      have HN := Lib.hid (HSTk.out.next (k := 11) (v := .texts vs) H11.out (by decide) hba (by rw [hf]; exact hra) (by omega) (by omega) (by omega) HSP.out.2 (by omega) (by omega) rfl hcv (fun e0 => by rw [hf] at e0 ⊢; rw [← HVS.out]; exact listOut_ok e0))
      have HLX := Lib.hid (fun c => (HLWk.out.trans (hba.mono (S' := fun j => j = R ∨ j = P + 1) (fun j hj => .inl hj))).trans (But.set (S := fun j => j = R ∨ j = P + 1) wa (p := ⟨P + 1, 12, none⟩) (.inr rfl) c))
      clear hba hra C2 hrv hown hf hcv
      go_wp2
      go_meet
      exact ⟨HLX.out _, HN.out⟩
    | false =>
      go_wp2
      go_meet
      exact ⟨HLWk.out, HSTk.out.no (by decide) H11.out⟩
  case rest =>
    have HQ12 := Lib.hid hcut
    clear hcut
    have g12 := HX.out 12 (by omega)
    obtain ⟨B12, hB12⟩ : ∃ B, hasB kn 12 = B := ⟨_, rfl⟩
    rw [hB12] at g12
    have i12 : 12 < hss.size := by omega
    have t12 : (((hss[12]'i12).toNat : Int) == 120) = B12 := by rw [g12]; cases B12 <;> rfl
    have H12 := Lib.hid hB12
    clear g12 hB12
    go_upto_if 105 with (fail)
    go_cut [108] (fun sx wx => But (fun j => j = R ∨ j = P + 1) w9 wx ∧ LpD S R (P + 1) w9.heap.size kn s1 13 wx)
    case first =>
      obtain ⟨hlw, hst⟩ := (HQ12.out : But (fun j => j = R ∨ j = P + 1) w9 _ ∧ LpD S R (P + 1) w9.heap.size kn s1 12 _)
      have HLWk := Lib.hid hlw
      have HSTk := Lib.hid hst
      have hszk := hlw.size
      clear hlw hst
      cases B12 with
      | true =>
        have C2 := Lib.hid (fFlag_any S R _ _ HSTk.out.rd)
        obtain ⟨vs, hvs⟩ : ∃ vs, itFlag.out (stK kn s1 12) = vs := ⟨_, rfl⟩
        rw [hvs] at C2
        have HVS := Lib.hid hvs
        clear hvs
        go_wp2_with fail
        refine C2.out.mono ?_
        rintro e wa ⟨rfl, hra, hba⟩
        obtain ⟨⟨c0, q0⟩, f0⟩ := HSTk.out.cell (k := 13) hba (by decide) (by omega) (by omega)
        have hf : (fvC 12).rd (stK kn s1 12) = (.flag vs, itFlag.next (stK kn s1 12)) := by rw [← HVS.out]; rfl
        have HN := Lib.hid (HSTk.out.next (k := 12) (v := .flag vs) H12.out (by decide) hba (by rw [hf]; exact hra) (by omega) (by omega) (by omega) HSP.out.2 (by omega) (by omega) rfl rfl (fun e0 => by rw [hf]))
        have HLX := Lib.hid (fun c => (HLWk.out.trans (hba.mono (S' := fun j => j = R ∨ j = P + 1) (fun j hj => .inl hj))).trans (But.set (S := fun j => j = R ∨ j = P + 1) wa (p := ⟨P + 1, 13, none⟩) (.inr rfl) c))
        clear hba hra C2 hf
        go_wp2
        go_meet
        exact ⟨HLX.out _, HN.out⟩
      | false =>
        go_wp2
        go_meet
        exact ⟨HLWk.out, HSTk.out.no (by decide) H12.out⟩
    case rest =>
      have HQ13 := Lib.hid hcut
      clear hcut
      have g13 := HX.out 13 (by omega)
      obtain ⟨B13, hB13⟩ : ∃ B, hasB kn 13 = B := ⟨_, rfl⟩
      rw [hB13] at g13
      have i13 : 13 < hss.size := by omega
      have t13 : (((hss[13]'i13).toNat : Int) == 120) = B13 := by rw [g13]; cases B13 <;> rfl
      have H13 := Lib.hid hB13
      clear g13 hB13
      go_upto_if 111 with (fail)
      go_cut [114] (fun sx wx => But (fun j => j = R ∨ j = P + 1) w9 wx ∧ LpD S R (P + 1) w9.heap.size kn s1 14 wx)
      case first =>
        obtain ⟨hlw, hst⟩ := (HQ13.out : But (fun j => j = R ∨ j = P + 1) w9 _ ∧ LpD S R (P + 1) w9.heap.size kn s1 13 _)
        have HLWk := Lib.hid hlw
        have HSTk := Lib.hid hst
        have hszk := hlw.size
        clear hlw hst
        cases B13 with
        | true =>
          have C2 := Lib.hid (fNum_any S R 18446744073709551615 _ _ HSTk.out.rd (by decide))
          unfold u64V at C2
          obtain ⟨vs, hvs⟩ : ∃ vs, (itNum 18446744073709551615).out (stK kn s1 13) = vs := ⟨_, rfl⟩
          rw [hvs] at C2
          have HVS := Lib.hid hvs
          have hvl : vs ≤ 18446744073709551615 := by rw [← hvs]; exact num_out_le _ _
          clear hvs
          go_wp2_with fail
          refine C2.out.mono ?_
          rintro e wa ⟨rfl, hra, hba⟩
          obtain ⟨⟨c0, q0⟩, f0⟩ := HSTk.out.cell (k := 14) hba (by decide) (by omega) (by omega)
          have hf : (fvC 13).rd (stK kn s1 13) = (.idx vs, (itNum 18446744073709551615).next (stK kn s1 13)) := by rw [← HVS.out]; rfl
          have HN := Lib.hid (HSTk.out.next (k := 13) (v := .idx vs) H13.out (by decide) hba (by rw [hf]; exact hra) (by omega) (by omega) (by omega) HSP.out.2 (by omega) (by omega) ⟨by decide, hvl⟩ ⟨rfl, by omega⟩ (fun e0 => by rw [hf]))
          have HLX := Lib.hid (fun c => (HLWk.out.trans (hba.mono (S' := fun j => j = R ∨ j = P + 1) (fun j hj => .inl hj))).trans (But.set (S := fun j => j = R ∨ j = P + 1) wa (p := ⟨P + 1, 14, none⟩) (.inr rfl) c))
          clear hba hra C2 hf
          go_wp2
          go_meet
          exact ⟨HLX.out _, HN.out⟩
        | false =>
          go_wp2
          go_meet
          exact ⟨HLWk.out, HSTk.out.no (by decide) H13.out⟩
      case rest =>
        have HQ14 := Lib.hid hcut
        clear hcut
        have g14 := HX.out 14 (by omega)
        obtain ⟨B14, hB14⟩ : ∃ B, hasB kn 14 = B := ⟨_, rfl⟩
        rw [hB14] at g14
        have i14 : 14 < hss.size := by omega
        have t14 : (((hss[14]'i14).toNat : Int) == 120) = B14 := by rw [g14]; cases B14 <;> rfl
        have H14 := Lib.hid hB14
        clear g14 hB14
        go_upto_if 117 with (fail)
        go_cut [120] (fun sx wx => But (fun j => j = R ∨ j = P + 1) w9 wx ∧ LpD S R (P + 1) w9.heap.size kn s1 15 wx)
        case first =>
          obtain ⟨hlw, hst⟩ := (HQ14.out : But (fun j => j = R ∨ j = P + 1) w9 _ ∧ LpD S R (P + 1) w9.heap.size kn s1 14 _)
          have HLWk := Lib.hid hlw
          have HSTk := Lib.hid hst
          have hszk := hlw.size
          clear hlw hst
          cases B14 with
          | true =>
            have C2 := Lib.hid (fNum_any S R 18446744073709551615 _ _ HSTk.out.rd (by decide))
            unfold u64V at C2
            obtain ⟨vs, hvs⟩ : ∃ vs, (itNum 18446744073709551615).out (stK kn s1 14) = vs := ⟨_, rfl⟩
            rw [hvs] at C2
            have HVS := Lib.hid hvs
            have hvl : vs ≤ 18446744073709551615 := by rw [← hvs]; exact num_out_le _ _
            clear hvs
            go_wp2_with fail
            refine C2.out.mono ?_
            rintro e wa ⟨rfl, hra, hba⟩
            obtain ⟨⟨c0, q0⟩, f0⟩ := HSTk.out.cell (k := 15) hba (by decide) (by omega) (by omega)
            have hf : (fvC 14).rd (stK kn s1 14) = (.idx vs, (itNum 18446744073709551615).next (stK kn s1 14)) := by rw [← HVS.out]; rfl
            have HN := Lib.hid (HSTk.out.next (k := 14) (v := .idx vs) H14.out (by decide) hba (by rw [hf]; exact hra) (by omega) (by omega) (by omega) HSP.out.2 (by omega) (by omega) ⟨by decide, hvl⟩ ⟨rfl, by omega⟩ (fun e0 => by rw [hf]))
            have HLX := Lib.hid (fun c => (HLWk.out.trans (hba.mono (S' := fun j => j = R ∨ j = P + 1) (fun j hj => .inl hj))).trans (But.set (S := fun j => j = R ∨ j = P + 1) wa (p := ⟨P + 1, 15, none⟩) (.inr rfl) c))
            clear hba hra C2 hf
            go_wp2
            go_meet
            exact ⟨HLX.out _, HN.out⟩
          | false =>
            go_wp2
            go_meet
            exact ⟨HLWk.out, HSTk.out.no (by decide) H14.out⟩
        case rest =>
          have HQ15 := Lib.hid hcut
          clear hcut
          refine (‹∀ (a : Act) (w : World), Code.wp _ _ _ a w → _› _ _ ?_)
          exact fd_subs deep may S R s w kn s1 P hP hRP hk255 HG2 hss hz HX HDK HSUB2 HSN HSP w9 _ LOW9 HP9 HSZ9 HQ15 _ _ _ _ _ _ _ _ _ _ _ _ _ _ _ _ _ _ _ _ _ _ _ _ _ _ _ _ _ _ _ _ _ _ _ _ _ _ _ _ _ _ _ _ _ _ _ _ _ _ _ _ _ _ _ _ _ _ _ _ _ _ _ _ _ _ _ _ _ _ _ _ _ _ _ _ _ _ _ _ _ _ _ _ _ _ _ _ _ _ _ _ _ _ _ _ _ _ _ _ _ _ _ _ _ _ _ _ _ _ _ _ _ _ _ _ _ _ _ _ _ _ _ _ _ _ _ _ _ _ _ _ _ _ _ _ _ _ _ _ _ _
end Go.Proofs.Ytbhhalkpghcflaa
