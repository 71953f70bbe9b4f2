/-
  Bytes that are read as a number, a text, a flag and two lists, to their end, are just what these lay: the law sodalitylaw04.FieldOnce over the contracts.
-/
import Derived.Test.YtgjgndpeopiifaaDNone
import Derived.Test.YtgjgndpeopiifaaDLayD
namespace Go.Proofs.Ytgjgndpeopiifaa
open Go.RowKit
set_option linter.unusedSimpArgs false

theorem done_zero {s : St} (h : doneS s = 0) : s.e = 0 ∧ s.b = [] := by
  unfold doneS at h
  by_cases h1 : s.e = 0 ∧ 0 < s.b.length
  · rw [if_pos h1] at h; cases h
  · rw [if_neg h1] at h
    refine ⟨h, ?_⟩
    cases hb : s.b with
    | nil => rfl
    | cons x t => exact absurd ⟨h, by rw [hb]; simp⟩ h1
theorem out_lt (most : Nat) (s : St) : (itNum most).out s < 256 ^ 8 := by
  unfold It.out
  split
  · show 0 < 256 ^ 8; omega
  · split
    · show 0 < 256 ^ 8; omega
    · rename_i h1 h2
      exact (num_laid (errNum_zero (most := most) (show (itNum most).err s.b = 0 by simpa using h2)).1).2.1
theorem outs_lt (most : Nat) : ∀ (k : Nat) (s : St), ∀ x ∈ (itNum most).outs k s, x < 256 ^ 8
  | 0, _, _, h => by cases h
  | k + 1, s, x, h => by
    rcases List.mem_cons.1 h with rfl | h
    · exact out_lt most s
    · exact outs_lt most k _ x h
theorem listOut_lt (most many : Nat) (s : St) : ∀ x ∈ (itNum most).listOut many s, x < 256 ^ 8 := by
  unfold It.listOut
  split
  · intro x h; cases h
  · exact outs_lt most _ _
theorem once_plain (M K : Nat) (xs : List UInt8) (s1 s2 s3 s4 s5 : St) (h1 : (itNum M).next ⟨xs, 0⟩ = s1) (h2 : (itText K).next s1 = s2) (h3 : itFlag.next s2 = s3) (h4 : (itText K).listNext K s3 = s4) (h5 : (itNum M).listNext K s4 = s5) (hd : doneS s5 = 0) :
    xs = numB ((itNum M).out ⟨xs, 0⟩) ++ textB ((itText K).out s1) ++ flagB (itFlag.out s2) ++ textsB ((itText K).listOut K s3) ++ numsB ((itNum M).listOut K s4) := by
  obtain ⟨e5, b5⟩ := done_zero hd
  rw [← h5] at e5 b5
  obtain ⟨e4, l5, _⟩ := laid_list (itNum M) numB (fun s h => (laid_num h).2.1) K e5
  rw [← h4] at e4
  obtain ⟨e3, l4, _⟩ := laid_list (itText K) textB (fun s h => (laid_text h).2.1) K e4
  rw [h4] at l4
  rw [← h3] at e3
  obtain ⟨e2, l3⟩ := laid_flag e3
  rw [h3] at l3
  rw [← h2] at e2
  obtain ⟨e1, l2, _⟩ := laid_text e2
  rw [h2] at l2
  rw [← h1] at e1
  obtain ⟨_, l1, _, _⟩ := laid_num e1
  rw [h1] at l1
  rw [b5, List.append_nil] at l5
  have l1' : xs = numB ((itNum M).out ⟨xs, 0⟩) ++ s1.b := l1
  have e : s1.b = textB ((itText K).out s1) ++ (flagB (itFlag.out s2) ++ (textsB ((itText K).listOut K s3) ++ numsB ((itNum M).listOut K s4))) := by
    rw [l2, l3, l4, l5]; rfl
  rw [e] at l1'
  simpa only [List.append_assoc] using l1'
theorem flat_len {α : Type} (lay : α → List UInt8) (h : ∀ x, 1 ≤ (lay x).length) : ∀ l : List α, l.length ≤ (l.flatMap lay).length
  | [] => by simp
  | x :: r => by
    have h1 := h x
    have h2 := flat_len lay h r
    rw [List.flatMap_cons, List.length_append, List.length_cons]
    omega
theorem textB_pos (s : List UInt8) : 1 ≤ (textB s).length := by rw [textB_length]; have := numB_pos s.length; omega
def bigM : Nat := 18446744073709551615
def bigK : Int := 1099511627776

set_option maxHeartbeats 4000000 in
theorem once4_walk (A : Option Addr) (n c : Nat) (xs : List UInt8) (w : World) (hR : RB w A n xs) (hnil : A = none → c = 0) (hnc : n ≤ c) (hn : n ≤ 140737488351232) :
    Calls Try.prog 6 #[.slice A n c] w fun e w' => e = .returned (.bool true) ∧ Below w.heap.size w w' := by
  have HW := Lib.hid (fun w => works_any w)
  have HR := Lib.hid hR
  have hl := hR.1
  obtain ⟨s1, h1⟩ : ∃ s, (itNum bigM).next ⟨xs, 0⟩ = s := ⟨_, rfl⟩
  obtain ⟨s2, h2⟩ : ∃ s, (itText bigK.toNat).next s1 = s := ⟨_, rfl⟩
  obtain ⟨s3, h3⟩ : ∃ s, itFlag.next s2 = s := ⟨_, rfl⟩
  obtain ⟨s4, h4⟩ : ∃ s, (itText bigK.toNat).listNext bigK.toNat s3 = s := ⟨_, rfl⟩
  obtain ⟨s5, h5⟩ : ∃ s, (itNum bigM).listNext bigK.toNat s4 = s := ⟨_, rfl⟩
  have HP := Lib.hid (once_plain bigM bigK.toNat xs s1 s2 s3 s4 s5 h1 h2 h3 h4 h5)
  have hkk : bigK.toNat ≤ 1099511627776 := by decide
  have HC1 : Hid (∀ S B w, RdAt S w B ⟨xs, 0⟩ → Calls Try.prog 25 #[.pointer (some ⟨B, 0, none⟩), .int .u64 18446744073709551615] w (Reads S B w (u64V ((itNum bigM).out ⟨xs, 0⟩)) s1)) := Lib.hid (fun S B w h => by rw [← h1]; exact rNum_any S B bigM _ w h (by decide))
  have HC2 : Hid (∀ S B w, RdAt S w B s1 → Calls Try.prog 26 #[.pointer (some ⟨B, 0, none⟩), .int .i64 1099511627776] w (Reads S B w (strV ((itText bigK.toNat).out s1)) s2)) := Lib.hid (fun S B w h => by rw [← h2]; exact rText_any S B bigK _ w h (by decide))
  have HC3 : Hid (∀ S B w, RdAt S w B s2 → Calls Try.prog 27 #[.pointer (some ⟨B, 0, none⟩)] w (Reads S B w (.bool (itFlag.out s2)) s3)) := Lib.hid (fun S B w h => by rw [← h3]; exact rFlag_any S B _ w h)
  have HC4 : Hid (∀ S B w, RdAt S w B s3 → Calls Try.prog 29 #[.pointer (some ⟨B, 0, none⟩), .int .i64 1099511627776, .int .i64 1099511627776] w (ReadsL S B w (((itText bigK.toNat).listOut bigK.toNat s3).map strV) s4)) := Lib.hid (fun S B w h => by rw [← h4]; exact rTexts_any S B bigK bigK _ w h (by decide) (by decide) (.inl hkk))
  have HC5 : Hid (∀ S B w, RdAt S w B s4 → Calls Try.prog 31 #[.pointer (some ⟨B, 0, none⟩), .int .i64 1099511627776, .int .u64 18446744073709551615] w (ReadsL S B w (((itNum bigM).listOut bigK.toNat s4).map u64V) s5)) := Lib.hid (fun S B w h => by rw [← h5]; exact rNums_any S B bigK bigM _ w h (by decide) (by decide) (.inl hkk))
  have HLt : Hid ((itNum bigM).out ⟨xs, 0⟩ < 256 ^ 8 ∧ ∀ x ∈ (itNum bigM).listOut bigK.toNat s4, x < 256 ^ 8) := Lib.hid ⟨out_lt _ _, listOut_lt _ _ _⟩
  obtain ⟨N, hN⟩ : ∃ N, (itNum bigM).out ⟨xs, 0⟩ = N := ⟨_, rfl⟩
  obtain ⟨t, ht⟩ : ∃ t, (itText bigK.toNat).out s1 = t := ⟨_, rfl⟩
  obtain ⟨is, his⟩ : ∃ x, itFlag.out s2 = x := ⟨_, rfl⟩
  obtain ⟨l, hll⟩ : ∃ x, (itText bigK.toNat).listOut bigK.toNat s3 = x := ⟨_, rfl⟩
  obtain ⟨m, hm⟩ : ∃ x, (itNum bigM).listOut bigK.toNat s4 = x := ⟨_, rfl⟩
  rw [hN, ht, his, hll, hm] at HP
  rw [hN] at HC1 HLt
  rw [ht] at HC2
  rw [his] at HC3
  rw [hll] at HC4
  rw [hm] at HC5 HLt
  have s0 := read_any A n c xs w hR hnil hnc (by omega)
  have S0 := Lib.hid s0
  have HL := Lib.hid hl
  clear h1 h2 h3 h4 h5 hkk hN ht his hll hm hR hnil s0 hl
  unfold u64V at HC1
  unfold strV at HC2
  obtain ⟨ts, hts⟩ : ∃ ts : ByteArray, (⟨t.toArray⟩ : ByteArray) = ts := ⟨_, rfl⟩
  rw [hts] at HC2
  have HTS := Lib.hid hts
  clear hts
  go_enter Try.func6, Try.ntmps6
  go_wp2_with fail
  refine S0.out.mono ?_
  rintro e w0 ⟨B, rfl, hB, hr0, hb0⟩
  have HB := Lib.hid hB
  have HB0 := Lib.hid hb0
  have HR0 := Lib.hid hr0
  clear hb0 hr0 hB
  go_wp2_with fail
  refine (HC1.out _ _ _ HR0.out).mono ?_
  rintro e w1 ⟨rfl, hr1, hb1⟩
  have HR1 := Lib.hid hr1
  have HB1 := Lib.hid hb1
  clear hr1 hb1
  go_wp2_with fail
  refine (HC2.out _ _ _ HR1.out).mono ?_
  rintro e w2 ⟨rfl, hr2, hb2⟩
  have HR2 := Lib.hid hr2
  have HB2 := Lib.hid (HB1.out.trans hb2)
  clear hr2 hb2
  go_wp2_with fail
  refine (HC3.out _ _ _ HR2.out).mono ?_
  rintro e w3 ⟨rfl, hr3, hb3⟩
  have HR3 := Lib.hid hr3
  have HB3 := Lib.hid (HB2.out.trans hb3)
  clear hr3 hb3
  go_wp2_with fail
  refine (HC4.out _ _ _ HR3.out).mono ?_
  rintro e w4 ⟨A4, c4, rfl, hv4, hblk4, hr4, hb4⟩
  have HR4 := Lib.hid hr4
  have HB4 := Lib.hid (HB3.out.trans hb4)
  have HV4 := Lib.hid hv4
  have HBK4 : Hid (∀ b off, A4 = some ⟨b, off, none⟩ → 0 < (l.map strV).length → ¬ b = B) := Lib.hid (fun b off e h0 e2 => by
    have h1 := hblk4 b off e h0
    have h2 := HR3.out.lt
    omega)
  obtain ⟨n4, hn4⟩ : ∃ x, (l.map strV).length = x := ⟨_, rfl⟩
  rw [hn4] at HV4 HBK4 ⊢
  have HN4 : Hid (n4 = l.length) := Lib.hid (by rw [← hn4, List.length_map])
  clear hr4 hb4 hv4 hblk4 hn4
  go_wp2_with fail
  refine (HC5.out _ _ _ HR4.out).mono ?_
  rintro e w5 ⟨A5, c5, rfl, hv5, _, hr5, hb5⟩
  have HV45 := Lib.hid (HV4.out.but hb5 HBK4.out)
  have HR5 := Lib.hid hr5
  have HB5 : Hid (Below w.heap.size w w5) := Lib.hid (HB0.out.trans ((HB4.out.trans hb5).below HB0.out.size (fun k hk e => by have := HB.out; omega)))
  have HV5 := Lib.hid hv5
  obtain ⟨n5, hn5⟩ : ∃ x, (m.map u64V).length = x := ⟨_, rfl⟩
  rw [hn5] at HV5 ⊢
  have HN5 : Hid (n5 = m.length) := Lib.hid (by rw [← hn5, List.length_map])
  clear hr5 hb5 hv5 hn5 HV4 HBK4
  go_wp2_with fail
  refine (rDone_any _ B s5 w5 HR5.out).mono ?_
  rintro e w6 ⟨rfl, rfl⟩
  by_cases hd : doneS s5 = 0
  · rw [hd]
    have hxs := HP.out hd
    have hlen : n = (numB N).length + (textB t).length + (flagB is).length + (textsB l).length + (numsB m).length := by
      have h1 := congrArg List.length hxs
      rw [HL.out] at h1
      simpa only [List.length_append, Nat.add_assoc] using h1
    have HXS := Lib.hid hxs
    have hl9 : l.length ≤ (textsB l).length := by
      rw [textsB, List.length_append]
      have := flat_len textB textB_pos l
      omega
    have hm9 : m.length ≤ (numsB m).length := by
      rw [numsB, List.length_append]
      have := flat_len numB numB_pos m
      omega
    have ht9 := textB_length t
    have r1 := Num_any none 0 0 [] N HLt.out.1 w5 (RB.zero _ _) (fun _ => rfl) (Nat.le_refl _) (by omega)
    rw [List.nil_append] at r1
    have R1 := Lib.hid r1
    have HLen := Lib.hid hlen
    have Hl9 := Lib.hid hl9
    have Hm9 := Lib.hid hm9
    have Ht9 := Lib.hid ht9
    clear hd hxs hlen hl9 hm9 ht9 r1
    go_wp2_with fail
    refine R1.out.mono ?_
    rintro e w6 ⟨A6, c6, rfl, hr6, hn6, hc6, _, hb6⟩
    have r2 := Text_any A6 (numB N).length c6 (numB N) t w6 hr6 hn6 hc6 (by have := HLen.out; have := Ht9.out; omega)
    rw [HTS.out] at r2
    have R2 := Lib.hid r2
    have HB6 := Lib.hid hb6
    obtain ⟨q6, hq6⟩ : ∃ x, (numB N).length = x := ⟨_, rfl⟩
    rw [hq6] at R2 ⊢
    have HQ6 := Lib.hid hq6
    clear hr6 hn6 hc6 hb6 r2 hq6
    go_wp2_with fail
    refine R2.out.mono ?_
    rintro e w7 ⟨A7, c7, rfl, hr7, hn7, hc7, _, hb7⟩
    have r3 := Flag_any A7 (numB N ++ textB t).length c7 (numB N ++ textB t) is w7 hr7 hn7 hc7 (by have := HLen.out; rw [List.length_append]; omega)
    have R3 := Lib.hid r3
    have HB7 := Lib.hid (HB6.out.trans (hb7.mono HB6.out.size))
    obtain ⟨q7, hq7⟩ : ∃ x, (numB N ++ textB t).length = x := ⟨_, rfl⟩
    rw [hq7] at R3 ⊢
    clear hr7 hn7 hc7 hb7 r3 hq7 HB6
    go_wp2_with fail
    refine R3.out.mono ?_
    rintro e w8 ⟨A8, c8, rfl, hr8, hn8, hc8, _, hb8⟩
    have HB8 := Lib.hid (HB7.out.trans (hb8.mono HB7.out.size))
    have r4 := Texts_any A8 (numB N ++ textB t ++ flagB is).length c8 (numB N ++ textB t ++ flagB is) A4 n4 c4 l w8 hr8 hn8 hc8 (HV45.out.below HB8.out) (by have := HLen.out; have := Hl9.out; have := HN4.out; omega) (by have := HLen.out; rw [List.length_append, List.length_append]; omega)
    have R4 := Lib.hid r4
    obtain ⟨q8, hq8⟩ : ∃ x, (numB N ++ textB t ++ flagB is).length = x := ⟨_, rfl⟩
    rw [hq8] at R4 ⊢
    clear hr8 hn8 hc8 hb8 r4 hq8 HB7
    go_wp2_with fail
    refine R4.out.mono ?_
    rintro e w9 ⟨A9, c9, rfl, hr9, hn9, hc9, _, hb9⟩
    have HB9 := Lib.hid (HB8.out.trans (hb9.mono HB8.out.size))
    have r5 := Nums_any A9 (numB N ++ textB t ++ flagB is ++ textsB l).length c9 (numB N ++ textB t ++ flagB is ++ textsB l) A5 n5 c5 m w9 hr9 hn9 hc9 (HV5.out.below HB9.out) (by have := HLen.out; have := Hm9.out; have := HN5.out; omega) HLt.out.2 (by have := HLen.out; rw [List.length_append, List.length_append, List.length_append]; omega)
    rw [← HXS.out] at r5
    have R5 := Lib.hid r5
    obtain ⟨q9, hq9⟩ : ∃ x, (numB N ++ textB t ++ flagB is ++ textsB l).length = x := ⟨_, rfl⟩
    rw [hq9] at R5 ⊢
    clear hr9 hn9 hc9 hb9 r5 hq9 HB8
    go_wp2_with fail
    refine R5.out.mono ?_
    rintro e w10 ⟨A10, c10, rfl, hr10, _, _, _, hb10⟩
    have HB10 : Hid (Below w.heap.size w w10) := Lib.hid (HB5.out.trans ((HB9.out.trans (hb10.mono HB9.out.size)).mono HB5.out.size))
    have k1 := own_conv hr10 c10
    have k2 := own_conv (HR.out.below HB10.out) c
    rw [HL.out] at k1 ⊢
    obtain ⟨st, hst⟩ : ∃ st : ByteArray, (⟨xs.toArray⟩ : ByteArray) = st := ⟨_, rfl⟩
    rw [hst] at k1 k2
    clear hr10 hb10 hst
    go_wp2_with fail
    refine (HW.out _).mono ?_
    rintro e w11 ⟨rfl, hb11⟩
    have HB11 : Hid (Below w.heap.size w w11) := Lib.hid (HB10.out.trans (hb11.mono HB10.out.size))
    clear hb11
    go_wp2
    go_ret
    exact ⟨rfl, HB11.out⟩
  · have q1 : (((doneS s5 : Nat) : Int) != 0) = true := by rw [bne_iff_ne]; omega
    obtain ⟨E, hE⟩ : ∃ E, doneS s5 = E := ⟨_, rfl⟩
    rw [hE] at q1 ⊢
    clear hd hE
    go_wp2_with fail
    refine (HW.out _).mono ?_
    rintro e w7 ⟨rfl, hb7⟩
    have HB7 : Hid (Below w.heap.size w w7) := Lib.hid (HB5.out.trans (hb7.mono HB5.out.size))
    clear hb7
    go_wp2
    go_ret
    exact ⟨rfl, HB7.out⟩
end Go.Proofs.Ytgjgndpeopiifaa
