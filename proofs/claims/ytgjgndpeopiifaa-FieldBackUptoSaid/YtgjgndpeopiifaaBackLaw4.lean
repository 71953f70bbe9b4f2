/-
  What was laid is read as it was, in its order: the law sodalitylaw04.FieldBack over the contracts.
-/
import Derived.Test.YtgjgndpeopiifaaDSame
import Derived.Test.YtgjgndpeopiifaaDNone
import Derived.Test.YtgjgndpeopiifaaDLayD
import Derived.Test.YtgjgndpeopiifaaStp
namespace Go.Proofs.Ytgjgndpeopiifaa
open Go.RowKit
set_option linter.unusedSimpArgs false

/-- Nums' result is a row of the call's own. -/
theorem Nums_adds (A : Option Addr) (n c : Nat) (xs : List UInt8) (B : Option Addr) (k d : Nat) (l : List Nat) (w : World) (h : RB w A n xs) (hn : A = none → c = 0) (hnc : n ≤ c) (hl : RV w B k (l.map u64V)) (hk : k ≤ 140737488355328) (hok : ∀ x ∈ l, x < 256 ^ 8) (hm : n + (numsB l).length + 9 ≤ 140737488355328) :
    Calls Try.prog 16 #[.slice A n c, .slice B k d] w (Adds w w.heap.size (n + (numsB l).length) (xs ++ numsB l)) := by
  have s1 := apart_any A n c w hnc hn (by omega)
  have s2 := list_u64 (.slice A n n) w.heap.size n xs B k d l w (.apart h hn hnc _) hl (fun b off e h0 => by
    obtain ⟨b', off', e', hlt, _⟩ := hl.2 h0
    rw [e] at e'
    simp only [Option.some.injEq, Addr.mk.injEq] at e'
    rw [e'.1]; exact hlt) hm hk hok (Nat.le_refl _)
  obtain ⟨L, hL⟩ : ∃ L, n + (numsB l).length = L := ⟨_, rfl⟩
  obtain ⟨Z, hZ⟩ : ∃ Z, xs ++ numsB l = Z := ⟨_, rfl⟩
  rw [hL, hZ] at s2 ⊢
  have S2 := Lib.hid s2
  clear h s2 hn hl hok hL hZ
  go_enter Try.func16, Try.ntmps16
  go_wp2_with fail
  refine s1.mono ?_
  rintro e w1 ⟨rfl, rfl⟩
  go_wp2_with fail
  refine S2.out.mono ?_
  rintro e w2 ⟨v, rfl, hown, hb⟩
  obtain ⟨A2, c2, rfl, _⟩ := RB.own hown
  have HO := Lib.hid hown
  have HB := Lib.hid hb
  clear hown hb
  go_wp2
  go_ret
  exact ⟨_, rfl, HO.out, HB.out⟩

def st5 (s0 s1 s2 s3 s4 s5 : St) (f : Nat → Bool) : St := bif f 39 then s5 else bif f 28 then s4 else bif f 17 then s3 else bif f 10 then s2 else bif f 2 then s1 else s0
def backR (S : Nat → Prop) (br : Nat) (bx : Nat) (N : Nat) (st : ByteArray) (is : Bool) (B1 : Option Addr) (n1 : Nat) (c1 : Nat) (vs1 : List Value) (D2 : Option Addr) (n2 : Nat) (c2 : Nat) (vs2 : List Value) : Nat → Value → World → Prop
  | 0, v, _ => v = .pointer (some ⟨br, 0, none⟩)
  | 1, v, _ => v = .int .u64 (N : Int)
  | 2, v, _ => v = .int .u64 (N : Int)
  | 3, v, _ => v = .int .u64 (N : Int)
  | 4, v, _ => v = .bool false
  | 5, v, _ => v = .bool false
  | 6, v, _ => v = .pointer (some ⟨br, 0, none⟩)
  | 7, v, _ => v = .pointer (some ⟨bx, 0, none⟩)
  | 8, v, _ => v = .string st
  | 9, v, _ => v = .int .i64 (st.size : Int)
  | 10, v, _ => v = .string st
  | 11, v, _ => v = .pointer (some ⟨bx, 0, none⟩)
  | 12, v, _ => v = .string st
  | 13, v, _ => v = .bool false
  | 14, v, _ => v = .bool false
  | 15, v, _ => v = .bool false
  | 16, v, _ => v = .pointer (some ⟨br, 0, none⟩)
  | 17, v, _ => v = .bool is
  | 18, v, _ => v = .pointer (some ⟨bx, 1, none⟩)
  | 19, v, _ => v = .bool is
  | 20, v, _ => v = .bool false
  | 21, v, _ => v = .bool false
  | 22, v, _ => v = .bool false
  | 23, v, _ => v = .pointer (some ⟨br, 0, none⟩)
  | 24, v, _ => v = .pointer (some ⟨bx, 2, none⟩)
  | 25, v, _ => v = .slice B1 n1 c1
  | 26, v, _ => v = .int .i64 (n1 : Int)
  | 27, v, _ => v = .int .i64 1099511627776
  | 28, v, w => ∃ A c, v = .slice A n1 c ∧ RVn S w A n1 vs1
  | 29, v, _ => v = .pointer (some ⟨bx, 2, none⟩)
  | 30, v, _ => v = .slice B1 n1 c1
  | 31, v, _ => v = .bool true
  | 32, v, _ => v = .bool false
  | 33, v, _ => v = .bool false
  | 34, v, _ => v = .bool false
  | 35, v, _ => v = .pointer (some ⟨br, 0, none⟩)
  | 36, v, _ => v = .pointer (some ⟨bx, 3, none⟩)
  | 37, v, _ => v = .slice D2 n2 c2
  | 38, v, _ => v = .int .i64 (n2 : Int)
  | 39, v, w => ∃ A c, v = .slice A n2 c ∧ RVn S w A n2 vs2
  | 40, v, _ => v = .pointer (some ⟨bx, 3, none⟩)
  | 41, v, _ => v = .slice D2 n2 c2
  | 42, v, _ => v = .bool true
  | 43, v, _ => v = .bool false
  | 44, v, _ => v = .bool false
  | _, _, _ => True
theorem backR_stable (S : Nat → Prop) (br : Nat) (bx : Nat) (N : Nat) (st : ByteArray) (is : Bool) (B1 : Option Addr) (n1 : Nat) (c1 : Nat) (vs1 : List Value) (D2 : Option Addr) (n2 : Nat) (c2 : Nat) (vs2 : List Value) : ∀ i v w w', backR S br bx N st is B1 n1 c1 vs1 D2 n2 c2 vs2 i v w → But S w w' → backR S br bx N st is B1 n1 c1 vs1 D2 n2 c2 vs2 i v w'
  | 0, _, _, _, h, _ | 1, _, _, _, h, _ | 2, _, _, _, h, _ | 3, _, _, _, h, _ | 4, _, _, _, h, _ | 5, _, _, _, h, _ | 6, _, _, _, h, _ | 7, _, _, _, h, _ | 8, _, _, _, h, _ | 9, _, _, _, h, _ | 10, _, _, _, h, _ | 11, _, _, _, h, _ | 12, _, _, _, h, _ | 13, _, _, _, h, _ | 14, _, _, _, h, _ | 15, _, _, _, h, _ | 16, _, _, _, h, _ | 17, _, _, _, h, _ | 18, _, _, _, h, _ | 19, _, _, _, h, _ | 20, _, _, _, h, _ | 21, _, _, _, h, _ | 22, _, _, _, h, _ | 23, _, _, _, h, _ | 24, _, _, _, h, _ | 25, _, _, _, h, _ | 26, _, _, _, h, _ | 27, _, _, _, h, _ | 29, _, _, _, h, _ | 30, _, _, _, h, _ | 31, _, _, _, h, _ | 32, _, _, _, h, _ | 33, _, _, _, h, _ | 34, _, _, _, h, _ | 35, _, _, _, h, _ | 36, _, _, _, h, _ | 37, _, _, _, h, _ | 38, _, _, _, h, _ | 40, _, _, _, h, _ | 41, _, _, _, h, _ | 42, _, _, _, h, _ | 43, _, _, _, h, _ | 44, _, _, _, h, _ => h
  | 28, _, _, _, ⟨A, c, e, h⟩, g | 39, _, _, _, ⟨A, c, e, h⟩, g => ⟨A, c, e, h.but g⟩
  | _ + 45, _, _, _, h, _ => h

theorem each_le (l : List (List UInt8)) : ∀ x ∈ l, x.length ≤ (l.flatMap textB).length := by
  induction l with
  | nil => intro x h; cases h
  | cons y r ih =>
    intro x hx
    have h1 := textB_length y
    rw [List.flatMap_cons, List.length_append]
    rcases List.mem_cons.1 hx with rfl | h
    · omega
    · have := ih x h
      omega
def bigM4 : Nat := 18446744073709551615

set_option maxHeartbeats 8000000 in
theorem back4_walk (N : Nat) (st : ByteArray) (is : Bool) (B1 : Option Addr) (n1 c1 : Nat) (l : List (List UInt8)) (D2 : Option Addr) (n2 c2 : Nat) (m : List Nat) (A2 : Option Addr) (kk d : Nat) (more : List UInt8) (w : World)
    (hN : N < 256 ^ 8) (hst : st.size ≤ 1048576) (hl : RV w B1 n1 (l.map strV)) (hn1 : n1 ≤ 1048576) (hbl : (textsB l).length ≤ 10000000)
    (hm : RV w D2 n2 (m.map u64V)) (hn2 : n2 ≤ 1048576) (hbm : (numsB m).length ≤ 10000000) (hlt : ∀ x ∈ m, x < 256 ^ 8) (hR : RB w A2 kk more) (hnil : A2 = none → d = 0) (_ : kk ≤ d) (hkk : kk ≤ 1048576) :
    Calls Try.prog 5 #[.int .u64 (N : Int), .agg #[.string st, .bool is, .slice B1 n1 c1, .slice D2 n2 c2], .slice A2 kk d] w fun e w' => e = .returned (.bool true) ∧ Below w.heap.size w w' := by
  obtain ⟨t, ht⟩ : ∃ t, st.data.toList = t := ⟨_, rfl⟩
  have hts : (⟨t.toArray⟩ : ByteArray) = st := by rw [← ht]
  have htl : t.length = st.size := by rw [← ht]; rfl
  have hft : (flagB is).length ≤ 9 := by rw [flagB]; exact numB_le (by cases is <;> simp)
  have hnt := numB_le hN
  have htt : (textB t).length ≤ 1048585 := by
    have := textB_length t
    have := numB_le (n := t.length) (by omega)
    omega
  have hll : l.length = n1 := by simpa using hl.1
  have hml : m.length = n2 := by simpa using hm.1
  -- the plain part: what is read
  have hp1 := read_num hN (Nat.le_refl N) (textB t ++ (flagB is ++ (textsB l ++ (numsB m ++ more))))
  have hp2 := read_text (s := t) (most := st.size) (by omega) (by omega) (flagB is ++ (textsB l ++ (numsB m ++ more)))
  have hp3 := read_flag is (textsB l ++ (numsB m ++ more))
  have hp4 : (itText (1099511627776 : Int).toNat).listOut (n1 : Int).toNat ⟨textsB l ++ (numsB m ++ more), 0⟩ = l ∧ (itText (1099511627776 : Int).toNat).listNext (n1 : Int).toNat ⟨textsB l ++ (numsB m ++ more), 0⟩ = ⟨numsB m ++ more, 0⟩ :=
    read_list (itText (1099511627776 : Int).toNat) textB l (n1 : Int).toNat (numsB m ++ more) (by omega) (by omega) (fun x hx q => read_text (by have := each_le l x hx; have : (l.flatMap textB).length ≤ (textsB l).length := (by rw [textsB, List.length_append]; omega); omega) (by have := each_le l x hx; have : (l.flatMap textB).length ≤ (textsB l).length := (by rw [textsB, List.length_append]; omega); omega) q)
  have hp5 : (itNum bigM4).listOut (n2 : Int).toNat ⟨numsB m ++ more, 0⟩ = m ∧ (itNum bigM4).listNext (n2 : Int).toNat ⟨numsB m ++ more, 0⟩ = ⟨more, 0⟩ :=
    read_list (itNum bigM4) numB m (n2 : Int).toNat more (by omega) (by omega) (fun x hx q => read_num (hlt x hx) (by have := hlt x hx; unfold bigM4; omega) q)
  obtain ⟨s1, hs1⟩ : ∃ s, (⟨textB t ++ (flagB is ++ (textsB l ++ (numsB m ++ more))), 0⟩ : St) = s := ⟨_, rfl⟩
  obtain ⟨s2, hs2⟩ : ∃ s, (⟨flagB is ++ (textsB l ++ (numsB m ++ more)), 0⟩ : St) = s := ⟨_, rfl⟩
  obtain ⟨s3, hs3⟩ : ∃ s, (⟨textsB l ++ (numsB m ++ more), 0⟩ : St) = s := ⟨_, rfl⟩
  obtain ⟨s4, hs4⟩ : ∃ s, (⟨numsB m ++ more, 0⟩ : St) = s := ⟨_, rfl⟩
  obtain ⟨s5, hs5⟩ : ∃ s, (⟨more, 0⟩ : St) = s := ⟨_, rfl⟩
  obtain ⟨s0, hs0⟩ : ∃ s, (⟨numB N ++ (textB t ++ (flagB is ++ (textsB l ++ (numsB m ++ more)))), 0⟩ : St) = s := ⟨_, rfl⟩
  rw [hs0, hs1] at hp1
  rw [hs1, hs2] at hp2
  rw [hs2, hs3] at hp3
  rw [hs3, hs4] at hp4
  rw [hs4, hs5] at hp5
  have HC1 : Hid (∀ (S : Nat → Prop) (br : Nat) (w' : World), RdAt S w' br s0 → Calls Try.prog 25 #[.pointer (some ⟨br, 0, none⟩), .int .u64 (N : Int)] w' (Reads S br w' (.int .u64 (N : Int)) s1)) := Lib.hid (fun S br w' h => by
    have := rNum_any S br N s0 w' h hN
    rw [hp1.1, hp1.2] at this; exact this)
  have HC2 : Hid (∀ (S : Nat → Prop) (br : Nat) (w' : World), RdAt S w' br s1 → Calls Try.prog 26 #[.pointer (some ⟨br, 0, none⟩), .int .i64 (st.size : Int)] w' (Reads S br w' (.string st) s2)) := Lib.hid (fun S br w' h => by
    have := rText_any S br (st.size : Int) s1 w' h (by omega)
    rw [show (st.size : Int).toNat = st.size by omega, hp2.1, hp2.2, strV, hts] at this; exact this)
  have HC3 : Hid (∀ (S : Nat → Prop) (br : Nat) (w' : World), RdAt S w' br s2 → Calls Try.prog 27 #[.pointer (some ⟨br, 0, none⟩)] w' (Reads S br w' (.bool is) s3)) := Lib.hid (fun S br w' h => by
    have := rFlag_any S br s2 w' h
    rw [hp3.1, hp3.2] at this; exact this)
  have HC4 : Hid (∀ (S : Nat → Prop) (br : Nat) (w' : World), RdAt S w' br s3 → Calls Try.prog 29 #[.pointer (some ⟨br, 0, none⟩), .int .i64 (n1 : Int), .int .i64 1099511627776] w' fun e w2 => ∃ A c, e = .returned (.slice A n1 c) ∧ RV w2 A n1 (l.map strV) ∧ (∀ b off, A = some ⟨b, off, none⟩ → 0 < n1 → w'.heap.size ≤ b) ∧ RdAt S w2 br s4 ∧ But (fun k => k = br) w' w2) := Lib.hid (fun S br w' h => by
    have := rTexts_any S br (n1 : Int) 1099511627776 s3 w' h (by omega) (by omega) (.inl (by omega))
    rw [hp4.1, hp4.2] at this
    have hv : (l.map strV).length = n1 := by rw [List.length_map, hll]
    refine this.mono fun e w2 h => ?_
    unfold ReadsL at h
    rw [hv] at h; exact h)
  have HC5 : Hid (∀ (S : Nat → Prop) (br : Nat) (w' : World), RdAt S w' br s4 → Calls Try.prog 31 #[.pointer (some ⟨br, 0, none⟩), .int .i64 (n2 : Int), .int .u64 18446744073709551615] w' fun e w2 => ∃ A c, e = .returned (.slice A n2 c) ∧ RV w2 A n2 (m.map u64V) ∧ (∀ b off, A = some ⟨b, off, none⟩ → 0 < n2 → w'.heap.size ≤ b) ∧ RdAt S w2 br s5 ∧ But (fun k => k = br) w' w2) := Lib.hid (fun S br w' h => by
    have := rNums_any S br (n2 : Int) bigM4 s4 w' h (by omega) (by decide) (.inl (by omega))
    rw [hp5.1, hp5.2] at this
    have hv : (m.map u64V).length = n2 := by rw [List.length_map, hml]
    refine Calls.mono this fun e w2 h => ?_
    unfold ReadsL at h
    rw [hv] at h; exact h)
  obtain ⟨W0, hW0⟩ : ∃ W0, w.alloc (.cells #[.string st, .bool is, .slice B1 n1 c1, .slice D2 n2 c2] 27) = W0 := ⟨_, rfl⟩
  have hb0 : Below w.heap.size w W0 := by rw [← hW0]; exact (Below.refl _ _).alloc (Nat.le_refl _) _
  obtain ⟨bx, hbx⟩ : ∃ bx, w.heap.size = bx := ⟨_, rfl⟩
  have hbb : W0.heap[bx]? = some (.cells #[.string st, .bool is, .slice B1 n1 c1, .slice D2 n2 c2] 27 (0, 0)) := by rw [← hW0, ← hbx]; exact heap_alloc_new w _
  have hlt0 : bx < W0.heap.size := (Array.getElem?_eq_some_iff.1 hbb).1
  have HCW : Hid (∀ w', Below W0.heap.size W0 w' → w'.cell? ⟨bx, 0, none⟩ = some (.string st) ∧ w'.cell? ⟨bx, 1, none⟩ = some (.bool is) ∧ w'.cell? ⟨bx, 2, none⟩ = some (.slice B1 n1 c1) ∧ w'.cell? ⟨bx, 3, none⟩ = some (.slice D2 n2 c2)) := Lib.hid (fun w' hb => by
    have j := (hb.block bx hlt0).trans hbb
    exact ⟨by rw [cell_of_row _ _ _ _ _ _ j]; rfl, by rw [cell_of_row _ _ _ _ _ _ j]; rfl, by rw [cell_of_row _ _ _ _ _ _ j]; rfl, by rw [cell_of_row _ _ _ _ _ _ j]; rfl⟩)
  have HR0 : Hid (RB W0 A2 kk more) := Lib.hid (hR.below hb0)
  have HL0 : Hid (RV W0 B1 n1 (l.map strV)) := Lib.hid (hl.below hb0)
  have HM0 : Hid (RV W0 D2 n2 (m.map u64V)) := Lib.hid (hm.below hb0)
  have HNil := Lib.hid hnil
  have HML := Lib.hid hR.1
  have HLT := Lib.hid hlt
  have HNN := Lib.hid hN
  have HTS := Lib.hid hts
  have HS5 := Lib.hid hs5
  have HS0 := Lib.hid hs0
  have HB0 := Lib.hid hb0
  have HW0 := Lib.hid hW0
  have HBX := Lib.hid hbx
  have HLens : Hid ((numB N).length ≤ 9 ∧ (textB t).length ≤ 1048585 ∧ (flagB is).length ≤ 9 ∧ (textsB l).length ≤ 10000000 ∧ (numsB m).length ≤ 10000000 ∧ t.length ≤ 1048576) := Lib.hid ⟨hnt, htt, hft, hbl, hbm, by omega⟩
  have r1 := Num_any none 0 0 [] N hN W0 (RB.zero _ _) (fun _ => rfl) (Nat.le_refl _) (by omega)
  rw [List.nil_append] at r1
  have R1 := Lib.hid r1
  have hbxlt : Hid (bx < W0.heap.size) := Lib.hid hlt0
  clear hl hm hlt hR hnil ht hts htl hft hnt htt hp1 hp2 hp3 hp4 hp5 hs0 hs1 hs2 hs3 hs4 hs5 hb0 hbx hbb hlt0 hW0 hN hst hbl hbm r1 hll hml
  go_enter Try.func5, Try.ntmps5
  go_wp2_with fail
  rw [HW0.out, HBX.out]
  refine R1.out.mono ?_
  rintro e w6 ⟨A6, c6, rfl, hr6, hn6, hc6, _, hb6⟩
  have r2 := Text_any A6 (numB N).length c6 (numB N) t w6 hr6 hn6 hc6 (by have := HLens.out; omega)
  rw [HTS.out] at r2
  have R2 := Lib.hid r2
  have HB6 := Lib.hid hb6
  obtain ⟨q6, hq6⟩ : ∃ x, (numB N).length = x := ⟨_, rfl⟩
  rw [hq6] at R2 ⊢
  obtain ⟨d0, d1, d2, d3⟩ := HCW.out _ hb6
  clear hr6 hn6 hc6 hb6 r2 hq6
  go_wp2_with fail
  refine R2.out.mono ?_
  rintro e w7 ⟨A7, c7, rfl, hr7, hn7, hc7, _, hb7⟩
  have r3 := Flag_any A7 (numB N ++ textB t).length c7 (numB N ++ textB t) is w7 hr7 hn7 hc7 (by have := HLens.out; rw [List.length_append]; omega)
  have R3 := Lib.hid r3
  have HB7 := Lib.hid (HB6.out.trans (hb7.mono HB6.out.size))
  obtain ⟨q7, hq7⟩ : ∃ x, (numB N ++ textB t).length = x := ⟨_, rfl⟩
  rw [hq7] at R3 ⊢
  clear d0 d1 d2 d3
  obtain ⟨d0, d1, d2, d3⟩ := HCW.out _ HB7.out
  clear hr7 hn7 hc7 hb7 r3 hq7 HB6
  go_wp2_with fail
  refine R3.out.mono ?_
  rintro e w8 ⟨A8, c8, rfl, hr8, hn8, hc8, _, hb8⟩
  have HB8 := Lib.hid (HB7.out.trans (hb8.mono HB7.out.size))
  have r4 := Texts_any A8 (numB N ++ textB t ++ flagB is).length c8 (numB N ++ textB t ++ flagB is) B1 n1 c1 l w8 hr8 hn8 hc8 (HL0.out.below HB8.out) (by omega) (by have := HLens.out; rw [List.length_append, List.length_append]; omega)
  have R4 := Lib.hid r4
  obtain ⟨q8, hq8⟩ : ∃ x, (numB N ++ textB t ++ flagB is).length = x := ⟨_, rfl⟩
  rw [hq8] at R4 ⊢
  clear d0 d1 d2 d3
  obtain ⟨d0, d1, d2, d3⟩ := HCW.out _ HB8.out
  clear hr8 hn8 hc8 hb8 r4 hq8 HB7
  go_wp2_with fail
  refine R4.out.mono ?_
  rintro e w9 ⟨A9, c9, rfl, hr9, hn9, hc9, _, hb9⟩
  have HB9 := Lib.hid (HB8.out.trans (hb9.mono HB8.out.size))
  have r5 := Nums_adds A9 (numB N ++ textB t ++ flagB is ++ textsB l).length c9 (numB N ++ textB t ++ flagB is ++ textsB l) D2 n2 c2 m w9 hr9 hn9 hc9 (HM0.out.below HB9.out) (by omega) HLT.out (by have := HLens.out; rw [List.length_append, List.length_append, List.length_append]; omega)
  have R5 := Lib.hid r5
  obtain ⟨q9, hq9⟩ : ∃ x, (numB N ++ textB t ++ flagB is ++ textsB l).length = x := ⟨_, rfl⟩
  have HQ9 : Hid (q9 ≤ 11048603) := Lib.hid (by rw [← hq9, List.length_append, List.length_append, List.length_append]; have := HLens.out; omega)
  rw [hq9] at R5 ⊢
  clear d0 d1 d2 d3
  obtain ⟨d0, d1, d2, d3⟩ := HCW.out _ HB9.out
  clear hr9 hn9 hc9 hb9 r5 hq9 HB8
  go_wp2_with fail
  refine R5.out.mono ?_
  rintro e w10 ⟨v10, rfl, hown10, hb10⟩
  have HB10 := Lib.hid (HB9.out.trans (hb10.mono HB9.out.size))
  have HO10 := Lib.hid hown10
  obtain ⟨q10, hq10⟩ : ∃ x, q9 + (numsB m).length = x := ⟨_, rfl⟩
  have HQ10 : Hid (q10 ≤ 21048603) := Lib.hid (by rw [← hq10]; have := HLens.out; have := HQ9.out; omega)
  rw [hq10] at HO10
  have HMR := Lib.hid (HR0.out.below HB10.out)
  have HB910 := Lib.hid hb10
  have hs910 := hb10.size
  obtain ⟨i0, hi, hz0, hz1, hz2⟩ := info_parts u8_info
  clear d0 d1 d2 d3 hown10 hb10 hq10
  go_wp2_with (at_builtin; refine wpList_append_rbh rfl (.tmp 28) (.tmp 29) 22 rfl w9.heap.size i0 Try.underlying22 hi hz0 hz1 hz2 v10 q10 (numB N ++ textB t ++ flagB is ++ textsB l ++ numsB m) rfl HO10.out A2 kk d more rfl HNil.out HMR.out ?c1 ?c2 ?c3 ?_)
  case c1 => have := HQ10.out; unfold maxLen; omega
  case c2 => have := HQ10.out; omega
  case c3 => omega
  refine Lib.hid ?_
  intro v11 w11 hown11 hg11
  have hownA : w11.ownsRow w9.heap.size 5 1 v11 (q10 + kk) ((numB N ++ (textB t ++ (flagB is ++ (textsB l ++ (numsB m ++ more))))).map byteV) := by simpa using hown11
  have HB11 : Hid (Below W0.heap.size W0 w11) := Lib.hid (HB9.out.trans ((HB910.out.grown hg11 hs910 (fun j hj => (HO10.out.lt j hj).1)).mono HB9.out.size))
  obtain ⟨A11, c11, rfl, hr11, hn11, hc11, _⟩ := RB.own hownA
  have s6 := read_any A11 (q10 + kk) c11 _ w11 hr11 hn11 hc11 (by have := HQ10.out; omega)
  rw [HS0.out] at s6
  have S6 := Lib.hid s6
  clear hown11 hg11 hownA hr11 hn11 hc11 s6
  go_wp2_with fail
  refine S6.out.mono ?_
  rintro e w12 ⟨br, rfl, hbr, hr12, hb12⟩
  obtain ⟨S, hSS⟩ : ∃ S : Nat → Prop, (fun k => k = br) = S := ⟨_, rfl⟩
  have HRd : Hid (RdAt S w12 br s0) := Lib.hid (by rw [← hSS]; exact hr12.narrow (fun k h => .inl h) rfl)
  have HS : Hid (S br ∧ ∀ k, S k → k < w12.heap.size) := Lib.hid (by rw [← hSS]; exact ⟨rfl, fun k h => by rw [h]; exact hr12.lt⟩)
  have HOld : Hid (∀ k, k < W0.heap.size → ¬ S k) := Lib.hid (by
    rw [← hSS]
    intro k hk h
    have := HB11.out.size
    have h' : k = br := h
    omega)
  have HB12 : Hid (Below W0.heap.size W0 w12) := Lib.hid (HB11.out.trans (hb12.mono HB11.out.size))
  have HBW : Hid (∀ w', But S w12 w' → Below W0.heap.size W0 w') := Lib.hid (fun w' h => HB12.out.trans (h.below HB12.out.size (fun k hk => HOld.out k hk)))
  have HC : Hid (∀ w', But S w12 w' → w'.cell? ⟨bx, 0, none⟩ = some (.string st) ∧ w'.cell? ⟨bx, 1, none⟩ = some (.bool is) ∧ w'.cell? ⟨bx, 2, none⟩ = some (.slice B1 n1 c1) ∧ w'.cell? ⟨bx, 3, none⟩ = some (.slice D2 n2 c2)) := Lib.hid (fun w' h => HCW.out w' (HBW.out w' h))
  have HSame1 : Hid (∀ A c w', RV w' A n1 (l.map strV) → But S w12 w' → Calls Try.prog 28 #[.slice A n1 c, .slice B1 n1 c1] w' fun e w2 => e = .returned (.bool true) ∧ Below w'.heap.size w' w2) := Lib.hid (fun A c w' h hb => texts_same A B1 n1 c c1 l w' h (HL0.out.below (HBW.out w' hb)) (by omega))
  have HSame2 : Hid (∀ A c w', RV w' A n2 (m.map u64V) → But S w12 w' → Calls Try.prog 30 #[.slice A n2 c, .slice D2 n2 c2] w' fun e w2 => e = .returned (.bool true) ∧ Below w'.heap.size w' w2) := Lib.hid (fun A c w' h hb => nums_same A D2 n2 c c2 m w' h (HM0.out.below (HBW.out w' hb)) (by omega))
  obtain ⟨vs1, hvs1⟩ : ∃ vs, l.map strV = vs := ⟨_, rfl⟩
  obtain ⟨vs2, hvs2⟩ : ∃ vs, m.map u64V = vs := ⟨_, rfl⟩
  rw [hvs1] at HC4 HSame1
  rw [hvs2] at HC5 HSame2
  clear hbr hr12 hb12 hSS hvs1 hvs2 hs910
  go_wp2
  refine Go.Rel.wp_region_states (by kernel_rfl) (by kernel_rfl) (by kernel_rfl) (by kernel_rfl) (fun f w => RdAt S w br (st5 s0 s1 s2 s3 s4 s5 f)) (But S) (fun _ _ _ h k => h.trans k) ((But.refl _ _).drew) HRd.out (backR S br bx N st is B1 n1 c1 vs1 D2 n2 c2 vs2) (backR_stable S br bx N st is B1 n1 c1 vs1 D2 n2 c2 vs2) ?hsteps ?hend
  case hsteps =>
    refine (.cons ?_ (.cons ?_ (.cons ?_ (.cons ?_ (.cons ?_ (.cons ?_ (.cons ?_ (.cons ?_ (.cons ?_ (.cons ?_ (.cons ?_ (.cons ?_ (.cons ?_ (.cons ?_ (.cons ?_ (.cons ?_ (.cons ?_ (.cons ?_ (.cons ?_ (.cons ?_ (.cons ?_ (.cons ?_ (.cons ?_ (.cons ?_ (.cons ?_ (.cons ?_ (.cons ?_ (.cons ?_ (.cons ?_ (.cons ?_ (.cons ?_ (.cons ?_ (.cons ?_ (.cons ?_ (.cons ?_ (.cons ?_ (.cons ?_ (.cons ?_ (.cons ?_ (.cons ?_ (.cons ?_ (.cons ?_ (.cons ?_ (.cons ?_ (.cons ?_ .nil)))))))))))))))))))))))))))))))))))))))))))))
    · intro f a w' hI hf hanc hdesc hle hs' hd K hK
      have f8 : a.tmps[8]? = some (.pointer (some ⟨br, 0, none⟩)) := hs'.2.2 8 (by kernel_rfl)
      unfold Go.Rel.stepOf
      go_simp
      exact hK _ _ (But.refl _ _) (hI) rfl
    · intro f a w' hI hf hanc hdesc hle hs' hd K hK
      have f0 : a.tmps[0]? = some (.int .u64 (N : Int)) := hs'.2.2 0 (by kernel_rfl)
      unfold Go.Rel.stepOf
      go_simp
      exact hK _ _ (But.refl _ _) (hI) rfl
    · intro f a w' hI hf hanc hdesc hle hs' hd K hK
      obtain ⟨_, t0, rfl⟩ := hd 0 32 (by kernel_rfl)
      obtain ⟨_, t1, rfl⟩ := hd 1 33 (by kernel_rfl)
      have e10 := hdesc 30 10 (by kernel_rfl)
      have e17 := hdesc 30 17 (by kernel_rfl)
      have e28 := hdesc 30 28 (by kernel_rfl)
      have e39 := hdesc 30 39 (by kernel_rfl)
      have hst : RdAt S w' br s0 := by have h : RdAt S w' br (st5 s0 s1 s2 s3 s4 s5 f) := hI; rw [show st5 s0 s1 s2 s3 s4 s5 f = s0 from by simp [st5, hf, e10, e17, e28, e39]] at h; exact h
      have hup : st5 s0 s1 s2 s3 s4 s5 (Go.Rel.upd f 2) = s1 := by simp [st5, Go.Rel.upd, e10, e17, e28, e39]
      unfold Go.Rel.stepOf
      go_simp
      refine (HC1.out S br w' hst).mono ?_
      rintro e w2 ⟨rfl, hr5, hb5⟩
      have hbS : But S w' w2 := hb5.mono (fun k e => e.symm ▸ HS.out.1)
      exact hK _ _ hbS (show RdAt S w2 br (st5 s0 s1 s2 s3 s4 s5 (Go.Rel.upd f 2)) by rw [hup]; exact hr5) rfl
    · intro f a w' hI hf hanc hdesc hle hs' hd K hK
      have f0 : a.tmps[0]? = some (.int .u64 (N : Int)) := hs'.2.2 0 (by kernel_rfl)
      unfold Go.Rel.stepOf
      go_simp
      exact hK _ _ (But.refl _ _) (hI) rfl
    · intro f a w' hI hf hanc hdesc hle hs' hd K hK
      obtain ⟨_, t2, rfl⟩ := hd 2 34 (by kernel_rfl)
      obtain ⟨_, t3, rfl⟩ := hd 3 35 (by kernel_rfl)
      unfold Go.Rel.stepOf
      go_simp
      exact hK _ _ (But.refl _ _) (hI) rfl
    · intro f a w' hI hf hanc hdesc hle hs' hd K hK
      obtain ⟨_, t4, rfl⟩ := hd 4 36 (by kernel_rfl)
      unfold Go.Rel.stepOf
      go_simp
      exact hK _ _ (But.refl _ _) (hI) rfl
    · intro f a w' hI hf hanc hdesc hle hs' hd K hK
      obtain ⟨_, tg, rfl⟩ := hd 5 37 (by kernel_rfl)
      have f8 : a.tmps[8]? = some (.pointer (some ⟨br, 0, none⟩)) := hs'.2.2 8 (by kernel_rfl)
      unfold Go.Rel.stepOf
      go_simp
      exact hK _ _ (But.refl _ _) (hI) rfl
    · intro f a w' hI hf hanc hdesc hle hs' hd K hK
      obtain ⟨_, tg, rfl⟩ := hd 5 37 (by kernel_rfl)
      have f4 : a.tmps[4]? = some (.pointer (some ⟨bx, 0, none⟩)) := hs'.2.2 4 (by kernel_rfl)
      unfold Go.Rel.stepOf
      go_simp
      exact hK _ _ (But.refl _ _) (hI) rfl
    · intro f a w' hI hf hanc hdesc hle hs' hd K hK
      obtain ⟨_, tg, rfl⟩ := hd 5 37 (by kernel_rfl)
      obtain ⟨_, t7, rfl⟩ := hd 7 39 (by kernel_rfl)
      have cc := (HC.out w' hle).1
      unfold Go.Rel.stepOf
      go_simp
      exact hK _ _ (But.refl _ _) (hI) rfl
    · intro f a w' hI hf hanc hdesc hle hs' hd K hK
      obtain ⟨_, tg, rfl⟩ := hd 5 37 (by kernel_rfl)
      obtain ⟨_, t8, rfl⟩ := hd 8 40 (by kernel_rfl)
      unfold Go.Rel.stepOf
      go_simp
      exact hK _ _ (But.refl _ _) (hI) rfl
    · intro f a w' hI hf hanc hdesc hle hs' hd K hK
      obtain ⟨_, tg, rfl⟩ := hd 5 37 (by kernel_rfl)
      obtain ⟨_, t6, rfl⟩ := hd 6 38 (by kernel_rfl)
      obtain ⟨_, t9, rfl⟩ := hd 9 41 (by kernel_rfl)
      have e2 := hanc 30 2 (by kernel_rfl)
      have e17 := hdesc 30 17 (by kernel_rfl)
      have e28 := hdesc 30 28 (by kernel_rfl)
      have e39 := hdesc 30 39 (by kernel_rfl)
      have hst : RdAt S w' br s1 := by have h : RdAt S w' br (st5 s0 s1 s2 s3 s4 s5 f) := hI; rw [show st5 s0 s1 s2 s3 s4 s5 f = s1 from by simp [st5, hf, e2, e17, e28, e39]] at h; exact h
      have hup : st5 s0 s1 s2 s3 s4 s5 (Go.Rel.upd f 10) = s2 := by simp [st5, Go.Rel.upd, e17, e28, e39]
      unfold Go.Rel.stepOf
      go_simp
      refine (HC2.out S br w' hst).mono ?_
      rintro e w2 ⟨rfl, hr5, hb5⟩
      have hbS : But S w' w2 := hb5.mono (fun k e => e.symm ▸ HS.out.1)
      exact hK _ _ hbS (show RdAt S w2 br (st5 s0 s1 s2 s3 s4 s5 (Go.Rel.upd f 10)) by rw [hup]; exact hr5) rfl
    · intro f a w' hI hf hanc hdesc hle hs' hd K hK
      obtain ⟨_, tg, rfl⟩ := hd 5 37 (by kernel_rfl)
      have f4 : a.tmps[4]? = some (.pointer (some ⟨bx, 0, none⟩)) := hs'.2.2 4 (by kernel_rfl)
      unfold Go.Rel.stepOf
      go_simp
      exact hK _ _ (But.refl _ _) (hI) rfl
    · intro f a w' hI hf hanc hdesc hle hs' hd K hK
      obtain ⟨_, tg, rfl⟩ := hd 5 37 (by kernel_rfl)
      obtain ⟨_, t11, rfl⟩ := hd 11 43 (by kernel_rfl)
      have cc := (HC.out w' hle).1
      unfold Go.Rel.stepOf
      go_simp
      exact hK _ _ (But.refl _ _) (hI) rfl
    · intro f a w' hI hf hanc hdesc hle hs' hd K hK
      obtain ⟨_, tg, rfl⟩ := hd 5 37 (by kernel_rfl)
      obtain ⟨_, t10, rfl⟩ := hd 10 42 (by kernel_rfl)
      obtain ⟨_, t12, rfl⟩ := hd 12 44 (by kernel_rfl)
      unfold Go.Rel.stepOf
      go_simp
      exact hK _ _ (But.refl _ _) (hI) rfl
    · intro f a w' hI hf hanc hdesc hle hs' hd K hK
      obtain ⟨_, t5, rfl⟩ := hd 5 37 (by kernel_rfl)
      obtain ⟨_, t13, rfl⟩ := hd 13 45 (by kernel_rfl)
      unfold Go.Rel.stepOf
      go_simp
      exact hK _ _ (But.refl _ _) (hI) rfl
    · intro f a w' hI hf hanc hdesc hle hs' hd K hK
      obtain ⟨_, t14, rfl⟩ := hd 14 46 (by kernel_rfl)
      unfold Go.Rel.stepOf
      go_simp
      exact hK _ _ (But.refl _ _) (hI) rfl
    · intro f a w' hI hf hanc hdesc hle hs' hd K hK
      obtain ⟨_, tg, rfl⟩ := hd 15 47 (by kernel_rfl)
      have f8 : a.tmps[8]? = some (.pointer (some ⟨br, 0, none⟩)) := hs'.2.2 8 (by kernel_rfl)
      unfold Go.Rel.stepOf
      go_simp
      exact hK _ _ (But.refl _ _) (hI) rfl
    · intro f a w' hI hf hanc hdesc hle hs' hd K hK
      obtain ⟨_, tg, rfl⟩ := hd 15 47 (by kernel_rfl)
      obtain ⟨_, t16, rfl⟩ := hd 16 48 (by kernel_rfl)
      have e2 := hanc 30 2 (by kernel_rfl)
      have e10 := hanc 30 10 (by kernel_rfl)
      have e28 := hdesc 30 28 (by kernel_rfl)
      have e39 := hdesc 30 39 (by kernel_rfl)
      have hst : RdAt S w' br s2 := by have h : RdAt S w' br (st5 s0 s1 s2 s3 s4 s5 f) := hI; rw [show st5 s0 s1 s2 s3 s4 s5 f = s2 from by simp [st5, hf, e2, e10, e28, e39]] at h; exact h
      have hup : st5 s0 s1 s2 s3 s4 s5 (Go.Rel.upd f 17) = s3 := by simp [st5, Go.Rel.upd, e28, e39]
      unfold Go.Rel.stepOf
      go_simp
      refine (HC3.out S br w' hst).mono ?_
      rintro e w2 ⟨rfl, hr5, hb5⟩
      have hbS : But S w' w2 := hb5.mono (fun k e => e.symm ▸ HS.out.1)
      exact hK _ _ hbS (show RdAt S w2 br (st5 s0 s1 s2 s3 s4 s5 (Go.Rel.upd f 17)) by rw [hup]; exact hr5) rfl
    · intro f a w' hI hf hanc hdesc hle hs' hd K hK
      obtain ⟨_, tg, rfl⟩ := hd 15 47 (by kernel_rfl)
      have f4 : a.tmps[4]? = some (.pointer (some ⟨bx, 0, none⟩)) := hs'.2.2 4 (by kernel_rfl)
      unfold Go.Rel.stepOf
      go_simp
      exact hK _ _ (But.refl _ _) (hI) rfl
    · intro f a w' hI hf hanc hdesc hle hs' hd K hK
      obtain ⟨_, tg, rfl⟩ := hd 15 47 (by kernel_rfl)
      obtain ⟨_, t18, rfl⟩ := hd 18 50 (by kernel_rfl)
      have cc := (HC.out w' hle).2.1
      unfold Go.Rel.stepOf
      go_simp
      exact hK _ _ (But.refl _ _) (hI) rfl
    · intro f a w' hI hf hanc hdesc hle hs' hd K hK
      obtain ⟨_, tg, rfl⟩ := hd 15 47 (by kernel_rfl)
      obtain ⟨_, t17, rfl⟩ := hd 17 49 (by kernel_rfl)
      obtain ⟨_, t19, rfl⟩ := hd 19 51 (by kernel_rfl)
      unfold Go.Rel.stepOf
      go_simp
      exact hK _ _ (But.refl _ _) (hI) rfl
    · intro f a w' hI hf hanc hdesc hle hs' hd K hK
      obtain ⟨_, t15, rfl⟩ := hd 15 47 (by kernel_rfl)
      obtain ⟨_, t20, rfl⟩ := hd 20 52 (by kernel_rfl)
      unfold Go.Rel.stepOf
      go_simp
      exact hK _ _ (But.refl _ _) (hI) rfl
    · intro f a w' hI hf hanc hdesc hle hs' hd K hK
      obtain ⟨_, t21, rfl⟩ := hd 21 53 (by kernel_rfl)
      unfold Go.Rel.stepOf
      go_simp
      exact hK _ _ (But.refl _ _) (hI) rfl
    · intro f a w' hI hf hanc hdesc hle hs' hd K hK
      obtain ⟨_, tg, rfl⟩ := hd 22 54 (by kernel_rfl)
      have f8 : a.tmps[8]? = some (.pointer (some ⟨br, 0, none⟩)) := hs'.2.2 8 (by kernel_rfl)
      unfold Go.Rel.stepOf
      go_simp
      exact hK _ _ (But.refl _ _) (hI) rfl
    · intro f a w' hI hf hanc hdesc hle hs' hd K hK
      obtain ⟨_, tg, rfl⟩ := hd 22 54 (by kernel_rfl)
      have f4 : a.tmps[4]? = some (.pointer (some ⟨bx, 0, none⟩)) := hs'.2.2 4 (by kernel_rfl)
      unfold Go.Rel.stepOf
      go_simp
      exact hK _ _ (But.refl _ _) (hI) rfl
    · intro f a w' hI hf hanc hdesc hle hs' hd K hK
      obtain ⟨_, tg, rfl⟩ := hd 22 54 (by kernel_rfl)
      obtain ⟨_, t24, rfl⟩ := hd 24 56 (by kernel_rfl)
      have cc := (HC.out w' hle).2.2.1
      unfold Go.Rel.stepOf
      go_simp
      exact hK _ _ (But.refl _ _) (hI) rfl
    · intro f a w' hI hf hanc hdesc hle hs' hd K hK
      obtain ⟨_, tg, rfl⟩ := hd 22 54 (by kernel_rfl)
      obtain ⟨_, t25, rfl⟩ := hd 25 57 (by kernel_rfl)
      unfold Go.Rel.stepOf
      go_simp
      exact hK _ _ (But.refl _ _) (hI) rfl
    · intro f a w' hI hf hanc hdesc hle hs' hd K hK
      obtain ⟨_, tg, rfl⟩ := hd 22 54 (by kernel_rfl)
      have f9 : a.tmps[9]? = some (.int .i64 1099511627776) := hs'.2.2 9 (by kernel_rfl)
      unfold Go.Rel.stepOf
      go_simp
      exact hK _ _ (But.refl _ _) (hI) rfl
    · intro f a w' hI hf hanc hdesc hle hs' hd K hK
      obtain ⟨_, tg, rfl⟩ := hd 22 54 (by kernel_rfl)
      obtain ⟨_, t23, rfl⟩ := hd 23 55 (by kernel_rfl)
      obtain ⟨_, t26, rfl⟩ := hd 26 58 (by kernel_rfl)
      obtain ⟨_, t27, rfl⟩ := hd 27 59 (by kernel_rfl)
      have e2 := hanc 30 2 (by kernel_rfl)
      have e10 := hanc 30 10 (by kernel_rfl)
      have e17 := hanc 30 17 (by kernel_rfl)
      have e39 := hdesc 30 39 (by kernel_rfl)
      have hst : RdAt S w' br s3 := by have h : RdAt S w' br (st5 s0 s1 s2 s3 s4 s5 f) := hI; rw [show st5 s0 s1 s2 s3 s4 s5 f = s3 from by simp [st5, hf, e2, e10, e17, e39]] at h; exact h
      have hup : st5 s0 s1 s2 s3 s4 s5 (Go.Rel.upd f 28) = s4 := by simp [st5, Go.Rel.upd, e39]
      unfold Go.Rel.stepOf
      go_simp
      refine (HC4.out S br w' hst).mono ?_
      rintro e w2 ⟨A5, c5, rfl, hv5, hblk5, hr5, hb5⟩
      have hbS : But S w' w2 := hb5.mono (fun k e => e.symm ▸ HS.out.1)
      exact hK _ _ hbS (show RdAt S w2 br (st5 s0 s1 s2 s3 s4 s5 (Go.Rel.upd f 28)) by rw [hup]; exact hr5) ⟨_, _, rfl, hv5, fun b off e hn hs => by have := hblk5 b off e hn; have := HS.out.2 b hs; have := hle.size; omega⟩
    · intro f a w' hI hf hanc hdesc hle hs' hd K hK
      obtain ⟨_, tg, rfl⟩ := hd 22 54 (by kernel_rfl)
      have f4 : a.tmps[4]? = some (.pointer (some ⟨bx, 0, none⟩)) := hs'.2.2 4 (by kernel_rfl)
      unfold Go.Rel.stepOf
      go_simp
      exact hK _ _ (But.refl _ _) (hI) rfl
    · intro f a w' hI hf hanc hdesc hle hs' hd K hK
      obtain ⟨_, tg, rfl⟩ := hd 22 54 (by kernel_rfl)
      obtain ⟨_, t29, rfl⟩ := hd 29 61 (by kernel_rfl)
      have cc := (HC.out w' hle).2.2.1
      unfold Go.Rel.stepOf
      go_simp
      exact hK _ _ (But.refl _ _) (hI) rfl
    · intro f a w' hI hf hanc hdesc hle hs' hd K hK
      obtain ⟨_, tg, rfl⟩ := hd 22 54 (by kernel_rfl)
      obtain ⟨_, t28, A28, c28, rfl, h28⟩ := hd 28 60 (by kernel_rfl)
      obtain ⟨_, t30, rfl⟩ := hd 30 62 (by kernel_rfl)
      unfold Go.Rel.stepOf
      go_simp
      refine (HSame1.out _ _ w' h28.1 hle).mono ?_
      rintro e w2 ⟨rfl, hb5⟩
      exact hK _ _ (But.of_below hb5) (RdAt.below hI hb5) rfl
    · intro f a w' hI hf hanc hdesc hle hs' hd K hK
      obtain ⟨_, tg, rfl⟩ := hd 22 54 (by kernel_rfl)
      obtain ⟨_, t31, rfl⟩ := hd 31 63 (by kernel_rfl)
      unfold Go.Rel.stepOf
      go_simp
      exact hK _ _ (But.refl _ _) (hI) rfl
    · intro f a w' hI hf hanc hdesc hle hs' hd K hK
      obtain ⟨_, t22, rfl⟩ := hd 22 54 (by kernel_rfl)
      obtain ⟨_, t32, rfl⟩ := hd 32 64 (by kernel_rfl)
      unfold Go.Rel.stepOf
      go_simp
      exact hK _ _ (But.refl _ _) (hI) rfl
    · intro f a w' hI hf hanc hdesc hle hs' hd K hK
      obtain ⟨_, t33, rfl⟩ := hd 33 65 (by kernel_rfl)
      unfold Go.Rel.stepOf
      go_simp
      exact hK _ _ (But.refl _ _) (hI) rfl
    · intro f a w' hI hf hanc hdesc hle hs' hd K hK
      obtain ⟨_, tg, rfl⟩ := hd 34 66 (by kernel_rfl)
      have f8 : a.tmps[8]? = some (.pointer (some ⟨br, 0, none⟩)) := hs'.2.2 8 (by kernel_rfl)
      unfold Go.Rel.stepOf
      go_simp
      exact hK _ _ (But.refl _ _) (hI) rfl
    · intro f a w' hI hf hanc hdesc hle hs' hd K hK
      obtain ⟨_, tg, rfl⟩ := hd 34 66 (by kernel_rfl)
      have f4 : a.tmps[4]? = some (.pointer (some ⟨bx, 0, none⟩)) := hs'.2.2 4 (by kernel_rfl)
      unfold Go.Rel.stepOf
      go_simp
      exact hK _ _ (But.refl _ _) (hI) rfl
    · intro f a w' hI hf hanc hdesc hle hs' hd K hK
      obtain ⟨_, tg, rfl⟩ := hd 34 66 (by kernel_rfl)
      obtain ⟨_, t36, rfl⟩ := hd 36 68 (by kernel_rfl)
      have cc := (HC.out w' hle).2.2.2
      unfold Go.Rel.stepOf
      go_simp
      exact hK _ _ (But.refl _ _) (hI) rfl
    · intro f a w' hI hf hanc hdesc hle hs' hd K hK
      obtain ⟨_, tg, rfl⟩ := hd 34 66 (by kernel_rfl)
      obtain ⟨_, t37, rfl⟩ := hd 37 69 (by kernel_rfl)
      unfold Go.Rel.stepOf
      go_simp
      exact hK _ _ (But.refl _ _) (hI) rfl
    · intro f a w' hI hf hanc hdesc hle hs' hd K hK
      obtain ⟨_, tg, rfl⟩ := hd 34 66 (by kernel_rfl)
      obtain ⟨_, t35, rfl⟩ := hd 35 67 (by kernel_rfl)
      obtain ⟨_, t38, rfl⟩ := hd 38 70 (by kernel_rfl)
      have e2 := hanc 30 2 (by kernel_rfl)
      have e10 := hanc 30 10 (by kernel_rfl)
      have e17 := hanc 30 17 (by kernel_rfl)
      have e28 := hanc 30 28 (by kernel_rfl)
      have hst : RdAt S w' br s4 := by have h : RdAt S w' br (st5 s0 s1 s2 s3 s4 s5 f) := hI; rw [show st5 s0 s1 s2 s3 s4 s5 f = s4 from by simp [st5, hf, e2, e10, e17, e28]] at h; exact h
      have hup : st5 s0 s1 s2 s3 s4 s5 (Go.Rel.upd f 39) = s5 := by simp [st5, Go.Rel.upd]
      unfold Go.Rel.stepOf
      go_simp
      refine (HC5.out S br w' hst).mono ?_
      rintro e w2 ⟨A5, c5, rfl, hv5, hblk5, hr5, hb5⟩
      have hbS : But S w' w2 := hb5.mono (fun k e => e.symm ▸ HS.out.1)
      exact hK _ _ hbS (show RdAt S w2 br (st5 s0 s1 s2 s3 s4 s5 (Go.Rel.upd f 39)) by rw [hup]; exact hr5) ⟨_, _, rfl, hv5, fun b off e hn hs => by have := hblk5 b off e hn; have := HS.out.2 b hs; have := hle.size; omega⟩
    · intro f a w' hI hf hanc hdesc hle hs' hd K hK
      obtain ⟨_, tg, rfl⟩ := hd 34 66 (by kernel_rfl)
      have f4 : a.tmps[4]? = some (.pointer (some ⟨bx, 0, none⟩)) := hs'.2.2 4 (by kernel_rfl)
      unfold Go.Rel.stepOf
      go_simp
      exact hK _ _ (But.refl _ _) (hI) rfl
    · intro f a w' hI hf hanc hdesc hle hs' hd K hK
      obtain ⟨_, tg, rfl⟩ := hd 34 66 (by kernel_rfl)
      obtain ⟨_, t40, rfl⟩ := hd 40 72 (by kernel_rfl)
      have cc := (HC.out w' hle).2.2.2
      unfold Go.Rel.stepOf
      go_simp
      exact hK _ _ (But.refl _ _) (hI) rfl
    · intro f a w' hI hf hanc hdesc hle hs' hd K hK
      obtain ⟨_, tg, rfl⟩ := hd 34 66 (by kernel_rfl)
      obtain ⟨_, t39, A39, c39, rfl, h39⟩ := hd 39 71 (by kernel_rfl)
      obtain ⟨_, t41, rfl⟩ := hd 41 73 (by kernel_rfl)
      unfold Go.Rel.stepOf
      go_simp
      refine (HSame2.out _ _ w' h39.1 hle).mono ?_
      rintro e w2 ⟨rfl, hb5⟩
      exact hK _ _ (But.of_below hb5) (RdAt.below hI hb5) rfl
    · intro f a w' hI hf hanc hdesc hle hs' hd K hK
      obtain ⟨_, tg, rfl⟩ := hd 34 66 (by kernel_rfl)
      obtain ⟨_, t42, rfl⟩ := hd 42 74 (by kernel_rfl)
      unfold Go.Rel.stepOf
      go_simp
      exact hK _ _ (But.refl _ _) (hI) rfl
    · intro f a w' hI hf hanc hdesc hle hs' hd K hK
      obtain ⟨_, t34, rfl⟩ := hd 34 66 (by kernel_rfl)
      obtain ⟨_, t43, rfl⟩ := hd 43 75 (by kernel_rfl)
      unfold Go.Rel.stepOf
      go_simp
      exact hK _ _ (But.refl _ _) (hI) rfl
  case hend =>
    intro f a w13 hall hI hle hs' hR'
    have g39 := hall 39 (by decide)
    have hrd : RdAt S w13 br ⟨more, 0⟩ := by
      have h : RdAt S w13 br (st5 s0 s1 s2 s3 s4 s5 f) := hI
      rw [show st5 s0 s1 s2 s3 s4 s5 f = s5 from by simp [st5, g39], ← HS5.out] at h
      exact h
    have HB13 : Hid (Below w.heap.size w w13) := Lib.hid (HB0.out.trans ((HBW.out w13 hle).mono HB0.out.size))
    have t1 := rWrong_any S br _ w13 hrd
    have t2 := rLeft_any S br _ w13 hrd
    have t3 := rDone_any S br _ w13 hrd
    have hdn : doneS ⟨more, 0⟩ = if 0 < kk then 41 else 0 := by
      unfold doneS
      have h1 : (⟨more, 0⟩ : St).b.length = kk := HML.out
      rw [h1]
      by_cases h0 : 0 < kk
      · rw [if_pos ⟨rfl, h0⟩, if_pos h0]
      · rw [if_neg (fun h => h0 h.2), if_neg h0]
    have hlm : ((⟨more, 0⟩ : St).b.length : Int) = (kk : Int) := by
      have h1 : (⟨more, 0⟩ : St).b.length = kk := HML.out
      rw [h1]
    have hem : (((⟨more, 0⟩ : St).e : Nat) : Int) = 0 := rfl
    rw [hdn] at t3
    rw [hlm] at t2
    rw [hem] at t1
    have T1 := Lib.hid t1
    have T2 := Lib.hid t2
    have t4 := works_any w13
    clear hI hall g39 hle hrd hdn hlm hem t1 t2
    obtain ⟨v32, s32, _⟩ := hR' 0 32 (by kernel_rfl)
    obtain ⟨v33, s33, _⟩ := hR' 1 33 (by kernel_rfl)
    obtain ⟨v34, s34, _⟩ := hR' 2 34 (by kernel_rfl)
    obtain ⟨v35, s35, _⟩ := hR' 3 35 (by kernel_rfl)
    obtain ⟨v36, s36, _⟩ := hR' 4 36 (by kernel_rfl)
    obtain ⟨v37, s37, _⟩ := hR' 5 37 (by kernel_rfl)
    obtain ⟨v38, s38, _⟩ := hR' 6 38 (by kernel_rfl)
    obtain ⟨v39, s39, _⟩ := hR' 7 39 (by kernel_rfl)
    obtain ⟨v40, s40, _⟩ := hR' 8 40 (by kernel_rfl)
    obtain ⟨v41, s41, _⟩ := hR' 9 41 (by kernel_rfl)
    obtain ⟨v42, s42, _⟩ := hR' 10 42 (by kernel_rfl)
    obtain ⟨v43, s43, _⟩ := hR' 11 43 (by kernel_rfl)
    obtain ⟨v44, s44, _⟩ := hR' 12 44 (by kernel_rfl)
    obtain ⟨v45, s45, _⟩ := hR' 13 45 (by kernel_rfl)
    obtain ⟨v46, s46, _⟩ := hR' 14 46 (by kernel_rfl)
    obtain ⟨v47, s47, _⟩ := hR' 15 47 (by kernel_rfl)
    obtain ⟨v48, s48, _⟩ := hR' 16 48 (by kernel_rfl)
    obtain ⟨v49, s49, _⟩ := hR' 17 49 (by kernel_rfl)
    obtain ⟨v50, s50, _⟩ := hR' 18 50 (by kernel_rfl)
    obtain ⟨v51, s51, _⟩ := hR' 19 51 (by kernel_rfl)
    obtain ⟨v52, s52, _⟩ := hR' 20 52 (by kernel_rfl)
    obtain ⟨v53, s53, _⟩ := hR' 21 53 (by kernel_rfl)
    obtain ⟨v54, s54, _⟩ := hR' 22 54 (by kernel_rfl)
    obtain ⟨v55, s55, _⟩ := hR' 23 55 (by kernel_rfl)
    obtain ⟨v56, s56, _⟩ := hR' 24 56 (by kernel_rfl)
    obtain ⟨v57, s57, _⟩ := hR' 25 57 (by kernel_rfl)
    obtain ⟨v58, s58, _⟩ := hR' 26 58 (by kernel_rfl)
    obtain ⟨v59, s59, _⟩ := hR' 27 59 (by kernel_rfl)
    obtain ⟨v60, s60, _⟩ := hR' 28 60 (by kernel_rfl)
    obtain ⟨v61, s61, _⟩ := hR' 29 61 (by kernel_rfl)
    obtain ⟨v62, s62, _⟩ := hR' 30 62 (by kernel_rfl)
    obtain ⟨v63, s63, _⟩ := hR' 31 63 (by kernel_rfl)
    obtain ⟨v64, s64, _⟩ := hR' 32 64 (by kernel_rfl)
    obtain ⟨v65, s65, _⟩ := hR' 33 65 (by kernel_rfl)
    obtain ⟨v66, s66, _⟩ := hR' 34 66 (by kernel_rfl)
    obtain ⟨v67, s67, _⟩ := hR' 35 67 (by kernel_rfl)
    obtain ⟨v68, s68, _⟩ := hR' 36 68 (by kernel_rfl)
    obtain ⟨v69, s69, _⟩ := hR' 37 69 (by kernel_rfl)
    obtain ⟨v70, s70, _⟩ := hR' 38 70 (by kernel_rfl)
    obtain ⟨v71, s71, _⟩ := hR' 39 71 (by kernel_rfl)
    obtain ⟨v72, s72, _⟩ := hR' 40 72 (by kernel_rfl)
    obtain ⟨v73, s73, _⟩ := hR' 41 73 (by kernel_rfl)
    obtain ⟨v74, s74, _⟩ := hR' 42 74 (by kernel_rfl)
    obtain ⟨v75, s75, _⟩ := hR' 43 75 (by kernel_rfl)
    obtain ⟨_, s76, rfl⟩ := hR' 44 76 (by kernel_rfl)
    have e := hs'.shape
    simp only [List.toList_toArray, List.foldl, Go.Rel.reset, Array.getD_eq_getD_getElem?, s32, s33, s34, s35, s36, s37, s38, s39, s40, s41, s42, s43, s44, s45, s46, s47, s48, s49, s50, s51, s52, s53, s54, s55, s56, s57, s58, s59, s60, s61, s62, s63, s64, s65, s66, s67, s68, s69, s70, s71, s72, s73, s74, s75, s76, Option.getD_some] at e
    simp at e
    clear hR' hs' s32 s33 s34 s35 s36 s37 s38 s39 s40 s41 s42 s43 s44 s45 s46 s47 s48 s49 s50 s51 s52 s53 s54 s55 s56 s57 s58 s59 s60 s61 s62 s63 s64 s65 s66 s67 s68 s69 s70 s71 s72 s73 s74 s75 s76
    subst e
    by_cases hk0 : 0 < kk
    · rw [if_pos hk0] at t3
      have T3 := Lib.hid t3
      have T4 := Lib.hid t4
      have q1 : ((kk : Int) == 0) = false := by rw [beq_eq_false_iff_ne]; omega
      clear t3 t4
      go_wp2_with fail
      refine T1.out.mono ?_
      rintro e w14 ⟨rfl, rfl⟩
      go_wp2_with fail
      refine T2.out.mono ?_
      rintro e w14 ⟨rfl, rfl⟩
      go_wp2_with fail
      refine T3.out.mono ?_
      rintro e w14 ⟨rfl, rfl⟩
      go_wp2_with fail
      refine T4.out.mono ?_
      rintro e w14 ⟨rfl, hb14⟩
      have HB14 : Hid (Below w.heap.size w w14) := Lib.hid (HB13.out.trans (hb14.mono HB13.out.size))
      clear hb14
      go_wp2
      go_ret
      exact ⟨rfl, HB14.out⟩
    · obtain rfl : kk = 0 := by omega
      rw [if_neg hk0] at t3
      have T3 := Lib.hid t3
      have T4 := Lib.hid t4
      clear t3 t4
      go_wp2_with fail
      refine T1.out.mono ?_
      rintro e w14 ⟨rfl, rfl⟩
      go_wp2_with fail
      refine T2.out.mono ?_
      rintro e w14 ⟨rfl, rfl⟩
      go_wp2_with fail
      refine T3.out.mono ?_
      rintro e w14 ⟨rfl, rfl⟩
      go_wp2_with fail
      refine T4.out.mono ?_
      rintro e w14 ⟨rfl, hb14⟩
      have HB14 : Hid (Below w.heap.size w w14) := Lib.hid (HB13.out.trans (hb14.mono HB13.out.size))
      clear hb14
      go_wp2
      go_ret
      exact ⟨rfl, HB14.out⟩
end Go.Proofs.Ytgjgndpeopiifaa
