/-
  firstText, firstFlag and the closures of Num and Text, walked (layer 4).
-/
import Derived.Test.YtbhhalkpghcflaaZj26
namespace Go.Proofs.Ytbhhalkpghcflaa
open Go.RowKit
set_option linter.unusedSimpArgs false

def ftAns (s : List UInt8) (sz e : Nat) : Ending := .returned (.tuple #[strV s, .int .i64 (sz : Int), .int .i64 (e : Int)])
def ftOf (most : Nat) (xs : List UInt8) : Ending := if errText most xs ≠ 0 then ftAns [] 0 (errText most xs) else ftAns (bytesT xs) (1 + manyN xs + valN xs) 0
theorem errN_pos {xs : List UInt8} (h : errN xs = 0) : 0 < xs.length := by
  unfold errN at h
  by_cases h1 : xs.length < 1
  · rw [if_pos h1] at h; omega
  · omega
set_option maxRecDepth 100000 in
set_option maxHeartbeats 1000000 in
theorem firstText_any (A : Option Addr) (n c : Nat) (m : Int) (xs : List UInt8) (w : World) (hR : RB w A n xs) (hnc : n ≤ c) (hn : n ≤ 140737488355328) (hm : m ≤ 9223372036854775807) :
    Calls Try.prog 94 #[.slice A n c, .int .i64 m] w fun e w' => e = ftOf m.toNat xs ∧ w = w' := by
  have hl := hR.1
  have s1 := bound_any m w hm
  have s2 := firstNum_any A n c m.toNat xs w hR hnc hn (by omega)
  obtain ⟨most, hmo⟩ : ∃ most, m.toNat = most := ⟨_, rfl⟩
  rw [hmo] at s1 s2 ⊢
  by_cases he : errNum most xs ≠ 0
  · have e1 : fnOf most xs = fnAns 0 0 (errNum most xs) := by rw [fnOf, if_pos he]
    have e2 : ftOf most xs = ftAns [] 0 (errNum most xs) := by
      have : errText most xs = errNum most xs := by rw [errText, if_pos he]
      rw [ftOf, this, if_pos he]
    rw [e1] at s2
    rw [e2]
    obtain ⟨E, hE⟩ : ∃ E, errNum most xs = E := ⟨_, rfl⟩
    rw [hE] at s2 he ⊢
    have q1 : ((E : Int) != 0) = true := by rw [bne_iff_ne]; omega
    have S2 := Lib.hid s2
    clear hR hl s2 e1 e2 hE he hmo
    go_enter Try.func94, Try.ntmps94
    go_wp2_with fail
    refine s1.mono ?_
    rintro e w1 ⟨rfl, rfl⟩
    go_wp2_with fail
    refine S2.out.mono ?_
    rintro e w1 ⟨rfl, rfl⟩
    unfold fnAns
    go_wp2
    go_ret3
    exact ⟨rfl, rfl⟩
  have he0 : errNum most xs = 0 := by simpa using he
  obtain ⟨hN0, hv⟩ := errNum_zero he0
  obtain ⟨_, hv64, _, hml⟩ := num_laid hN0
  have e1 : fnOf most xs = fnAns (valN xs) (1 + manyN xs) 0 := by rw [fnOf, if_neg he]
  have e3 : errText most xs = if xs.length - (1 + manyN xs) < valN xs then 30 else 0 := by rw [errText, if_neg he]
  have e2 : ftOf most xs = if xs.length - (1 + manyN xs) < valN xs then ftAns [] 0 30 else ftAns (bytesT xs) (1 + manyN xs + valN xs) 0 := by
    rw [ftOf, e3]
    by_cases h : xs.length - (1 + manyN xs) < valN xs
    · rw [if_pos h, if_pos h, if_pos (by omega)]
    · rw [if_neg h, if_neg h, if_neg (by omega)]
  obtain ⟨b, off, rfl, hb, _⟩ := hR.at_ (by omega)
  rw [e1] at s2
  have HT : Hid (bytesT xs = (xs.drop (1 + manyN xs)).take (valN xs)) := Lib.hid rfl
  obtain ⟨V, hV⟩ : ∃ V, valN xs = V := ⟨_, rfl⟩
  obtain ⟨S, hS⟩ : ∃ S, 1 + manyN xs = S := ⟨_, rfl⟩
  rw [hl, hV, hS] at e2
  rw [hV, hS] at s2 HT
  rw [hV] at hv hv64
  rw [hS, hl] at hml
  have hv64' : (V : Int) ≤ 18446744073709551615 := by omega
  have HR := Lib.hid hR
  have S2 := Lib.hid s2
  by_cases h30 : n - S < V
  · rw [if_pos h30] at e2
    rw [e2]
    have q1 : (n : Int) - (S : Int) < (V : Int) := by omega
    clear hR hl s2 e1 e2 e3 hV hS he hmo he0
    go_enter Try.func94, Try.ntmps94
    go_wp2_with fail
    refine s1.mono ?_
    rintro e w1 ⟨rfl, rfl⟩
    go_wp2_with fail
    refine S2.out.mono ?_
    rintro e w1 ⟨rfl, rfl⟩
    unfold fnAns
    go_wp2
    go_ret3
    exact ⟨rfl, rfl⟩
  · rw [if_neg h30] at e2
    rw [e2]
    have q1 : ¬ (n : Int) - (S : Int) < (V : Int) := by omega
    have q2 : (S : Int) + (V : Int) ≤ (c : Int) := by omega
    have q3 : (V : Int) ≤ 140737488355328 := by omega
    obtain ⟨B, hB⟩ : ∃ B, bytesT xs = B := ⟨_, rfl⟩
    rw [hB] at HT ⊢
    clear hR hl s2 e1 e2 e3 hV hS he hmo he0 hB
    by_cases hc : c = S
    · obtain rfl : V = 0 := by omega
      have HB0 : Hid (B = []) := Lib.hid (by rw [HT.out, List.take_zero])
      have k1 := own_conv (RB.zero w (some ⟨b, off, none⟩)) 0
      subst hc
      go_enter Try.func94, Try.ntmps94
      go_wp2_with fail
      refine s1.mono ?_
      rintro e w1 ⟨rfl, rfl⟩
      go_wp2_with fail
      refine S2.out.mono ?_
      rintro e w1 ⟨rfl, rfl⟩
      unfold fnAns
      go_wp2
      go_ret3
      exact ⟨by rw [HB0.out]; rfl, rfl⟩
    · have hBl : RB w (some ⟨b, off + S, none⟩) V B := by
        rw [HT.out]
        exact (rb_drop HR.out (m := S) hml).take (by omega)
      have k1 := own_conv hBl (c - S)
      obtain ⟨st, hst⟩ : ∃ st : ByteArray, (⟨B.toArray⟩ : ByteArray) = st := ⟨_, rfl⟩
      rw [hst] at k1
      have HST := Lib.hid hst
      clear hBl hst
      go_enter Try.func94, Try.ntmps94
      go_wp2_with fail
      refine s1.mono ?_
      rintro e w1 ⟨rfl, rfl⟩
      go_wp2_with fail
      refine S2.out.mono ?_
      rintro e w1 ⟨rfl, rfl⟩
      unfold fnAns
      go_wp2
      go_ret3
      exact ⟨by rw [ftAns, strV, HST.out]; rfl, rfl⟩

def ffAns (is : Bool) (sz e : Nat) : Ending := .returned (.tuple #[.bool is, .int .i64 (sz : Int), .int .i64 (e : Int)])
def ffOf (xs : List UInt8) : Ending := if errFlag xs ≠ 0 then ffAns false 0 (errFlag xs) else ffAns (valN xs == 1) (1 + manyN xs) 0
set_option maxHeartbeats 1000000 in
theorem firstFlag_any (A : Option Addr) (n c : Nat) (xs : List UInt8) (w : World) (hR : RB w A n xs) (hnc : n ≤ c) (hn : n ≤ 140737488355328) :
    Calls Try.prog 100 #[.slice A n c] w fun e w' => e = ffOf xs ∧ w = w' := by
  have s2 := firstNum_any A n c 18446744073709551615 xs w hR hnc hn (by decide)
  by_cases he : errN xs ≠ 0
  · have h0 : errNum 18446744073709551615 xs = errN xs := by rw [errNum, if_pos he]
    have e1 : fnOf 18446744073709551615 xs = fnAns 0 0 (errN xs) := by rw [fnOf, h0, if_pos he]
    have e2 : ffOf xs = ffAns false 0 (errN xs) := by
      have : errFlag xs = errN xs := by rw [errFlag, if_pos he]
      rw [ffOf, this, if_pos he]
    rw [e1] at s2
    rw [e2]
    obtain ⟨E, hE⟩ : ∃ E, errN xs = E := ⟨_, rfl⟩
    rw [hE] at s2 he ⊢
    have q1 : ((E : Int) != 0) = true := by rw [bne_iff_ne]; omega
    have S2 := Lib.hid s2
    clear hR s2 e1 e2 hE he h0
    go_enter Try.func100, Try.ntmps100
    go_wp2_with fail
    refine S2.out.mono ?_
    rintro e w1 ⟨rfl, rfl⟩
    unfold fnAns
    go_wp2
    go_ret3
    exact ⟨rfl, rfl⟩
  have hN0 : errN xs = 0 := by simpa using he
  obtain ⟨_, hv64, _, hml⟩ := num_laid hN0
  have h0 : errNum 18446744073709551615 xs = 0 := by rw [errNum, if_neg he, if_neg (by omega)]
  have e1 : fnOf 18446744073709551615 xs = fnAns (valN xs) (1 + manyN xs) 0 := by rw [fnOf, h0, if_neg (by simp)]
  have e3 : errFlag xs = if 1 < valN xs then 40 else 0 := by rw [errFlag, if_neg he]
  have e2 : ffOf xs = if 1 < valN xs then ffAns false 0 40 else ffAns (valN xs == 1) (1 + manyN xs) 0 := by
    rw [ffOf, e3]
    by_cases h : 1 < valN xs
    · rw [if_pos h, if_pos h, if_pos (by omega)]
    · rw [if_neg h, if_neg h, if_neg (by omega)]
  rw [e1] at s2
  obtain ⟨V, hV⟩ : ∃ V, valN xs = V := ⟨_, rfl⟩
  obtain ⟨S, hS⟩ : ∃ S, 1 + manyN xs = S := ⟨_, rfl⟩
  rw [hV, hS] at e2 s2
  have S2 := Lib.hid s2
  have HF := Lib.hid e2
  clear hR s2 e1 e2 e3 hV hS he h0 hN0
  by_cases h1 : 1 < V
  · have q1 : (1 : Int) < (V : Int) := by omega
    rw [HF.out, if_pos h1]
    go_enter Try.func100, Try.ntmps100
    go_wp2_with fail
    refine S2.out.mono ?_
    rintro e w1 ⟨rfl, rfl⟩
    unfold fnAns
    go_wp2
    go_ret3
    exact ⟨rfl, rfl⟩
  · rw [HF.out, if_neg h1]
    have hV01 : V = 0 ∨ V = 1 := by omega
    clear h1
    rcases hV01 with rfl | rfl
    all_goals
      go_enter Try.func100, Try.ntmps100
      go_wp2_with fail
      refine S2.out.mono ?_
      rintro e w1 ⟨rfl, rfl⟩
      unfold fnAns
      go_wp2
      go_ret3
      exact ⟨rfl, rfl⟩

theorem Num1_any (A : Option Addr) (n c most bm : Nat) (xs : List UInt8) (w : World) (hR : RB w A n xs) (hnc : n ≤ c) (hn : n ≤ 140737488355328) (hmost : most < 256 ^ 8) (hm : w.cell? ⟨bm, 0, none⟩ = some (.int .u64 (most : Int))) :
    Calls Try.prog 42 #[.slice A n c, .pointer (some ⟨bm, 0, none⟩)] w fun e w' => e = fnOf most xs ∧ w = w' := by
  have s2 := firstNum_any A n c most xs w hR hnc hn hmost
  have S2 := Lib.hid s2
  have HE : Hid (∃ v sz e : Nat, fnOf most xs = fnAns v sz e) := Lib.hid (by
    unfold fnOf
    by_cases h : errNum most xs ≠ 0
    · rw [if_pos h]; exact ⟨_, _, _, rfl⟩
    · rw [if_neg h]; exact ⟨_, _, _, rfl⟩)
  obtain ⟨v, sz, er, he⟩ := HE.out
  rw [he] at S2 ⊢
  clear s2 hR he HE hmost
  go_enter Try.func42, Try.ntmps42
  go_wp2_with fail
  refine S2.out.mono ?_
  rintro e w1 ⟨rfl, rfl⟩
  unfold fnAns
  go_wp2
  go_ret3
  exact ⟨rfl, rfl⟩
theorem Text1_any (A : Option Addr) (n c bm : Nat) (m : Int) (xs : List UInt8) (w : World) (hR : RB w A n xs) (hnc : n ≤ c) (hn : n ≤ 140737488355328) (hm : m ≤ 9223372036854775807) (hc : w.cell? ⟨bm, 0, none⟩ = some (.int .i64 m)) :
    Calls Try.prog 93 #[.slice A n c, .pointer (some ⟨bm, 0, none⟩)] w fun e w' => e = ftOf m.toNat xs ∧ w = w' := by
  have s2 := firstText_any A n c m xs w hR hnc hn hm
  have S2 := Lib.hid s2
  have HE : Hid (∃ s, ∃ sz e : Nat, ftOf m.toNat xs = ftAns s sz e) := Lib.hid (by
    unfold ftOf
    by_cases h : errText m.toNat xs ≠ 0
    · rw [if_pos h]; exact ⟨_, _, _, rfl⟩
    · rw [if_neg h]; exact ⟨_, _, _, rfl⟩)
  obtain ⟨s, sz, er, he⟩ := HE.out
  rw [he] at S2 ⊢
  clear s2 hR he HE hm
  go_enter Try.func93, Try.ntmps93
  go_wp2_with fail
  refine S2.out.mono ?_
  rintro e w1 ⟨rfl, rfl⟩
  unfold ftAns strV
  obtain ⟨st, hst⟩ : ∃ st : ByteArray, (⟨s.toArray⟩ : ByteArray) = st := ⟨_, rfl⟩
  rw [hst]
  have HST := Lib.hid hst
  clear hst
  go_wp2
  go_ret3
  exact ⟨by rw [ftAns, strV, HST.out]; rfl, rfl⟩
end Go.Proofs.Ytbhhalkpghcflaa
