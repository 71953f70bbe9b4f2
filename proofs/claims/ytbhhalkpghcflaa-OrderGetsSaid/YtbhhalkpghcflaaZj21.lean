/-
  bound and firstNum, walked (layer 4).
-/
import Derived.Test.YtbhhalkpghcflaaZj18
namespace Go.Proofs.Ytbhhalkpghcflaa
open Go.RowKit
set_option linter.unusedSimpArgs false

theorem bound_any (m : Int) (w : World) (h1 : m ≤ 9223372036854775807) : Calls Try.prog 103 #[.int .i64 m] w fun e w' => e = .returned (.int .u64 (m.toNat : Int)) ∧ w = w' := by
  by_cases h : m < 0
  · have e : m.toNat = 0 := by omega
    rw [e]
    have hx : max m 0 = 0 := by omega
    go_enter Try.func103, Try.ntmps103
    go_wp2
    go_ret
    exact ⟨rfl, rfl⟩
  · obtain ⟨k, rfl⟩ : ∃ k : Nat, m = (k : Int) := ⟨m.toNat, by omega⟩
    have e : (k : Int).toNat = k := by omega
    rw [e]
    have h0 : (0 : Int) ≤ (k : Int) := by omega
    clear h e
    go_enter Try.func103, Try.ntmps103
    go_wp2
    go_ret
    exact ⟨rfl, rfl⟩

/-- What firstNum answers. -/
def fnAns (v sz e : Nat) : Ending := .returned (.tuple #[.int .u64 (v : Int), .int .i64 (sz : Int), .int .i64 (e : Int)])
theorem fn_empty (A : Option Addr) (c most : Nat) (w : World) : Calls Try.prog 43 #[.slice A 0 c, .int .u64 (most : Int)] w fun e w' => e = fnAns 0 0 30 ∧ w = w' := by
  go_enter Try.func43, Try.ntmps43
  go_wp2
  go_ret3
  exact ⟨rfl, rfl⟩
theorem fn_wide (b off n c many most : Nat) (w : World) (hn : 0 < n) (hn' : n ≤ 140737488355328) (h0 : w.cell? ⟨b, off, none⟩ = some (.int .u8 (many : Int))) (h8 : 8 < many) (h9 : many ≤ 255) :
    Calls Try.prog 43 #[.slice (some ⟨b, off, none⟩) n c, .int .u64 (most : Int)] w fun e w' => e = fnAns 0 0 40 ∧ w = w' := by
  have q1 : ((n : Int) == 0) = false := by rw [beq_eq_false_iff_ne]; omega
  have q2 : (0 : Int) < (n : Int) := by omega
  have q3 : decide ((8 : Int) < (many : Int)) = true := by simp; omega
  go_enter Try.func43, Try.ntmps43
  go_wp2
  go_ret3
  exact ⟨rfl, rfl⟩
theorem fn_zero (b off n c many most : Nat) (w : World) (hn : 1 < n) (hn' : n ≤ 140737488355328) (h0 : w.cell? ⟨b, off, none⟩ = some (.int .u8 (many : Int))) (h1 : w.cell? ⟨b, off + 1, none⟩ = some (.int .u8 0)) (h8 : many ≤ 8) (h9 : 0 < many) :
    Calls Try.prog 43 #[.slice (some ⟨b, off, none⟩) n c, .int .u64 (most : Int)] w fun e w' => e = fnAns 0 0 40 ∧ w = w' := by
  have q1 : ((n : Int) == 0) = false := by rw [beq_eq_false_iff_ne]; omega
  have q2 : (0 : Int) < (n : Int) := by omega
  have q4 : (1 : Int) < (n : Int) := by omega
  have q3 : ¬ (8 : Int) < (many : Int) := by omega
  have q5 : (0 : Int) < (many : Int) := by omega
  go_enter Try.func43, Try.ntmps43
  go_wp2
  go_ret3
  exact ⟨rfl, rfl⟩
theorem fn_short (b off n c many most : Nat) (w : World) (hn : 0 < n) (hn' : n ≤ 140737488355328) (h0 : w.cell? ⟨b, off, none⟩ = some (.int .u8 (many : Int))) (x : Nat) (h1 : 1 < n → w.cell? ⟨b, off + 1, none⟩ = some (.int .u8 (x : Int))) (hx : x ≠ 0) (h8 : many ≤ 8) (h9 : n < 1 + many) :
    Calls Try.prog 43 #[.slice (some ⟨b, off, none⟩) n c, .int .u64 (most : Int)] w fun e w' => e = fnAns 0 0 30 ∧ w = w' := by
  have q1 : ((n : Int) == 0) = false := by rw [beq_eq_false_iff_ne]; omega
  have q2 : (0 : Int) < (n : Int) := by omega
  have q3 : ¬ (8 : Int) < (many : Int) := by omega
  have q5 : (0 : Int) < (many : Int) := by omega
  have q6 : ((x : Int) == 0) = false := by rw [beq_eq_false_iff_ne]; omega
  have q7 : (n : Int) < 1 + (many : Int) := by omega
  clear hx
  by_cases h : 1 < n
  · have h1' := h1 h
    have q4 : (1 : Int) < (n : Int) := by omega
    clear h1
    go_enter Try.func43, Try.ntmps43
    go_wp2
    go_ret3
    exact ⟨rfl, rfl⟩
  · obtain rfl : n = 1 := by omega
    clear h1
    go_enter Try.func43, Try.ntmps43
    go_wp2
    go_ret3
    exact ⟨rfl, rfl⟩
end Go.Proofs.Ytbhhalkpghcflaa
/-
  firstNum's answers, walked; its contract (layer 4).
-/
namespace Go.Proofs.Ytbhhalkpghcflaa
open Go.RowKit
set_option linter.unusedSimpArgs false

theorem or_u64 (v : Nat) (c : UInt8) (h : v < 2 ^ 56) : bits .or .u64 ((v : Int) * 256) (c.toNat : Int) = ((v * 256 + c.toNat : Nat) : Int) := by
  have hc := c.toNat_lt
  have e : ((v : Int) * 256) = ((v * 256 : Nat) : Int) := by omega
  have o : v * 256 ||| c.toNat = v * 256 + c.toNat := by
    have := Nat.shiftLeft_add_eq_or_of_lt (i := 8) (b := c.toNat) (by omega) v
    rw [Nat.shiftLeft_eq] at this
    exact this.symm
  have k : ∀ x : Nat, x < 2 ^ 64 → (BitVec.ofInt 64 (x : Int)).toNat = x := fun x hx => by rw [BitVec.toNat_ofInt]; omega
  rw [e]
  show IntKind.u64.wrap ((BitVec.ofInt 64 ((v * 256 : Nat) : Int) ||| BitVec.ofInt 64 (c.toNat : Int)).toNat : Int) = _
  rw [BitVec.toNat_or, k _ (by omega), k _ (by omega), o]
  have : IntKind.u64.wrap ((v * 256 + c.toNat : Nat) : Int) = ((v * 256 + c.toNat : Nat) : Int) := by
    unfold IntKind.wrap
    simp [IntKind.signed, IntKind.bits]
    omega
  exact this
theorem valD_take_snoc (l : List UInt8) {k : Nat} (h : k < l.length) : valD (l.take (k + 1)) = valD (l.take k) * 256 + l[k].toNat := by
  rw [List.take_succ_eq_append_getElem h, valD_snoc]

/-- A number without digits. -/
theorem fn_none (b off n c most : Nat) (w : World) (hn : 0 < n) (hn' : n ≤ 140737488355328) (hnc : n ≤ c) (h0 : w.cell? ⟨b, off, none⟩ = some (.int .u8 0)) :
    Calls Try.prog 43 #[.slice (some ⟨b, off, none⟩) n c, .int .u64 (most : Int)] w fun e w' => e = fnAns 0 1 0 ∧ w = w' := by
  have q1 : ((n : Int) == 0) = false := by rw [beq_eq_false_iff_ne]; omega
  have q2 : (0 : Int) < (n : Int) := by omega
  have q3 : ¬ (n : Int) < 1 := by omega
  have q4 : (1 : Int) ≤ (c : Int) := by omega
  by_cases hc : c = 1
  · subst hc
    go_enter Try.func43, Try.ntmps43
    go_wp2
    go_loop [8, 45] (fun nv iv => nv = .int .u64 0 ∧ iv = .int .i64 0) (fun _ _ => 0)
    case atStart => exact ⟨rfl, rfl⟩
    case round =>
      obtain ⟨rfl, rfl⟩ := hrel
      go_wp2
      go_ret3
      exact ⟨rfl, rfl⟩
  · have q5 : ¬ c = 1 := hc
    go_enter Try.func43, Try.ntmps43
    go_wp2
    go_loop [8, 45] (fun nv iv => nv = .int .u64 0 ∧ iv = .int .i64 0) (fun _ _ => 0)
    case atStart => exact ⟨rfl, rfl⟩
    case round =>
      obtain ⟨rfl, rfl⟩ := hrel
      go_wp2
      go_ret3
      exact ⟨rfl, rfl⟩
def fnMost (most v many : Nat) : Ending := if most < v then fnAns 0 0 3 else fnAns v (1 + many) 0
set_option maxHeartbeats 1000000 in
theorem fn_some (b off n c many most : Nat) (xs : List UInt8) (w : World) (hR : RB w (some ⟨b, off, none⟩) n xs) (hn' : n ≤ 140737488355328) (hnc : n ≤ c) (hmany : manyN xs = many) (h8 : many ≤ 8) (h9 : 0 < many) (hlen : 1 + many ≤ n) (hz : xs.getD 1 0 ≠ 0) (hmost : most < 256 ^ 8) :
    Calls Try.prog 43 #[.slice (some ⟨b, off, none⟩) n c, .int .u64 (most : Int)] w fun e w' => e = fnMost most (valN xs) many ∧ w = w' := by
  obtain ⟨b', off', e, _, hcell⟩ := hR.at_ (by omega)
  simp only [Option.some.injEq, Addr.mk.injEq, and_true] at e
  obtain ⟨rfl, rfl⟩ := e
  have hl := hR.1
  have h0 := hcell 0 (by omega)
  rw [Nat.add_zero, show (xs.getD 0 0).toNat = many from hmany] at h0
  have h1 := hcell 1 (by omega)
  obtain ⟨x1, hx1⟩ : ∃ x, (xs.getD 1 0).toNat = x := ⟨_, rfl⟩
  have q6 : ((x1 : Int) == 0) = false := by
    rw [beq_eq_false_iff_ne]
    intro e
    exact hz (UInt8.toNat_inj.1 (by show _ = 0; omega))
  rw [hx1] at h1
  obtain ⟨T, hT⟩ : ∃ T, (xs.drop 1).take many = T := ⟨_, rfl⟩
  have hTl : T.length = many := by rw [← hT, List.length_take, List.length_drop]; omega
  have HV : Hid (valN xs = valD T) := Lib.hid (by rw [valN, hmany, hT])
  have HTl := Lib.hid hTl
  have HCell : Hid (∀ k (h : k < T.length), w.cell? ⟨b, off + 1 + k, none⟩ = some (.int .u8 (T[k].toNat : Int))) := Lib.hid (by
    intro k h
    have h2 := hcell (1 + k) (by omega)
    rw [← Nat.add_assoc] at h2
    rw [h2]
    have : T[k] = xs.getD (1 + k) 0 := by
      have h3 : T[k]? = (xs.drop 1)[k]? := by rw [← hT, List.getElem?_take, if_pos (by omega)]
      rw [List.getElem?_drop, List.getElem?_eq_getElem h] at h3
      simp [List.getD, ← h3]
    rw [this])
  have HMost := Lib.hid hmost
  have hm64 : (most : Int) ≤ 18446744073709551615 := by omega
  have q1 : ((n : Int) == 0) = false := by rw [beq_eq_false_iff_ne]; omega
  have q2 : (0 : Int) < (n : Int) := by omega
  have q3 : ¬ (8 : Int) < (many : Int) := by omega
  have q4 : (1 : Int) < (n : Int) := by omega
  have q5 : (0 : Int) < (many : Int) := by omega
  have q7 : ¬ (n : Int) < 1 + (many : Int) := by omega
  have q8 : ¬ c = 1 := by omega
  have q9 : (many : Int) ≤ 8 := by omega
  have q10 : (1 : Int) + (many : Int) ≤ (c : Int) := by omega
  clear hR hmany hcell hz hx1 hT hTl hmost hl
  go_enter Try.func43, Try.ntmps43
  go_wp2
  go_loop [8, 45] (fun nv iv => ∃ (k v : Nat), k ≤ many ∧ iv = .int .i64 (k : Int) ∧ nv = .int .u64 (v : Int) ∧ Hid (v = valD (T.take k))) (fun _ iv => many - (intOf iv).toNat)
  case atStart => exact ⟨0, 0, Nat.zero_le _, rfl, rfl, Lib.hid rfl⟩
  case round =>
    obtain ⟨k, v, hk, rfl, rfl, hv⟩ := hrel
    by_cases hlt : k < many
    · have hk' : k < T.length := by rw [HTl.out]; exact hlt
      have hc := HCell.out k hk'
      obtain ⟨x, hx⟩ : ∃ x, T[k] = x := ⟨_, rfl⟩
      rw [hx] at hc
      have hv56 : v < 2 ^ 56 := by
        have h2 := valD_lt (T.take k)
        rw [← hv.out, List.length_take, HTl.out] at h2
        exact Nat.lt_of_lt_of_le h2 (by rw [show 2 ^ 56 = 256 ^ 7 by decide]; exact Nat.pow_le_pow_right (by omega) (by omega))
      have HO : Hid (v * 256 + x.toNat = valD (T.take (k + 1))) := Lib.hid (by rw [valD_take_snoc T hk', ← hv.out, hx])
      have hor := or_u64 v x hv56
      have hv1 : (v : Int) ≤ 72057594037927935 := by omega
      clear hx hk' hv56
      have hwx : IntKind.u64.wrap (x.toNat : Int) = (x.toNat : Int) := by
        have := x.toNat_lt
        unfold IntKind.wrap
        simp [IntKind.signed, IntKind.bits]
        omega
      have HW : Hid (Value.int IntKind.u64 (bits .or .u64 ((v : Int) * 256) (IntKind.u64.wrap (x.toNat : Int))) = .int .u64 ((v * 256 + x.toNat : Nat) : Int)) := Lib.hid (by rw [hwx, hor])
      clear hor hwx
      go_wp2
      go_round
      case rel => exact ⟨k + 1, v * 256 + x.toNat, by omega, by go_num, HW.out, HO⟩
      case measure => simp [intOf]; omega
    · obtain rfl : k = many := by omega
      have HVV : Hid (v = valN xs) := Lib.hid (by rw [hv.out, HV.out, List.take_of_length_le (by rw [HTl.out]; exact Nat.le_refl _)])
      by_cases hmv : most < v
      · have hq : (most : Int) < (v : Int) := by omega
        go_wp2
        go_ret3
        exact ⟨by rw [← HVV.out, fnMost, if_pos (by omega)]; rfl, rfl⟩
      · have hq : ¬ (most : Int) < (v : Int) := by omega
        go_wp2
        go_ret3
        exact ⟨by rw [← HVV.out, fnMost, if_neg (by omega)]; rfl, rfl⟩

/-- What firstNum answers, of any bytes. -/
def fnOf (most : Nat) (xs : List UInt8) : Ending := if errNum most xs ≠ 0 then fnAns 0 0 (errNum most xs) else fnAns (valN xs) (1 + manyN xs) 0
theorem firstNum_any (A : Option Addr) (n c most : Nat) (xs : List UInt8) (w : World) (hR : RB w A n xs) (hnc : n ≤ c) (hn : n ≤ 140737488355328) (hmost : most < 256 ^ 8) :
    Calls Try.prog 43 #[.slice A n c, .int .u64 (most : Int)] w fun e w' => e = fnOf most xs ∧ w = w' := by
  have hl := hR.1
  have key : ∀ E : Nat, errN xs = E → E ≠ 0 → fnOf most xs = fnAns 0 0 E := fun E h1 h2 => by
    have : errNum most xs = E := by rw [errNum, h1, if_pos h2]
    rw [fnOf, this, if_pos h2]
  by_cases h1 : n = 0
  · subst h1
    have e30 : errN xs = 30 := by rw [errN, if_pos (by omega)]
    rw [key 30 e30 (by omega)]
    exact fn_empty A c most w
  obtain ⟨b, off, rfl, hb, hcell⟩ := hR.at_ (by omega)
  have h0 := hcell 0 (by omega)
  rw [Nat.add_zero] at h0
  have hm : (xs.getD 0 0).toNat = manyN xs := rfl
  rw [hm] at h0
  have h255 : manyN xs ≤ 255 := by have := (xs.getD 0 0).toNat_lt; omega
  by_cases h8 : 8 < manyN xs
  · have e40 : errN xs = 40 := by rw [errN, if_neg (by omega), if_pos h8]
    rw [key 40 e40 (by omega)]
    exact fn_wide b off n c (manyN xs) most w (by omega) hn h0 h8 h255
  by_cases hz : 0 < manyN xs ∧ 1 < xs.length ∧ xs.getD 1 0 = 0
  · have e40 : errN xs = 40 := by rw [errN, if_neg (by omega), if_neg h8, if_pos hz]
    rw [key 40 e40 (by omega)]
    have h1' := hcell 1 (by omega)
    rw [hz.2.2] at h1'
    exact fn_zero b off n c (manyN xs) most w (by omega) hn h0 h1' (by omega) hz.1
  by_cases hs : xs.length < 1 + manyN xs
  · have e30 : errN xs = 30 := by rw [errN, if_neg (by omega), if_neg h8, if_neg hz, if_pos hs]
    rw [key 30 e30 (by omega)]
    by_cases h2 : 1 < n
    · refine fn_short b off n c (manyN xs) most w (by omega) hn h0 (xs.getD 1 0).toNat (fun h => hcell 1 h) (fun e => hz ⟨by omega, by omega, UInt8.toNat_inj.1 e⟩) (by omega) (by omega)
    · exact fn_short b off n c (manyN xs) most w (by omega) hn h0 1 (fun h => absurd h h2) (by omega) (by omega) (by omega)
  have e0 : errN xs = 0 := by rw [errN, if_neg (by omega), if_neg h8, if_neg hz, if_neg hs]
  have hfn : fnOf most xs = fnMost most (valN xs) (manyN xs) := by
    have he : errNum most xs = if most < valN xs then 3 else 0 := by rw [errNum, e0, if_neg (by simp)]
    rw [fnOf, fnMost, he]
    by_cases h : most < valN xs
    · rw [if_pos h, if_pos h, if_pos (by omega)]
    · rw [if_neg h, if_neg h, if_neg (by omega)]
  rw [hfn]
  by_cases hm0 : manyN xs = 0
  · have hv : valN xs = 0 := by rw [valN, hm0, List.take_zero]; rfl
    rw [hv, hm0, fnMost, if_neg (by omega)]
    rw [hm0] at h0
    exact fn_none b off n c most w (by omega) hn hnc h0
  · exact fn_some b off n c (manyN xs) most xs w hR hn hnc rfl (by omega) (by omega) (by omega) (fun e => hz ⟨by omega, by omega, e⟩) hmost
end Go.Proofs.Ytbhhalkpghcflaa
/-
  firstText, firstFlag and the closures of Num and Text, walked (layer 4).
-/
namespace Go.Proofs.Ytbhhalkpghcflaa
open Go.RowKit
set_option linter.unusedSimpArgs false

def ftAns (s : List UInt8) (sz e : Nat) : Ending := .returned (.tuple #[strV s, .int .i64 (sz : Int), .int .i64 (e : Int)])
def ftOf (most : Nat) (xs : List UInt8) : Ending := if errText most xs ≠ 0 then ftAns [] 0 (errText most xs) else ftAns (bytesT xs) (1 + manyN xs + valN xs) 0
theorem errN_pos {xs : List UInt8} (h : errN xs = 0) : 0 < xs.length := by
  unfold errN at h
  by_cases h1 : xs.length < 1
  · rw [if_pos h1] at h; omega
  · omega
set_option maxRecDepth 100000 in
set_option maxHeartbeats 1000000 in
theorem firstText_any (A : Option Addr) (n c : Nat) (m : Int) (xs : List UInt8) (w : World) (hR : RB w A n xs) (hnc : n ≤ c) (hn : n ≤ 140737488355328) (hm : m ≤ 9223372036854775807) :
    Calls Try.prog 94 #[.slice A n c, .int .i64 m] w fun e w' => e = ftOf m.toNat xs ∧ w = w' := by
  have hl := hR.1
  have s1 := bound_any m w hm
  have s2 := firstNum_any A n c m.toNat xs w hR hnc hn (by omega)
  obtain ⟨most, hmo⟩ : ∃ most, m.toNat = most := ⟨_, rfl⟩
  rw [hmo] at s1 s2 ⊢
  by_cases he : errNum most xs ≠ 0
  · have e1 : fnOf most xs = fnAns 0 0 (errNum most xs) := by rw [fnOf, if_pos he]
    have e2 : ftOf most xs = ftAns [] 0 (errNum most xs) := by
      have : errText most xs = errNum most xs := by rw [errText, if_pos he]
      rw [ftOf, this, if_pos he]
    rw [e1] at s2
    rw [e2]
    obtain ⟨E, hE⟩ : ∃ E, errNum most xs = E := ⟨_, rfl⟩
    rw [hE] at s2 he ⊢
    have q1 : ((E : Int) != 0) = true := by rw [bne_iff_ne]; omega
    have S2 := Lib.hid s2
    clear hR hl s2 e1 e2 hE he hmo
    go_enter Try.func94, Try.ntmps94
    go_wp2_with fail
    refine s1.mono ?_
    rintro e w1 ⟨rfl, rfl⟩
    go_wp2_with fail
    refine S2.out.mono ?_
    rintro e w1 ⟨rfl, rfl⟩
    unfold fnAns
    go_wp2
    go_ret3
    exact ⟨rfl, rfl⟩
  have he0 : errNum most xs = 0 := by simpa using he
  obtain ⟨hN0, hv⟩ := errNum_zero he0
  obtain ⟨_, hv64, _, hml⟩ := num_laid hN0
  have e1 : fnOf most xs = fnAns (valN xs) (1 + manyN xs) 0 := by rw [fnOf, if_neg he]
  have e3 : errText most xs = if xs.length - (1 + manyN xs) < valN xs then 30 else 0 := by rw [errText, if_neg he]
  have e2 : ftOf most xs = if xs.length - (1 + manyN xs) < valN xs then ftAns [] 0 30 else ftAns (bytesT xs) (1 + manyN xs + valN xs) 0 := by
    rw [ftOf, e3]
    by_cases h : xs.length - (1 + manyN xs) < valN xs
    · rw [if_pos h, if_pos h, if_pos (by omega)]
    · rw [if_neg h, if_neg h, if_neg (by omega)]
  obtain ⟨b, off, rfl, hb, _⟩ := hR.at_ (by omega)
  rw [e1] at s2
  have HT : Hid (bytesT xs = (xs.drop (1 + manyN xs)).take (valN xs)) := Lib.hid rfl
  obtain ⟨V, hV⟩ : ∃ V, valN xs = V := ⟨_, rfl⟩
  obtain ⟨S, hS⟩ : ∃ S, 1 + manyN xs = S := ⟨_, rfl⟩
  rw [hl, hV, hS] at e2
  rw [hV, hS] at s2 HT
  rw [hV] at hv hv64
  rw [hS, hl] at hml
  have hv64' : (V : Int) ≤ 18446744073709551615 := by omega
  have HR := Lib.hid hR
  have S2 := Lib.hid s2
  by_cases h30 : n - S < V
  · rw [if_pos h30] at e2
    rw [e2]
    have q1 : (n : Int) - (S : Int) < (V : Int) := by omega
    clear hR hl s2 e1 e2 e3 hV hS he hmo he0
    go_enter Try.func94, Try.ntmps94
    go_wp2_with fail
    refine s1.mono ?_
    rintro e w1 ⟨rfl, rfl⟩
    go_wp2_with fail
    refine S2.out.mono ?_
    rintro e w1 ⟨rfl, rfl⟩
    unfold fnAns
    go_wp2
    go_ret3
    exact ⟨rfl, rfl⟩
  · rw [if_neg h30] at e2
    rw [e2]
    have q1 : ¬ (n : Int) - (S : Int) < (V : Int) := by omega
    have q2 : (S : Int) + (V : Int) ≤ (c : Int) := by omega
    have q3 : (V : Int) ≤ 140737488355328 := by omega
    obtain ⟨B, hB⟩ : ∃ B, bytesT xs = B := ⟨_, rfl⟩
    rw [hB] at HT ⊢
    clear hR hl s2 e1 e2 e3 hV hS he hmo he0 hB
    by_cases hc : c = S
    · obtain rfl : V = 0 := by omega
      have HB0 : Hid (B = []) := Lib.hid (by rw [HT.out, List.take_zero])
      have k1 := own_conv (RB.zero w (some ⟨b, off, none⟩)) 0
      subst hc
      go_enter Try.func94, Try.ntmps94
      go_wp2_with fail
      refine s1.mono ?_
      rintro e w1 ⟨rfl, rfl⟩
      go_wp2_with fail
      refine S2.out.mono ?_
      rintro e w1 ⟨rfl, rfl⟩
      unfold fnAns
      go_wp2
      go_ret3
      exact ⟨by rw [HB0.out]; rfl, rfl⟩
    · have hBl : RB w (some ⟨b, off + S, none⟩) V B := by
        rw [HT.out]
        exact (rb_drop HR.out (m := S) hml).take (by omega)
      have k1 := own_conv hBl (c - S)
      obtain ⟨st, hst⟩ : ∃ st : ByteArray, (⟨B.toArray⟩ : ByteArray) = st := ⟨_, rfl⟩
      rw [hst] at k1
      have HST := Lib.hid hst
      clear hBl hst
      go_enter Try.func94, Try.ntmps94
      go_wp2_with fail
      refine s1.mono ?_
      rintro e w1 ⟨rfl, rfl⟩
      go_wp2_with fail
      refine S2.out.mono ?_
      rintro e w1 ⟨rfl, rfl⟩
      unfold fnAns
      go_wp2
      go_ret3
      exact ⟨by rw [ftAns, strV, HST.out]; rfl, rfl⟩

def ffAns (is : Bool) (sz e : Nat) : Ending := .returned (.tuple #[.bool is, .int .i64 (sz : Int), .int .i64 (e : Int)])
def ffOf (xs : List UInt8) : Ending := if errFlag xs ≠ 0 then ffAns false 0 (errFlag xs) else ffAns (valN xs == 1) (1 + manyN xs) 0
set_option maxHeartbeats 1000000 in
theorem firstFlag_any (A : Option Addr) (n c : Nat) (xs : List UInt8) (w : World) (hR : RB w A n xs) (hnc : n ≤ c) (hn : n ≤ 140737488355328) :
    Calls Try.prog 100 #[.slice A n c] w fun e w' => e = ffOf xs ∧ w = w' := by
  have s2 := firstNum_any A n c 18446744073709551615 xs w hR hnc hn (by decide)
  by_cases he : errN xs ≠ 0
  · have h0 : errNum 18446744073709551615 xs = errN xs := by rw [errNum, if_pos he]
    have e1 : fnOf 18446744073709551615 xs = fnAns 0 0 (errN xs) := by rw [fnOf, h0, if_pos he]
    have e2 : ffOf xs = ffAns false 0 (errN xs) := by
      have : errFlag xs = errN xs := by rw [errFlag, if_pos he]
      rw [ffOf, this, if_pos he]
    rw [e1] at s2
    rw [e2]
    obtain ⟨E, hE⟩ : ∃ E, errN xs = E := ⟨_, rfl⟩
    rw [hE] at s2 he ⊢
    have q1 : ((E : Int) != 0) = true := by rw [bne_iff_ne]; omega
    have S2 := Lib.hid s2
    clear hR s2 e1 e2 hE he h0
    go_enter Try.func100, Try.ntmps100
    go_wp2_with fail
    refine S2.out.mono ?_
    rintro e w1 ⟨rfl, rfl⟩
    unfold fnAns
    go_wp2
    go_ret3
    exact ⟨rfl, rfl⟩
  have hN0 : errN xs = 0 := by simpa using he
  obtain ⟨_, hv64, _, hml⟩ := num_laid hN0
  have h0 : errNum 18446744073709551615 xs = 0 := by rw [errNum, if_neg he, if_neg (by omega)]
  have e1 : fnOf 18446744073709551615 xs = fnAns (valN xs) (1 + manyN xs) 0 := by rw [fnOf, h0, if_neg (by simp)]
  have e3 : errFlag xs = if 1 < valN xs then 40 else 0 := by rw [errFlag, if_neg he]
  have e2 : ffOf xs = if 1 < valN xs then ffAns false 0 40 else ffAns (valN xs == 1) (1 + manyN xs) 0 := by
    rw [ffOf, e3]
    by_cases h : 1 < valN xs
    · rw [if_pos h, if_pos h, if_pos (by omega)]
    · rw [if_neg h, if_neg h, if_neg (by omega)]
  rw [e1] at s2
  obtain ⟨V, hV⟩ : ∃ V, valN xs = V := ⟨_, rfl⟩
  obtain ⟨S, hS⟩ : ∃ S, 1 + manyN xs = S := ⟨_, rfl⟩
  rw [hV, hS] at e2 s2
  have S2 := Lib.hid s2
  have HF := Lib.hid e2
  clear hR s2 e1 e2 e3 hV hS he h0 hN0
  by_cases h1 : 1 < V
  · have q1 : (1 : Int) < (V : Int) := by omega
    rw [HF.out, if_pos h1]
    go_enter Try.func100, Try.ntmps100
    go_wp2_with fail
    refine S2.out.mono ?_
    rintro e w1 ⟨rfl, rfl⟩
    unfold fnAns
    go_wp2
    go_ret3
    exact ⟨rfl, rfl⟩
  · rw [HF.out, if_neg h1]
    have hV01 : V = 0 ∨ V = 1 := by omega
    clear h1
    rcases hV01 with rfl | rfl
    all_goals
      go_enter Try.func100, Try.ntmps100
      go_wp2_with fail
      refine S2.out.mono ?_
      rintro e w1 ⟨rfl, rfl⟩
      unfold fnAns
      go_wp2
      go_ret3
      exact ⟨rfl, rfl⟩

theorem Num1_any (A : Option Addr) (n c most bm : Nat) (xs : List UInt8) (w : World) (hR : RB w A n xs) (hnc : n ≤ c) (hn : n ≤ 140737488355328) (hmost : most < 256 ^ 8) (hm : w.cell? ⟨bm, 0, none⟩ = some (.int .u64 (most : Int))) :
    Calls Try.prog 42 #[.slice A n c, .pointer (some ⟨bm, 0, none⟩)] w fun e w' => e = fnOf most xs ∧ w = w' := by
  have s2 := firstNum_any A n c most xs w hR hnc hn hmost
  have S2 := Lib.hid s2
  have HE : Hid (∃ v sz e : Nat, fnOf most xs = fnAns v sz e) := Lib.hid (by
    unfold fnOf
    by_cases h : errNum most xs ≠ 0
    · rw [if_pos h]; exact ⟨_, _, _, rfl⟩
    · rw [if_neg h]; exact ⟨_, _, _, rfl⟩)
  obtain ⟨v, sz, er, he⟩ := HE.out
  rw [he] at S2 ⊢
  clear s2 hR he HE hmost
  go_enter Try.func42, Try.ntmps42
  go_wp2_with fail
  refine S2.out.mono ?_
  rintro e w1 ⟨rfl, rfl⟩
  unfold fnAns
  go_wp2
  go_ret3
  exact ⟨rfl, rfl⟩
theorem Text1_any (A : Option Addr) (n c bm : Nat) (m : Int) (xs : List UInt8) (w : World) (hR : RB w A n xs) (hnc : n ≤ c) (hn : n ≤ 140737488355328) (hm : m ≤ 9223372036854775807) (hc : w.cell? ⟨bm, 0, none⟩ = some (.int .i64 m)) :
    Calls Try.prog 93 #[.slice A n c, .pointer (some ⟨bm, 0, none⟩)] w fun e w' => e = ftOf m.toNat xs ∧ w = w' := by
  have s2 := firstText_any A n c m xs w hR hnc hn hm
  have S2 := Lib.hid s2
  have HE : Hid (∃ s, ∃ sz e : Nat, ftOf m.toNat xs = ftAns s sz e) := Lib.hid (by
    unfold ftOf
    by_cases h : errText m.toNat xs ≠ 0
    · rw [if_pos h]; exact ⟨_, _, _, rfl⟩
    · rw [if_neg h]; exact ⟨_, _, _, rfl⟩)
  obtain ⟨s, sz, er, he⟩ := HE.out
  rw [he] at S2 ⊢
  clear s2 hR he HE hm
  go_enter Try.func93, Try.ntmps93
  go_wp2_with fail
  refine S2.out.mono ?_
  rintro e w1 ⟨rfl, rfl⟩
  unfold ftAns strV
  obtain ⟨st, hst⟩ : ∃ st : ByteArray, (⟨s.toArray⟩ : ByteArray) = st := ⟨_, rfl⟩
  rw [hst]
  have HST := Lib.hid hst
  clear hst
  go_wp2
  go_ret3
  exact ⟨by rw [ftAns, strV, HST.out]; rfl, rfl⟩
end Go.Proofs.Ytbhhalkpghcflaa
