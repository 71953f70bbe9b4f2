/-
  The document's number, walked (layer 4).
-/
import Derived.Test.YtgjgndpeopiifaaDRdB
namespace Go.Proofs.Ytgjgndpeopiifaa
open Go.RowKit
set_option linter.unusedSimpArgs false

/-- The document's reader at block B. -/
def RfAt (S : Nat → Prop) (w : World) (B : Nat) (s : St) : Prop :=
  S B ∧ ∃ A n c, w.heap[B]? = some (.cells #[.slice A n c, .int .i64 (s.e : Int)] 45 (0, 0)) ∧ RBn S w A n s.b ∧ n ≤ c ∧ (A = none → c = 0) ∧ n ≤ 140737488355328
theorem RfAt.lt {S : Nat → Prop} {w : World} {B : Nat} {s : St} (h : RfAt S w B s) : B < w.heap.size := by
  obtain ⟨_, A, n, c, hh, _⟩ := h
  exact (Array.getElem?_eq_some_iff.1 hh).1
theorem RfAt.but {S S' : Nat → Prop} {w w' : World} {B : Nat} {s : St} (h : RfAt S w B s) (hb : But S' w w') (hS : ∀ k, S' k → S k) (hB : ¬ S' B) : RfAt S w' B s := by
  have hlt := h.lt
  obtain ⟨h0, A, n, c, hh, hr, hm⟩ := h
  exact ⟨h0, A, n, c, (hb.block B hlt hB).trans hh, hr.but (hb.mono hS), hm⟩
theorem RfAt.below {S : Nat → Prop} {w w' : World} {B : Nat} {s : St} (h : RfAt S w B s) (hb : Below w.heap.size w w') : RfAt S w' B s := h.but (S' := fun _ => False) (But.of_below hb) (fun _ h => h.elim) (fun h => h)

theorem rn_empty (A : Option Addr) (c : Nat) (w : World) : Calls Try.prog 52 #[.slice A 0 c] w fun e w' => e = fnAns 0 0 30 ∧ w = w' := by
  go_enter Try.func52, Try.ntmps52
  go_wp2
  go_ret3
  exact ⟨rfl, rfl⟩
theorem rn_wide (b off n c many : Nat) (w : World) (hn : 0 < n) (hn' : n ≤ 140737488355328) (h0 : w.cell? ⟨b, off, none⟩ = some (.int .u8 (many : Int))) (h8 : 8 < many) (h9 : many ≤ 255) :
    Calls Try.prog 52 #[.slice (some ⟨b, off, none⟩) n c] w fun e w' => e = fnAns 0 0 40 ∧ w = w' := by
  have q1 : ¬ (n : Int) < 1 := by omega
  have q2 : (0 : Int) < (n : Int) := by omega
  have q3 : decide ((8 : Int) < (many : Int)) = true := by simp; omega
  go_enter Try.func52, Try.ntmps52
  go_wp2
  go_ret3
  exact ⟨rfl, rfl⟩
theorem rn_zero (b off n c many : Nat) (w : World) (hn : 1 < n) (hn' : n ≤ 140737488355328) (h0 : w.cell? ⟨b, off, none⟩ = some (.int .u8 (many : Int))) (h1 : w.cell? ⟨b, off + 1, none⟩ = some (.int .u8 0)) (h8 : many ≤ 8) (h9 : 0 < many) :
    Calls Try.prog 52 #[.slice (some ⟨b, off, none⟩) n c] w fun e w' => e = fnAns 0 0 40 ∧ w = w' := by
  have q1 : ¬ (n : Int) < 1 := by omega
  have q2 : (0 : Int) < (n : Int) := by omega
  have q4 : (1 : Int) < (n : Int) := by omega
  have q3 : ¬ (8 : Int) < (many : Int) := by omega
  have q5 : (0 : Int) < (many : Int) := by omega
  go_enter Try.func52, Try.ntmps52
  go_wp2
  go_ret3
  exact ⟨rfl, rfl⟩
theorem rn_short (b off n c many : Nat) (w : World) (hn : 0 < n) (hn' : n ≤ 140737488355328) (h0 : w.cell? ⟨b, off, none⟩ = some (.int .u8 (many : Int))) (x : Nat) (h1 : 1 < n → w.cell? ⟨b, off + 1, none⟩ = some (.int .u8 (x : Int))) (hx : x ≠ 0) (h8 : many ≤ 8) (h9 : n < 1 + many) :
    Calls Try.prog 52 #[.slice (some ⟨b, off, none⟩) n c] w fun e w' => e = fnAns 0 0 30 ∧ w = w' := by
  have q1 : ¬ (n : Int) < 1 := by omega
  have q2 : (0 : Int) < (n : Int) := by omega
  have q3 : ¬ (8 : Int) < (many : Int) := by omega
  have q5 : (0 : Int) < (many : Int) := by omega
  have q6 : ((x : Int) == 0) = false := by rw [beq_eq_false_iff_ne]; omega
  have q7 : (n : Int) < 1 + (many : Int) := by omega
  clear hx
  by_cases h : 1 < n
  · have h1' := h1 h
    have q4 : (1 : Int) < (n : Int) := by omega
    clear h1
    go_enter Try.func52, Try.ntmps52
    go_wp2
    go_ret3
    exact ⟨rfl, rfl⟩
  · obtain rfl : n = 1 := by omega
    clear h1
    go_enter Try.func52, Try.ntmps52
    go_wp2
    go_ret3
    exact ⟨rfl, rfl⟩

set_option maxHeartbeats 1000000 in
theorem rn_ok (b off n c many : Nat) (xs : List UInt8) (w : World) (hR : RB w (some ⟨b, off, none⟩) n xs) (hn' : n ≤ 140737488355328) (hmany : manyN xs = many) (h8 : many ≤ 8) (hlen : 1 + many ≤ n) (hz : ¬ (0 < many ∧ 1 < n ∧ xs.getD 1 0 = 0)) :
    Calls Try.prog 52 #[.slice (some ⟨b, off, none⟩) n c] w fun e w' => e = fnAns (valN xs) (1 + many) 0 ∧ w = w' := by
  obtain ⟨b', off', e, _, hcell⟩ := hR.at_ (by omega)
  simp only [Option.some.injEq, Addr.mk.injEq, and_true] at e
  obtain ⟨rfl, rfl⟩ := e
  have hl := hR.1
  have h0 := hcell 0 (by omega)
  rw [Nat.add_zero, show (xs.getD 0 0).toNat = many from hmany] at h0
  obtain ⟨T, hT⟩ : ∃ T, (xs.drop 1).take many = T := ⟨_, rfl⟩
  have hTl : T.length = many := by rw [← hT, List.length_take, List.length_drop]; omega
  have HV : Hid (valN xs = valD T) := Lib.hid (by rw [valN, hmany, hT])
  have HTl := Lib.hid hTl
  have HCell : Hid (∀ k (h : k < T.length), w.cell? ⟨b, off + (k + 1), none⟩ = some (.int .u8 (T[k].toNat : Int))) := Lib.hid (by
    intro k h
    have h2 := hcell (k + 1) (by omega)
    rw [h2]
    have : T[k] = xs.getD (k + 1) 0 := by
      have h3 : T[k]? = (xs.drop 1)[k]? := by rw [← hT, List.getElem?_take, if_pos (by omega)]
      rw [List.getElem?_drop, List.getElem?_eq_getElem h] at h3
      simp [List.getD, Nat.add_comm k 1, ← h3]
    rw [this])
  have q1 : ¬ (n : Int) < 1 := by omega
  have q2 : (0 : Int) < (n : Int) := by omega
  have q3 : ¬ (8 : Int) < (many : Int) := by omega
  have q7 : ¬ (n : Int) < 1 + (many : Int) := by omega
  have q9 : (many : Int) ≤ 8 := by omega
  have HZ : Hid (0 < many → (1 : Int) < (n : Int) ∧ ∃ x1 : Nat, x1 ≠ 0 ∧ w.cell? ⟨b, off + 1, none⟩ = some (.int .u8 (x1 : Int))) := Lib.hid (fun h => ⟨by omega, (xs.getD 1 0).toNat, fun e => hz ⟨h, by omega, UInt8.toNat_inj.1 e⟩, hcell 1 (by omega)⟩)
  clear hR hmany hcell hT hTl hl hz
  by_cases hm : 0 < many
  all_goals
    first
    | (obtain ⟨q4, x1, q5, h1⟩ := HZ.out hm
       have q6 : ((x1 : Int) == 0) = false := by rw [beq_eq_false_iff_ne]; omega
       have q8 : (0 : Int) < (many : Int) := by omega
       clear q5)
    | (have q8 : ¬ (0 : Int) < (many : Int) := by omega)
    clear HZ
    go_enter Try.func52, Try.ntmps52
    go_wp2
    go_loop [6, 7] (fun nv iv => ∃ (k v : Nat), k ≤ many ∧ iv = .int .i64 ((k : Int) + 1) ∧ nv = .int .u64 (v : Int) ∧ Hid (v = valD (T.take k))) (fun _ iv => many + 1 - (intOf iv).toNat)
    case atStart => exact ⟨0, 0, Nat.zero_le _, rfl, rfl, Lib.hid rfl⟩
    case round =>
      obtain ⟨k, v, hk, rfl, rfl, hv⟩ := hrel
      by_cases hlt : k < many
      · have hk' : k < T.length := by rw [HTl.out]; exact hlt
        have hc := HCell.out k hk'
        obtain ⟨x, hx⟩ : ∃ x, T[k] = x := ⟨_, rfl⟩
        rw [hx] at hc
        have hv56 : v < 2 ^ 56 := by
          have h2 := valD_lt (T.take k)
          rw [← hv.out, List.length_take, HTl.out] at h2
          exact Nat.lt_of_lt_of_le h2 (by rw [show 2 ^ 56 = 256 ^ 7 by decide]; exact Nat.pow_le_pow_right (by omega) (by omega))
        have HO : Hid (v * 256 + x.toNat = valD (T.take (k + 1))) := Lib.hid (by rw [valD_take_snoc T hk', ← hv.out, hx])
        have hv1 : (v : Int) ≤ 72057594037927935 := by omega
        have hx255 : (x.toNat : Int) ≤ 255 := by have := x.toNat_lt; omega
        have hin : (k : Int) + 1 < (n : Int) := by omega
        have hlm : (k : Int) + 1 ≤ (many : Int) := by omega
        clear hx hk' hv56
        go_wp2
        go_round
        case rel => exact ⟨k + 1, v * 256 + x.toNat, by omega, by go_num, by go_num, HO⟩
        case measure => simp [intOf]; omega
      · obtain rfl : k = many := by omega
        have HVV : Hid (v = valN xs) := Lib.hid (by rw [hv.out, HV.out, List.take_of_length_le (by rw [HTl.out]; exact Nat.le_refl _)])
        have hlm : ¬ (k : Int) + 1 ≤ (k : Int) := by omega
        go_wp2
        go_ret3
        exact ⟨by rw [← HVV.out]; rfl, rfl⟩
/-- What number answers, of any bytes. -/
def rnOf (xs : List UInt8) : Ending := if errN xs ≠ 0 then fnAns 0 0 (errN xs) else fnAns (valN xs) (1 + manyN xs) 0
theorem number_any (A : Option Addr) (n c : Nat) (xs : List UInt8) (w : World) (hR : RB w A n xs) (hn : n ≤ 140737488355328) :
    Calls Try.prog 52 #[.slice A n c] w fun e w' => e = rnOf xs ∧ w = w' := by
  have hl := hR.1
  have key : ∀ E : Nat, errN xs = E → E ≠ 0 → rnOf xs = fnAns 0 0 E := fun E h1 h2 => by rw [rnOf, h1, if_pos h2]
  by_cases h1 : n = 0
  · subst h1
    have e30 : errN xs = 30 := by rw [errN, if_pos (by omega)]
    rw [key 30 e30 (by omega)]
    exact rn_empty A c w
  obtain ⟨b, off, rfl, hb, hcell⟩ := hR.at_ (by omega)
  have h0 := hcell 0 (by omega)
  rw [Nat.add_zero] at h0
  have hm : (xs.getD 0 0).toNat = manyN xs := rfl
  rw [hm] at h0
  have h255 : manyN xs ≤ 255 := by have := (xs.getD 0 0).toNat_lt; omega
  by_cases h8 : 8 < manyN xs
  · have e40 : errN xs = 40 := by rw [errN, if_neg (by omega), if_pos h8]
    rw [key 40 e40 (by omega)]
    exact rn_wide b off n c (manyN xs) w (by omega) hn h0 h8 h255
  by_cases hz : 0 < manyN xs ∧ 1 < xs.length ∧ xs.getD 1 0 = 0
  · have e40 : errN xs = 40 := by rw [errN, if_neg (by omega), if_neg h8, if_pos hz]
    rw [key 40 e40 (by omega)]
    have h1' := hcell 1 (by omega)
    rw [hz.2.2] at h1'
    exact rn_zero b off n c (manyN xs) w (by omega) hn h0 h1' (by omega) hz.1
  by_cases hs : xs.length < 1 + manyN xs
  · have e30 : errN xs = 30 := by rw [errN, if_neg (by omega), if_neg h8, if_neg hz, if_pos hs]
    rw [key 30 e30 (by omega)]
    by_cases h2 : 1 < n
    · refine rn_short b off n c (manyN xs) w (by omega) hn h0 (xs.getD 1 0).toNat (fun h => hcell 1 h) (fun e => hz ⟨by omega, by omega, UInt8.toNat_inj.1 e⟩) (by omega) (by omega)
    · exact rn_short b off n c (manyN xs) w (by omega) hn h0 1 (fun h => absurd h h2) (by omega) (by omega) (by omega)
  have e0 : errN xs = 0 := by rw [errN, if_neg (by omega), if_neg h8, if_neg hz, if_neg hs]
  rw [rnOf, e0, if_neg (by simp)]
  exact rn_ok b off n c (manyN xs) xs w hR hn rfl (by omega) (by omega) (fun h => hz ⟨h.1, by omega, h.2.2⟩)
end Go.Proofs.Ytgjgndpeopiifaa
