/-
  list, walked at both its instances (layer 4).
-/
import Derived.Test.YtbhhalkpghcflaaZj27
namespace Go.Proofs.Ytbhhalkpghcflaa
open Go.RowKit
set_option linter.unusedSimpArgs false

theorem RV.belowB {w w' : World} {A : Option Addr} {n B : Nat} {xs : List Value} (h : RV w A n xs) (hb : Below B w w') (hs : ∀ b off, A = some ⟨b, off, none⟩ → 0 < n → b < B) : RV w' A n xs :=
  ⟨h.1, fun hn => by
    obtain ⟨b, off, e, hlt, hc⟩ := h.2 hn
    exact ⟨b, off, e, Nat.lt_of_lt_of_le hlt hb.size, fun j hj => (hb.cell (p := ⟨b, off + j, none⟩) (hs b off e hn)).trans (hc j hj)⟩⟩
/-- What has been laid behind k elements. -/
def upto {α : Type} (lay : α → List UInt8) (l : List α) (k : Nat) : List UInt8 := numB l.length ++ (l.take k).flatMap lay
theorem upto_zero {α : Type} (lay : α → List UInt8) (l : List α) : upto lay l 0 = numB l.length := by simp [upto]
theorem upto_succ {α : Type} (lay : α → List UInt8) (l : List α) {k : Nat} (h : k < l.length) : upto lay l (k + 1) = upto lay l k ++ lay l[k] := by
  rw [upto, upto, List.take_succ_eq_append_getElem h, List.flatMap_append, ← List.append_assoc]
  simp
theorem upto_all {α : Type} (lay : α → List UInt8) (l : List α) {k : Nat} (h : l.length ≤ k) : upto lay l k = numB l.length ++ l.flatMap lay := by rw [upto, List.take_of_length_le h]
theorem upto_le {α : Type} (lay : α → List UInt8) (l : List α) (k : Nat) : (upto lay l k).length ≤ (numB l.length ++ l.flatMap lay).length := by
  have : l.flatMap lay = (l.take k).flatMap lay ++ (l.drop k).flatMap lay := by rw [← List.flatMap_append, List.take_append_drop]
  rw [upto, this]
  simp

set_option maxHeartbeats 1000000 in
theorem list_str (v : Value) (base m : Nat) (xs : List UInt8) (A : Option Addr) (n c : Nat) (l : List (List UInt8)) (w : World) (h : AddD w base v m xs) (hl : RV w A n (l.map strV)) (hA : ∀ b off, A = some ⟨b, off, none⟩ → 0 < n → b < base)
    (hm : m + (textsB l).length + 9 ≤ 140737488355328) (hn : n ≤ 140737488355328) (hb : base ≤ w.heap.size) :
    Calls Try.prog 97 #[v, .slice A n c, .func (.func 91) #[] #[]] w (Adds w base (m + (textsB l).length) (xs ++ textsB l)) := by
  have hln : l.length = n := by simpa using hl.1
  have hs256 : l.length < 256 ^ 8 := by omega
  have s1 := num_any v base m xs l.length hs256 w h (by omega) hb
  rw [hln] at s1
  have S1 := Lib.hid s1
  have HLn := Lib.hid hln
  have HL := Lib.hid hl
  have HA := Lib.hid hA
  have HM := Lib.hid hm
  clear h s1 hln hl hA hs256 hm
  go_enter Try.func97, Try.ntmps97
  go_wp2_with fail
  refine S1.out.mono ?_
  rintro e w1 ⟨v1, rfl, hown1, hb1⟩
  have HO1 := Lib.hid hown1
  have HB1 := Lib.hid hb1
  clear hown1 hb1
  go_wp2
  go_loopw [0, 16] (fun bv iv wr => ∃ k : Nat, k ≤ n ∧ iv = .int .i64 (k : Int) ∧ Hid (wr.ownsRow base 5 1 bv (m + (upto textB l k).length) ((xs ++ upto textB l k).map byteV)) ∧ Hid (Below base w wr)) (fun _ iv _ => n - (intOf iv).toNat)
  case atStart => exact ⟨0, Nat.zero_le _, rfl, Lib.hid (by rw [upto_zero, HLn.out]; exact HO1.out), HB1⟩
  case round =>
    obtain ⟨k, hk, rfl, hown, hbl⟩ := hrel
    by_cases hlt : k < n
    · have hk' : k < l.length := by rw [HLn.out]; exact hlt
      obtain ⟨b, off, rfl, hbs, hcell⟩ := (HL.out.belowB hbl.out HA.out).at_ hlt
      rw [List.getElem_map] at hcell
      obtain ⟨x, hx⟩ : ∃ x, l[k] = x := ⟨_, rfl⟩
      rw [hx] at hcell
      have HX := Lib.hid hx
      have HU : Hid (upto textB l (k + 1) = upto textB l k ++ textB x) := Lib.hid (by rw [upto_succ textB l hk', HX.out])
      have hle := upto_le textB l (k + 1)
      rw [HU.out, List.length_append] at hle
      have hsz := hbl.out.size
      obtain ⟨Z, hZ⟩ : ∃ Z, upto textB l k = Z := ⟨_, rfl⟩
      rw [hZ] at hown hle HU
      have s2 := text_any u0 base (m + Z.length) (xs ++ Z) x wr (.inl hown.out) (by have := HM.out; rw [textB_length] at hle; unfold textsB at this; omega) (by omega)
      rw [strV] at hcell
      have S2 := Lib.hid s2
      have HZ := Lib.hid hZ
      clear s2 hx hZ hle
      obtain ⟨st, hst⟩ : ∃ st : ByteArray, (⟨x.toArray⟩ : ByteArray) = st := ⟨_, rfl⟩
      rw [hst] at hcell S2
      clear hst
      go_wp2_with fail
      refine S2.out.mono ?_
      rintro e w2 ⟨v2, rfl, hown2, hb2⟩
      have HO2 : Hid (w2.ownsRow base 5 1 v2 (m + (upto textB l (k + 1)).length) ((xs ++ upto textB l (k + 1)).map byteV)) := Lib.hid (by
        rw [HU.out, List.length_append, ← Nat.add_assoc, ← List.append_assoc]; exact hown2)
      have HB2 := Lib.hid (hbl.out.trans hb2)
      clear hown2 hb2
      go_wp2
      go_roundw
      case rel => exact ⟨k + 1, by omega, by go_num, HO2, HB2⟩
      case measure => simp [intOf]; omega
    · obtain rfl : k = n := by omega
      have HE : Hid (upto textB l k = textsB l) := Lib.hid (upto_all textB l (by rw [HLn.out]; exact Nat.le_refl _))
      obtain ⟨A2, c2, rfl, _⟩ := RB.own hown.out
      go_wp2
      go_ret
      exact ⟨_, rfl, by rw [← HE.out]; exact hown.out, hbl.out⟩

end Go.Proofs.Ytbhhalkpghcflaa
