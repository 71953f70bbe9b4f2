/-
  The document's Text, Flag, Texts and Nums, walked (layer 4).
-/
import Derived.Test.YtbhhalkpghcflaaZj35
namespace Go.Proofs.Ytbhhalkpghcflaa
open Go.RowKit
set_option linter.unusedSimpArgs false

theorem str_take_snoc (s : ByteArray) (k : Nat) (h : k < s.size) : s.data.toList.take (k + 1) = s.data.toList.take k ++ [s[k]] := by
  rw [List.take_succ_eq_append_getElem (by simpa using h)]; rfl

set_option maxHeartbeats 1000000 in
theorem rtext_any (s : ByteArray) (w : World) (hm : s.size + 9 ≤ 140737488355328) :
    Calls Try.prog 38 #[.string s] w (Adds w w.heap.size (textB s.data.toList).length (textB s.data.toList)) := by
  obtain ⟨i0, hi, hz0, hz1, hz2⟩ := info_parts u8_info
  have hs256 : s.size < 256 ^ 8 := by omega
  have s1 := rnum_any s.size hs256 w
  have hL9 := numB_le hs256
  have HLs : Hid (s.data.toList.length = s.size) := Lib.hid rfl
  obtain ⟨N, hN⟩ : ∃ N, numB s.size = N := ⟨_, rfl⟩
  rw [hN] at s1 hL9
  have HN := Lib.hid hN
  have S1 := Lib.hid s1
  clear s1 hN hs256
  go_enter Try.func38, Try.ntmps38
  go_wp2_with fail
  refine S1.out.mono ?_
  rintro e w1 ⟨v1, rfl, hown1, hb1⟩
  have HO1 := Lib.hid hown1
  have HB1 := Lib.hid hb1
  clear hown1 hb1
  go_wp2
  go_loopw [3, 4] (fun bv kv wr => ∃ k : Nat, k ≤ s.size ∧ kv = .int .i64 (k : Int) ∧ Hid (wr.ownsRow w.heap.size 5 1 bv (N.length + k) ((N ++ s.data.toList.take k).map byteV)) ∧ Hid (Below w.heap.size w wr)) (fun _ kv _ => s.size - (intOf kv).toNat)
  case atStart => exact ⟨0, Nat.zero_le _, rfl, Lib.hid (by rw [List.take_zero, List.append_nil]; exact HO1.out), HB1⟩
  case round =>
    obtain ⟨k, hk, rfl, hown, hbl⟩ := hrel
    have hsz := hbl.out.size
    by_cases hlt : k < s.size
    · have HT := Lib.hid (str_take_snoc s k hlt)
      go_wp2_with (at_builtin; refine wpList_append_one rfl (.tmp 15) (.tmp 19) 32 rfl w.heap.size i0 Try.underlying32 hi hz0 hz1 hz2 u3 (N.length + k) (N ++ s.data.toList.take k) rfl wr (s[k].toNat : Int) s[k] rfl rfl hown.out rfl ?c1 ?c2 ?_)
      case c1 => omega
      case c2 => omega
      refine Lib.hid ?_
      intro v2 w2 hown2 hb2
      have HO2 : Hid (w2.ownsRow w.heap.size 5 1 v2 (N.length + (k + 1)) ((N ++ s.data.toList.take (k + 1)).map byteV)) := Lib.hid (by
        rw [HT.out, ← Nat.add_assoc, ← List.append_assoc]
        simpa using hown2)
      have HB2 := Lib.hid (hbl.out.trans hb2)
      clear hown2 hb2
      go_wp2
      go_roundw
      case rel => exact ⟨k + 1, by omega, by go_num, HO2, HB2⟩
      case measure => simp [intOf]; omega
    · obtain rfl : k = s.size := by omega
      have HE : Hid (textB s.data.toList = N ++ s.data.toList.take s.size ∧ (textB s.data.toList).length = N.length + s.size) := Lib.hid (by
        rw [List.take_of_length_le (by rw [HLs.out]; exact Nat.le_refl _), textB, HLs.out, HN.out]
        exact ⟨rfl, by rw [List.length_append, HLs.out]⟩)
      obtain ⟨A2, c2, rfl, _⟩ := RB.own hown.out
      go_wp2
      go_ret
      exact ⟨_, rfl, by rw [HE.out.2, HE.out.1]; exact hown.out, hbl.out⟩
theorem rflag_any (is : Bool) (w : World) : Calls Try.prog 40 #[.bool is] w (BGives w (flagB is)) := by
  cases is
  · rw [flagB_false]
    go_enter Try.func40, Try.ntmps40
    go_wp2
    go_ret
    exact ⟨_, 1, rfl, rb_one w 0 0 rfl _, (fun e => by cases e), Nat.le_refl _, by unfold maxLen; omega, (Below.refl _ w).alloc (Nat.le_refl _) _⟩
  · rw [flagB_true]
    go_enter Try.func40, Try.ntmps40
    go_wp2
    go_ret
    refine ⟨_, 2, rfl, ⟨rfl, fun _ => ⟨_, _, rfl, by simp, fun j hj => ?_⟩⟩, (fun e => by cases e), Nat.le_refl _, by unfold maxLen; omega, (Below.refl _ w).alloc (Nat.le_refl _) _⟩
    rw [cell_of_row _ w.heap.size _ _ _ (0, 0) (heap_alloc_new w _)]
    have hj1 : j < 2 := hj
    match j, hj1 with
    | 0, _ | 1, _ => rfl

set_option maxHeartbeats 1000000 in
theorem rlist_str (A : Option Addr) (n c : Nat) (l : List (List UInt8)) (w : World) (hl : RV w A n (l.map strV)) (hm : (textsB l).length + 9 ≤ 140737488355328) (hn : n ≤ 140737488355328) :
    Calls Try.prog 39 #[.slice A n c] w (Adds w w.heap.size (textsB l).length (textsB l)) := by
  obtain ⟨i0, hi, hz0, hz1, hz2⟩ := info_parts u8_info
  have hln : l.length = n := by simpa using hl.1
  have hs256 : l.length < 256 ^ 8 := by omega
  have s1 := rnum_any l.length hs256 w
  rw [hln] at s1
  have S1 := Lib.hid s1
  have HLn := Lib.hid hln
  have HL := Lib.hid hl
  have HM := Lib.hid hm
  clear s1 hln hl hs256 hm
  go_enter Try.func39, Try.ntmps39
  go_wp2_with fail
  refine S1.out.mono ?_
  rintro e w1 ⟨v1, rfl, hown1, hb1⟩
  have HO1 := Lib.hid hown1
  have HB1 := Lib.hid hb1
  clear hown1 hb1
  go_wp2
  go_loopw [3, 4] (fun bv iv wr => ∃ k : Nat, k ≤ n ∧ iv = .int .i64 (k : Int) ∧ Hid (wr.ownsRow w.heap.size 5 1 bv (upto textB l k).length ((upto textB l k).map byteV)) ∧ Hid (Below w.heap.size w wr)) (fun _ iv _ => n - (intOf iv).toNat)
  case atStart => exact ⟨0, Nat.zero_le _, rfl, Lib.hid (by rw [upto_zero, HLn.out]; exact HO1.out), HB1⟩
  case round =>
    obtain ⟨k, hk, rfl, hown, hbl⟩ := hrel
    by_cases hlt : k < n
    · have hk' : k < l.length := by rw [HLn.out]; exact hlt
      obtain ⟨b, off, rfl, hbs, hcell⟩ := (HL.out.below hbl.out).at_ hlt
      rw [List.getElem_map] at hcell
      obtain ⟨x, hx⟩ : ∃ x, l[k] = x := ⟨_, rfl⟩
      rw [hx] at hcell
      have HX := Lib.hid hx
      have HU : Hid (upto textB l (k + 1) = upto textB l k ++ textB x) := Lib.hid (by rw [upto_succ textB l hk', HX.out])
      have hle := upto_le textB l (k + 1)
      rw [HU.out, List.length_append] at hle
      have hsz := hbl.out.size
      obtain ⟨Z, hZ⟩ : ∃ Z, upto textB l k = Z := ⟨_, rfl⟩
      rw [hZ] at hown hle HU
      have hle2 : Z.length + (textB x).length ≤ 140737488355328 := by have := HM.out; unfold textsB at this; omega
      have s2 : Calls Try.prog 38 #[.string ⟨x.toArray⟩] wr (Adds wr wr.heap.size (textB x).length (textB x)) := rtext_any ⟨x.toArray⟩ wr (by have e : (⟨x.toArray⟩ : ByteArray).size = x.length := (by simp [ByteArray.size]); have h1 := textB_length x; have h2 := HM.out; unfold textsB at h2; omega)
      rw [strV] at hcell
      have hy0 : 0 < (textB x).length := by rw [textB_length]; have := numB_pos x.length; omega
      obtain ⟨Y, hY⟩ : ∃ Y, textB x = Y := ⟨_, rfl⟩
      rw [hY] at HU s2 hle2 hy0
      have S2 := Lib.hid s2
      have HZ := Lib.hid hZ
      clear s2 hx hZ hle hY
      obtain ⟨st, hst⟩ : ∃ st : ByteArray, (⟨x.toArray⟩ : ByteArray) = st := ⟨_, rfl⟩
      rw [hst] at hcell S2
      clear hst
      go_wp2_with fail
      refine S2.out.mono ?_
      rintro e w2 ⟨v2, rfl, hown2, hb2⟩
      obtain ⟨A2, c2, rfl, hr2, hn2, hc2, _⟩ := RB.own hown2
      have HO1' := Lib.hid (bown_keep hown.out hb2)
      have HR2 := Lib.hid hr2
      have HB12 := Lib.hid (hb2.mono hbl.out.size)
      have hs2 := hb2.size
      clear hown2 hb2 hr2 hn2
      go_wp2_with (at_builtin; refine wpList_append_addD rfl (.tmp 15) (.tmp 20) 32 rfl w.heap.size i0 Try.underlying32 hi hz0 hz1 hz2 u3 Z.length Z rfl (.inl HO1'.out) A2 Y.length c2 Y rfl HR2.out hy0 ?c1 ?c2 ?c3 ?_)
      case c1 => unfold maxLen; omega
      case c2 => omega
      case c3 => omega
      refine Lib.hid ?_
      intro v3 w3 hown3 hb3
      have HO3 : Hid (w3.ownsRow w.heap.size 5 1 v3 (upto textB l (k + 1)).length ((upto textB l (k + 1)).map byteV)) := Lib.hid (by
        rw [HU.out, List.length_append]; simpa using hown3)
      have HB3 := Lib.hid ((hbl.out.trans HB12.out).trans hb3)
      clear hown3 hb3
      go_wp2
      go_roundw
      case rel => exact ⟨k + 1, by omega, by go_num, HO3, HB3⟩
      case measure => simp [intOf]; omega
    · obtain rfl : k = n := by omega
      have HE : Hid (upto textB l k = textsB l) := Lib.hid (upto_all textB l (by rw [HLn.out]; exact Nat.le_refl _))
      obtain ⟨A2, c2, rfl, _⟩ := RB.own hown.out
      go_wp2
      go_ret
      exact ⟨_, rfl, by rw [← HE.out]; exact hown.out, hbl.out⟩

end Go.Proofs.Ytbhhalkpghcflaa
