/-
  text, list and the calls that lay, walked (layer 4).
-/
import Derived.Test.YtbhhalkpghcflaaZj26
namespace Go.Proofs.Ytbhhalkpghcflaa
open Go.RowKit
set_option linter.unusedSimpArgs false


set_option maxHeartbeats 1000000 in
theorem text_any (v : Value) (base m : Nat) (xs s : List UInt8) (w : World) (h : AddD w base v m xs) (hm : m + s.length + 9 ≤ 140737488355328) (hb : base ≤ w.heap.size) :
    Calls Try.prog 91 #[v, .string ⟨s.toArray⟩] w (Adds w base (m + (textB s).length) (xs ++ textB s)) := by
  obtain ⟨i0, hi, hz0, hz1, hz2⟩ := info_parts u8_info
  have hs256 : s.length < 256 ^ 8 := by omega
  have s1 := num_any v base m xs s.length hs256 w h (by omega) hb
  obtain ⟨L, hL⟩ : ∃ L, (numB s.length).length = L := ⟨_, rfl⟩
  have hL9 : L ≤ 9 := by rw [← hL]; exact numB_le hs256
  rw [hL] at s1
  have HL := Lib.hid hL
  obtain ⟨st, hst⟩ : ∃ st : ByteArray, (⟨s.toArray⟩ : ByteArray) = st := ⟨_, rfl⟩
  have hsz : st.size = s.length := by rw [← hst]; simp [ByteArray.size]
  have S1 := Lib.hid s1
  have HST := Lib.hid hst
  have HSZ := Lib.hid hsz
  have hst64 : (st.size : Int) ≤ 140737488355328 := by omega
  rw [hst]
  clear h s1 hL hst hsz
  go_enter Try.func91, Try.ntmps91
  go_wp2_with fail
  rw [HSZ.out]
  refine S1.out.mono ?_
  rintro e w1 ⟨v1, rfl, hown1, hb1⟩
  have HO1 := Lib.hid hown1
  have HB1 := Lib.hid hb1
  have hs1 := hb1.size
  clear hown1 hb1
  go_wp2_with (at_builtin; refine wpList_append_str rfl (.tmp 9) (.tmp 10) 32 9 rfl base i0 Try.underlying32 Try.underlying9 hi hz0 hz1 hz2 v1 (m + L) (xs ++ numB s.length) rfl HO1.out s (by rw [HST.out]; rfl) ?c1 ?c2 ?c3 ?_)
  case c1 => unfold maxLen; omega
  case c2 => omega
  case c3 => omega
  refine Lib.hid ?_
  intro v2 w2 hown2' hb2
  have hown2 : w2.ownsRow base 5 1 v2 (m + (textB s).length) ((xs ++ textB s).map byteV) := by
    rw [textB_length, HL.out, textB, ← Nat.add_assoc, ← List.append_assoc]
    simpa using hown2'
  clear hown2'
  have HO := Lib.hid hown2
  have HB2 := Lib.hid (HB1.out.trans hb2)
  obtain ⟨A2, c2, rfl, _⟩ := RB.own HO.out
  clear hown2 hb2
  go_wp2
  go_ret
  exact ⟨_, rfl, HO.out, HB2.out⟩
end Go.Proofs.Ytbhhalkpghcflaa
