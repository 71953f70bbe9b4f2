/-
  What stands in a command while it is read (layer 20). Nothing of any program stands here.
-/
import Derived.Test.YtbhhalkpghcflaaZj3
namespace Go.Proofs.Ytbhhalkpghcflaa
set_option linter.unusedVariables false
set_option linter.unusedSimpArgs false

/-- What stands there when the fields below k are read, and the reader then. -/
def expL (kind : Nat) (s : St) (k : Nat) : List Fv := (rdRow (fCs kind k) s).1 ++ (List.range' k (15 - k)).map fvZ
def stK (kind : Nat) (s : St) (k : Nat) : St := (rdRow (fCs kind k) s).2
variable {kind k : Nat} {s : St}
theorem stK_zero : stK kind s 0 = s := rfl
theorem stK_succ : stK kind s (k + 1) = ((fC kind k).rd (stK kind s k)).2 := by unfold stK; rw [fCs_succ, rdRow_snoc]
theorem expL_zero : expL kind s 0 = (List.range 15).map fvZ := rfl
theorem expL_15 : expL kind s 15 = ((fieldsC kind).rd s).1 := by
  unfold expL fieldsC rowC
  simp
theorem stK_15 : stK kind s 15 = ((fieldsC kind).rd s).2 := rfl
theorem range_cons (h : k < 15) : List.range' k (15 - k) = k :: List.range' (k + 1) (15 - (k + 1)) := by
  rw [show 15 - k = (15 - (k + 1)) + 1 by omega, List.range'_succ]
theorem expL_no (h : k < 15) (hb : hasB kind k = false) : expL kind s (k + 1) = expL kind s k ∧ stK kind s (k + 1) = stK kind s k := by
  have h1 : (fC kind k).rd (stK kind s k) = (fvZ k, stK kind s k) := by unfold fC optC; rw [hb]; rfl
  refine ⟨?_, by rw [stK_succ, h1]⟩
  unfold expL
  rw [range_cons h, fCs_succ, rdRow_snoc]
  rw [show (rdRow (fCs kind k) s).2 = stK kind s k from rfl, h1]
  simp
theorem expL_has (h : k < 15) (hb : hasB kind k = true) : expL kind s (k + 1) = (expL kind s k).set k ((fvC k).rd (stK kind s k)).1 ∧ stK kind s (k + 1) = ((fvC k).rd (stK kind s k)).2 := by
  have h1 : (fC kind k).rd (stK kind s k) = (fvC k).rd (stK kind s k) := by unfold fC optC; rw [hb]; rfl
  refine ⟨?_, by rw [stK_succ, h1]⟩
  unfold expL
  rw [range_cons h, fCs_succ, rdRow_snoc, show (rdRow (fCs kind k) s).2 = stK kind s k from rfl, h1]
  have hl : (rdRow (fCs kind k) s).1.length = k := by rw [rdRow_len, fCs_len]
  rw [List.map_cons, List.set_append_right _ _ (by omega), hl, Nat.sub_self, List.set_cons_zero, List.append_assoc]
  rfl
theorem stK_ok (h : (stK kind s (k + 1)).e = 0) : (stK kind s k).e = 0 := by
  rw [stK_succ] at h
  exact ((fC kind k).bw _ h).1
/-! ### Texts, and lists of them -/
theorem text_out_le (m : Nat) (s : St) : ((itText m).out s).length ≤ m := by
  unfold It.out
  split
  · exact Nat.zero_le _
  · split
    · exact Nat.zero_le _
    · next h0 =>
      have h1 : errText m s.b = 0 := show (itText m).err s.b = 0 by simpa using h0
      have h2 := (errNum_zero (most := m) (errText_zero h1).1).2
      show (bytesT s.b).length ≤ m
      unfold bytesT
      rw [List.length_take]
      omega
theorem num_out_le (m : Nat) (s : St) : (itNum m).out s ≤ m := by
  unfold It.out
  split
  · exact Nat.zero_le _
  · split
    · exact Nat.zero_le _
    · next h0 => exact (errNum_zero (most := m) (show (itNum m).err s.b = 0 by simpa using h0)).2
theorem outs_le80 : ∀ (k : Nat) (s : St), ∀ x ∈ (itText 80).outs k s, x.length ≤ 80
  | 0, s, x, h => by cases h
  | k + 1, s, x, h => by
    rcases List.mem_cons.1 h with rfl | h
    · exact text_out_le 80 s
    · exact outs_le80 k _ x h
theorem many_text (hm : 80 < 256 ^ 8) : ∀ (k : Nat) (s : St), (textC 80 hm).many k s = ((itText 80).outs k s, (itText 80).after k s)
  | 0, s => rfl
  | k + 1, s => by
    show (((textC 80 hm).rd s).1 :: ((textC 80 hm).many k ((textC 80 hm).rd s).2).1, ((textC 80 hm).many k ((textC 80 hm).rd s).2).2) = _
    rw [many_text hm k]
    rfl
theorem textsF_rd (s : St) : textsF.rd s = (.texts ((itText 80).outs (It.listN 8 s) ((itNum 8).next s)), (itText 80).listNext 8 s) := by
  show (Fv.texts ((textC 80 _).many ((itNum 8).out s) ((itNum 8).next s)).1, ((textC 80 _).many ((itNum 8).out s) ((itNum 8).next s)).2) = _
  rw [many_text]
  rfl
theorem listOut_le (s : St) : ∀ x ∈ (itText 80).listOut 8 s, x.length ≤ 80 := fun x hx => by
  unfold It.listOut at hx
  split at hx
  · cases hx
  · exact outs_le80 _ _ x hx
theorem listN_le (s : St) : It.listN 8 s ≤ 8 := num_out_le 8 s
theorem listOut_len (s : St) : ((itText 80).listOut 8 s).length ≤ 8 := by
  unfold It.listOut
  split
  · exact Nat.zero_le _
  · rw [It.outs_length]
    exact listN_le s
theorem listOut_ok {s : St} (h : ((itText 80).listNext 8 s).e = 0) : Fv.texts ((itText 80).listOut 8 s) = (textsF.rd s).1 := by
  rw [textsF_rd]
  unfold It.listOut
  rw [if_neg (by simp [h])]
end Go.Proofs.Ytbhhalkpghcflaa
