/-
  What stands in a command while it is read (layer 20). Nothing of any program stands here.
-/
import Derived.Test.YtbhhalkpghcflaaZj2
import Derived.Test.YtbhhalkpghcflaaZj24
import Derived.WalkSmall
namespace Go.Proofs.Ytbhhalkpghcflaa
set_option linter.unusedVariables false
set_option linter.unusedSimpArgs false

/-- What stands there when the fields below k are read, and the reader then. -/
def expL (kind : Nat) (s : St) (k : Nat) : List Fv := (rdRow (fCs kind k) s).1 ++ (List.range' k (15 - k)).map fvZ
def stK (kind : Nat) (s : St) (k : Nat) : St := (rdRow (fCs kind k) s).2
variable {kind k : Nat} {s : St}
theorem stK_zero : stK kind s 0 = s := rfl
theorem stK_succ : stK kind s (k + 1) = ((fC kind k).rd (stK kind s k)).2 := by unfold stK; rw [fCs_succ, rdRow_snoc]
theorem expL_zero : expL kind s 0 = (List.range 15).map fvZ := rfl
theorem expL_15 : expL kind s 15 = ((fieldsC kind).rd s).1 := by
  unfold expL fieldsC rowC
  simp
theorem stK_15 : stK kind s 15 = ((fieldsC kind).rd s).2 := rfl
theorem range_cons (h : k < 15) : List.range' k (15 - k) = k :: List.range' (k + 1) (15 - (k + 1)) := by
  rw [show 15 - k = (15 - (k + 1)) + 1 by omega, List.range'_succ]
theorem expL_no (h : k < 15) (hb : hasB kind k = false) : expL kind s (k + 1) = expL kind s k ∧ stK kind s (k + 1) = stK kind s k := by
  have h1 : (fC kind k).rd (stK kind s k) = (fvZ k, stK kind s k) := by unfold fC optC; rw [hb]; rfl
  refine ⟨?_, by rw [stK_succ, h1]⟩
  unfold expL
  rw [range_cons h, fCs_succ, rdRow_snoc]
  rw [show (rdRow (fCs kind k) s).2 = stK kind s k from rfl, h1]
  simp
theorem expL_has (h : k < 15) (hb : hasB kind k = true) : expL kind s (k + 1) = (expL kind s k).set k ((fvC k).rd (stK kind s k)).1 ∧ stK kind s (k + 1) = ((fvC k).rd (stK kind s k)).2 := by
  have h1 : (fC kind k).rd (stK kind s k) = (fvC k).rd (stK kind s k) := by unfold fC optC; rw [hb]; rfl
  refine ⟨?_, by rw [stK_succ, h1]⟩
  unfold expL
  rw [range_cons h, fCs_succ, rdRow_snoc, show (rdRow (fCs kind k) s).2 = stK kind s k from rfl, h1]
  have hl : (rdRow (fCs kind k) s).1.length = k := by rw [rdRow_len, fCs_len]
  rw [List.map_cons, List.set_append_right _ _ (by omega), hl, Nat.sub_self, List.set_cons_zero, List.append_assoc]
  rfl
theorem stK_ok (h : (stK kind s (k + 1)).e = 0) : (stK kind s k).e = 0 := by
  rw [stK_succ] at h
  exact ((fC kind k).bw _ h).1
/-! ### Texts, and lists of them -/
theorem text_out_le (m : Nat) (s : St) : ((itText m).out s).length ≤ m := by
  unfold It.out
  split
  · exact Nat.zero_le _
  · split
    · exact Nat.zero_le _
    · next h0 =>
      have h1 : errText m s.b = 0 := show (itText m).err s.b = 0 by simpa using h0
      have h2 := (errNum_zero (most := m) (errText_zero h1).1).2
      show (bytesT s.b).length ≤ m
      unfold bytesT
      rw [List.length_take]
      omega
theorem num_out_le (m : Nat) (s : St) : (itNum m).out s ≤ m := by
  unfold It.out
  split
  · exact Nat.zero_le _
  · split
    · exact Nat.zero_le _
    · next h0 => exact (errNum_zero (most := m) (show (itNum m).err s.b = 0 by simpa using h0)).2
theorem outs_le80 : ∀ (k : Nat) (s : St), ∀ x ∈ (itText 80).outs k s, x.length ≤ 80
  | 0, s, x, h => by cases h
  | k + 1, s, x, h => by
    rcases List.mem_cons.1 h with rfl | h
    · exact text_out_le 80 s
    · exact outs_le80 k _ x h
theorem many_text (hm : 80 < 256 ^ 8) : ∀ (k : Nat) (s : St), (textC 80 hm).many k s = ((itText 80).outs k s, (itText 80).after k s)
  | 0, s => rfl
  | k + 1, s => by
    show (((textC 80 hm).rd s).1 :: ((textC 80 hm).many k ((textC 80 hm).rd s).2).1, ((textC 80 hm).many k ((textC 80 hm).rd s).2).2) = _
    rw [many_text hm k]
    rfl
theorem textsF_rd (s : St) : textsF.rd s = (.texts ((itText 80).outs (It.listN 8 s) ((itNum 8).next s)), (itText 80).listNext 8 s) := by
  show (Fv.texts ((textC 80 _).many ((itNum 8).out s) ((itNum 8).next s)).1, ((textC 80 _).many ((itNum 8).out s) ((itNum 8).next s)).2) = _
  rw [many_text]
  rfl
theorem listOut_le (s : St) : ∀ x ∈ (itText 80).listOut 8 s, x.length ≤ 80 := fun x hx => by
  unfold It.listOut at hx
  split at hx
  · cases hx
  · exact outs_le80 _ _ x hx
theorem listN_le (s : St) : It.listN 8 s ≤ 8 := num_out_le 8 s
theorem listOut_len (s : St) : ((itText 80).listOut 8 s).length ≤ 8 := by
  unfold It.listOut
  split
  · exact Nat.zero_le _
  · rw [It.outs_length]
    exact listN_le s
theorem listOut_ok {s : St} (h : ((itText 80).listNext 8 s).e = 0) : Fv.texts ((itText 80).listOut 8 s) = (textsF.rd s).1 := by
  rw [textsF_rd]
  unfold It.listOut
  rw [if_neg (by simp [h])]
end Go.Proofs.Ytbhhalkpghcflaa
/-
  A command that is being read, in memory; a field's reading, by its place (layer 20).
-/
namespace Go.Proofs.Ytbhhalkpghcflaa
open Go.RowKit
set_option linter.unusedSimpArgs false
set_option linter.unusedVariables false

/-- A field's cell; its row, if it has one, lies at n0 or behind it. -/
def CellV (n0 : Nat) (w : World) : Fv → Value → Prop
  | .num z, c => c = .int .i64 z ∧ 0 ≤ z ∧ z ≤ 65535
  | .text s, c => c = strV s ∧ s.length ≤ maxLen
  | .texts l, c => ∃ A n cp, c = .slice A n cp ∧ RV w A n (l.map strV) ∧ (∀ b off, A = some ⟨b, off, none⟩ → 0 < n → n0 ≤ b) ∧ n ≤ maxLen ∧ ∀ s ∈ l, s.length ≤ maxLen
  | .flag z, c => c = .bool z
  | .idx n, c => c = u64V n ∧ n < 18446744073709551616
theorem CellV.but {n0 : Nat} {w w' : World} {v : Fv} {c : Value} {S : Nat → Prop} (h : CellV n0 w v c) (hb : But S w w') (hS : ∀ k, S k → k < n0) : CellV n0 w' v c := by
  cases v with
  | num z => exact h
  | text s => exact h
  | texts l =>
    obtain ⟨A, n, cp, h1, h2, h3, h4⟩ := h
    exact ⟨A, n, cp, h1, h2.but hb (fun b off e hn hs => by have := h3 b off e hn; have := hS b hs; omega), h3, h4⟩
  | flag z => exact h
  | idx n => exact h
theorem CellV.one {n0 : Nat} {w : World} {v : Fv} {c : Value} (h : CellV n0 w v c) : c.oneCell' = true := by
  cases v with
  | num z => rw [h.1]; rfl
  | text s => rw [h.1]; rfl
  | texts l => obtain ⟨A, n, cp, h1, _⟩ := h; rw [h1]; rfl
  | flag z => rw [show c = .bool z from h]; rfl
  | idx n => rw [h.1]; rfl
/-- The box of a command that is being read. -/
structure BoxL (n0 : Nat) (B : Nat) (kind : Int) (cur : Array Value) (l : List Fv) (w : World) : Prop where
  box : w.heap[B]? = some (.cells cur TCm (0, 0))
  size : cur.size = 17
  k0 : cur[0]? = some (.int .i64 kind)
  len : l.length = 15
  each : ∀ j v, l[j]? = some v → v.at_ j ∧ ∃ c, cur[1 + j]? = some c ∧ CellV n0 w v c
theorem BoxL.but {n0 B : Nat} {kind : Int} {cur : Array Value} {l : List Fv} {w w' : World} {S : Nat → Prop} (h : BoxL n0 B kind cur l w) (hb : But S w w') (hS : ∀ k, S k → k < n0) (hB : ¬ S B) : BoxL n0 B kind cur l w' :=
  ⟨(hb.block B (block_lt h.box) hB).trans h.box, h.size, h.k0, h.len, fun j v hv => by
    obtain ⟨h1, c, h2, h3⟩ := h.each j v hv
    exact ⟨h1, c, h2, h3.but hb hS⟩⟩
/-- A field's reading leaves its value in its place. -/
theorem BoxL.put {n0 B k : Nat} {kind : Int} {cur : Array Value} {l : List Fv} {w w' : World} {S : Nat → Prop} {v : Fv} {c : Value} (h : BoxL n0 B kind cur l w) (hb : But S w w') (hS : ∀ k, S k → k < n0) (hk : k < 15) (hv : v.at_ k) (hc : CellV n0 w' v c) (hx : w'.heap[B]? = some (.cells (cur.setIfInBounds (1 + k) c) TCm (0, 0))) : BoxL n0 B kind (cur.setIfInBounds (1 + k) c) (l.set k v) w' := by
  refine ⟨hx, by simp [h.size], ?_, by simp [h.len], fun j u hu => ?_⟩
  · rw [Array.getElem?_setIfInBounds_ne (by omega)]
    exact h.k0
  · by_cases e : j = k
    · subst e
      rw [List.getElem?_set_self (by rw [h.len]; exact hk)] at hu
      obtain rfl : v = u := Option.some.inj hu
      exact ⟨hv, c, by rw [Array.getElem?_setIfInBounds_self_of_lt (by rw [h.size]; omega)], hc⟩
    · rw [List.getElem?_set_ne (fun h => e h.symm)] at hu
      obtain ⟨h1, c2, h2, h3⟩ := h.each j u hu
      exact ⟨h1, c2, by rw [Array.getElem?_setIfInBounds_ne (by omega)]; exact h2, h3.but hb hS⟩
/-- What a field's reading does. -/
def FRd (n0 : Nat) (S : Nat → Prop) (R B k : Nat) (w : World) (s : St) (cur : Array Value) (e : Ending) (w' : World) : Prop :=
  e = .returned (.tuple #[]) ∧ RdAt S w' R ((fvC k).rd s).2 ∧ But (fun k => k = R ∨ k = B) w w' ∧ ∃ v c, v.at_ k ∧ CellV n0 w' v c ∧ w'.heap[B]? = some (.cells (cur.setIfInBounds (1 + k) c) TCm (0, 0)) ∧ ((((fvC k).rd s).2.e = 0) → v = ((fvC k).rd s).1)
section
variable {n0 : Nat} {S : Nat → Prop} {R B b k : Nat} {s : St} {cur : Array Value} {w : World}
theorem num_frd (h : Rz S R B (1 + k) b w s cur w) (hS : S B) (hB : B ≠ R) (hbR : b ≠ R) (hbB : b ≠ B) (hz : cur.size = 17) (hk : k < 3) : Calls Try.prog 60 #[.pointer (some ⟨R, 0, none⟩), .pointer (some ⟨b, 0, none⟩)] w (FRd n0 S R B k w s cur) :=
  (num_fread S R B (1 + k) b s cur w h hS hB hbR hbB (by omega)).mono fun e w' ⟨h1, h2, h3, h4⟩ => by
    have e1 : (fvC k).rd s = (.num ((itNum 65535).out s : Int), (itNum 65535).next s) := by unfold fvC; rw [if_pos hk]; rfl
    unfold FRd
    rw [e1]
    exact ⟨h1, h2, h4, .num ((itNum 65535).out s : Int), _, hk, ⟨rfl, by omega, by have := num_out_le 65535 s; omega⟩, h3, fun _ => rfl⟩
theorem text_frd (h : Rz S R B (1 + k) b w s cur w) (hS : S B) (hB : B ≠ R) (hbR : b ≠ R) (hbB : b ≠ B) (hz : cur.size = 17) (hk : 3 ≤ k ∧ k < 11) : Calls Try.prog 66 #[.pointer (some ⟨R, 0, none⟩), .pointer (some ⟨b, 0, none⟩)] w (FRd n0 S R B k w s cur) :=
  (text_fread S R B (1 + k) b s cur w h hS hB hbR hbB (by omega)).mono fun e w' ⟨h1, h2, h3, h4⟩ => by
    have e1 : (fvC k).rd s = (.text ((itText 80).out s), (itText 80).next s) := by unfold fvC; rw [if_neg (by omega), if_pos hk.2]; rfl
    unfold FRd
    rw [e1]
    exact ⟨h1, h2, h4, .text ((itText 80).out s), _, hk, ⟨rfl, by have := text_out_le 80 s; unfold maxLen; omega⟩, h3, fun _ => rfl⟩
theorem texts_frd (h : Rz S R B 12 b w s cur w) (hS : S B) (hB : B ≠ R) (hbR : b ≠ R) (hbB : b ≠ B) (hz : cur.size = 17) (hn : n0 ≤ w.heap.size) : Calls Try.prog 73 #[.pointer (some ⟨R, 0, none⟩), .pointer (some ⟨b, 0, none⟩)] w (FRd n0 S R B 11 w s cur) :=
  (texts_fread S R B 12 b s cur w h hS hB hbR hbB (by omega)).mono fun e w' ⟨h1, h2, ⟨v, ⟨A, c, hv, hr, hf⟩, h3⟩, h4⟩ => by
    have e1 : (fvC 11).rd s = textsF.rd s := rfl
    have e2 : ((fvC 11).rd s).2 = (itText 80).listNext 8 s := by rw [e1, textsF_rd]
    unfold FRd
    rw [e2]
    subst hv
    refine ⟨h1, h2, h4, .texts ((itText 80).listOut 8 s), _, rfl, ⟨A, _, c, rfl, hr, fun b off e hn2 => Nat.le_trans hn (hf b off e hn2), by have := listOut_len s; rw [List.length_map]; unfold maxLen; omega, fun t ht => by have := listOut_le s t ht; unfold maxLen; omega⟩, h3, fun e0 => by rw [e1]; exact listOut_ok e0⟩
theorem flag_frd (h : Rz S R B 13 b w s cur w) (hS : S B) (hB : B ≠ R) (hbR : b ≠ R) (hbB : b ≠ B) (hz : cur.size = 17) : Calls Try.prog 79 #[.pointer (some ⟨R, 0, none⟩), .pointer (some ⟨b, 0, none⟩)] w (FRd n0 S R B 12 w s cur) :=
  (flag_fread S R B 13 b s cur w h hS hB hbR hbB (by omega)).mono fun e w' ⟨h1, h2, h3, h4⟩ => by
    have e1 : (fvC 12).rd s = (.flag (itFlag.out s), itFlag.next s) := rfl
    unfold FRd
    rw [e1]
    exact ⟨h1, h2, h4, .flag (itFlag.out s), _, rfl, rfl, h3, fun _ => rfl⟩
theorem idx_frd (h : Rz S R B (1 + k) b w s cur w) (hS : S B) (hB : B ≠ R) (hbR : b ≠ R) (hbB : b ≠ B) (hz : cur.size = 17) (hk : 13 ≤ k ∧ k < 15) : Calls Try.prog 84 #[.pointer (some ⟨R, 0, none⟩), .pointer (some ⟨b, 0, none⟩)] w (FRd n0 S R B k w s cur) :=
  (idx_fread S R B (1 + k) b s cur w h hS hB hbR hbB (by omega)).mono fun e w' ⟨h1, h2, h3, h4⟩ => by
    have e1 : (fvC k).rd s = (.idx ((itNum c64).out s), (itNum c64).next s) := by unfold fvC; rw [if_neg (by omega), if_neg (by omega), if_neg (by omega), if_neg (by omega)]; rfl
    have hle := num_out_le c64 s
    unfold FRd
    rw [e1]
    exact ⟨h1, h2, h4, .idx ((itNum c64).out s), _, ⟨hk.1, hle⟩, ⟨rfl, Nat.lt_of_le_of_lt hle (by decide)⟩, h3, fun _ => rfl⟩
theorem read_at (h : Rz S R B (1 + k) b w s cur w) (hS : S B) (hB : B ≠ R) (hbR : b ≠ R) (hbB : b ≠ B) (hz : cur.size = 17) (hn : n0 ≤ w.heap.size) (hk : k < 15) : Calls Try.prog (fnD k) #[.pointer (some ⟨R, 0, none⟩), .pointer (some ⟨b, 0, none⟩)] w (FRd n0 S R B k w s cur) := by
  match k, hk with
  | 0, _ => exact num_frd (k := 0) h hS hB hbR hbB hz (by decide)
  | 1, _ => exact num_frd (k := 1) h hS hB hbR hbB hz (by decide)
  | 2, _ => exact num_frd (k := 2) h hS hB hbR hbB hz (by decide)
  | 3, _ => exact text_frd (k := 3) h hS hB hbR hbB hz (by decide)
  | 4, _ => exact text_frd (k := 4) h hS hB hbR hbB hz (by decide)
  | 5, _ => exact text_frd (k := 5) h hS hB hbR hbB hz (by decide)
  | 6, _ => exact text_frd (k := 6) h hS hB hbR hbB hz (by decide)
  | 7, _ => exact text_frd (k := 7) h hS hB hbR hbB hz (by decide)
  | 8, _ => exact text_frd (k := 8) h hS hB hbR hbB hz (by decide)
  | 9, _ => exact text_frd (k := 9) h hS hB hbR hbB hz (by decide)
  | 10, _ => exact text_frd (k := 10) h hS hB hbR hbB hz (by decide)
  | 11, _ => exact texts_frd h hS hB hbR hbB hz hn
  | 12, _ => exact flag_frd h hS hB hbR hbB hz
  | 13, _ => exact idx_frd (k := 13) h hS hB hbR hbB hz (by decide)
  | 14, _ => exact idx_frd (k := 14) h hS hB hbR hbB hz (by decide)
  | k + 15, h => exact absurd h (by omega)
end
/-! ### What was read, as a command -/
/-- A command's own words, whose tags lie at n0 or behind it. -/
def FrT (n0 : Nat) (w : World) (y : Sub) : Prop := Cm0 w y.1 y.2 ∧ ∀ b off, y.1.tA = some ⟨b, off, none⟩ → 0 < y.1.tn → n0 ≤ b
theorem FrT.but {n0 : Nat} {w w' : World} {y : Sub} {S : Nat → Prop} (h : FrT n0 w y) (hb : But S w w') (hS : ∀ k, S k → k < n0) : FrT n0 w' y :=
  ⟨⟨h.1.small, h.1.row.but hb (fun b off e hn hs => by have := h.2 b off e hn; have := hS b hs; omega), h.1.lens⟩, h.2⟩
theorem BoxL.cmd {n0 B : Nat} {kind : Int} {cur : Array Value} {l : List Fv} {w : World} (h : BoxL n0 B kind cur l w) (hk : -9223372036854775808 ≤ kind ∧ kind ≤ 9223372036854775807) {sA : Option Addr} {sn sc : Nat} (h16 : cur[16]? = some (.slice sA sn sc)) (hs : sn ≤ maxLen) :
    ∃ y : Sub, cur.toList = cmC y.1 ∧ y.1.vals y.2 = l ∧ FrT n0 w y ∧ y.1.kind = kind ∧ y.1.sA = sA ∧ y.1.sn = sn ∧ y.1.sc = sc := by
  match l, h.len with
  | [v0, v1, v2, v3, v4, v5, v6, v7, v8, v9, v10, v11, v12, v13, v14], _ =>
    obtain ⟨a0, c0, g0, q0⟩ := h.each 0 v0 rfl
    obtain ⟨a1, c1, g1, q1⟩ := h.each 1 v1 rfl
    obtain ⟨a2, c2, g2, q2⟩ := h.each 2 v2 rfl
    obtain ⟨a3, c3, g3, q3⟩ := h.each 3 v3 rfl
    obtain ⟨a4, c4, g4, q4⟩ := h.each 4 v4 rfl
    obtain ⟨a5, c5, g5, q5⟩ := h.each 5 v5 rfl
    obtain ⟨a6, c6, g6, q6⟩ := h.each 6 v6 rfl
    obtain ⟨a7, c7, g7, q7⟩ := h.each 7 v7 rfl
    obtain ⟨a8, c8, g8, q8⟩ := h.each 8 v8 rfl
    obtain ⟨a9, c9, g9, q9⟩ := h.each 9 v9 rfl
    obtain ⟨a10, c10, g10, q10⟩ := h.each 10 v10 rfl
    obtain ⟨a11, c11, g11, q11⟩ := h.each 11 v11 rfl
    obtain ⟨a12, c12, g12, q12⟩ := h.each 12 v12 rfl
    obtain ⟨a13, c13, g13, q13⟩ := h.each 13 v13 rfl
    obtain ⟨a14, c14, g14, q14⟩ := h.each 14 v14 rfl
    obtain ⟨z0, rfl⟩ : ∃ z, v0 = .num z := by
      cases v0 with
      | num z => exact ⟨z, rfl⟩
      | text z => exact absurd a0 (by simp [Fv.at_])
      | texts z => exact absurd a0 (by simp [Fv.at_])
      | flag z => exact absurd a0 (by simp [Fv.at_])
      | idx z => exact absurd a0 (by simp [Fv.at_])
    obtain ⟨z1, rfl⟩ : ∃ z, v1 = .num z := by
      cases v1 with
      | num z => exact ⟨z, rfl⟩
      | text z => exact absurd a1 (by simp [Fv.at_])
      | texts z => exact absurd a1 (by simp [Fv.at_])
      | flag z => exact absurd a1 (by simp [Fv.at_])
      | idx z => exact absurd a1 (by simp [Fv.at_])
    obtain ⟨z2, rfl⟩ : ∃ z, v2 = .num z := by
      cases v2 with
      | num z => exact ⟨z, rfl⟩
      | text z => exact absurd a2 (by simp [Fv.at_])
      | texts z => exact absurd a2 (by simp [Fv.at_])
      | flag z => exact absurd a2 (by simp [Fv.at_])
      | idx z => exact absurd a2 (by simp [Fv.at_])
    obtain ⟨z3, rfl⟩ : ∃ z, v3 = .text z := by
      cases v3 with
      | num z => exact absurd a3 (by simp [Fv.at_])
      | text z => exact ⟨z, rfl⟩
      | texts z => exact absurd a3 (by simp [Fv.at_])
      | flag z => exact absurd a3 (by simp [Fv.at_])
      | idx z => exact absurd a3 (by simp [Fv.at_])
    obtain ⟨z4, rfl⟩ : ∃ z, v4 = .text z := by
      cases v4 with
      | num z => exact absurd a4 (by simp [Fv.at_])
      | text z => exact ⟨z, rfl⟩
      | texts z => exact absurd a4 (by simp [Fv.at_])
      | flag z => exact absurd a4 (by simp [Fv.at_])
      | idx z => exact absurd a4 (by simp [Fv.at_])
    obtain ⟨z5, rfl⟩ : ∃ z, v5 = .text z := by
      cases v5 with
      | num z => exact absurd a5 (by simp [Fv.at_])
      | text z => exact ⟨z, rfl⟩
      | texts z => exact absurd a5 (by simp [Fv.at_])
      | flag z => exact absurd a5 (by simp [Fv.at_])
      | idx z => exact absurd a5 (by simp [Fv.at_])
    obtain ⟨z6, rfl⟩ : ∃ z, v6 = .text z := by
      cases v6 with
      | num z => exact absurd a6 (by simp [Fv.at_])
      | text z => exact ⟨z, rfl⟩
      | texts z => exact absurd a6 (by simp [Fv.at_])
      | flag z => exact absurd a6 (by simp [Fv.at_])
      | idx z => exact absurd a6 (by simp [Fv.at_])
    obtain ⟨z7, rfl⟩ : ∃ z, v7 = .text z := by
      cases v7 with
      | num z => exact absurd a7 (by simp [Fv.at_])
      | text z => exact ⟨z, rfl⟩
      | texts z => exact absurd a7 (by simp [Fv.at_])
      | flag z => exact absurd a7 (by simp [Fv.at_])
      | idx z => exact absurd a7 (by simp [Fv.at_])
    obtain ⟨z8, rfl⟩ : ∃ z, v8 = .text z := by
      cases v8 with
      | num z => exact absurd a8 (by simp [Fv.at_])
      | text z => exact ⟨z, rfl⟩
      | texts z => exact absurd a8 (by simp [Fv.at_])
      | flag z => exact absurd a8 (by simp [Fv.at_])
      | idx z => exact absurd a8 (by simp [Fv.at_])
    obtain ⟨z9, rfl⟩ : ∃ z, v9 = .text z := by
      cases v9 with
      | num z => exact absurd a9 (by simp [Fv.at_])
      | text z => exact ⟨z, rfl⟩
      | texts z => exact absurd a9 (by simp [Fv.at_])
      | flag z => exact absurd a9 (by simp [Fv.at_])
      | idx z => exact absurd a9 (by simp [Fv.at_])
    obtain ⟨z10, rfl⟩ : ∃ z, v10 = .text z := by
      cases v10 with
      | num z => exact absurd a10 (by simp [Fv.at_])
      | text z => exact ⟨z, rfl⟩
      | texts z => exact absurd a10 (by simp [Fv.at_])
      | flag z => exact absurd a10 (by simp [Fv.at_])
      | idx z => exact absurd a10 (by simp [Fv.at_])
    obtain ⟨z11, rfl⟩ : ∃ z, v11 = .texts z := by
      cases v11 with
      | num z => exact absurd a11 (by simp [Fv.at_])
      | text z => exact absurd a11 (by simp [Fv.at_])
      | texts z => exact ⟨z, rfl⟩
      | flag z => exact absurd a11 (by simp [Fv.at_])
      | idx z => exact absurd a11 (by simp [Fv.at_])
    obtain ⟨z12, rfl⟩ : ∃ z, v12 = .flag z := by
      cases v12 with
      | num z => exact absurd a12 (by simp [Fv.at_])
      | text z => exact absurd a12 (by simp [Fv.at_])
      | texts z => exact absurd a12 (by simp [Fv.at_])
      | flag z => exact ⟨z, rfl⟩
      | idx z => exact absurd a12 (by simp [Fv.at_])
    obtain ⟨z13, rfl⟩ : ∃ z, v13 = .idx z := by
      cases v13 with
      | num z => exact absurd a13 (by simp [Fv.at_])
      | text z => exact absurd a13 (by simp [Fv.at_])
      | texts z => exact absurd a13 (by simp [Fv.at_])
      | flag z => exact absurd a13 (by simp [Fv.at_])
      | idx z => exact ⟨z, rfl⟩
    obtain ⟨z14, rfl⟩ : ∃ z, v14 = .idx z := by
      cases v14 with
      | num z => exact absurd a14 (by simp [Fv.at_])
      | text z => exact absurd a14 (by simp [Fv.at_])
      | texts z => exact absurd a14 (by simp [Fv.at_])
      | flag z => exact absurd a14 (by simp [Fv.at_])
      | idx z => exact ⟨z, rfl⟩
    obtain ⟨rfl, r0⟩ := q0
    obtain ⟨rfl, r1⟩ := q1
    obtain ⟨rfl, r2⟩ := q2
    obtain ⟨rfl, r3⟩ := q3
    obtain ⟨rfl, r4⟩ := q4
    obtain ⟨rfl, r5⟩ := q5
    obtain ⟨rfl, r6⟩ := q6
    obtain ⟨rfl, r7⟩ := q7
    obtain ⟨rfl, r8⟩ := q8
    obtain ⟨rfl, r9⟩ := q9
    obtain ⟨rfl, r10⟩ := q10
    obtain ⟨tA, tn, tc, rfl, hrv, hfr, htn, hlens⟩ := q11
    obtain rfl : c12 = .bool z12 := q12
    obtain ⟨rfl, r13⟩ := q13
    obtain ⟨rfl, r14⟩ := q14
    have hcur : cur.toList = [.int .i64 kind, .int .i64 z0, .int .i64 z1, .int .i64 z2, strV z3, strV z4, strV z5, strV z6, strV z7, strV z8, strV z9, strV z10, .slice tA tn tc, .bool z12, u64V z13, u64V z14, .slice sA sn sc] := by
      have hsz := h.size
      have h0 := h.k0
      obtain ⟨cl⟩ := cur
      match cl, hsz with
      | [d0, d1, d2, d3, d4, d5, d6, d7, d8, d9, d10, d11, d12, d13, d14, d15, d16], _ =>
        simp only [List.getElem?_toArray, List.getElem?_cons_zero, List.getElem?_cons_succ, Option.some.injEq] at h0 h16 g0 g1 g2 g3 g4 g5 g6 g7 g8 g9 g10 g11 g12 g13 g14
        try simp only [Nat.reduceAdd, List.getElem?_cons_zero, List.getElem?_cons_succ, Option.some.injEq] at g0 g1 g2 g3 g4 g5 g6 g7 g8 g9 g10 g11 g12 g13 g14
        simp only [h0, h16, g0, g1, g2, g3, g4, g5, g6, g7, g8, g9, g10, g11, g12, g13, g14]
    refine ⟨(⟨kind, z0, z1, z2, z3, z4, z5, z6, z7, z8, z9, z10, tA, tn, tc, z12, z13, z14, sA, sn, sc⟩, z11), hcur, rfl, ⟨⟨⟨hk, ?_, ?_, r13, r14, htn, hs⟩, hrv, hlens⟩, hfr⟩, rfl, rfl, rfl, rfl⟩
    · intro z hz
      simp only [CmW.nums, List.mem_cons, List.not_mem_nil, or_false] at hz
      rcases hz with rfl | rfl | rfl <;> omega
    · intro t ht
      simp only [CmW.texts, List.mem_cons, List.not_mem_nil, or_false] at ht
      rcases ht with rfl | rfl | rfl | rfl | rfl | rfl | rfl | rfl <;> assumption
end Go.Proofs.Ytbhhalkpghcflaa
/-
  need: it gives up reading (layer 20).
-/
namespace Go.Proofs.Ytbhhalkpghcflaa
open Go.RowKit
set_option linter.unusedSimpArgs false
set_option linter.unusedVariables false

/-- What reading that gives up ends in. -/
def PanE (n : Nat) : Ending := .panicked [{ v := .iface 33 (.int .i64 (n : Int)), recovered := false }]
theorem need_ok (w : World) : Calls Try.prog 27 #[.int .i64 0] w fun e w' => e = .returned (.tuple #[]) ∧ w = w' := by
  go_enter Try.func27, Try.ntmps27
  go_wp2
  go_end0
  exact ⟨rfl, rfl⟩
theorem need_bad (n : Nat) (hn : n ≠ 0) (w : World) : Calls Try.prog 27 #[.int .i64 (n : Int)] w fun e w' => e = PanE n ∧ w = w' := by
  have h1 : ((n : Int) != 0) = true := by simpa using hn
  clear hn
  go_enter Try.func27, Try.ntmps27
  go_wp2
  exact ⟨rfl, rfl, rfl⟩
end Go.Proofs.Ytbhhalkpghcflaa
