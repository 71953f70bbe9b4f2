/-
  What the document's read knows of what it has read (layer 20). Nothing of any program is walked here.
-/
import Derived.Test.YtbhhalkpghcflaaZj30
import Derived.Test.YtbhhalkpghcflaaZj34
import Derived.Test.YtbhhalkpghcflaaZj40
import Derived.Test.YtbhhalkpghcflaaZj4
namespace Go.Proofs.Ytbhhalkpghcflaa
open Go.RowKit
set_option linter.unusedSimpArgs false
set_option linter.unusedVariables false

theorem fv_good {k : Nat} (hk : k < 11) (s : St) : (∃ n : Nat, ((fvC k).rd s).1 = .num (n : Int) ∧ n ≤ 65535 ∧ k < 3) ∨ ∃ t, ((fvC k).rd s).1 = .text t ∧ t.length ≤ 80 ∧ 3 ≤ k := by
  unfold fvC
  by_cases h3 : k < 3
  · rw [if_pos h3]
    exact .inl ⟨(itNum 65535).out s, rfl, num_out_le 65535 s, h3⟩
  · rw [if_neg h3, if_pos hk]
    exact .inr ⟨(itText 80).out s, rfl, text_out_le 80 s, by omega⟩
/-- What may stand at a place while the first eleven are read. -/
def Gd : Nat → Fv → Prop
  | j, .num z => j < 3 ∧ 0 ≤ z ∧ z ≤ 65535
  | j, .text s => 3 ≤ j ∧ j < 11 ∧ s.length ≤ 80
  | j, .texts l => j = 11 ∧ l = []
  | j, .flag b => j = 12 ∧ b = false
  | j, .idx n => 13 ≤ j ∧ n = 0
variable {kn : Nat} {s1 : St}
theorem expL_len : ∀ {k : Nat}, k ≤ 15 → (expL kn s1 k).length = 15 := fun {k} hk => by
  unfold expL
  rw [List.length_append, rdRow_len, fCs_len, List.length_map, List.length_range']
  omega
theorem expL_good : ∀ {k : Nat}, k ≤ 11 → ∀ j v, (expL kn s1 k)[j]? = some v → Gd j v
  | 0, _, j, v, h => by
    rw [expL_zero] at h
    have hj : j < 15 := by
      have := (List.getElem?_eq_some_iff.1 h).1
      simpa using this
    rw [List.getElem?_map, List.getElem?_range hj] at h
    obtain rfl : fvZ j = v := by simpa using h
    match j, hj with
    | 0, _ => exact ⟨by decide, by decide, by decide⟩
    | 1, _ => exact ⟨by decide, by decide, by decide⟩
    | 2, _ => exact ⟨by decide, by decide, by decide⟩
    | 3, _ => exact ⟨by decide, by decide, by decide⟩
    | 4, _ => exact ⟨by decide, by decide, by decide⟩
    | 5, _ => exact ⟨by decide, by decide, by decide⟩
    | 6, _ => exact ⟨by decide, by decide, by decide⟩
    | 7, _ => exact ⟨by decide, by decide, by decide⟩
    | 8, _ => exact ⟨by decide, by decide, by decide⟩
    | 9, _ => exact ⟨by decide, by decide, by decide⟩
    | 10, _ => exact ⟨by decide, by decide, by decide⟩
    | 11, _ => exact ⟨rfl, rfl⟩
    | 12, _ => exact ⟨rfl, rfl⟩
    | 13, _ => exact ⟨by decide, rfl⟩
    | 14, _ => exact ⟨by decide, rfl⟩
    | j + 15, h => exact absurd h (by omega)
  | k + 1, hk, j, v, h => by
    cases hb : hasB kn k with
    | false =>
      rw [(expL_no (s := s1) (by omega) hb).1] at h
      exact expL_good (by omega) j v h
    | true =>
      rw [(expL_has (s := s1) (by omega) hb).1] at h
      by_cases e : j = k
      · subst e
        rw [List.getElem?_set_self (by rw [expL_len (by omega)]; omega)] at h
        have h2 := Option.some.inj h
        rcases fv_good (k := j) (by omega) (stK kn s1 j) with ⟨n, h3, h4, h5⟩ | ⟨t, h3, h4, h5⟩
        · rw [h3] at h2
          subst h2
          exact ⟨h5, by omega, by omega⟩
        · rw [h3] at h2
          subst h2
          exact ⟨h5, by omega, h4⟩
      · rw [List.getElem?_set_ne (fun h => e h.symm)] at h
        exact expL_good (by omega) j v h
theorem expL_take {j k : Nat} (hj : j ≤ k) (hk : k < 15) : (expL kn s1 (k + 1)).take j = (expL kn s1 k).take j := by
  cases hb : hasB kn k with
  | false => rw [(expL_no (s := s1) hk hb).1]
  | true =>
    rw [(expL_has (s := s1) hk hb).1, List.take_set_of_le hj]
theorem expL_take3 : ∀ {k : Nat}, k ≤ 8 → (expL kn s1 (3 + k)).take 3 = (expL kn s1 3).take 3
  | 0, _ => rfl
  | k + 1, hk => by rw [show 3 + (k + 1) = 3 + k + 1 from rfl, expL_take (by omega) (by omega), expL_take3 (by omega)]
def cellF : Fv → Value
  | .num z => .int .i64 z
  | .text s => strV s
  | _ => undef
/-- The row of numbers, the row of texts, while they are read. -/
def ArI (kn : Nat) (s1 : St) (b : Nat) (T : TypeId) (off n k : Nat) (w : World) : Prop := ∃ arr, w.heap[b]? = some (.cells arr T (0, 0)) ∧ arr.toList = (((expL kn s1 (off + k)).drop off).take n).map cellF
section
variable {b off n k : Nat} {T : TypeId} {w w' : World}
theorem ArI.but {D : Nat → Prop} (h : ArI kn s1 b T off n k w) (hb : But D w w') (hD : ¬ D b) : ArI kn s1 b T off n k w' := by
  obtain ⟨arr, h1, h2⟩ := h
  exact ⟨arr, (hb.block b (block_lt h1) hD).trans h1, h2⟩
theorem ArI.no (h : ArI kn s1 b T off n k w) (hk : off + k < 15) (hb : hasB kn (off + k) = false) : ArI kn s1 b T off n (k + 1) w := by
  obtain ⟨arr, h1, h2⟩ := h
  exact ⟨arr, h1, by rw [h2, show off + (k + 1) = off + k + 1 from rfl, (expL_no (s := s1) hk hb).1]⟩
theorem ArI.cell (h : ArI kn s1 b T off n k w) (hk : off + n ≤ 15) (hkn : k < n) : (∃ c, w.cell? ⟨b, k, none⟩ = some c) ∧ w.frozen? ⟨b, k, none⟩ = false := by
  obtain ⟨arr, h1, h2⟩ := h
  have hs : arr.size = n := by
    rw [← Array.length_toList, h2, List.length_map, List.length_take, List.length_drop, expL_len (by omega)]
    omega
  refine ⟨⟨arr[k]'(by omega), ?_⟩, by unfold World.frozen?; rw [h1]; simp⟩
  rw [cell_of_row w b k arr T (0, 0) h1, Array.getElem?_eq_getElem]
theorem ArI.has (h : ArI kn s1 b T off n k w) (hk : off + k < 15) (hkn : k < n) (hb : hasB kn (off + k) = true) {v : Fv} (hv : ((fvC (off + k)).rd (stK kn s1 (off + k))).1 = v) : ArI kn s1 b T off n (k + 1) (w.setCell ⟨b, k, none⟩ (cellF v)) := by
  obtain ⟨arr, h1, h2⟩ := h
  refine ⟨_, block_set h1 k (cellF v), ?_⟩
  rw [Array.toList_setIfInBounds, h2, show off + (k + 1) = off + k + 1 from rfl, (expL_has (s := s1) hk hb).1, hv, List.drop_set, if_neg (by omega), show off + k - off = k by omega, List.take_set, List.map_set]
end
/-- Fifteen fields, the first eleven read. -/
theorem good_shape {l : List Fv} (hl : l.length = 15) (h : ∀ j v, l[j]? = some v → Gd j v) : ∃ (a0 a1 a2 : Int) (t0 t1 t2 t3 t4 t5 t6 t7 : List UInt8), l = [.num a0, .num a1, .num a2, .text t0, .text t1, .text t2, .text t3, .text t4, .text t5, .text t6, .text t7, .texts [], .flag false, .idx 0, .idx 0] := by
  match l, hl with
  | [v0, v1, v2, v3, v4, v5, v6, v7, v8, v9, v10, v11, v12, v13, v14], _ =>
    have num : ∀ j v, j < 3 → Gd j v → ∃ a, v = .num a := fun j v hj hv => by
      cases v <;> simp only [Gd] at hv
      · exact ⟨_, rfl⟩
      all_goals omega
    have txt : ∀ j v, 3 ≤ j ∧ j < 11 → Gd j v → ∃ a, v = .text a := fun j v hj hv => by
      cases v <;> simp only [Gd] at hv
      · omega
      · exact ⟨_, rfl⟩
      all_goals omega
    obtain ⟨a0, rfl⟩ := num 0 v0 (by decide) (h 0 v0 rfl)
    obtain ⟨a1, rfl⟩ := num 1 v1 (by decide) (h 1 v1 rfl)
    obtain ⟨a2, rfl⟩ := num 2 v2 (by decide) (h 2 v2 rfl)
    obtain ⟨t0, rfl⟩ := txt 3 v3 (by decide) (h 3 v3 rfl)
    obtain ⟨t1, rfl⟩ := txt 4 v4 (by decide) (h 4 v4 rfl)
    obtain ⟨t2, rfl⟩ := txt 5 v5 (by decide) (h 5 v5 rfl)
    obtain ⟨t3, rfl⟩ := txt 6 v6 (by decide) (h 6 v6 rfl)
    obtain ⟨t4, rfl⟩ := txt 7 v7 (by decide) (h 7 v7 rfl)
    obtain ⟨t5, rfl⟩ := txt 8 v8 (by decide) (h 8 v8 rfl)
    obtain ⟨t6, rfl⟩ := txt 9 v9 (by decide) (h 9 v9 rfl)
    obtain ⟨t7, rfl⟩ := txt 10 v10 (by decide) (h 10 v10 rfl)
    have e11 : v11 = .texts [] := by
      have h1 := h 11 v11 rfl
      cases v11 <;> simp only [Gd] at h1
      · omega
      · omega
      · rw [h1.2]
      all_goals omega
    have e12 : v12 = .flag false := by
      have h1 := h 12 v12 rfl
      cases v12 <;> simp only [Gd] at h1
      · omega
      · omega
      · omega
      · rw [h1.2]
      · omega
    have e13 : v13 = .idx 0 := by
      have h1 := h 13 v13 rfl
      cases v13 <;> simp only [Gd] at h1
      · omega
      · omega
      · omega
      · omega
      · rw [h1.2]
    have e14 : v14 = .idx 0 := by
      have h1 := h 14 v14 rfl
      cases v14 <;> simp only [Gd] at h1
      · omega
      · omega
      · omega
      · omega
      · rw [h1.2]
    subst e11 e12 e13 e14
    exact ⟨a0, a1, a2, t0, t1, t2, t3, t4, t5, t6, t7, rfl⟩
end Go.Proofs.Ytbhhalkpghcflaa
/-
  Helpers of the document's read (layer 20).
-/
namespace Go.Proofs.Ytbhhalkpghcflaa
open Go.RowKit
set_option linter.unusedSimpArgs false
set_option linter.unusedVariables false

/-- What the document's reading of a command does. -/
def FdP (may : Nat) (S : Nat → Prop) (R : Nat) (W : World) (s : St) (e : Ending) (W' : World) : Prop :=
  But (fun k => k = R) W W' ∧ ∃ (y : Sub) (subs : List Sub), e = .returned (cmV y.1) ∧ RfAt S W' R ((genC may).rd s).2 ∧ GenR W.heap.size may s W' y subs
def y0 (kn : Nat) : CmW := ⟨(kn : Int), 0, 0, 0, [], [], [], [], [], [], [], [], none, 0, 0, false, 0, 0, none, 0, 0⟩
theorem genR_early {n0 may kn : Nat} {s : St} {W : World} (hk : kn ≤ 255) (he : ((genC may).rd s).2.e ≠ 0) : GenR n0 may s W (y0 kn, []) [] :=
  ⟨⟨⟨⟨⟨show -9223372036854775808 ≤ (kn : Int) by omega, show (kn : Int) ≤ 9223372036854775807 by omega⟩, (show ∀ z ∈ ([0, 0, 0] : List Int), -9223372036854775808 ≤ z ∧ z ≤ 9223372036854775807 by decide), (show ∀ t ∈ ([[], [], [], [], [], [], [], []] : List (List UInt8)), t.length ≤ maxLen by decide), (show (0 : Nat) < 18446744073709551616 by decide), (show (0 : Nat) < 18446744073709551616 by decide), Nat.zero_le _, Nat.zero_le _⟩, ⟨rfl, fun h => absurd h (Nat.lt_irrefl 0)⟩, fun s hs => by cases hs⟩, fun b off e hn => absurd hn (Nat.lt_irrefl 0)⟩, show 0 ≤ (kn : Int) by omega, ⟨rfl, fun h => absurd h (Nat.lt_irrefl 0)⟩, (fun b off e hn => absurd hn (Nat.lt_irrefl 0)), (fun z hz => by cases hz), fun _ => rfl, fun h => absurd h he⟩
theorem RfAt.fail {S : Nat → Prop} {w : World} {R : Nat} {s : St} (h : RfAt S w R s) (E : Nat) : RfAt S (w.setCell ⟨R, 1, none⟩ (.int .i64 (E : Int))) R ⟨s.b, E⟩ := by
  obtain ⟨hB, A, n, c, hh, hr, hnc, hA, hn⟩ := h
  exact RfAt.failed hB hh hr hnc hA hn E
theorem hasS_none {k : Int} (h : kindOk k = false) : hasS k = ⟨#[]⟩ := by
  have hn : ¬ (1 ≤ k.toNat ∧ k.toNat ≤ 18) := by
    unfold kindOk at h
    simp at h
    omega
  unfold hasS hasL
  rw [if_neg hn]
/-- Is the kind none that may stand here? -/
def badK (deep : Bool) (kn : Nat) : Bool := !kindOk (kn : Int) || (deep && decide (kn = 18))
theorem badK_is (deep : Bool) (kn : Nat) : decide (maskN (kn : Int) &&& (if deep then 32767 else 65535) = 0) = badK deep kn := by
  unfold badK
  cases deep with
  | false =>
    show decide (maskN (kn : Int) &&& 65535 = 0) = _
    rw [mask_all, mask_zero]
    simp
  | true =>
    show decide (maskN (kn : Int) &&& 32767 = 0) = _
    rw [mask_zero_in]
    unfold kindOk
    rw [Bool.eq_iff_iff]
    simp
    omega
theorem expL_drop {kn k : Nat} {s1 : St} (hk : k ≤ 15) : (expL kn s1 k).drop k = (List.range' k (15 - k)).map fvZ := by
  unfold expL
  rw [List.drop_append_of_le_length (by rw [rdRow_len, fCs_len]; omega), List.drop_of_length_le (by rw [rdRow_len, fCs_len]; omega), List.nil_append]
/-- What stands behind k fields, in the document's read. -/
def LpD (S : Nat → Prop) (R B n0 kn : Nat) (s1 : St) (k : Nat) (wr : World) : Prop := ∃ cur l, BoxL n0 B (kn : Int) cur l wr ∧ cur[16]? = some (.slice none 0 0) ∧ RfAt S wr R (stK kn s1 k) ∧ ((stK kn s1 k).e = 0 → l = expL kn s1 k)
section
variable {S : Nat → Prop} {R B n0 kn k : Nat} {s1 : St} {W W' : World}
theorem LpD.rd (h : LpD S R B n0 kn s1 k W) : RfAt S W R (stK kn s1 k) := by
  obtain ⟨cur, l, h1, h2, h3, h4⟩ := h
  exact h3
theorem LpD.no (h : LpD S R B n0 kn s1 k W) (hk : k < 15) (hb : hasB kn k = false) : LpD S R B n0 kn s1 (k + 1) W := by
  obtain ⟨cur, l, h1, h2, h3, h4⟩ := h
  obtain ⟨e1, e2⟩ := expL_no (s := s1) hk hb
  exact ⟨cur, l, h1, h2, by rw [e2]; exact h3, by rw [e1, e2]; exact h4⟩
theorem LpD.cell {i : Nat} (h : LpD S R B n0 kn s1 i W) (hb : But (fun j => j = R) W W') (hk : k < 17) (hBR : B ≠ R) (_ : R < B) : (∃ c, W'.cell? ⟨B, k, none⟩ = some c) ∧ W'.frozen? ⟨B, k, none⟩ = false := by
  obtain ⟨cur, l, h1, h2, h3, h4⟩ := h
  have hx := (hb.block B (block_lt h1.box) hBR).trans h1.box
  refine ⟨⟨cur[k]'(by rw [h1.size]; exact hk), ?_⟩, by unfold World.frozen?; rw [hx]; simp⟩
  rw [cell_of_row W' B k cur TCm (0, 0) hx, Array.getElem?_eq_getElem]
theorem LpD.next (h : LpD S R B n0 kn s1 k W) (hb : hasB kn k = true) (hk : k < 15) (hba : But (fun j => j = R) W W') (hr : RfAt S W' R ((fvC k).rd (stK kn s1 k)).2) (hBR : B ≠ R) (hRB : R < B) (_ : R ≠ B) (hSB : S B) (hRn : R < n0) (hBn : B < n0) {v : Fv} {c : Value} (hv : v.at_ k) (hc : CellV n0 W' v c) (hval : ((fvC k).rd (stK kn s1 k)).2.e = 0 → v = ((fvC k).rd (stK kn s1 k)).1) : LpD S R B n0 kn s1 (k + 1) (W'.setCell ⟨B, 1 + k, none⟩ c) := by
  obtain ⟨cur, l, h1, h2, h3, h4⟩ := h
  obtain ⟨e1, e2⟩ := expL_has (s := s1) hk hb
  have hx := (hba.block B (block_lt h1.box) hBR).trans h1.box
  have hs := But.set (S := fun j => j = B) W' (p := ⟨B, 1 + k, none⟩) rfl c
  have hall : But (fun j => j = R ∨ j = B) W (W'.setCell ⟨B, 1 + k, none⟩ c) := (hba.mono fun j hj => .inl hj).trans (hs.mono fun j hj => .inr hj)
  refine ⟨_, _, h1.put hall (fun j hj => by rcases hj with h | h <;> omega) hk hv (hc.but hs (fun j hj => by omega)) (block_set hx (1 + k) c), ?_, by rw [e2]; exact hr.but hs (fun j hj => hj ▸ hSB) (fun h => hBR h.symm), fun e0 => ?_⟩
  · rw [Array.getElem?_setIfInBounds_ne (by omega)]
    exact h2
  · have e3 := e0
    rw [e2] at e3
    rw [e1, h4 (stK_ok e0), hval e3]
end
theorem box_eleven {n0 B kn : Nat} {w : World} {a0 a1 a2 : Int} {x0 x1 x2 x3 x4 x5 x6 x7 : List UInt8} {l : List Fv} (h : w.heap[B]? = some (.cells #[.int .i64 (kn : Int), .int .i64 a0, .int .i64 a1, .int .i64 a2, .string ⟨x0.toArray⟩, .string ⟨x1.toArray⟩, .string ⟨x2.toArray⟩, .string ⟨x3.toArray⟩, .string ⟨x4.toArray⟩, .string ⟨x5.toArray⟩, .string ⟨x6.toArray⟩, .string ⟨x7.toArray⟩, .slice none 0 0, .bool false, .int .u64 0, .int .u64 0, .slice none 0 0] TCm (0, 0))) (hl : l = [.num a0, .num a1, .num a2, .text x0, .text x1, .text x2, .text x3, .text x4, .text x5, .text x6, .text x7, .texts [], .flag false, .idx 0, .idx 0]) (hg : ∀ j v, l[j]? = some v → Gd j v) : BoxL n0 B (kn : Int) #[.int .i64 (kn : Int), .int .i64 a0, .int .i64 a1, .int .i64 a2, .string ⟨x0.toArray⟩, .string ⟨x1.toArray⟩, .string ⟨x2.toArray⟩, .string ⟨x3.toArray⟩, .string ⟨x4.toArray⟩, .string ⟨x5.toArray⟩, .string ⟨x6.toArray⟩, .string ⟨x7.toArray⟩, .slice none 0 0, .bool false, .int .u64 0, .int .u64 0, .slice none 0 0] l w := by
  subst hl
  refine ⟨h, rfl, rfl, rfl, fun j v hv => ?_⟩
  have g := hg j v hv
  have hj : j < 15 := (List.getElem?_eq_some_iff.1 hv).1
  match j, hj with
  | 0, _ => cases hv; exact ⟨g.1, _, rfl, rfl, g.2.1, g.2.2⟩
  | 1, _ => cases hv; exact ⟨g.1, _, rfl, rfl, g.2.1, g.2.2⟩
  | 2, _ => cases hv; exact ⟨g.1, _, rfl, rfl, g.2.1, g.2.2⟩
  | 3, _ => cases hv; exact ⟨⟨g.1, g.2.1⟩, _, rfl, rfl, Nat.le_trans g.2.2 (by decide)⟩
  | 4, _ => cases hv; exact ⟨⟨g.1, g.2.1⟩, _, rfl, rfl, Nat.le_trans g.2.2 (by decide)⟩
  | 5, _ => cases hv; exact ⟨⟨g.1, g.2.1⟩, _, rfl, rfl, Nat.le_trans g.2.2 (by decide)⟩
  | 6, _ => cases hv; exact ⟨⟨g.1, g.2.1⟩, _, rfl, rfl, Nat.le_trans g.2.2 (by decide)⟩
  | 7, _ => cases hv; exact ⟨⟨g.1, g.2.1⟩, _, rfl, rfl, Nat.le_trans g.2.2 (by decide)⟩
  | 8, _ => cases hv; exact ⟨⟨g.1, g.2.1⟩, _, rfl, rfl, Nat.le_trans g.2.2 (by decide)⟩
  | 9, _ => cases hv; exact ⟨⟨g.1, g.2.1⟩, _, rfl, rfl, Nat.le_trans g.2.2 (by decide)⟩
  | 10, _ => cases hv; exact ⟨⟨g.1, g.2.1⟩, _, rfl, rfl, Nat.le_trans g.2.2 (by decide)⟩
  | 11, _ => cases hv; exact ⟨rfl, _, rfl, none, 0, 0, rfl, ⟨rfl, fun h => absurd h (by decide)⟩, (fun b off e h => absurd h (by decide)), Nat.zero_le _, fun s h => by cases h⟩
  | 12, _ => cases hv; exact ⟨rfl, _, rfl, rfl⟩
  | 13, _ => cases hv; exact ⟨⟨by decide, by decide⟩, _, rfl, rfl, by decide⟩
  | 14, _ => cases hv; exact ⟨⟨by decide, by decide⟩, _, rfl, rfl, by decide⟩
  | j + 15, h => exact absurd h (by omega)
def tailN : Nat → Code → Code
  | 0, c => c
  | n + 1, .seq _ c => tailN n c
  | _ + 1, c => c
noncomputable def bodF : Code := match Try.f30.body with | some c => c | none => .skip
end Go.Proofs.Ytbhhalkpghcflaa
