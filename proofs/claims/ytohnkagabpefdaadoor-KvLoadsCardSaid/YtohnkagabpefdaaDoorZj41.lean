/-
  Load in plain words; rising, ofLoaded and its checks, walked (layer 16).
-/
import Derived.Test.YtohnkagabpefdaaDoorZj40
namespace Go.Proofs.YtohnkagabpefdaaDoor
open Go.RowKit
set_option linter.unusedSimpArgs false
set_option linter.unusedVariables false

def Rises (l : List En) : Prop := ∀ j, 1 ≤ j → ∀ h : j < l.length, ltT (l[j - 1]'(by omega)).key l[j].key = true
/-- An entry that may be loaded. -/
def fitE (last : Nat) (e : En) : Prop := keyB e.key.data.toList = true ∧ e.val.v.size ≤ 64 ∧ e.made ≤ e.ix ∧ e.ix ≤ last
/-- Entries that may be loaded. -/
def LoadOk (m : Nat) (l : List En) (last : Nat) : Prop := l.length ≤ m ∧ Rises l ∧ ∀ e ∈ l, fitE last e
theorem Rises.take {l : List En} (h : Rises l) (k : Nat) : Rises (l.take k) := fun j h1 h2 => by
  rw [List.length_take] at h2
  rw [List.getElem_take, List.getElem_take]
  exact h j h1 (by omega)
theorem Rises.sr {l : List En} (h : Rises l) : SR l := by
  unfold SR
  rw [List.pairwise_iff_getElem]
  intro i j hi hj hij
  induction j with
  | zero => omega
  | succ j ih =>
    have h1 := h (j + 1) (by omega) hj
    rcases Nat.lt_or_ge i j with q | q
    · exact ltT_trans (ih (by omega) q) h1
    · obtain rfl : i = j := by omega
      exact h1
theorem SR.rises {l : List En} (h : SR l) : Rises l := fun j h1 h2 => h.get h2 (i := j - 1) (by omega)
theorem lay_end {α : Type} {r : Rw α} : ∀ {l : List (Rw α)} (_ : ∀ x ∈ l, ltT x.key r.key = true), layR r false l = l ++ [r]
  | [], _ => rfl
  | x :: l, h => by
    have hx := h x (by simp)
    unfold layR
    have hne : x.key ≠ r.key := fun e => by rw [e, ltT_irr] at hx; cases hx
    rw [if_neg (by rw [text_other.2 hne]; exact Bool.false_ne_true), if_neg (by rw [ltT_asymm hx]; exact Bool.false_ne_true), lay_end fun y hy => h y (by simp [hy])]
    rfl
theorem lay_last {α : Type} {r r0 : Rw α} (hk : r0.key = r.key) : ∀ {l : List (Rw α)} (_ : ∀ x ∈ l, ltT x.key r.key = true), layR r false (l ++ [r0]) = l ++ [r]
  | [], _ => by
    show layR r false [r0] = [r]
    unfold layR
    rw [if_pos (text_same.2 hk)]
    rfl
  | x :: l, h => by
    have hx := h x (by simp)
    show layR r false (x :: (l ++ [r0])) = x :: (l ++ [r])
    unfold layR
    have hne : x.key ≠ r.key := fun e => by rw [e, ltT_irr] at hx; cases hx
    rw [if_neg (by rw [text_other.2 hne]; exact Bool.false_ne_true), if_neg (by rw [ltT_asymm hx]; exact Bool.false_ne_true), lay_last hk fun y hy => h y (by simp [hy])]
/-- The store behind some loaded entries. -/
def loadT (m : Nat) (l : List En) (b : Nat) : Tb Kp := ⟨m, l, b⟩
section
variable {m : Nat} {l : List En} {e : En} {b : Nat}
theorem getR_before (h : ∀ x ∈ l, ltT x.key e.key = true) : getR l e.key = none := by
  unfold getR
  rw [List.find?_eq_none]
  intro x hx hq
  have := h x hx
  rw [text_same.1 hq, ltT_irr] at this
  cases this
/-- The first laying of an entry behind the others. -/
theorem lay_one (h : ∀ x ∈ l, ltT x.key e.key = true) : putK ⟨m, l, b⟩ e.key e.val e.made = if m ≤ l.length then (5, ⟨m, l, b⟩) else (0, ⟨m, l ++ [{ e with ix := e.made }], max b e.made⟩) := by
  have hg := getR_before h
  unfold putK Tb.fullB
  simp only [hg, Option.isNone_none, Bool.true_and, decide_eq_true_eq]
  split
  · rfl
  · unfold Tb.put Tb.row
    simp only [hg]
    rw [lay_end (by exact h)]
    rfl
/-- The second. -/
theorem lay_two (h : ∀ x ∈ l, ltT x.key e.key = true) : putK ⟨m, l ++ [{ e with ix := e.made }], b⟩ e.key e.val e.ix = (0, ⟨m, l ++ [e], max b e.ix⟩) := by
  have hg : getR (l ++ [({ e with ix := e.made } : En)]) e.key = some { e with ix := e.made } := by
    have h1 := getR_before h
    unfold getR at h1 ⊢
    rw [List.find?_append, h1, List.find?_cons_of_pos (by exact text_same.2 rfl)]
    rfl
  unfold putK Tb.fullB
  simp only [hg, Option.isNone_some, Bool.false_and, Bool.false_eq_true, if_false]
  unfold Tb.put Tb.row
  simp only [hg]
  exact congrArg (fun z => ((0, (⟨m, z, max b e.ix⟩ : Tb Kp)) : Nat × Tb Kp)) (lay_last (r := e) (r0 := { e with ix := e.made }) rfl h)
end
set_option maxHeartbeats 2000000 in
theorem rising_any (A : Option Addr) (n c : Nat) (l : List En) (w : World) (hS : SK enC 6 w A n l) (hn : n ≤ maxLen) :
    Calls Tryd.prog 20 #[.slice A n c] w fun e w' => ∃ r, e = .returned (.bool r) ∧ (r = true ↔ Rises l) ∧ Below w.heap.size w w' := by
  unfold maxLen at hn
  have hm : n ≤ 9223372036854775807 := by omega
  have HL := Lib.hid hS.1
  have HS := Lib.hid hS
  clear hS hn
  go_enter Tryd.func20, Tryd.ntmps20
  go_wp2
  go_loopw [3] (fun i wr => ∃ k : Nat, 1 ≤ k ∧ (k ≤ n ∨ k = 1) ∧ i = .int .i64 (k : Int) ∧ Hid (∀ j, 1 ≤ j → j < k → ∀ h : j < l.length, ltT (l[j - 1]'(by omega)).key l[j].key = true) ∧ Hid (Below w.heap.size w wr)) (fun i _ => n + 1 - (intOf i).toNat)
  case atStart => exact ⟨1, Nat.le_refl _, .inr rfl, rfl, Lib.hid (fun j h1 h2 => by omega), Lib.hid (Below.refl _ _)⟩
  case round =>
    obtain ⟨k, hk1, hk, rfl, hf, hb⟩ := hrel
    by_cases hlt : k < n
    · have hkl : k < l.length := by have := HL.out; omega
      obtain ⟨b, off, rfl, hbl, hit⟩ := (HS.out.below hb.out).at_ hlt hkl
      obtain ⟨b2, off2, e2, hbl2, hit2⟩ := (HS.out.below hb.out).at_ (j := k - 1) (by omega) (by omega)
      cases e2
      obtain ⟨y, hy⟩ : ∃ y, l[k] = y := ⟨_, rfl⟩
      obtain ⟨x, hx⟩ : ∃ x, l[k - 1]'(by omega) = x := ⟨_, rfl⟩
      rw [hy] at hit
      rw [hx] at hit2
      have d0 := (Kt.tr_cells hit).1
      have c0 : wr.cell? ⟨b, off + (k - 1) * 6, none⟩ = some (.string x.key) := (Kt.tr_cells hit2).1
      have HY := Lib.hid hy
      have HX := Lib.hid hx
      have q1 : (k : Int) < (n : Int) := by omega
      have q0 : (0 : Int) ≤ (k : Int) := by omega
      have q2 : ((k : Int) - 1).toNat = k - 1 := by omega
      have q3 : (0 : Int) ≤ (k : Int) - 1 := by omega
      have q4 : (k : Int) - 1 < (n : Int) := by omega
      clear hit hit2 hx hy
      have qs : IntKind.i64.wrap ((k : Int) - 1) = (k : Int) - 1 := by simp [IntKind.wrap, IntKind.bits, IntKind.signed]; omega
      cases hlx : ltT x.key y.key with
      | true =>
        have g1 : Op.bytesLess x.key.toList y.key.toList = true := hlx
        have HF1 : Hid (∀ j, 1 ≤ j → j < k + 1 → ∀ h : j < l.length, ltT (l[j - 1]'(by omega)).key l[j].key = true) := Lib.hid fun j h1 h2 h3 => by
          by_cases hj : j < k
          · exact hf.out j h1 hj h3
          · obtain rfl : j = k := by omega
            have e1 := HX.out
            have e2 := HY.out
            rw [e1, e2]
            exact hlx
        clear hlx
        go_wp2
        go_quiet (fail)
        generalize hWq : wr.drewN _ = wq
        have HBq : Hid (Below w.heap.size w wq) := Lib.hid (by rw [← hWq]; exact below_drewN hb.out _)
        clear hWq
        go_wp2
        go_roundw
        case rel => exact ⟨k + 1, by omega, by omega, by go_num, HF1, HBq⟩
        case measure => simp [intOf]; omega
      | false =>
        have g1 : Op.bytesLess x.key.toList y.key.toList = false := hlx
        have HNo : Hid (¬ Rises l) := Lib.hid fun z => by
          have := z k hk1 hkl
          have e1 := HX.out
          have e2 := HY.out
          rw [e1, e2, hlx] at this
          cases this
        clear hlx
        go_wp2
        go_quiet (fail)
        generalize hWq : wr.drewN _ = wq
        have HBq : Hid (Below w.heap.size w wq) := Lib.hid (by rw [← hWq]; exact below_drewN hb.out _)
        clear hWq
        go_wp2
        go_ret
        exact ⟨false, rfl, ⟨(fun z => by cases z), fun z => absurd z HNo.out⟩, HBq.out⟩
    · have q1 : ¬ (k : Int) < (n : Int) := by omega
      have HYes : Hid (Rises l) := Lib.hid fun j h1 h2 => hf.out j h1 (by have := HL.out; omega) h2
      go_wp2
      go_ret
      exact .inr ⟨rfl, HYes.out, hb.out⟩
end Go.Proofs.YtohnkagabpefdaaDoor
/-
  ofLoaded and its checks, walked (layer 16).
-/
namespace Go.Proofs.YtohnkagabpefdaaDoor
open Go.RowKit
set_option linter.unusedSimpArgs false
set_option linter.unusedVariables false

set_option maxHeartbeats 1000000 in
theorem of1_any (e0 : En) (w : World) (hM : MaxIs w) (hk : e0.key.size ≤ maxLen) (hv : e0.val.v.size ≤ maxLen) :
    Calls Tryd.prog 47 #[enV e0] w fun e w' => e = .returned (.bool (keyB e0.key.data.toList && decide (e0.val.v.size ≤ 64))) ∧ Below w.heap.size w w' := by
  obtain ⟨Y, hY⟩ : ∃ Y, w.heap.size = Y := ⟨_, rfl⟩
  obtain ⟨W1, hW1⟩ : ∃ W1, w.alloc (.cells #[.string e0.key, .string e0.val.v, .int .u64 (e0.val.ses : Int), .int .u64 (e0.val.lck : Int), .int .u64 (e0.made : Int), .int .u64 (e0.ix : Int)] TEn) = W1 := ⟨_, rfl⟩
  have hb1 : Below w.heap.size w W1 := by rw [← hW1]; exact below1 _ _ _
  have k1 : W1.heap[Y]? = some (.cells #[.string e0.key, .string e0.val.v, .int .u64 (e0.val.ses : Int), .int .u64 (e0.val.lck : Int), .int .u64 (e0.made : Int), .int .u64 (e0.ix : Int)] TEn (0, 0)) := by rw [← hW1, ← hY]; exact heap_alloc_new w _
  have HK := Lib.hid (key_any e0.key W1 hk (hM.keep hb1))
  have HFt := Lib.hid (fun W => fits_any e0.val.v W hv)
  obtain ⟨a, ha⟩ : ∃ a, keyB e0.key.data.toList = a := ⟨_, rfl⟩
  obtain ⟨b, hb⟩ : ∃ b, decide (e0.val.v.size ≤ 64) = b := ⟨_, rfl⟩
  rw [ha] at HK
  rw [hb] at HFt
  rw [ha, hb]
  have HB1 := Lib.hid hb1
  have HKy := Lib.hid k1
  have HW1 := Lib.hid hW1
  have HY := Lib.hid hY
  obtain ⟨y0, y1, y2, y3, y4, y5⟩ := Kt.blk k1
  unfold enV Kt.trV
  clear hM hk hv hY hW1 hb1 k1 ha hb
  go_enter Tryd.func47, Tryd.ntmps47
  go_wp2_with fail
  rw [HW1.out]
  try rw [HY.out]
  try go_wp2_with fail
  refine HK.out.mono ?_
  rintro e w2 ⟨rfl, hb2⟩
  have HB2 := Lib.hid (step_trans HB1.out hb2)
  obtain ⟨z0, z1, z2, z3, z4, z5⟩ := Kt.blk ((hb2.block Y (block_lt HKy.out)).trans HKy.out)
  clear hb2 HK y0 y1 y2 y3 y4 y5
  cases a with
  | false =>
    try rw [HY.out]
    go_wp2
    go_ret
    exact ⟨rfl, HB2.out⟩
  | true =>
    try rw [HY.out]
    go_wp2_with fail
    refine (HFt.out w2).mono ?_
    rintro e w' ⟨rfl, rfl⟩
    clear z0 z1 z2 z3 z4 z5
    go_wp2
    go_ret
    exact ⟨ret_bool (by simp), HB2.out⟩
theorem nat_leq (a b : Nat) : (decide ((a : Int) ≤ (b : Int)) : Bool) = decide (a ≤ b) := by rw [decide_eq_decide]; exact Int.ofNat_le
set_option maxHeartbeats 1000000 in
theorem of2_any (last X : Nat) (e0 : En) (w : World) (kX : w.heap[X]? = some (.cells #[.int .u64 (last : Int)] 23 (0, 0))) :
    Calls Tryd.prog 50 #[enV e0, .pointer (some ⟨X, 0, none⟩)] w fun e w' => e = .returned (.bool (decide (e0.made ≤ e0.ix) && decide (e0.ix ≤ last))) ∧ Below w.heap.size w w' := by
  have cX : w.cell? ⟨X, 0, none⟩ = some (.int .u64 (last : Int)) := cellsN kX 0 _ rfl
  have hlX := block_lt kX
  obtain ⟨a, ha⟩ : ∃ a, decide (e0.made ≤ e0.ix) = a := ⟨_, rfl⟩
  obtain ⟨b, hb⟩ : ∃ b, decide (e0.ix ≤ last) = b := ⟨_, rfl⟩
  have q1 : decide ((e0.made : Int) ≤ (e0.ix : Int)) = a := by rw [nat_leq, ha]
  have q2 : decide ((e0.ix : Int) ≤ (last : Int)) = b := by rw [nat_leq, hb]
  rw [ha, hb]
  unfold enV Kt.trV
  clear kX ha hb
  cases a with
  | false =>
    have q3 : ¬ (e0.made : Int) ≤ (e0.ix : Int) := by simpa using q1
    go_enter Tryd.func50, Tryd.ntmps50
    go_wp2
    go_ret
    exact ⟨rfl, below1 _ _ _⟩
  | true =>
    have q3 : (e0.made : Int) ≤ (e0.ix : Int) := by simpa using q1
    cases b with
    | false =>
      have q4 : ¬ (e0.ix : Int) ≤ (last : Int) := by simpa using q2
      go_enter Tryd.func50, Tryd.ntmps50
      go_wp2
      go_ret
      exact ⟨rfl, below1 _ _ _⟩
    | true =>
      have q4 : (e0.ix : Int) ≤ (last : Int) := by simpa using q2
      go_enter Tryd.func50, Tryd.ntmps50
      go_wp2
      go_ret
      exact ⟨rfl, below1 _ _ _⟩
theorem ofl_at (last : Nat) (w : World) :
    Calls Tryd.prog 22 #[.int .u64 (last : Int)] w fun e w' => e = .returned (.slice (some ⟨w.heap.size + 1, 0, none⟩) 2 2) ∧ w'.heap[w.heap.size]? = some (.cells #[.int .u64 (last : Int)] 23 (0, 0)) ∧ w'.heap[w.heap.size + 1]? = some (.cells #[.func (.func 47) #[] #[], .int .i64 2, .func (.func 50) #[] #[.pointer (some ⟨w.heap.size, 0, none⟩)], .int .i64 2] TCk (0, 0)) ∧ Below w.heap.size w w' := by
  obtain ⟨W1, hW1⟩ : ∃ W1, (w.alloc (.cells #[.int .u64 (last : Int)] 23)).alloc (.cells #[.func (.func 47) #[] #[], .int .i64 2, .func (.func 50) #[] #[.pointer (some ⟨w.heap.size, 0, none⟩)], .int .i64 2] TCk) = W1 := ⟨_, rfl⟩
  have HB : Hid (Below w.heap.size w W1) := Lib.hid (by rw [← hW1]; exact below2 _ _ _ _ _)
  have HK : Hid (W1.heap[w.heap.size]? = some (.cells #[.int .u64 (last : Int)] 23 (0, 0))) := Lib.hid (by
    rw [← hW1]
    exact ((below1 (w.alloc (.cells #[.int .u64 (last : Int)] 23)) _ _).block w.heap.size (by simp)).trans (heap_alloc_new w _))
  have HZ : Hid (W1.heap[w.heap.size + 1]? = some (.cells #[.func (.func 47) #[] #[], .int .i64 2, .func (.func 50) #[] #[.pointer (some ⟨w.heap.size, 0, none⟩)], .int .i64 2] TCk (0, 0))) := Lib.hid (by
    rw [← hW1]
    have := heap_alloc_new (w.alloc (.cells #[.int .u64 (last : Int)] 23)) (.cells #[.func (.func 47) #[] #[], .int .i64 2, .func (.func 50) #[] #[.pointer (some ⟨w.heap.size, 0, none⟩)], .int .i64 2] TCk)
    simpa using this)
  have HW1 := Lib.hid hW1
  clear hW1
  go_enter Tryd.func22, Tryd.ntmps22
  go_wp2
  rw [HW1.out]
  go_ret
  exact ⟨rfl, HK.out, HZ.out, HB.out⟩
end Go.Proofs.YtohnkagabpefdaaDoor
