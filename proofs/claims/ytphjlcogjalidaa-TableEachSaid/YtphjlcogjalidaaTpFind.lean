/-
  Where a key's row stands: find, by sort.Search and a closure, walked (layer 15).
-/
import Derived.Test.YtphjlcogjalidaaTpMem
namespace Go.Proofs.Ytphjlcogjalidaa
open Go.RowKit
set_option linter.unusedSimpArgs false
set_option linter.unusedVariables false

/-- Is the row at a place not below a key? -/
def geK (l : List (Rw Int)) (key : ByteArray) (i : Nat) : Bool := match l[i]? with | some r => !ltT r.key key | none => true
theorem geK_at {l : List (Rw Int)} {key : ByteArray} {i : Nat} (h : i < l.length) : geK l key i = !ltT l[i].key key := by
  unfold geK
  rw [List.getElem?_eq_getElem h]
theorem geK_plc {l : List (Rw Int)} (hs : SR l) {key : ByteArray} {m : Nat} (hm : m ≤ l.length) (h1 : ∀ i, i < m → geK l key i = false) (h2 : ∀ i, m ≤ i → i < l.length → geK l key i = true) : plc l key = m :=
  plc_of hs hm (fun j hj hjm => by have := h1 j hjm; rw [geK_at hj] at this; simpa using this) (fun j hj hjm => by have := h2 j hjm hj; rw [geK_at hj] at this; simpa using this)
theorem geK_mono {l : List (Rw Int)} (hs : SR l) (key : ByteArray) (a b : Nat) (hab : a ≤ b) (hb : b < l.length) (h : geK l key a = true) : geK l key b = true := by
  rw [geK_at (by omega)] at h
  rw [geK_at hb]
  have ha : ¬ a < plc l key := fun e => by rw [(plc_lt hs a (by omega)).1 e] at h; cases h
  cases e : ltT l[b].key key
  · rfl
  · exact absurd ((plc_lt hs b hb).2 e) (by omega)
/-- '>=' of two texts. -/
theorem run_geq_str (x y : ByteArray) (b : Bool) (h : ltT x y = b) (w : World) : (binOp .geq 9 (.string x) (.string y)).run Try.prog w = .ok (.bool !b) w := by
  unfold ltT at h
  simp [binOp, Op.binOp, Try.underlying9, Op.stringOp, h]
theorem closure_any {S : Nat → Prop} {w : World} {B : Nat} {A : Option Addr} {c : Nat} {t : Tb Int} (key : ByteArray) (X Y : Nat) (i : Nat) (h : PtIs S w B A c t) (hx : w.heap[X]? = some (.cells #[.pointer (some ⟨B, 0, none⟩)] 23 (0, 0))) (hy : w.heap[Y]? = some (.cells #[.string key] 9 (0, 0))) (hi : i < t.l.length) :
    Calls Try.prog 36 #[.int .i64 (i : Int), .pointer (some ⟨X, 0, none⟩), .pointer (some ⟨Y, 0, none⟩)] w fun e w' => e = .returned (.bool (geK t.l key i)) ∧ Below w.heap.size w w' := by
  have hm : t.l.length ≤ 9223372036854775807 := by have := h.le; have := h.max; unfold maxLen at this; omega
  have c2 := h.c2
  have cx : w.cell? ⟨X, 0, none⟩ = some (.pointer (some ⟨B, 0, none⟩)) := by rw [cell_of_row _ _ _ _ _ _ hx]; rfl
  have cy : w.cell? ⟨Y, 0, none⟩ = some (.string key) := by rw [cell_of_row _ _ _ _ _ _ hy]; rfl
  rw [geK_at hi]
  obtain ⟨b, off, rfl, hbl, hit⟩ := h.row.at_ hi hi
  obtain ⟨r, hr⟩ : ∃ r, t.l[i] = r := ⟨_, rfl⟩
  rw [hr] at hit ⊢
  obtain ⟨e0, e1, e2, e3⟩ := tr_cells hit
  have hg := run_geq_str r.key key _ rfl
  obtain ⟨L, hL⟩ : ∃ L, t.l.length = L := ⟨_, rfl⟩
  rw [hL] at c2 hi hm
  have n0 : (0 : Int) ≤ (i : Int) := by omega
  have n1 : (i : Int) < (L : Int) := by omega
  clear h hx hy hit hr hL e1 e2 e3
  go_enter Try.func36, Try.ntmps36
  go_wp2
  go_quiet (fail)
  go_wp2
  go_ret
  exact ⟨rfl, below_drewN (Below.refl _ _) _⟩
set_option maxHeartbeats 1000000 in
theorem search_any (n : Nat) (hn : n ≤ 1000) (lb : Array Value) (p : Nat → Bool) (w : World)
    (hf : ∀ i W, i < n → Below w.heap.size w W → Calls Try.prog 36 (#[.int .i64 (i : Int)] ++ lb) W fun e W' => e = .returned (.bool (p i)) ∧ Below W.heap.size W W')
    (hmono : ∀ a b, a ≤ b → b < n → p a = true → p b = true) :
    Calls Try.prog 35 #[.int .i64 (n : Int), .func (.func 36) #[] lb] w fun e w' => ∃ m : Nat, e = .returned (.int .i64 (m : Int)) ∧ m ≤ n ∧ ((∀ i, i < m → p i = false) ∧ ∀ i, m ≤ i → i < n → p i = true) ∧ Below w.heap.size w w' := by
  have HF := Lib.hid hf
  have HM := Lib.hid hmono
  clear hf hmono
  go_enter Try.func35, Try.ntmps35
  go_wp2
  go_loopw [5, 6] (fun s5 s6 wr => ∃ lo hi : Nat, s5 = .int .i64 (lo : Int) ∧ s6 = .int .i64 (hi : Int) ∧ lo ≤ hi ∧ hi ≤ n ∧ Hid ((∀ i, i < lo → p i = false) ∧ ∀ i, hi ≤ i → i < n → p i = true) ∧ Hid (Below w.heap.size w wr)) (fun s5 s6 _ => (intOf s6).toNat - (intOf s5).toNat)
  case atStart => exact ⟨0, n, rfl, rfl, Nat.zero_le _, Nat.le_refl _, Lib.hid ⟨fun i hi => absurd hi (Nat.not_lt_zero _), fun i h1 h2 => by omega⟩, Lib.hid (Below.refl _ _)⟩
  case round =>
    obtain ⟨lo, hi, rfl, rfl, hlh, hin, hI, hb⟩ := hrel
    by_cases hlt : lo < hi
    · have hc := HF.out ((lo + hi) / 2) wr (by omega) hb.out
      obtain ⟨m, hm⟩ : ∃ m, (lo + hi) / 2 = m := ⟨_, rfl⟩
      have hq : ((lo : Int) + (hi : Int)) / 2 = (m : Int) := by omega
      rw [hm] at hc
      cases hp : p m <;> rw [hp] at hc
      · have HI : Hid ((∀ i, i < m + 1 → p i = false) ∧ ∀ i, hi ≤ i → i < n → p i = true) := Lib.hid ⟨(fun i hi2 => by
          rw [Bool.eq_false_iff]
          intro e
          have := HM.out i m (by omega) (by omega) e
          rw [hp] at this
          cases this), hI.out.2⟩
        have HC := Lib.hid hc
        clear hp hc
        go_wp2_with fail
        refine HC.out.mono ?_
        rintro e w' ⟨rfl, hb2⟩
        have HB := Lib.hid (hb.out.trans (hb2.mono hb.out.size))
        clear hb2 HC
        go_wp2
        go_roundw
        case rel => exact ⟨m + 1, hi, by go_num, rfl, by omega, hin, HI, HB⟩
        case measure => simp [intOf]; omega
      · have HI : Hid ((∀ i, i < lo → p i = false) ∧ ∀ i, m ≤ i → i < n → p i = true) := Lib.hid ⟨hI.out.1, fun i h1 h2 => HM.out m i h1 h2 hp⟩
        have HC := Lib.hid hc
        clear hp hc
        go_wp2_with fail
        refine HC.out.mono ?_
        rintro e w' ⟨rfl, hb2⟩
        have HB := Lib.hid (hb.out.trans (hb2.mono hb.out.size))
        clear hb2 HC
        go_wp2
        go_roundw
        case rel => exact ⟨lo, m, rfl, rfl, by omega, by omega, HI, HB⟩
        case measure => simp [intOf]; omega
    · obtain rfl : lo = hi := by omega
      go_wp2
      go_ret
      exact ⟨lo, rfl, hin, hI.out, hb.out⟩
/-- Is there a row with a key? -/
def hasB (l : List (Rw Int)) (k : ByteArray) : Bool := (getR l k).isSome
theorem hasB_at {l : List (Rw Int)} (hs : SR l) {k : ByteArray} (h : plc l k < l.length) : hasB l k = (l[plc l k].key.toList == k.toList) := by
  unfold hasB
  rw [get_plc hs, dif_pos h]
  by_cases e : l[plc l k].key = k
  · rw [if_pos e, text_same.2 e]; rfl
  · rw [if_neg e, text_other.2 e]; rfl
theorem hasB_end {l : List (Rw Int)} (hs : SR l) {k : ByteArray} (h : ¬ plc l k < l.length) : hasB l k = false := by
  unfold hasB
  rw [get_plc hs, dif_neg h]; rfl
set_option maxHeartbeats 1000000 in
theorem find_any {S : Nat → Prop} {w : World} {B : Nat} {t : Tb Int} (key : ByteArray) (h : PtAt S w B t) :
    Calls Try.prog 28 #[.pointer (some ⟨B, 0, none⟩), .string key] w fun e w' => e = .returned (.tuple #[.int .i64 (plc t.l key : Int), .bool (hasB t.l key)]) ∧ Below w.heap.size w w' := by
  obtain ⟨hok, A, c, h⟩ := h
  have h64 : t.l.length ≤ 64 := Nat.le_trans hok.len hok.most.2
  obtain ⟨X, hX⟩ : ∃ X, w.heap.size = X := ⟨_, rfl⟩
  have b1 := below1 w #[.pointer (some ⟨B, 0, none⟩)] 23
  have k1 := heap_alloc_new w (.cells #[.pointer (some ⟨B, 0, none⟩)] 23)
  obtain ⟨W1, hW1⟩ : ∃ W1, w.alloc (.cells #[.pointer (some ⟨B, 0, none⟩)] 23) = W1 := ⟨_, rfl⟩
  have s1 : W1.heap.size = X + 1 := by rw [← hW1, ← hX]; simp
  rw [hW1] at b1 k1
  have b2 := below1 W1 #[.string key] 9
  have k2 := heap_alloc_new W1 (.cells #[.string key] 9)
  obtain ⟨W2, hW2⟩ : ∃ W2, W1.alloc (.cells #[.string key] 9) = W2 := ⟨_, rfl⟩
  rw [hW2] at b2 k2
  rw [hX] at k1
  rw [s1] at k2
  have k1' := (b2.block X (by omega)).trans k1
  have h2 := (h.below b1).below b2
  have hb2 : Below w.heap.size w W2 := b1.trans (b2.mono b1.size)
  have hs := hok.rise
  have HQ : Hid (∀ m : Nat, m ≤ t.l.length → (∀ i, i < m → geK t.l key i = false) → (∀ i, m ≤ i → i < t.l.length → geK t.l key i = true) → plc t.l key = m) := Lib.hid fun m a b c => geK_plc hs a b c
  have HS := Lib.hid (search_any t.l.length (by omega) #[.pointer (some ⟨X, 0, none⟩), .pointer (some ⟨X + 1, 0, none⟩)] (geK t.l key) W2 (fun i W hi hw => closure_any key X (X + 1) i (h2.below hw) ((hw.block X (block_lt k1')).trans k1') ((hw.block (X + 1) (block_lt k2)).trans k2) hi) (geK_mono hs key))
  have HT := Lib.hid h2
  have HB2 := Lib.hid hb2
  have HK1 := Lib.hid k1'
  have HK2 := Lib.hid k2
  have HX := Lib.hid hX
  have HW1 := Lib.hid hW1
  have HW2 := Lib.hid hW2
  have HS1 := Lib.hid s1
  have HR := Lib.hid hs
  have c2 := h.c2
  have hBl := h.lt
  clear hok h b1 k1 hW1 b2 k2 hW2 k1' h2 hb2 hs hX s1
  obtain ⟨L, hL⟩ : ∃ L, t.l.length = L := ⟨_, rfl⟩
  rw [hL] at c2 h64 HS HQ
  have HL := Lib.hid hL
  clear hL
  obtain ⟨pl, hpl⟩ : ∃ pl, plc t.l key = pl := ⟨_, rfl⟩
  obtain ⟨hv, hhv⟩ : ∃ hv, hasB t.l key = hv := ⟨_, rfl⟩
  rw [hpl, hhv]
  have HPl := Lib.hid hpl
  have HHv := Lib.hid hhv
  clear hpl hhv
  go_enter Try.func28, Try.ntmps28
  go_wp2_with fail
  rw [HW1.out, HX.out, HW2.out]
  go_wp2_with fail
  refine HS.out.mono ?_
  rintro e w3 ⟨m, rfl, hm, hI, hb3⟩
  have hq := HQ.out m hm hI.1 hI.2
  have ht := HT.out.below hb3
  have k1 := (hb3.block X (block_lt HK1.out)).trans HK1.out
  have k2 := (hb3.block (X + 1) (block_lt HK2.out)).trans HK2.out
  have d1 : w3.cell? ⟨X, 0, none⟩ = some (.pointer (some ⟨B, 0, none⟩)) := by rw [cell_of_row _ _ _ _ _ _ k1]; rfl
  have d2 : w3.cell? ⟨X + 1, 0, none⟩ = some (.string key) := by rw [cell_of_row _ _ _ _ _ _ k2]; rfl
  have d3 : w3.cell? ⟨B, 2, none⟩ = some (.slice A L c) := by have := ht.c2; rw [HL.out] at this; exact this
  have HB3 : Hid (Below w.heap.size w w3) := Lib.hid (HB2.out.trans (hb3.mono HB2.out.size))
  obtain rfl : m = pl := hq.symm.trans HPl.out
  by_cases hlt : m < L
  · have hml : m < t.l.length := by rw [HL.out]; exact hlt
    have hp : hasB t.l key = ((t.l[m]'hml).key.toList == key.toList) := by
      have := hasB_at HR.out (k := key) (by rw [hq]; exact hml)
      simp only [hq] at this
      exact this
    obtain ⟨b, off, rfl, hbl, hit⟩ := ht.row.at_ hml hml
    obtain ⟨r, hr⟩ : ∃ r, t.l[m] = r := ⟨_, rfl⟩
    rw [hr] at hit hp
    obtain ⟨e0, e1, e2, e3⟩ := tr_cells hit
    obtain rfl : hv = (r.key.toList == key.toList) := HHv.out.symm.trans hp
    have g0 : decide ((m : Int) < (L : Int)) = true := decide_eq_true (by omega)
    have g1 : decide (m < L) = true := decide_eq_true hlt
    have n0 : (0 : Int) ≤ (m : Int) := by omega
    have n1 : (m : Int) < (L : Int) := by omega
    clear hp HHv hit hr e1 e2 e3 hq ht k1 k2 hb3 hI c2 hBl HS hml
    go_wp2
    go_quiet (fail)
    go_wp2
    go_ret2
    exact ⟨rfl, below_drewN HB3.out _⟩
  · have hp : hasB t.l key = false := hasB_end HR.out (by rw [hq, HL.out]; exact hlt)
    obtain rfl : hv = false := HHv.out.symm.trans hp
    have g0 : decide ((m : Int) < (L : Int)) = false := decide_eq_false (by omega)
    have g1 : decide (m < L) = false := decide_eq_false hlt
    clear hp HHv hq ht k1 k2 hb3 hI c2 hBl HS
    go_wp2
    go_quiet (fail)
    go_wp2
    go_ret2
    exact ⟨rfl, below_drewN HB3.out _⟩
end Go.Proofs.Ytphjlcogjalidaa
