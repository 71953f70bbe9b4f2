/-
  The program's Right and Put (layer 20).
-/
import Derived.Test.YtbhhalkpghcflaaZj24
namespace Go.Proofs.Ytbhhalkpghcflaa
open Go.RowKit
set_option linter.unusedSimpArgs false
set_option linter.unusedVariables false

theorem all_range {n : Nat} {f : Nat → Bool} (h : (List.range n).all f = true) {k : Nat} (hk : k < n) : f k = true := List.all_eq_true.1 h k (List.mem_range.2 hk)
theorem fOk_all {x : CmW} {tags : List (List UInt8)} (h : fieldsOk x.kind.toNat (x.vals tags) = true) : FOk x tags := fun k v hv hb => by
  have hk : k < 15 := (List.getElem?_eq_some_iff.1 hv).1
  have h1 := all_range h hk
  simp only [fOk, hb, if_true, List.getD_eq_getElem?_getD, hv, Option.getD_some] at h1
  exact h1
theorem kind_of {k : Int} (h : kindOk k = true) : 1 ≤ k ∧ k ≤ 18 := by
  unfold kindOk at h
  simpa using h
theorem not15 {k : Int} (h : kindOk k = true) (h18 : k ≠ 18) : hasB k.toNat 15 = false := by
  have hk := kind_of h
  have : ∀ n : Nat, n < 18 → hasB n 15 = false := by decide
  exact this _ (by omega)
theorem preB_any {x : CmW} {tags : List (List UInt8)} {a b : List UInt8} (h : hasB x.kind.toNat 15 = false) : preB x tags a 16 = preB x tags b 16 := by
  have : ∀ k, k ≤ 15 → preB x tags a k = preB x tags b k := fun k hk => by
    induction k with
    | zero => rfl
    | succ k ih =>
      unfold preB
      rw [ih (by omega), List.getElem?_eq_getElem (show k < (x.vals tags).length by show k < 15; omega)]
  unfold preB
  rw [this 15 (by omega), h]
  rfl
theorem sub_lays {w : World} {y : Sub} (h : Cm0 w y.1 y.2) (hok : subOk y = true) : LaysS w y.1 (subB y) := by
  unfold subOk at hok
  simp only [Bool.and_eq_true, Bool.not_eq_true', decide_eq_false_iff_not, decide_eq_true_eq] at hok
  obtain ⟨⟨⟨hk, h18⟩, hf⟩, hsn⟩ := hok
  have h15 := not15 hk h18
  have hki := kind_of hk
  refine ⟨?_, fun w' hb v ys hv hy => ?_⟩
  · have h1 := preB_len (sB := []) h (fOk_all hf) (by omega) 15 (by omega)
    show (preB y.1 y.2 [] 16).length ≤ 11000
    unfold preB
    rw [h15]
    simp
    omega
  · have h1 := lay_gen y.1 y.2 [] v ys w' (h.below hb) (fOk_all hf) hki hv hy (fun e => by rw [h15] at e; cases e)
    rw [show cmdB y.1 y.2 [] = subB y from preB_any h15] at h1
    exact h1
theorem lay_ok {w : World} {x : CmW} {tags : List (List UInt8)} {subs : List Sub} (h : Cm1 w x tags subs) (hok : cmdOk x tags subs = true) {v : Value} {ys : List UInt8} (hv : Bs w v ys) (hy : ys.length ≤ 100000) : Calls Try.prog 20 #[v, cmV x] w (LaysT w (ys ++ cmdB x tags subs)) := by
  unfold cmdOk at hok
  simp only [Bool.and_eq_true] at hok
  obtain ⟨⟨hk, hf⟩, hs⟩ := hok
  refine lay_gen x tags subs v ys w h.top (fOk_all hf) (kind_of hk) hv (by omega) (fun e => ?_)
  rw [e] at hs
  simp only [if_true, Bool.and_eq_true, decide_eq_true_eq, List.all_eq_true] at hs
  exact ⟨by omega, hs.1, h.row, fun y hy => sub_lays (h.each y hy) (hs.2 y hy)⟩
theorem Right_any (x : CmW) (tags : List (List UInt8)) (subs : List Sub) (w : World) (h : Cm1 w x tags subs) : Calls Try.prog 8 #[cmV x] w (YesB (cmdOk x tags subs) w) := by
  have hb0 := (Below.refl _ w).alloc (Nat.le_refl _) (.cells (cmC x).toArray TCm)
  have C := Lib.hid (right_all x tags subs _ (h.below hb0))
  have HIt := Lib.hid (Bx.new w x).item
  have HB := Lib.hid hb0
  obtain ⟨R, hR⟩ : ∃ R, cmdOk x tags subs = R := ⟨_, rfl⟩
  rw [hR] at C ⊢
  clear h hb0 hR
  unfold cmV strV
  unfold cmV cmC strV at C
  go_enter Try.func8, Try.ntmps8
  go_wp2_with (first | (refine wpList_load_mid rfl TCm (.tmp 1) rfl w.heap.size 0 rfl (cmC x) _ HIt.out Try.underlying26 rfl (by kernel_rfl) ?_; unfold cmC strV) | (go_at_call 16; refine C.out.mono ?_; rintro e w6 ⟨rfl, hb6⟩; have HB6 := Lib.hid hb6; clear hb6))
  go_ret
  exact ⟨rfl, HB.out.trans (HB6.out.mono (by simp))⟩
/-- An order as it stands in memory. -/
def orV (cl : Int) (sq : Nat) (x : CmW) : Value := .agg (#[.int .i64 cl, .int .u32 (sq : Int)] ++ (cmC x).toArray)
def orC (cl : Int) (sq : Nat) (x : CmW) : List Value := [.int .i64 cl, .int .u32 (sq : Int)] ++ cmC x
abbrev TOr : TypeId := 31
def ordOk (cl : Int) (x : CmW) (tags : List (List UInt8)) (subs : List Sub) : Bool := cmdOk x tags subs && decide (0 ≤ cl) && decide (cl ≤ 15)
def ordB (cl : Int) (sq : Nat) (x : CmW) (tags : List (List UInt8)) (subs : List Sub) : List UInt8 := numB cl.toNat ++ numB sq ++ cmdB x tags subs
/-- What Put hands back. -/
def PutP (w : World) (ok : Bool) (ys : List UInt8) (e : Ending) (w' : World) : Prop := Below w.heap.size w w' ∧ (ok = false → e = .returned (.tuple #[.slice none 0 0, .int .i64 2])) ∧ (ok = true → ∃ v, e = .returned (.tuple #[v, .int .i64 0]) ∧ Bs w' v ys)
theorem or_box (w : World) (cl : Int) (sq : Nat) (x : CmW) : World.rangeAt (w.alloc (.cells (orC cl sq x).toArray TOr)) w.heap.size 0 (orC cl sq x) := fun j v hv => by
  rw [Nat.zero_add, cell_of_row _ w.heap.size j _ TOr (0, 0) (heap_alloc_new w _)]
  simpa using hv
theorem or_item {w : World} {N : Nat} {cl : Int} {sq : Nat} {x : CmW} (h : World.rangeAt w N 0 (orC cl sq x)) : ItAt cmC w N 2 x := fun j v hv => by
  have := h (2 + j) v (by show (orC cl sq x)[2 + j]? = some v; rw [show 2 + j = j + 2 by omega]; exact hv)
  rwa [Nat.zero_add] at this
theorem range_below {w w' : World} {N B : Nat} {cs : List Value} (h : World.rangeAt w N 0 cs) (hb : Below B w w') (hN : N < B) : World.rangeAt w' N 0 cs := fun j v hv => (hb.cell (p := ⟨N, 0 + j, none⟩) hN).trans (h j v hv)
set_option maxHeartbeats 2000000 in
theorem Put_any (cl : Int) (sq : Nat) (x : CmW) (tags : List (List UInt8)) (subs : List Sub) (w : World) (h : Cm1 w x tags subs) (hcl : -9223372036854775808 ≤ cl ∧ cl ≤ 9223372036854775807) (hsq : sq < 4294967296) :
    Calls Try.prog 11 #[orV cl sq x] w (PutP w (ordOk cl x tags subs) (ordB cl sq x tags subs)) := by
  have hb0 := (Below.refl _ w).alloc (Nat.le_refl _) (.cells (orC cl sq x).toArray TOr)
  have C := Lib.hid (Right_any x tags subs _ (h.below hb0))
  have HOB := Lib.hid (or_box w cl sq x)
  have HIt := Lib.hid (or_item (or_box w cl sq x))
  have HB := Lib.hid hb0
  have H := Lib.hid h
  unfold cmV strV at C
  unfold orC cmC strV at C
  cases hr : cmdOk x tags subs with
  | false =>
    have ho : ordOk cl x tags subs = false := by unfold ordOk; rw [hr]; rfl
    rw [ho]
    rw [hr] at C
    clear h hb0 ho hr
    unfold orV cmC strV
    go_enter Try.func11, Try.ntmps11
    go_wp2_with (first | (refine wpList_load_mid rfl TCm (.tmp 5) rfl w.heap.size 2 rfl (cmC x) _ HIt.out Try.underlying26 rfl (by kernel_rfl) ?_; unfold cmC strV) | (go_at_call 8; refine C.out.mono ?_; rintro e w6 ⟨rfl, hb6⟩; have HB6 := Lib.hid hb6; clear hb6))
    go_ret2
    exact ⟨HB.out.trans (HB6.out.mono (by simp)), fun _ => rfl, fun e => by cases e⟩
  | true =>
    have HOK := Lib.hid hr
    rw [hr] at C
    by_cases hc : 0 ≤ cl ∧ cl ≤ 15
    · have ho : ordOk cl x tags subs = true := by unfold ordOk; rw [hr, decide_eq_true hc.1, decide_eq_true hc.2]; rfl
      rw [ho]
      obtain ⟨CN, hCN⟩ : ∃ CN : Nat, cl = CN := ⟨cl.toNat, by omega⟩
      have hcn : CN ≤ 15 := by omega
      have C1 := Lib.hid (fun W => (Num_any none 0 0 [] CN (by omega) W ⟨rfl, fun h => absurd h (by decide)⟩ (fun _ => rfl) (Nat.le_refl _) (by omega)).mono fun e w' h => lays_of h)
      have C2 : Hid (∀ v W, Bs W v (numB CN) → Calls Try.prog 19 #[v, .int .u64 (sq : Int)] W (LaysT W (numB CN ++ numB sq))) := Lib.hid (fun v W hv => by
        obtain ⟨A0, c0, rfl, hr0, hn0, hnc0, hcm0⟩ := hv.ex
        have := numB_le (n := CN) (by omega)
        exact (Num_any A0 (numB CN).length c0 (numB CN) sq (by omega) W hr0 hn0 hnc0 (by omega)).mono fun e w' h => lays_of h)
      have C3 := Lib.hid (fun v W (hb : Below w.heap.size w W) (hv : Bs W v (numB CN ++ numB sq)) => lay_ok (H.out.below hb) HOK.out hv (by
        have h1 := numB_le (n := CN) (by omega)
        have h2 := numB_le (n := sq) (by omega)
        rw [List.length_append]
        omega))
      have EB := Lib.hid (show ordB cl sq x tags subs = numB CN ++ numB sq ++ cmdB x tags subs by unfold ordB; rw [hCN]; rfl)
      have HCN := Lib.hid hCN
      have e1 : IntKind.u64.wrap cl = cl := by unfold IntKind.wrap; simp [IntKind.signed, IntKind.bits]; omega
      have e2 : IntKind.u64.wrap (sq : Int) = (sq : Int) := by unfold IntKind.wrap; simp [IntKind.signed, IntKind.bits]; omega
      have n1 : ¬ cl < 0 := by omega
      have n2 : ¬ 15 < cl := by omega
      have n3 : 0 ≤ cl := by omega
      clear h hb0 ho hr hCN hcl hsq hc
      unfold cmV strV at C3
      unfold orV cmC strV
      go_enter Try.func11, Try.ntmps11
      go_wp2_with (first | (refine wpList_load_mid rfl TCm (.tmp 5) rfl w.heap.size 2 rfl (cmC x) _ HIt.out Try.underlying26 rfl (by kernel_rfl) ?_; unfold cmC strV) | (go_at_call 8; refine C.out.mono ?_; rintro e w6 ⟨rfl, hb6⟩; have HB6 := Lib.hid (HB.out.trans (hb6.mono (by simp))); have HO6 := Lib.hid (range_below HOB.out hb6 (by simp)); have hc0 : w6.cell? ⟨w.heap.size, 0, none⟩ = some (.int .i64 cl) := HO6.out 0 _ rfl; clear hb6))
      have C1' : Hid (Calls Try.prog 19 #[.slice none 0 0, .int .u64 cl] _ _) := Lib.hid (by rw [HCN.out]; exact C1.out w6)
      refine C1'.out.mono ?_
      rintro e w7 ⟨v7, rfl, hv7, hb7⟩
      have HV7 := Lib.hid hv7
      have HB7 := Lib.hid (HB6.out.trans (hb7.mono HB6.out.size))
      have HO7 := Lib.hid (range_below HO6.out hb7 (World.block_lt_of_cell? _ _ hc0))
      clear hc0 hv7 hb7 C1' C1
      have hc1 : w7.cell? ⟨w.heap.size, 1, none⟩ = some (.int .u32 (sq : Int)) := HO7.out 1 _ rfl
      go_wp2_with fail
      refine (C2.out _ _ HV7.out).mono ?_
      rintro e w8 ⟨v8, rfl, hv8, hb8⟩
      have HV8 := Lib.hid hv8
      have HB8 := Lib.hid (HB7.out.trans (hb8.mono HB7.out.size))
      have HI8 := Lib.hid (or_item (range_below HO7.out hb8 (World.block_lt_of_cell? _ _ hc1)))
      clear hc1 hv8 hb8 C2
      go_wp2_with (refine wpList_load_mid rfl TCm (.tmp 29) rfl w.heap.size 2 rfl (cmC x) _ HI8.out Try.underlying26 rfl (by kernel_rfl) ?_; unfold cmC strV)
      refine (C3.out _ _ HB8.out HV8.out).mono ?_
      rintro e w9 ⟨v9, rfl, hv9, hb9⟩
      have HV9 := Lib.hid hv9
      have HB9 := Lib.hid (HB8.out.trans (hb9.mono HB8.out.size))
      clear hv9 hb9 C3
      go_wp2
      go_ret2
      exact ⟨HB9.out, (fun e => by cases e), fun _ => ⟨_, rfl, by rw [EB.out]; exact HV9.out⟩⟩
    · have ho : ordOk cl x tags subs = false := by
        unfold ordOk
        rw [hr]
        simp
        omega
      rw [ho]
      clear h hb0 ho hr
      unfold orV cmC strV
      by_cases hneg : cl < 0
      · go_enter Try.func11, Try.ntmps11
        go_wp2_with (first | (refine wpList_load_mid rfl TCm (.tmp 5) rfl w.heap.size 2 rfl (cmC x) _ HIt.out Try.underlying26 rfl (by kernel_rfl) ?_; unfold cmC strV) | (go_at_call 8; refine C.out.mono ?_; rintro e w6 ⟨rfl, hb6⟩; have HB6 := Lib.hid hb6; have hc0 : w6.cell? ⟨w.heap.size, 0, none⟩ = some (.int .i64 cl) := range_below HOB.out hb6 (by simp) 0 _ rfl; clear hb6))
        go_ret2
        exact ⟨HB.out.trans (HB6.out.mono (by simp)), fun _ => rfl, fun e => by cases e⟩
      · have hbig : 15 < cl := by omega
        go_enter Try.func11, Try.ntmps11
        go_wp2_with (first | (refine wpList_load_mid rfl TCm (.tmp 5) rfl w.heap.size 2 rfl (cmC x) _ HIt.out Try.underlying26 rfl (by kernel_rfl) ?_; unfold cmC strV) | (go_at_call 8; refine C.out.mono ?_; rintro e w6 ⟨rfl, hb6⟩; have HB6 := Lib.hid hb6; have hc0 : w6.cell? ⟨w.heap.size, 0, none⟩ = some (.int .i64 cl) := range_below HOB.out hb6 (by simp) 0 _ rfl; clear hb6))
        go_ret2
        exact ⟨HB.out.trans (HB6.out.mono (by simp)), fun _ => rfl, fun e => by cases e⟩
end Go.Proofs.Ytbhhalkpghcflaa
