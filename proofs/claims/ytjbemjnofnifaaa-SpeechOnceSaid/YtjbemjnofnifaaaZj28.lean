/-
  The small functions of the program's package frame, walked (layer 3): Size, bodyLen, first, and the conditions.
-/
import Derived.Test.YtjbemjnofnifaaaZj10
import Derived.Test.YtjbemjnofnifaaaZj27
import Derived.WalkSmall
namespace Go.Proofs.Ytjbemjnofnifaaa
open Go.RowKit
set_option linter.unusedSimpArgs false

theorem ret_int {k : IntKind} {a b : Int} (h : a = b) : Ending.returned (.int k a) = .returned (.int k b) := by rw [h]
theorem ret_boolF {a b : Bool} (h : a = b) : Ending.returned (.bool a) = .returned (.bool b) := by rw [h]
def sizeI (n : Int) : Int := if 0 ≤ n ∧ n ≤ 1000 then n + 7 else 0
theorem sizeI_in {n : Nat} (h : n ≤ 1000) : sizeI (n : Int) = ((n + 7 : Nat) : Int) := by unfold sizeI; rw [if_pos (by omega)]; omega

set_option maxHeartbeats 400000 in
theorem size_any (n : Int) (w : World) : Calls Try.prog 76 #[.int .i64 n] w fun e w' => e = .returned (.int .i64 (sizeI n)) ∧ w = w' := by
  by_cases h1 : n < 0
  · have HE : Hid (sizeI n = 0) := Lib.hid (by unfold sizeI; rw [if_neg (by omega)])
    go_enter Try.func76, Try.ntmps76
    go_wp2
    go_ret
    exact ⟨by rw [HE.out]; rfl, rfl⟩
  · by_cases h2 : n ≤ 1000
    · have HE : Hid (sizeI n = n + 7) := Lib.hid (by unfold sizeI; rw [if_pos (by omega)])
      have h0 : 0 ≤ n := by omega
      clear h1
      go_enter Try.func76, Try.ntmps76
      go_wp2
      go_ret
      exact ⟨by rw [HE.out]; exact ret_int (by omega), rfl⟩
    · have HE : Hid (sizeI n = 0) := Lib.hid (by unfold sizeI; rw [if_neg (by omega)])
      have h3 : 1000 < n := by omega
      clear h2
      go_enter Try.func76, Try.ntmps76
      go_wp2
      go_ret
      exact ⟨by rw [HE.out]; rfl, rfl⟩


theorem or_bytes (a c : UInt8) : bits .or .i64 ((a.toNat : Int) * 256) (c.toNat : Int) = ((a.toNat * 256 + c.toNat : Nat) : Int) := by
  have ha := a.toNat_lt
  have hc := c.toNat_lt
  have e : ((a.toNat : Int) * 256) = ((a.toNat * 256 : Nat) : Int) := by omega
  have o : a.toNat * 256 ||| c.toNat = a.toNat * 256 + c.toNat := by
    have := Nat.shiftLeft_add_eq_or_of_lt (i := 8) (b := c.toNat) (by omega) a.toNat
    rw [Nat.shiftLeft_eq] at this
    exact this.symm
  have k : ∀ x : Nat, x < 65536 → (BitVec.ofInt 64 (x : Int)).toNat = x := fun x hx => by rw [BitVec.toNat_ofInt]; omega
  rw [e]
  show IntKind.i64.wrap ((BitVec.ofInt 64 ((a.toNat * 256 : Nat) : Int) ||| BitVec.ofInt 64 (c.toNat : Int)).toNat : Int) = _
  rw [BitVec.toNat_or, k _ (by omega), k _ (by omega), o]
  exact IntWalk.i64_in _ (by omega)

set_option maxHeartbeats 400000 in
theorem bodyLen_any (A : Option Addr) (n c : Nat) (xs : List UInt8) (w : World) (h : RB w A n xs) (hn : 3 ≤ n) :
    Calls Try.prog 90 #[.slice A n c] w fun e w' => e = .returned (.int .i64 (bodyN xs : Int)) ∧ Below w.heap.size w w' := by
  obtain ⟨b, off, rfl, hb, hcell⟩ := h.at_ (by omega)
  have c1 := hcell 1 (by omega)
  have c2 := hcell 2 (by omega)
  obtain ⟨x1, hx1⟩ : ∃ x, xs.getD 1 0 = x := ⟨_, rfl⟩
  obtain ⟨x2, hx2⟩ : ∃ x, xs.getD 2 0 = x := ⟨_, rfl⟩
  rw [hx1] at c1
  rw [hx2] at c2
  have HE : Hid (bodyN xs = x1.toNat * 256 + x2.toNat) := Lib.hid (by rw [bodyN, hx1, hx2])
  have l1 := x1.toNat_lt
  have l2 := x2.toNat_lt
  have n1 : (1 : Int) < (n : Int) := by omega
  have n2 : (2 : Int) < (n : Int) := by omega
  clear hcell hx1 hx2 h
  go_enter Try.func90, Try.ntmps90
  go_wp2
  go_quiet (fail)
  go_wp2
  go_ret
  exact ⟨by rw [HE.out, ← or_bytes]; rfl, below_drewN (Below.refl _ _) nq⟩

/-! ### The conditions on bytes -/
set_option maxHeartbeats 400000 in
theorem c1_any (A : Option Addr) (n c : Nat) (w : World) : Calls Try.prog 87 #[.slice A n c] w fun e w' => e = .returned (.bool (decide (3 ≤ n))) ∧ w = w' := by
  have HE : Hid (decide ((3 : Int) ≤ (n : Int)) = decide (3 ≤ n)) := Lib.hid (by rw [decide_eq_decide]; omega)
  go_enter Try.func87, Try.ntmps87
  go_wp2
  go_ret
  exact ⟨ret_boolF HE.out, rfl⟩
set_option maxHeartbeats 400000 in
theorem c2_any (A : Option Addr) (n c : Nat) (xs : List UInt8) (w : World) (h : RB w A n xs) (hn : 3 ≤ n) :
    Calls Try.prog 88 #[.slice A n c] w fun e w' => e = .returned (.bool (decide (xs.getD 0 0 ≠ 0))) ∧ w = w' := by
  obtain ⟨b, off, rfl, hb, hcell⟩ := h.at_ (by omega)
  have c1 := hcell 0 (by omega)
  rw [Nat.add_zero] at c1
  obtain ⟨x1, hx1⟩ : ∃ x, xs.getD 0 0 = x := ⟨_, rfl⟩
  rw [hx1] at c1 ⊢
  have n1 : (0 : Int) < (n : Int) := by omega
  clear hcell hx1 h
  have HE : Hid (((x1.toNat : Int) != 0) = decide (x1 ≠ 0)) := Lib.hid (by
    by_cases e : x1 = 0
    · subst e; rfl
    · rw [decide_eq_true e, bne_iff_ne]
      intro h0
      exact e (UInt8.toNat_inj.1 (by show x1.toNat = 0; omega)))
  go_enter Try.func88, Try.ntmps88
  go_wp2
  go_ret
  exact ⟨ret_boolF HE.out, rfl⟩
set_option maxHeartbeats 400000 in
theorem c3_any (A : Option Addr) (n c : Nat) (xs : List UInt8) (w : World) (h : RB w A n xs) (hn : 3 ≤ n) :
    Calls Try.prog 89 #[.slice A n c] w fun e w' => e = .returned (.bool (decide (bodyN xs ≤ 1000))) ∧ Below w.heap.size w w' := by
  have s1 := bodyLen_any A n c xs w h hn
  obtain ⟨m, hm⟩ : ∃ m, bodyN xs = m := ⟨_, rfl⟩
  rw [hm] at s1 ⊢
  have HE : Hid (decide ((m : Int) ≤ 1000) = decide (m ≤ 1000)) := Lib.hid (by rw [decide_eq_decide]; omega)
  clear hm h
  go_enter Try.func89, Try.ntmps89
  go_wp2_with fail
  refine s1.mono ?_
  rintro e w1 ⟨rfl, hb⟩
  have HB := Lib.hid hb
  clear hb s1
  go_wp2
  go_ret
  exact ⟨ret_boolF HE.out, HB.out⟩
set_option maxHeartbeats 400000 in
theorem c4_any (A : Option Addr) (n c : Nat) (xs : List UInt8) (w : World) (h : RB w A n xs) (hn : 3 ≤ n) (hm : bodyN xs ≤ 1000) :
    Calls Try.prog 91 #[.slice A n c] w fun e w' => e = .returned (.bool (decide (bodyN xs + 7 ≤ n))) ∧ Below w.heap.size w w' := by
  have s1 := bodyLen_any A n c xs w h hn
  obtain ⟨m, hm1⟩ : ∃ m, bodyN xs = m := ⟨_, rfl⟩
  rw [hm1] at s1 hm ⊢
  have s2 := fun w1 => size_any (m : Int) w1
  rw [sizeI_in hm] at s2
  obtain ⟨k, hk⟩ : ∃ k, m + 7 = k := ⟨_, rfl⟩
  rw [hk] at s2 ⊢
  have HE : Hid (decide ((k : Int) ≤ (n : Int)) = decide (k ≤ n)) := Lib.hid (by rw [decide_eq_decide]; omega)
  clear hm1 h hk
  go_enter Try.func91, Try.ntmps91
  go_wp2_with fail
  refine s1.mono ?_
  rintro e w1 ⟨rfl, hb⟩
  have HB := Lib.hid hb
  clear hb s1
  go_wp2_with fail
  refine (s2 w1).mono ?_
  rintro e w1 ⟨rfl, rfl⟩
  go_wp2
  go_ret
  exact ⟨rfl, HB.out⟩
/-- The bytes of the frame with which bytes begin. -/
theorem first_any (b off n c : Nat) (xs : List UInt8) (w : World) (h : RB w (some ⟨b, off, none⟩) n xs) (hc : n ≤ c) (hn : 3 ≤ n) (hm : bodyN xs ≤ 1000) (hl : bodyN xs + 7 ≤ n) :
    Calls Try.prog 94 #[.slice (some ⟨b, off, none⟩) n c] w fun e w' => e = .returned (.slice (some ⟨b, off, none⟩) (bodyN xs + 7) (bodyN xs + 7)) ∧ Below w.heap.size w w' := by
  have s1 := bodyLen_any _ n c xs w h hn
  obtain ⟨m, hm1⟩ : ∃ m, bodyN xs = m := ⟨_, rfl⟩
  rw [hm1] at s1 hm hl ⊢
  have s2 := fun w1 => size_any (m : Int) w1
  rw [sizeI_in hm] at s2
  obtain ⟨k, hk⟩ : ∃ k, m + 7 = k := ⟨_, rfl⟩
  rw [hk] at s2 hl ⊢
  clear hm1 h hk hm
  have hc' : k ≤ c := by omega
  go_enter Try.func94, Try.ntmps94
  go_wp2_with fail
  refine s1.mono ?_
  rintro e w1 ⟨rfl, hb⟩
  have HB := Lib.hid hb
  clear hb s1
  go_wp2_with fail
  refine (s2 w1).mono ?_
  rintro e w1 ⟨rfl, rfl⟩
  go_wp2
  go_ret
  exact ⟨rfl, HB.out⟩
set_option maxHeartbeats 400000 in
theorem c5_any (b off n c : Nat) (xs : List UInt8) (w : World) (h : RB w (some ⟨b, off, none⟩) n xs) (hc : n ≤ c) (hn : 3 ≤ n) (hm : bodyN xs ≤ 1000) (hl : bodyN xs + 7 ≤ n) :
    Calls Try.prog 92 #[.slice (some ⟨b, off, none⟩) n c] w fun e w' => e = .returned (.bool (sealedB (xs.take (bodyN xs + 7)))) ∧ Below w.heap.size w w' := by
  have s1 := first_any b off n c xs w h hc hn hm hl
  have HR := Lib.hid (h.take hl)
  obtain ⟨k, hk⟩ : ∃ k, bodyN xs + 7 = k := ⟨_, rfl⟩
  rw [hk] at s1 HR hl ⊢
  have hk2 : k ≤ 1007 := by omega
  clear hk h hm
  go_enter Try.func92, Try.ntmps92
  go_wp2_with fail
  refine s1.mono ?_
  rintro e w1 ⟨rfl, hb⟩
  have HB := Lib.hid hb
  have s2 := con_held.sealed (some ⟨b, off, none⟩) k k (xs.take k) w1 (HR.out.below HB.out) (fun e => by cases e) (Nat.le_refl _) (by omega)
  clear hb s1
  go_wp2_with fail
  refine s2.mono ?_
  rintro e w2 ⟨rfl, hb⟩
  have HB2 := Lib.hid (HB.out.trans (hb.mono HB.out.size))
  clear hb s2
  go_wp2
  go_ret
  exact ⟨rfl, HB2.out⟩
/-! ### The conditions on a frame -/
set_option maxHeartbeats 400000 in
theorem f1_any (k : UInt8) (V : Value) (w : World) : Calls Try.prog 71 #[.agg #[.int .u8 (k.toNat : Int), V]] w fun e w' => e = .returned (.bool (decide (k ≠ 0))) ∧ Below w.heap.size w w' := by
  have HE : Hid (((k.toNat : Int) != 0) = decide (k ≠ 0)) := Lib.hid (by
    by_cases e : k = 0
    · subst e; rfl
    · rw [decide_eq_true e, bne_iff_ne]
      intro h0
      exact e (UInt8.toNat_inj.1 (by show k.toNat = 0; omega)))
  go_enter Try.func71, Try.ntmps71
  go_wp2
  go_ret
  exact ⟨ret_boolF HE.out, (Below.refl _ _).alloc (Nat.le_refl _) _⟩
set_option maxHeartbeats 400000 in
theorem f2_any (v0 : Value) (A : Option Addr) (n c : Nat) (w : World) : Calls Try.prog 72 #[.agg #[v0, .slice A n c]] w fun e w' => e = .returned (.bool (decide (n ≤ 1000))) ∧ Below w.heap.size w w' := by
  have HE : Hid (decide ((n : Int) ≤ 1000) = decide (n ≤ 1000)) := Lib.hid (by rw [decide_eq_decide]; omega)
  go_enter Try.func72, Try.ntmps72
  go_wp2
  go_ret
  exact ⟨ret_boolF HE.out, (Below.refl _ _).alloc (Nat.le_refl _) _⟩
end Go.Proofs.Ytjbemjnofnifaaa
