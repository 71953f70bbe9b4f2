import Derived.Test.YtaicipldjmngaaaGreatDoorZj18
import Derived.Test.YtaicipldjmngaaaGreatDoorZj31
import Derived.WalkSmall
import Derived.Deep.LoopGhost
import Derived.WalkMore
import Derived.Outline
import Derived.Laws.EntriesVeiled
import Derived.Test.YtaicipldjmngaaaGreatDoorZj15
import Derived.ArgAppend
import Derived.Test.YtaicipldjmngaaaGreatDoorZj2
import Derived.RegionTactic
import Derived.ChangeAlike
import Derived.StillTailTactics
import Derived.Lib.SlBytesConst
namespace Go.Proofs.YtaicipldjmngaaaGreatDoor
open Go.RowKit
set_option linter.unusedSimpArgs false
theorem ret_int {k : IntKind} {a b : Int} (h : a = b) : Ending.returned (.int k a) = .returned (.int k b) := by rw [h]
theorem ret_boolF {a b : Bool} (h : a = b) : Ending.returned (.bool a) = .returned (.bool b) := by rw [h]
def sizeI (n : Int) : Int := if 0 ≤ n ∧ n ≤ 1000 then n + 7 else 0
theorem sizeI_in {n : Nat} (h : n ≤ 1000) : sizeI (n : Int) = ((n + 7 : Nat) : Int) := by unfold sizeI; rw [if_pos (by omega)]; omega
set_option maxHeartbeats 400000 in
theorem size_any (n : Int) (w : World) : Calls Tryz.prog 156 #[.int .i64 n] w fun e w' => e = .returned (.int .i64 (sizeI n)) ∧ w = w' := by
  by_cases h1 : n < 0
  · have HE : Hid (sizeI n = 0) := Lib.hid (by unfold sizeI; rw [if_neg (by omega)])
    go_enter Tryz.func156, Tryz.ntmps156
    go_wp2
    go_ret
    exact ⟨by rw [HE.out]; rfl, rfl⟩
  · by_cases h2 : n ≤ 1000
    · have HE : Hid (sizeI n = n + 7) := Lib.hid (by unfold sizeI; rw [if_pos (by omega)])
      have h0 : 0 ≤ n := by omega
      clear h1
      go_enter Tryz.func156, Tryz.ntmps156
      go_wp2
      go_ret
      exact ⟨by rw [HE.out]; exact ret_int (by omega), rfl⟩
    · have HE : Hid (sizeI n = 0) := Lib.hid (by unfold sizeI; rw [if_neg (by omega)])
      have h3 : 1000 < n := by omega
      clear h2
      go_enter Tryz.func156, Tryz.ntmps156
      go_wp2
      go_ret
      exact ⟨by rw [HE.out]; rfl, rfl⟩
theorem or_bytes (a c : UInt8) : bits .or .i64 ((a.toNat : Int) * 256) (c.toNat : Int) = ((a.toNat * 256 + c.toNat : Nat) : Int) := by
  have ha := a.toNat_lt
  have hc := c.toNat_lt
  have e : ((a.toNat : Int) * 256) = ((a.toNat * 256 : Nat) : Int) := by omega
  have o : a.toNat * 256 ||| c.toNat = a.toNat * 256 + c.toNat := by
    have := Nat.shiftLeft_add_eq_or_of_lt (i := 8) (b := c.toNat) (by omega) a.toNat
    rw [Nat.shiftLeft_eq] at this
    exact this.symm
  have k : ∀ x : Nat, x < 65536 → (BitVec.ofInt 64 (x : Int)).toNat = x := fun x hx => by rw [BitVec.toNat_ofInt]; omega
  rw [e]
  show IntKind.i64.wrap ((BitVec.ofInt 64 ((a.toNat * 256 : Nat) : Int) ||| BitVec.ofInt 64 (c.toNat : Int)).toNat : Int) = _
  rw [BitVec.toNat_or, k _ (by omega), k _ (by omega), o]
  exact IntWalk.i64_in _ (by omega)
set_option maxHeartbeats 400000 in
theorem bodyLen_any (A : Option Addr) (n c : Nat) (xs : List UInt8) (w : World) (h : RB w A n xs) (hn : 3 ≤ n) :
    Calls Tryz.prog 210 #[.slice A n c] w fun e w' => e = .returned (.int .i64 (bodyN xs : Int)) ∧ Below w.heap.size w w' := by
  obtain ⟨b, off, rfl, hb, hcell⟩ := h.at_ (by omega)
  have c1 := hcell 1 (by omega)
  have c2 := hcell 2 (by omega)
  obtain ⟨x1, hx1⟩ : ∃ x, xs.getD 1 0 = x := ⟨_, rfl⟩
  obtain ⟨x2, hx2⟩ : ∃ x, xs.getD 2 0 = x := ⟨_, rfl⟩
  rw [hx1] at c1
  rw [hx2] at c2
  have HE : Hid (bodyN xs = x1.toNat * 256 + x2.toNat) := Lib.hid (by rw [bodyN, hx1, hx2])
  have l1 := x1.toNat_lt
  have l2 := x2.toNat_lt
  have n1 : (1 : Int) < (n : Int) := by omega
  have n2 : (2 : Int) < (n : Int) := by omega
  clear hcell hx1 hx2 h
  go_enter Tryz.func210, Tryz.ntmps210
  go_wp2
  go_quiet (fail)
  go_wp2
  go_ret
  exact ⟨by rw [HE.out, ← or_bytes]; rfl, below_drewN (Below.refl _ _) nq⟩
set_option maxHeartbeats 400000 in
theorem c1_any (A : Option Addr) (n c : Nat) (w : World) : Calls Tryz.prog 207 #[.slice A n c] w fun e w' => e = .returned (.bool (decide (3 ≤ n))) ∧ w = w' := by
  have HE : Hid (decide ((3 : Int) ≤ (n : Int)) = decide (3 ≤ n)) := Lib.hid (by rw [decide_eq_decide]; omega)
  go_enter Tryz.func207, Tryz.ntmps207
  go_wp2
  go_ret
  exact ⟨ret_boolF HE.out, rfl⟩
set_option maxHeartbeats 400000 in
theorem c2_any (A : Option Addr) (n c : Nat) (xs : List UInt8) (w : World) (h : RB w A n xs) (hn : 3 ≤ n) :
    Calls Tryz.prog 208 #[.slice A n c] w fun e w' => e = .returned (.bool (decide (xs.getD 0 0 ≠ 0))) ∧ w = w' := by
  obtain ⟨b, off, rfl, hb, hcell⟩ := h.at_ (by omega)
  have c1 := hcell 0 (by omega)
  rw [Nat.add_zero] at c1
  obtain ⟨x1, hx1⟩ : ∃ x, xs.getD 0 0 = x := ⟨_, rfl⟩
  rw [hx1] at c1 ⊢
  have n1 : (0 : Int) < (n : Int) := by omega
  clear hcell hx1 h
  have HE : Hid (((x1.toNat : Int) != 0) = decide (x1 ≠ 0)) := Lib.hid (by
    by_cases e : x1 = 0
    · subst e; rfl
    · rw [decide_eq_true e, bne_iff_ne]
      intro h0
      exact e (UInt8.toNat_inj.1 (by show x1.toNat = 0; omega)))
  go_enter Tryz.func208, Tryz.ntmps208
  go_wp2
  go_ret
  exact ⟨ret_boolF HE.out, rfl⟩
set_option maxHeartbeats 400000 in
theorem c3_any (A : Option Addr) (n c : Nat) (xs : List UInt8) (w : World) (h : RB w A n xs) (hn : 3 ≤ n) :
    Calls Tryz.prog 209 #[.slice A n c] w fun e w' => e = .returned (.bool (decide (bodyN xs ≤ 1000))) ∧ Below w.heap.size w w' := by
  have s1 := bodyLen_any A n c xs w h hn
  obtain ⟨m, hm⟩ : ∃ m, bodyN xs = m := ⟨_, rfl⟩
  rw [hm] at s1 ⊢
  have HE : Hid (decide ((m : Int) ≤ 1000) = decide (m ≤ 1000)) := Lib.hid (by rw [decide_eq_decide]; omega)
  clear hm h
  go_enter Tryz.func209, Tryz.ntmps209
  go_wp2_with fail
  refine s1.mono ?_
  rintro e w1 ⟨rfl, hb⟩
  have HB := Lib.hid hb
  clear hb s1
  go_wp2
  go_ret
  exact ⟨ret_boolF HE.out, HB.out⟩
set_option maxHeartbeats 400000 in
theorem c4_any (A : Option Addr) (n c : Nat) (xs : List UInt8) (w : World) (h : RB w A n xs) (hn : 3 ≤ n) (hm : bodyN xs ≤ 1000) :
    Calls Tryz.prog 211 #[.slice A n c] w fun e w' => e = .returned (.bool (decide (bodyN xs + 7 ≤ n))) ∧ Below w.heap.size w w' := by
  have s1 := bodyLen_any A n c xs w h hn
  obtain ⟨m, hm1⟩ : ∃ m, bodyN xs = m := ⟨_, rfl⟩
  rw [hm1] at s1 hm ⊢
  have s2 := fun w1 => size_any (m : Int) w1
  rw [sizeI_in hm] at s2
  obtain ⟨k, hk⟩ : ∃ k, m + 7 = k := ⟨_, rfl⟩
  rw [hk] at s2 ⊢
  have HE : Hid (decide ((k : Int) ≤ (n : Int)) = decide (k ≤ n)) := Lib.hid (by rw [decide_eq_decide]; omega)
  clear hm1 h hk
  go_enter Tryz.func211, Tryz.ntmps211
  go_wp2_with fail
  refine s1.mono ?_
  rintro e w1 ⟨rfl, hb⟩
  have HB := Lib.hid hb
  clear hb s1
  go_wp2_with fail
  refine (s2 w1).mono ?_
  rintro e w1 ⟨rfl, rfl⟩
  go_wp2
  go_ret
  exact ⟨rfl, HB.out⟩
theorem first_any (b off n c : Nat) (xs : List UInt8) (w : World) (h : RB w (some ⟨b, off, none⟩) n xs) (hc : n ≤ c) (hn : 3 ≤ n) (hm : bodyN xs ≤ 1000) (hl : bodyN xs + 7 ≤ n) :
    Calls Tryz.prog 214 #[.slice (some ⟨b, off, none⟩) n c] w fun e w' => e = .returned (.slice (some ⟨b, off, none⟩) (bodyN xs + 7) (bodyN xs + 7)) ∧ Below w.heap.size w w' := by
  have s1 := bodyLen_any _ n c xs w h hn
  obtain ⟨m, hm1⟩ : ∃ m, bodyN xs = m := ⟨_, rfl⟩
  rw [hm1] at s1 hm hl ⊢
  have s2 := fun w1 => size_any (m : Int) w1
  rw [sizeI_in hm] at s2
  obtain ⟨k, hk⟩ : ∃ k, m + 7 = k := ⟨_, rfl⟩
  rw [hk] at s2 hl ⊢
  clear hm1 h hk hm
  have hc' : k ≤ c := by omega
  go_enter Tryz.func214, Tryz.ntmps214
  go_wp2_with fail
  refine s1.mono ?_
  rintro e w1 ⟨rfl, hb⟩
  have HB := Lib.hid hb
  clear hb s1
  go_wp2_with fail
  refine (s2 w1).mono ?_
  rintro e w1 ⟨rfl, rfl⟩
  go_wp2
  go_ret
  exact ⟨rfl, HB.out⟩
set_option maxHeartbeats 400000 in
theorem c5_any (b off n c : Nat) (xs : List UInt8) (w : World) (h : RB w (some ⟨b, off, none⟩) n xs) (hc : n ≤ c) (hn : 3 ≤ n) (hm : bodyN xs ≤ 1000) (hl : bodyN xs + 7 ≤ n) :
    Calls Tryz.prog 212 #[.slice (some ⟨b, off, none⟩) n c] w fun e w' => e = .returned (.bool (sealedB (xs.take (bodyN xs + 7)))) ∧ Below w.heap.size w w' := by
  have s1 := first_any b off n c xs w h hc hn hm hl
  have HR := Lib.hid (h.take hl)
  obtain ⟨k, hk⟩ : ∃ k, bodyN xs + 7 = k := ⟨_, rfl⟩
  rw [hk] at s1 HR hl ⊢
  have hk2 : k ≤ 1007 := by omega
  clear hk h hm
  go_enter Tryz.func212, Tryz.ntmps212
  go_wp2_with fail
  refine s1.mono ?_
  rintro e w1 ⟨rfl, hb⟩
  have HB := Lib.hid hb
  have s2 := con_held.sealed (some ⟨b, off, none⟩) k k (xs.take k) w1 (HR.out.below HB.out) (fun e => by cases e) (Nat.le_refl _) (by omega)
  clear hb s1
  go_wp2_with fail
  refine s2.mono ?_
  rintro e w2 ⟨rfl, hb⟩
  have HB2 := Lib.hid (HB.out.trans (hb.mono HB.out.size))
  clear hb s2
  go_wp2
  go_ret
  exact ⟨rfl, HB2.out⟩
set_option maxHeartbeats 400000 in
theorem f1_any (k : UInt8) (V : Value) (w : World) : Calls Tryz.prog 152 #[.agg #[.int .u8 (k.toNat : Int), V]] w fun e w' => e = .returned (.bool (decide (k ≠ 0))) ∧ Below w.heap.size w w' := by
  have HE : Hid (((k.toNat : Int) != 0) = decide (k ≠ 0)) := Lib.hid (by
    by_cases e : k = 0
    · subst e; rfl
    · rw [decide_eq_true e, bne_iff_ne]
      intro h0
      exact e (UInt8.toNat_inj.1 (by show k.toNat = 0; omega)))
  go_enter Tryz.func152, Tryz.ntmps152
  go_wp2
  go_ret
  exact ⟨ret_boolF HE.out, (Below.refl _ _).alloc (Nat.le_refl _) _⟩
set_option maxHeartbeats 400000 in
theorem f2_any (v0 : Value) (A : Option Addr) (n c : Nat) (w : World) : Calls Tryz.prog 153 #[.agg #[v0, .slice A n c]] w fun e w' => e = .returned (.bool (decide (n ≤ 1000))) ∧ Below w.heap.size w w' := by
  have HE : Hid (decide ((n : Int) ≤ 1000) = decide (n ≤ 1000)) := Lib.hid (by rw [decide_eq_decide]; omega)
  go_enter Tryz.func153, Tryz.ntmps153
  go_wp2
  go_ret
  exact ⟨ret_boolF HE.out, (Below.refl _ _).alloc (Nat.le_refl _) _⟩
end Go.Proofs.YtaicipldjmngaaaGreatDoor

namespace Go.Proofs.YtaicipldjmngaaaGreatDoor
open Go.RowKit
set_option linter.unusedSimpArgs false
def chkB : Array Value := #[.func (.func 207) #[] #[], .int .i64 30, .func (.func 208) #[] #[], .int .i64 31, .func (.func 209) #[] #[], .int .i64 3,
  .func (.func 211) #[] #[], .int .i64 30, .func (.func 212) #[] #[], .int .i64 32]
def chkF : Array Value := #[.func (.func 152) #[] #[], .int .i64 2, .func (.func 153) #[] #[], .int .i64 3]
def HasB (w : World) (g : Nat) : Prop := w.heap[g]? = some (.cells chkB 283 (0, 0))
def HasF (w : World) (g : Nat) : Prop := w.heap[g]? = some (.cells chkF 239 (0, 0))
set_option maxHeartbeats 400000 in
theorem ofBytes_any (w : World) : Calls Tryz.prog 158 #[] w fun e w' => e = .returned (.slice (some ⟨w.heap.size, 0, none⟩) 5 5) ∧ HasB w' w.heap.size ∧ Below w.heap.size w w' := by
  go_enter Tryz.func158, Tryz.ntmps158
  go_wp2
  go_ret
  exact ⟨rfl, heap_alloc_new w _, (Below.refl _ _).alloc (Nat.le_refl _) _⟩
set_option maxHeartbeats 400000 in
theorem ofFrame_any (w : World) : Calls Tryz.prog 105 #[] w fun e w' => e = .returned (.slice (some ⟨w.heap.size, 0, none⟩) 2 2) ∧ HasF w' w.heap.size ∧ Below w.heap.size w w' := by
  go_enter Tryz.func105, Tryz.ntmps105
  go_wp2
  go_ret
  exact ⟨rfl, heap_alloc_new w _, (Below.refl _ _).alloc (Nat.le_refl _) _⟩
def tstB (xs : List UInt8) : Nat → Bool
  | 0 => decide (3 ≤ xs.length)
  | 1 => decide (xs.getD 0 0 ≠ 0)
  | 2 => decide (bodyN xs ≤ 1000)
  | 3 => decide (bodyN xs + 7 ≤ xs.length)
  | _ => sealedB (xs.take (bodyN xs + 7))
def upB (xs : List UInt8) : Nat → Prop
  | 0 => True
  | j + 1 => upB xs j ∧ tstB xs j = true
theorem upB_end {xs : List UInt8} (h : upB xs 5) : errT xs = 0 := by
  obtain ⟨⟨⟨⟨⟨_, h0⟩, h1⟩, h2⟩, h3⟩, h4⟩ := h
  have h1' : xs.getD 0 0 ≠ 0 := of_decide_eq_true h1
  have h4' : sealedB (xs.take (bodyN xs + 7)) = true := h4
  rw [errT_of (of_decide_eq_true h0) h1' (of_decide_eq_true h2) (of_decide_eq_true h3), if_pos h4']
theorem upB_0 {xs : List UInt8} (h : tstB xs 0 = false) : errT xs = 30 := by
  have h0 : ¬ 3 ≤ xs.length := of_decide_eq_false h
  unfold errT; rw [if_pos (by omega)]
theorem upB_1 {xs : List UInt8} (u : upB xs 1) (h : tstB xs 1 = false) : errT xs = 31 := by
  have u0 : 3 ≤ xs.length := of_decide_eq_true u.2
  have h0 : ¬ xs.getD 0 0 ≠ 0 := of_decide_eq_false h
  unfold errT; rw [if_neg (by omega), if_pos (by simpa using h0)]
theorem upB_2 {xs : List UInt8} (u : upB xs 2) (h : tstB xs 2 = false) : errT xs = 3 := by
  have u0 : 3 ≤ xs.length := of_decide_eq_true u.1.2
  have u1 : xs.getD 0 0 ≠ 0 := of_decide_eq_true u.2
  have h0 : ¬ bodyN xs ≤ 1000 := of_decide_eq_false h
  unfold errT; rw [if_neg (by omega), if_neg u1, if_pos (by omega)]
theorem upB_3 {xs : List UInt8} (u : upB xs 3) (h : tstB xs 3 = false) : errT xs = 30 := by
  have u0 : 3 ≤ xs.length := of_decide_eq_true u.1.1.2
  have u1 : xs.getD 0 0 ≠ 0 := of_decide_eq_true u.1.2
  have u2 : bodyN xs ≤ 1000 := of_decide_eq_true u.2
  have h0 : ¬ bodyN xs + 7 ≤ xs.length := of_decide_eq_false h
  unfold errT; rw [if_neg (by omega), if_neg u1, if_neg (by omega), if_pos (by omega)]
theorem upB_4 {xs : List UInt8} (u : upB xs 4) (h : tstB xs 4 = false) : errT xs = 32 := by
  have h0 : sealedB (xs.take (bodyN xs + 7)) = false := h
  have u1 : xs.getD 0 0 ≠ 0 := of_decide_eq_true u.1.1.2
  rw [errT_of (of_decide_eq_true u.1.1.1.2) u1 (of_decide_eq_true u.1.2) (of_decide_eq_true u.2), h0]; rfl
set_option maxHeartbeats 2000000 in
theorem faultB_any (g b off m n c : Nat) (A : Option Addr) (xs : List UInt8) (w : World) (hg : HasB w g) (hb : b < w.heap.size) (hc : w.cell? ⟨b, off, none⟩ = some (.slice A n c)) (hR : RB w A n xs) (hnc : n ≤ c) :
    Calls Tryz.prog 157 #[.slice (some ⟨g, 0, none⟩) 5 5, .slice (some ⟨b, off, none⟩) 1 m] w fun e w' => e = .returned (.int .i64 (errT xs : Int)) ∧ Below w.heap.size w w' := by
  have hl := hR.1
  have HR := Lib.hid hR
  have hgl : g < w.heap.size := (Array.getElem?_eq_some_iff.1 hg).1
  have HG := Lib.hid hg
  have HC := Lib.hid hc
  clear hR hg hc
  go_enter Tryz.func157, Tryz.ntmps157
  go_wp2
  go_step3
  go_wp2
  go_step3
  go_wp2
  go_loopg [5, 12] 1 (fun q e5 i wr => ∃ k : Nat, k + q = 1 ∧ i = .int .i64 k ∧ e5 = .int .i64 0 ∧ (k = 1 → errT xs = 0) ∧ Below w.heap.size w wr)
  case atStart => exact ⟨0, rfl, rfl, rfl, by omega, Below.refl _ _⟩
  case round =>
    obtain ⟨k, hkq, rfl, rfl, hdone, hbx⟩ := hrel
    cases gk with
    | zero =>
      obtain rfl : k = 1 := by omega
      have HD := Lib.hid (hdone rfl)
      have HB := Lib.hid hbx
      clear hdone hbx hl
      go_wp2
      try rw [Exit.noGoto_ret]
      go_ret
      exact ⟨by rw [HD.out]; rfl, HB.out⟩
    | succ q =>
      obtain rfl : k = 0 := by omega
      obtain rfl : q = 0 := by omega
      have hcell : wr.cell? ⟨b, off, none⟩ = some (.slice A n c) := (hbx.cell (p := ⟨b, off, none⟩) hb).trans HC.out
      have HB := Lib.hid hbx
      clear hdone hbx hkq
      go_wp2
      have hb0 : Below w.heap.size w wr := HB.out
      clear hcell
      go_loopg [5, 18] 5 (fun q e5 i wq => ∃ j : Nat, j + q = 5 ∧ i = .int .i64 j ∧ e5 = .int .i64 0 ∧ Hid (upB xs j) ∧ Below w.heap.size w wq)
      case atStart => exact ⟨0, rfl, rfl, rfl, Lib.hid trivial, hb0⟩
      case round =>
        clear hb0
        obtain ⟨j, hjq, rfl, rfl, hup, hbq⟩ := hrel
        obtain ⟨wq, rfl⟩ : ∃ wq : World, wq = wr := ⟨_, rfl⟩
        have hgq : wq.heap[g]? = some (.cells chkB 283 (0, 0)) := (hbq.block g hgl).trans HG.out
        have HBq := Lib.hid hbq
        by_cases h5 : j = 5
        · subst h5
          obtain rfl : gk = 0 := by omega
          have HD := Lib.hid (upB_end hup.out)
          clear hbq hgq hjq
          go_wp2
          go_roundg 0
          case rel => exact ⟨1, rfl, by go_num, rfl, fun _ => HD.out, HBq.out⟩
          case measure => omega
        · rcases (show j = 0 ∨ j = 1 ∨ j = 2 ∨ j = 3 ∨ j = 4 by omega) with rfl | rfl | rfl | rfl | rfl
          · obtain rfl : gk = 5 := by omega
            have k0 : wq.cell? ⟨g, 0, none⟩ = some (.func (.func 207) #[] #[]) := by rw [cell_of_row wq g 0 chkB _ (0, 0) hgq]; rfl
            have k1 : wq.cell? ⟨g, 1, none⟩ = some (.int .i64 30) := by rw [cell_of_row wq g 1 chkB _ (0, 0) hgq]; rfl
            obtain ⟨W1, hW1⟩ : ∃ W1, wq.alloc (.cells #[.func (.func 207) #[] #[], .int .i64 30] 283) = W1 := ⟨_, rfl⟩
            have hR1 : RB W1 A n xs := by rw [← hW1]; exact (HR.out.below HBq.out).alloc _
            have hz1 : wq.heap.size < W1.heap.size := by rw [← hW1]; simp
            have hm1 : W1.cell? ⟨wq.heap.size, 1, none⟩ = some (.int .i64 30) := by rw [← hW1, cell_of_row _ wq.heap.size 1 _ _ (0, 0) (heap_alloc_new wq _)]; rfl
            have hm0 : W1.cell? ⟨wq.heap.size, 0, none⟩ = wq.cell? ⟨g, 0, none⟩ := by rw [k0, ← hW1, cell_of_row _ wq.heap.size 0 _ _ (0, 0) (heap_alloc_new wq _)]; rfl
            rw [k0] at hm0
            have hB1 : Below w.heap.size w W1 := by rw [← hW1]; exact HBq.out.alloc HBq.out.size _
            have s0 := c1_any A n c W1
            have ht : tstB xs 0 = decide (3 ≤ n) := by rw [← hl]; rfl
            rw [← ht] at s0
            have HB1 := Lib.hid hB1
            have HM1 := Lib.hid hm1
            have HL := Lib.hid hl
            by_cases hb1 : tstB xs 0 = true
            · rw [hb1] at s0
              have HU : Hid (upB xs 1) := Lib.hid ⟨hup.out, hb1⟩
              clear hb1 hB1 hm1 hR1 ht hbq hgq hl hjq h5
              go_wp2_with fail
              refine s0.mono ?_
              rintro e w2 ⟨rfl, rfl⟩
              have hb2 := Below.refl W1.heap.size W1
              have HB2 := Lib.hid (HB1.out.trans (hb2.mono HB1.out.size))
              clear s0 hb2 k0 k1
              go_wp2
              go_roundg 4
              case rel => exact ⟨1, rfl, by go_num, rfl, HU, HB2.out⟩
              case measure => omega
            · have hb1 : tstB xs 0 = false := by simpa using hb1
              rw [hb1] at s0
              have HU : Hid (errT xs = 30) := Lib.hid (upB_0 hb1)
              clear hb1 hB1 hm1 hR1 ht hbq hgq hl hjq h5
              go_wp2_with fail
              refine s0.mono ?_
              rintro e w2 ⟨rfl, rfl⟩
              have hb2 := Below.refl W1.heap.size W1
              have HB2 := Lib.hid (HB1.out.trans (hb2.mono HB1.out.size))
              have hm2 : W1.cell? ⟨wq.heap.size, 1, none⟩ = some (.int .i64 30) := (hb2.cell (p := ⟨wq.heap.size, 1, none⟩) hz1).trans HM1.out
              clear s0 hb2 k0 k1
              go_wp2
              try rw [Exit.noGoto_ret]
              go_ret
              exact ⟨by rw [HU.out]; rfl, HB2.out⟩
          · obtain rfl : gk = 4 := by omega
            have k0 : wq.cell? ⟨g, 2, none⟩ = some (.func (.func 208) #[] #[]) := by rw [cell_of_row wq g 2 chkB _ (0, 0) hgq]; rfl
            have k1 : wq.cell? ⟨g, 3, none⟩ = some (.int .i64 31) := by rw [cell_of_row wq g 3 chkB _ (0, 0) hgq]; rfl
            obtain ⟨W1, hW1⟩ : ∃ W1, wq.alloc (.cells #[.func (.func 208) #[] #[], .int .i64 31] 283) = W1 := ⟨_, rfl⟩
            have hR1 : RB W1 A n xs := by rw [← hW1]; exact (HR.out.below HBq.out).alloc _
            have hz1 : wq.heap.size < W1.heap.size := by rw [← hW1]; simp
            have hm1 : W1.cell? ⟨wq.heap.size, 1, none⟩ = some (.int .i64 31) := by rw [← hW1, cell_of_row _ wq.heap.size 1 _ _ (0, 0) (heap_alloc_new wq _)]; rfl
            have hm0 : W1.cell? ⟨wq.heap.size, 0, none⟩ = wq.cell? ⟨g, 2, none⟩ := by rw [k0, ← hW1, cell_of_row _ wq.heap.size 0 _ _ (0, 0) (heap_alloc_new wq _)]; rfl
            rw [k0] at hm0
            have hB1 : Below w.heap.size w W1 := by rw [← hW1]; exact HBq.out.alloc HBq.out.size _
            have u0 : 3 ≤ n := by have := of_decide_eq_true hup.out.2; omega
            have s0 := c2_any A n c xs W1 hR1 u0
            have ht : tstB xs 1 = decide (xs.getD 0 0 ≠ 0) := by rfl
            rw [← ht] at s0
            have HB1 := Lib.hid hB1
            have HM1 := Lib.hid hm1
            have HL := Lib.hid hl
            by_cases hb1 : tstB xs 1 = true
            · rw [hb1] at s0
              have HU : Hid (upB xs 2) := Lib.hid ⟨hup.out, hb1⟩
              clear hb1 hB1 hm1 hR1 ht hbq hgq hl hjq h5 u0
              go_wp2_with fail
              refine s0.mono ?_
              rintro e w2 ⟨rfl, rfl⟩
              have hb2 := Below.refl W1.heap.size W1
              have HB2 := Lib.hid (HB1.out.trans (hb2.mono HB1.out.size))
              clear s0 hb2 k0 k1
              go_wp2
              go_roundg 3
              case rel => exact ⟨2, rfl, by go_num, rfl, HU, HB2.out⟩
              case measure => omega
            · have hb1 : tstB xs 1 = false := by simpa using hb1
              rw [hb1] at s0
              have HU : Hid (errT xs = 31) := Lib.hid (upB_1 hup.out hb1)
              clear hb1 hB1 hm1 hR1 ht hbq hgq hl hjq h5 u0
              go_wp2_with fail
              refine s0.mono ?_
              rintro e w2 ⟨rfl, rfl⟩
              have hb2 := Below.refl W1.heap.size W1
              have HB2 := Lib.hid (HB1.out.trans (hb2.mono HB1.out.size))
              have hm2 : W1.cell? ⟨wq.heap.size, 1, none⟩ = some (.int .i64 31) := (hb2.cell (p := ⟨wq.heap.size, 1, none⟩) hz1).trans HM1.out
              clear s0 hb2 k0 k1
              go_wp2
              try rw [Exit.noGoto_ret]
              go_ret
              exact ⟨by rw [HU.out]; rfl, HB2.out⟩
          · obtain rfl : gk = 3 := by omega
            have k0 : wq.cell? ⟨g, 4, none⟩ = some (.func (.func 209) #[] #[]) := by rw [cell_of_row wq g 4 chkB _ (0, 0) hgq]; rfl
            have k1 : wq.cell? ⟨g, 5, none⟩ = some (.int .i64 3) := by rw [cell_of_row wq g 5 chkB _ (0, 0) hgq]; rfl
            obtain ⟨W1, hW1⟩ : ∃ W1, wq.alloc (.cells #[.func (.func 209) #[] #[], .int .i64 3] 283) = W1 := ⟨_, rfl⟩
            have hR1 : RB W1 A n xs := by rw [← hW1]; exact (HR.out.below HBq.out).alloc _
            have hz1 : wq.heap.size < W1.heap.size := by rw [← hW1]; simp
            have hm1 : W1.cell? ⟨wq.heap.size, 1, none⟩ = some (.int .i64 3) := by rw [← hW1, cell_of_row _ wq.heap.size 1 _ _ (0, 0) (heap_alloc_new wq _)]; rfl
            have hm0 : W1.cell? ⟨wq.heap.size, 0, none⟩ = wq.cell? ⟨g, 4, none⟩ := by rw [k0, ← hW1, cell_of_row _ wq.heap.size 0 _ _ (0, 0) (heap_alloc_new wq _)]; rfl
            rw [k0] at hm0
            have hB1 : Below w.heap.size w W1 := by rw [← hW1]; exact HBq.out.alloc HBq.out.size _
            have u0 : 3 ≤ n := by have := of_decide_eq_true hup.out.1.2; omega
            have s0 := c3_any A n c xs W1 hR1 u0
            have ht : tstB xs 2 = decide (bodyN xs ≤ 1000) := by rfl
            rw [← ht] at s0
            have HB1 := Lib.hid hB1
            have HM1 := Lib.hid hm1
            have HL := Lib.hid hl
            by_cases hb1 : tstB xs 2 = true
            · rw [hb1] at s0
              have HU : Hid (upB xs 3) := Lib.hid ⟨hup.out, hb1⟩
              clear hb1 hB1 hm1 hR1 ht hbq hgq hl hjq h5 u0
              go_wp2_with fail
              refine s0.mono ?_
              rintro e w2 ⟨rfl, hb2⟩
              have HB2 := Lib.hid (HB1.out.trans (hb2.mono HB1.out.size))
              clear s0 hb2 k0 k1
              go_wp2
              go_roundg 2
              case rel => exact ⟨3, rfl, by go_num, rfl, HU, HB2.out⟩
              case measure => omega
            · have hb1 : tstB xs 2 = false := by simpa using hb1
              rw [hb1] at s0
              have HU : Hid (errT xs = 3) := Lib.hid (upB_2 hup.out hb1)
              clear hb1 hB1 hm1 hR1 ht hbq hgq hl hjq h5 u0
              go_wp2_with fail
              refine s0.mono ?_
              rintro e w2 ⟨rfl, hb2⟩
              have HB2 := Lib.hid (HB1.out.trans (hb2.mono HB1.out.size))
              have hm2 : w2.cell? ⟨wq.heap.size, 1, none⟩ = some (.int .i64 3) := (hb2.cell (p := ⟨wq.heap.size, 1, none⟩) hz1).trans HM1.out
              clear s0 hb2 k0 k1
              go_wp2
              try rw [Exit.noGoto_ret]
              go_ret
              exact ⟨by rw [HU.out]; rfl, HB2.out⟩
          · obtain rfl : gk = 2 := by omega
            have k0 : wq.cell? ⟨g, 6, none⟩ = some (.func (.func 211) #[] #[]) := by rw [cell_of_row wq g 6 chkB _ (0, 0) hgq]; rfl
            have k1 : wq.cell? ⟨g, 7, none⟩ = some (.int .i64 30) := by rw [cell_of_row wq g 7 chkB _ (0, 0) hgq]; rfl
            obtain ⟨W1, hW1⟩ : ∃ W1, wq.alloc (.cells #[.func (.func 211) #[] #[], .int .i64 30] 283) = W1 := ⟨_, rfl⟩
            have hR1 : RB W1 A n xs := by rw [← hW1]; exact (HR.out.below HBq.out).alloc _
            have hz1 : wq.heap.size < W1.heap.size := by rw [← hW1]; simp
            have hm1 : W1.cell? ⟨wq.heap.size, 1, none⟩ = some (.int .i64 30) := by rw [← hW1, cell_of_row _ wq.heap.size 1 _ _ (0, 0) (heap_alloc_new wq _)]; rfl
            have hm0 : W1.cell? ⟨wq.heap.size, 0, none⟩ = wq.cell? ⟨g, 6, none⟩ := by rw [k0, ← hW1, cell_of_row _ wq.heap.size 0 _ _ (0, 0) (heap_alloc_new wq _)]; rfl
            rw [k0] at hm0
            have hB1 : Below w.heap.size w W1 := by rw [← hW1]; exact HBq.out.alloc HBq.out.size _
            have u0 : 3 ≤ n := by have := of_decide_eq_true hup.out.1.1.2; omega
            have u2 : bodyN xs ≤ 1000 := of_decide_eq_true hup.out.2
            have s0 := c4_any A n c xs W1 hR1 u0 u2
            have ht : tstB xs 3 = decide (bodyN xs + 7 ≤ n) := by rw [← hl]; rfl
            rw [← ht] at s0
            have HB1 := Lib.hid hB1
            have HM1 := Lib.hid hm1
            have HL := Lib.hid hl
            by_cases hb1 : tstB xs 3 = true
            · rw [hb1] at s0
              have HU : Hid (upB xs 4) := Lib.hid ⟨hup.out, hb1⟩
              clear hb1 hB1 hm1 hR1 ht hbq hgq hl hjq h5 u0 u2
              go_wp2_with fail
              refine s0.mono ?_
              rintro e w2 ⟨rfl, hb2⟩
              have HB2 := Lib.hid (HB1.out.trans (hb2.mono HB1.out.size))
              clear s0 hb2 k0 k1
              go_wp2
              go_roundg 1
              case rel => exact ⟨4, rfl, by go_num, rfl, HU, HB2.out⟩
              case measure => omega
            · have hb1 : tstB xs 3 = false := by simpa using hb1
              rw [hb1] at s0
              have HU : Hid (errT xs = 30) := Lib.hid (upB_3 hup.out hb1)
              clear hb1 hB1 hm1 hR1 ht hbq hgq hl hjq h5 u0 u2
              go_wp2_with fail
              refine s0.mono ?_
              rintro e w2 ⟨rfl, hb2⟩
              have HB2 := Lib.hid (HB1.out.trans (hb2.mono HB1.out.size))
              have hm2 : w2.cell? ⟨wq.heap.size, 1, none⟩ = some (.int .i64 30) := (hb2.cell (p := ⟨wq.heap.size, 1, none⟩) hz1).trans HM1.out
              clear s0 hb2 k0 k1
              go_wp2
              try rw [Exit.noGoto_ret]
              go_ret
              exact ⟨by rw [HU.out]; rfl, HB2.out⟩
          · obtain rfl : gk = 1 := by omega
            have k0 : wq.cell? ⟨g, 8, none⟩ = some (.func (.func 212) #[] #[]) := by rw [cell_of_row wq g 8 chkB _ (0, 0) hgq]; rfl
            have k1 : wq.cell? ⟨g, 9, none⟩ = some (.int .i64 32) := by rw [cell_of_row wq g 9 chkB _ (0, 0) hgq]; rfl
            obtain ⟨W1, hW1⟩ : ∃ W1, wq.alloc (.cells #[.func (.func 212) #[] #[], .int .i64 32] 283) = W1 := ⟨_, rfl⟩
            have hR1 : RB W1 A n xs := by rw [← hW1]; exact (HR.out.below HBq.out).alloc _
            have hz1 : wq.heap.size < W1.heap.size := by rw [← hW1]; simp
            have hm1 : W1.cell? ⟨wq.heap.size, 1, none⟩ = some (.int .i64 32) := by rw [← hW1, cell_of_row _ wq.heap.size 1 _ _ (0, 0) (heap_alloc_new wq _)]; rfl
            have hm0 : W1.cell? ⟨wq.heap.size, 0, none⟩ = wq.cell? ⟨g, 8, none⟩ := by rw [k0, ← hW1, cell_of_row _ wq.heap.size 0 _ _ (0, 0) (heap_alloc_new wq _)]; rfl
            rw [k0] at hm0
            have hB1 : Below w.heap.size w W1 := by rw [← hW1]; exact HBq.out.alloc HBq.out.size _
            have u0 : 3 ≤ n := by have := of_decide_eq_true hup.out.1.1.1.2; omega
            have u2 : bodyN xs ≤ 1000 := of_decide_eq_true hup.out.1.2
            have u3 : bodyN xs + 7 ≤ n := by have := of_decide_eq_true hup.out.2; omega
            obtain ⟨bb, oo, rfl, _, _⟩ := hR1.2 (by omega)
            have s0 := c5_any bb oo n c xs W1 hR1 hnc u0 u2 u3
            have ht : tstB xs 4 = sealedB (xs.take (bodyN xs + 7)) := by rfl
            rw [← ht] at s0
            have HB1 := Lib.hid hB1
            have HM1 := Lib.hid hm1
            have HL := Lib.hid hl
            by_cases hb1 : tstB xs 4 = true
            · rw [hb1] at s0
              have HU : Hid (upB xs 5) := Lib.hid ⟨hup.out, hb1⟩
              clear hb1 hB1 hm1 hR1 ht hbq hgq hl hjq h5 u0 u2 u3
              go_wp2_with fail
              refine s0.mono ?_
              rintro e w2 ⟨rfl, hb2⟩
              have HB2 := Lib.hid (HB1.out.trans (hb2.mono HB1.out.size))
              clear s0 hb2 k0 k1
              go_wp2
              go_roundg 0
              case rel => exact ⟨5, rfl, by go_num, rfl, HU, HB2.out⟩
              case measure => omega
            · have hb1 : tstB xs 4 = false := by simpa using hb1
              rw [hb1] at s0
              have HU : Hid (errT xs = 32) := Lib.hid (upB_4 hup.out hb1)
              clear hb1 hB1 hm1 hR1 ht hbq hgq hl hjq h5 u0 u2 u3
              go_wp2_with fail
              refine s0.mono ?_
              rintro e w2 ⟨rfl, hb2⟩
              have HB2 := Lib.hid (HB1.out.trans (hb2.mono HB1.out.size))
              have hm2 : w2.cell? ⟨wq.heap.size, 1, none⟩ = some (.int .i64 32) := (hb2.cell (p := ⟨wq.heap.size, 1, none⟩) hz1).trans HM1.out
              clear s0 hb2 k0 k1
              go_wp2
              try rw [Exit.noGoto_ret]
              go_ret
              exact ⟨by rw [HU.out]; rfl, HB2.out⟩
end Go.Proofs.YtaicipldjmngaaaGreatDoor

namespace Go.Proofs.YtaicipldjmngaaaGreatDoor
open Go.RowKit
def BodyAt (w : World) (A : Option Addr) (c : Nat) (l : List UInt8) : Prop := RB w A l.length l ∧ l.length ≤ c ∧ (A = none → c = 0) ∧ l.length ≤ 140737488351232
theorem BodyAt.below {w w' : World} {A : Option Addr} {c : Nat} {l : List UInt8} (h : BodyAt w A c l) (hb : Below w.heap.size w w') : BodyAt w' A c l := ⟨h.1.below hb, h.2⟩
def frV (f : Fr) (A : Option Addr) (c : Nat) : Value := .agg #[.int .u8 (f.k.toNat : Int), .slice A f.b.length c]
def FrAt (w : World) (b o : Nat) (f : Fr) : Prop := b < w.heap.size ∧ w.cell? ⟨b, o, none⟩ = some (.int .u8 (f.k.toNat : Int)) ∧ ∃ A c, w.cell? ⟨b, o + 1, none⟩ = some (.slice A f.b.length c) ∧ BodyAt w A c f.b
theorem FrAt.below {w w' : World} {b o : Nat} {f : Fr} (h : FrAt w b o f) (hb : Below w.heap.size w w') : FrAt w' b o f := by
  obtain ⟨hlt, h1, A, c, h2, h3⟩ := h
  exact ⟨Nat.lt_of_lt_of_le hlt hb.size, (hb.cell (p := ⟨b, o, none⟩) hlt).trans h1, A, c, (hb.cell (p := ⟨b, o + 1, none⟩) hlt).trans h2, h3.below hb⟩
def RFs (w : World) (A : Option Addr) (n : Nat) (fs : List Fr) : Prop :=
  fs.length = n ∧ (0 < n → ∃ b off, A = some ⟨b, off, none⟩ ∧ b < w.heap.size ∧ ∀ j (h : j < fs.length), FrAt w b (off + j * 2) fs[j])
theorem RFs.below {w w' : World} {A : Option Addr} {n : Nat} {fs : List Fr} (h : RFs w A n fs) (hb : Below w.heap.size w w') : RFs w' A n fs :=
  ⟨h.1, fun hn => by
    obtain ⟨b, off, e, hlt, hc⟩ := h.2 hn
    exact ⟨b, off, e, Nat.lt_of_lt_of_le hlt hb.size, fun j hj => (hc j hj).below hb⟩⟩
theorem RFs.zero (w : World) (A : Option Addr) : RFs w A 0 [] := ⟨rfl, fun h => absurd h (by omega)⟩
theorem RFs.one {w : World} {A : Option Addr} {c : Nat} {f : Fr} (h : BodyAt w A c f.b) (t : TypeId) : RFs (w.alloc (.cells #[.int .u8 (f.k.toNat : Int), .slice A f.b.length c] t)) (some ⟨w.heap.size, 0, none⟩) 1 [f] := by
  refine ⟨rfl, fun _ => ⟨_, _, rfl, by simp, fun j hj => ?_⟩⟩
  have hj0 : j = 0 := by simpa using hj
  subst hj0
  refine ⟨by simp, ?_, A, c, ?_, h.below ((Below.refl _ _).alloc (Nat.le_refl _) _)⟩
  · rw [cell_of_row _ w.heap.size _ _ _ (0, 0) (heap_alloc_new w _)]; rfl
  · rw [cell_of_row _ w.heap.size _ _ _ (0, 0) (heap_alloc_new w _)]; rfl
def TyB (w : World) (A : Option Addr) (n : Nat) : Prop := 0 < n → ∃ b off cur, A = some ⟨b, off, none⟩ ∧ w.heap[b]? = some (.cells cur 5 (0, 0))
theorem TyB.own {w : World} {base : Nat} {A : Option Addr} {m c n : Nat} {xs : List Value} (h : w.ownsRow base 5 1 (.slice A m c) n xs) : TyB w A m := fun hm => by
  rcases h.2 with ⟨hv, _⟩ | ⟨g, cap, cur, hv, _, hh, _⟩
  · cases hv; omega
  · cases hv; exact ⟨_, _, _, rfl, hh⟩
theorem TyB.grown {w w' : World} {A : Option Addr} {n : Nat} {row : Option Nat} (h : TyB w A n) (hg : w.grownBy w' row) (hr : ∀ r, row = some r → ∀ cur, w.heap[r]? ≠ some (.cells cur 5 (0, 0))) : TyB w' A n := fun hn => by
  obtain ⟨b, off, cur, e, hh⟩ := h hn
  exact ⟨b, off, cur, e, (hg.block b (Array.getElem?_eq_some_iff.1 hh).1 (fun e' => hr b e'.symm cur hh)).trans hh⟩
theorem RB.grownT {w w' : World} {A : Option Addr} {n : Nat} {xs : List UInt8} {row : Option Nat} (h : RB w A n xs) (ht : TyB w A n) (hg : w.grownBy w' row) (hr : ∀ r, row = some r → ∀ cur, w.heap[r]? ≠ some (.cells cur 5 (0, 0))) : RB w' A n xs := by
  refine ⟨h.1, fun hn => ?_⟩
  obtain ⟨b, off, e, hlt, hc⟩ := h.2 hn
  obtain ⟨b', off', cur, e', hh⟩ := ht hn
  rw [e] at e'
  simp only [Option.some.injEq, Addr.mk.injEq] at e'
  obtain ⟨rfl, rfl, _⟩ := e'
  exact ⟨b, off, e, Nat.lt_of_lt_of_le hlt hg.size, fun j hj => (World.cell?_of_block (a := ⟨b, off + j, none⟩) (hg.block b hlt (fun e2 => hr b e2.symm cur hh))).trans (hc j hj)⟩
end Go.Proofs.YtaicipldjmngaaaGreatDoor

namespace Go.Proofs.YtaicipldjmngaaaGreatDoor
open Go.RowKit
set_option linter.unusedSimpArgs false
def tstF (f : Fr) : Nat → Bool
  | 0 => decide (f.k ≠ 0)
  | _ => decide (f.b.length ≤ 1000)
def upF (f : Fr) : Nat → Prop
  | 0 => True
  | j + 1 => upF f j ∧ tstF f j = true
theorem upF_end {f : Fr} (h : upF f 2) : errF f = 0 := by
  obtain ⟨⟨_, h0⟩, h1⟩ := h
  have h0' : f.k ≠ 0 := of_decide_eq_true h0
  have h1' : f.b.length ≤ 1000 := of_decide_eq_true h1
  unfold errF; rw [if_neg h0', if_neg (by omega)]
theorem upF_0 {f : Fr} (h : tstF f 0 = false) : errF f = 2 := by
  have h0 : ¬ f.k ≠ 0 := of_decide_eq_false h
  unfold errF; rw [if_pos (by simpa using h0)]
theorem upF_1 {f : Fr} (u : upF f 1) (h : tstF f 1 = false) : errF f = 3 := by
  have u0 : f.k ≠ 0 := of_decide_eq_true u.2
  have h0 : ¬ f.b.length ≤ 1000 := of_decide_eq_false h
  unfold errF; rw [if_neg u0, if_pos (by omega)]
set_option maxHeartbeats 2000000 in
theorem faultF_any (g n c : Nat) (B : Option Addr) (fs : List Fr) (w : World) (hg : HasF w g) (h : RFs w B n fs) (hn : n ≤ 140737488351232) :
    Calls Tryz.prog 104 #[.slice (some ⟨g, 0, none⟩) 2 2, .slice B n c] w fun e w' => e = .returned (.int .i64 (errsF fs : Int)) ∧ Below w.heap.size w w' := by
  have hl := h.1
  have HF := Lib.hid h
  have hgl : g < w.heap.size := (Array.getElem?_eq_some_iff.1 hg).1
  have HG := Lib.hid hg
  have HL := Lib.hid hl
  clear h hg hl
  go_enter Tryz.func104, Tryz.ntmps104
  go_wp2
  go_step3
  go_wp2
  go_step3
  go_wp2
  go_loopg [5, 12] n (fun q e5 i wr => ∃ k : Nat, k + q = n ∧ i = .int .i64 k ∧ e5 = .int .i64 0 ∧ Hid (∀ j (hj : j < fs.length), j < k → errF fs[j] = 0) ∧ Below w.heap.size w wr)
  case atStart => exact ⟨0, by omega, rfl, rfl, Lib.hid (fun j _ hj => absurd hj (by omega)), Below.refl _ _⟩
  case round =>
    obtain ⟨k, hkq, rfl, rfl, hdone, hbx⟩ := hrel
    cases gk with
    | zero =>
      obtain rfl : k = n := by omega
      have HD : Hid (errsF fs = 0) := Lib.hid (errsF_none fun j hj => hdone.out j hj (by have := HL.out; omega))
      have HB := Lib.hid hbx
      clear hdone hbx hkq
      go_wp2
      try rw [Exit.noGoto_ret]
      go_ret
      exact ⟨by rw [HD.out]; rfl, HB.out⟩
    | succ q =>
      have hkn : k < n := by omega
      have hkl : k < fs.length := by rw [HL.out]; exact hkn
      obtain ⟨b, off, rfl, hb, hat⟩ := HF.out.2 (by omega)
      obtain ⟨f, hf⟩ : ∃ f, fs[k] = f := ⟨_, rfl⟩
      have hfr := (hat k hkl).below hbx
      rw [hf] at hfr
      obtain ⟨_, hc0, A, cA, hc1, hbody⟩ := hfr
      have HFk : Hid (errF f ≠ 0 → errsF fs = errF f) := Lib.hid (fun he => by
        subst hf
        exact errsF_at hkl (fun j hj => hdone.out j (by omega) hj) he)
      have HN : Hid (errF f = 0 → ∀ j (hj : j < fs.length), j < k + 1 → errF fs[j] = 0) := Lib.hid (fun he j hj hjk => by
        by_cases e : j = k
        · subst e; rw [hf]; exact he
        · exact hdone.out j hj (by omega))
      obtain ⟨kk, hkk⟩ : ∃ v : Int, (f.k.toNat : Int) = v := ⟨_, rfl⟩
      obtain ⟨ln, hln⟩ : ∃ v : Nat, f.b.length = v := ⟨_, rfl⟩
      rw [hkk] at hc0
      rw [hln] at hc1
      obtain ⟨wf, hWf⟩ : ∃ wf, wr.alloc (.cells #[.int .u8 kk, .slice A ln cA] 120) = wf := ⟨_, rfl⟩
      have hf0 : wf.cell? ⟨wr.heap.size, 0, none⟩ = some (.int .u8 kk) := by rw [← hWf, cell_of_row _ wr.heap.size 0 _ _ (0, 0) (heap_alloc_new wr _)]; rfl
      have hf1 : wf.cell? ⟨wr.heap.size, 1, none⟩ = some (.slice A ln cA) := by rw [← hWf, cell_of_row _ wr.heap.size 1 _ _ (0, 0) (heap_alloc_new wr _)]; rfl
      have hfz : wr.heap.size < wf.heap.size := by rw [← hWf]; simp
      have hbf : Below w.heap.size w wf := by rw [← hWf]; exact hbx.alloc hbx.size _
      obtain ⟨bx, hbx0⟩ : ∃ bx, wr.heap.size = bx := ⟨_, rfl⟩
      rw [hbx0] at hf0 hf1 hfz
      have HF0 := Lib.hid hf0
      have HF1 := Lib.hid hf1
      have HBF := Lib.hid hbf
      have HKK := Lib.hid hkk
      have HLN := Lib.hid hln
      clear hdone hat hf hbody hbx hf0 hf1 hbf hkk hln
      have HHK := Lib.hid hkq
      clear hkq
      go_wp2
      clear hc0 hc1 hWf hbx0
      go_loopg [5, 18] 2 (fun q e5 i wq => ∃ j : Nat, j + q = 2 ∧ i = .int .i64 j ∧ e5 = .int .i64 0 ∧ Hid (upF f j) ∧ Below wf.heap.size wf wq)
      case atStart => exact ⟨0, rfl, rfl, rfl, Lib.hid trivial, Below.refl _ _⟩
      case round =>
        obtain ⟨j, hjq, rfl, rfl, hup, hbq⟩ := hrel
        obtain ⟨wq, rfl⟩ : ∃ wq : World, wq = wr := ⟨_, rfl⟩
        have HBw : Hid (Below w.heap.size w wq) := Lib.hid (HBF.out.trans (hbq.mono HBF.out.size))
        have hgq : wq.heap[g]? = some (.cells chkF 239 (0, 0)) := (HBw.out.block g hgl).trans HG.out
        have HBq := Lib.hid hbq
        by_cases h5 : j = 2
        · subst h5
          obtain rfl : gk = 0 := by omega
          have HD := Lib.hid (HN.out (upF_end hup.out))
          clear hbq hgq hjq
          go_wp2
          go_roundg q
          case rel => exact ⟨k + 1, by have := HHK.out; omega, by go_num, rfl, HD, HBw.out⟩
          case measure => omega
        · rcases (show j = 0 ∨ j = 1 by omega) with rfl | rfl
          · obtain rfl : gk = 2 := by omega
            have k0 : wq.cell? ⟨g, 0, none⟩ = some (.func (.func 152) #[] #[]) := by rw [cell_of_row wq g 0 chkF _ (0, 0) hgq]; rfl
            have k1 : wq.cell? ⟨g, 1, none⟩ = some (.int .i64 2) := by rw [cell_of_row wq g 1 chkF _ (0, 0) hgq]; rfl
            have q0 : wq.cell? ⟨bx, 0, none⟩ = some (.int .u8 kk) := (hbq.cell (p := ⟨bx, 0, none⟩) hfz).trans HF0.out
            have q1 : wq.cell? ⟨bx, 1, none⟩ = some (.slice A ln cA) := (hbq.cell (p := ⟨bx, 1, none⟩) hfz).trans HF1.out
            obtain ⟨W1, hW1⟩ : ∃ W1, wq.alloc (.cells #[.func (.func 152) #[] #[], .int .i64 2] 239) = W1 := ⟨_, rfl⟩
            have hb11 : Below wq.heap.size wq W1 := by rw [← hW1]; exact (Below.refl _ _).alloc (Nat.le_refl _) _
            have hbxq : bx < wq.heap.size := Nat.lt_of_lt_of_le hfz hbq.size
            have q2 : W1.cell? ⟨bx, 0, none⟩ = some (.int .u8 kk) := (hb11.cell (p := ⟨bx, 0, none⟩) hbxq).trans q0
            have q3 : W1.cell? ⟨bx, 1, none⟩ = some (.slice A ln cA) := (hb11.cell (p := ⟨bx, 1, none⟩) hbxq).trans q1
            have hz1 : wq.heap.size < W1.heap.size := by rw [← hW1]; simp
            have hm1 : W1.cell? ⟨wq.heap.size, 1, none⟩ = some (.int .i64 2) := by rw [← hW1, cell_of_row _ wq.heap.size 1 _ _ (0, 0) (heap_alloc_new wq _)]; rfl
            have hm0 : W1.cell? ⟨wq.heap.size, 0, none⟩ = wq.cell? ⟨g, 0, none⟩ := by rw [k0, ← hW1, cell_of_row _ wq.heap.size 0 _ _ (0, 0) (heap_alloc_new wq _)]; rfl
            rw [k0] at hm0
            have HB1 : Hid (Below wf.heap.size wf W1) := Lib.hid (HBq.out.trans (hb11.mono HBq.out.size))
            have HBw1 : Hid (Below w.heap.size w W1) := Lib.hid (HBw.out.trans (hb11.mono HBw.out.size))
            have s0 := f1_any f.k (.slice A ln cA) W1
            rw [HKK.out] at s0
            have ht : tstF f 0 = decide (f.k ≠ 0) := rfl
            rw [← ht] at s0
            have HM1 := Lib.hid hm1
            by_cases hb1 : tstF f 0 = true
            · rw [hb1] at s0
              have HU : Hid (upF f 1) := Lib.hid ⟨hup.out, hb1⟩
              clear hb1 hb11 hm1 ht hbq hgq hjq h5 q0 q1
              go_wp2_with fail
              refine s0.mono ?_
              rintro e w2 ⟨rfl, hb2⟩
              have HB2 := Lib.hid (HB1.out.trans (hb2.mono HB1.out.size))
              have HBw2 := Lib.hid (HBw1.out.trans (hb2.mono HBw1.out.size))
              clear s0 hb2 k0 k1
              go_wp2
              go_roundg 1
              case rel => exact ⟨1, rfl, by go_num, rfl, HU, HB2.out⟩
              case measure => omega
            · have hb1 : tstF f 0 = false := by simpa using hb1
              rw [hb1] at s0
              have HE : Hid (errF f = 2) := Lib.hid (upF_0 hb1)
              have HU : Hid (errsF fs = 2) := Lib.hid (by rw [HFk.out (by rw [HE.out]; omega), HE.out])
              clear hb1 hb11 hm1 ht hbq hgq hjq h5 q0 q1
              go_wp2_with fail
              refine s0.mono ?_
              rintro e w2 ⟨rfl, hb2⟩
              have HB2 := Lib.hid (HB1.out.trans (hb2.mono HB1.out.size))
              have HBw2 := Lib.hid (HBw1.out.trans (hb2.mono HBw1.out.size))
              have hm2 : w2.cell? ⟨wq.heap.size, 1, none⟩ = some (.int .i64 2) := (hb2.cell (p := ⟨wq.heap.size, 1, none⟩) hz1).trans HM1.out
              clear s0 hb2 k0 k1
              go_wp2
              try rw [Exit.noGoto_ret]
              go_ret
              exact ⟨by rw [HU.out]; rfl, HBw2.out⟩
          · obtain rfl : gk = 1 := by omega
            have k0 : wq.cell? ⟨g, 2, none⟩ = some (.func (.func 153) #[] #[]) := by rw [cell_of_row wq g 2 chkF _ (0, 0) hgq]; rfl
            have k1 : wq.cell? ⟨g, 3, none⟩ = some (.int .i64 3) := by rw [cell_of_row wq g 3 chkF _ (0, 0) hgq]; rfl
            have q0 : wq.cell? ⟨bx, 0, none⟩ = some (.int .u8 kk) := (hbq.cell (p := ⟨bx, 0, none⟩) hfz).trans HF0.out
            have q1 : wq.cell? ⟨bx, 1, none⟩ = some (.slice A ln cA) := (hbq.cell (p := ⟨bx, 1, none⟩) hfz).trans HF1.out
            obtain ⟨W1, hW1⟩ : ∃ W1, wq.alloc (.cells #[.func (.func 153) #[] #[], .int .i64 3] 239) = W1 := ⟨_, rfl⟩
            have hb11 : Below wq.heap.size wq W1 := by rw [← hW1]; exact (Below.refl _ _).alloc (Nat.le_refl _) _
            have hbxq : bx < wq.heap.size := Nat.lt_of_lt_of_le hfz hbq.size
            have q2 : W1.cell? ⟨bx, 0, none⟩ = some (.int .u8 kk) := (hb11.cell (p := ⟨bx, 0, none⟩) hbxq).trans q0
            have q3 : W1.cell? ⟨bx, 1, none⟩ = some (.slice A ln cA) := (hb11.cell (p := ⟨bx, 1, none⟩) hbxq).trans q1
            have hz1 : wq.heap.size < W1.heap.size := by rw [← hW1]; simp
            have hm1 : W1.cell? ⟨wq.heap.size, 1, none⟩ = some (.int .i64 3) := by rw [← hW1, cell_of_row _ wq.heap.size 1 _ _ (0, 0) (heap_alloc_new wq _)]; rfl
            have hm0 : W1.cell? ⟨wq.heap.size, 0, none⟩ = wq.cell? ⟨g, 2, none⟩ := by rw [k0, ← hW1, cell_of_row _ wq.heap.size 0 _ _ (0, 0) (heap_alloc_new wq _)]; rfl
            rw [k0] at hm0
            have HB1 : Hid (Below wf.heap.size wf W1) := Lib.hid (HBq.out.trans (hb11.mono HBq.out.size))
            have HBw1 : Hid (Below w.heap.size w W1) := Lib.hid (HBw.out.trans (hb11.mono HBw.out.size))
            have s0 := f2_any (.int .u8 kk) A ln cA W1
            have ht : tstF f 1 = decide (ln ≤ 1000) := by rw [← HLN.out]; rfl
            rw [← ht] at s0
            have HM1 := Lib.hid hm1
            by_cases hb1 : tstF f 1 = true
            · rw [hb1] at s0
              have HU : Hid (upF f 2) := Lib.hid ⟨hup.out, hb1⟩
              clear hb1 hb11 hm1 ht hbq hgq hjq h5 q0 q1
              go_wp2_with fail
              refine s0.mono ?_
              rintro e w2 ⟨rfl, hb2⟩
              have HB2 := Lib.hid (HB1.out.trans (hb2.mono HB1.out.size))
              have HBw2 := Lib.hid (HBw1.out.trans (hb2.mono HBw1.out.size))
              clear s0 hb2 k0 k1
              go_wp2
              go_roundg 0
              case rel => exact ⟨2, rfl, by go_num, rfl, HU, HB2.out⟩
              case measure => omega
            · have hb1 : tstF f 1 = false := by simpa using hb1
              rw [hb1] at s0
              have HE : Hid (errF f = 3) := Lib.hid (upF_1 hup.out hb1)
              have HU : Hid (errsF fs = 3) := Lib.hid (by rw [HFk.out (by rw [HE.out]; omega), HE.out])
              clear hb1 hb11 hm1 ht hbq hgq hjq h5 q0 q1
              go_wp2_with fail
              refine s0.mono ?_
              rintro e w2 ⟨rfl, hb2⟩
              have HB2 := Lib.hid (HB1.out.trans (hb2.mono HB1.out.size))
              have HBw2 := Lib.hid (HBw1.out.trans (hb2.mono HBw1.out.size))
              have hm2 : w2.cell? ⟨wq.heap.size, 1, none⟩ = some (.int .i64 3) := (hb2.cell (p := ⟨wq.heap.size, 1, none⟩) hz1).trans HM1.out
              clear s0 hb2 k0 k1
              go_wp2
              try rw [Exit.noGoto_ret]
              go_ret
              exact ⟨by rw [HU.out]; rfl, HBw2.out⟩
end Go.Proofs.YtaicipldjmngaaaGreatDoor

namespace Go.Proofs.YtaicipldjmngaaaGreatDoor
open Go.RowKit
set_option linter.unusedSimpArgs false
theorem box2 {w w1 : World} {a b : Value} {t : TypeId} (hb : Below (w.heap.size + 1) (w.alloc (.cells #[a, b] t)) w1) :
    w1.cell? ⟨w.heap.size, 0, none⟩ = some a ∧ w1.cell? ⟨w.heap.size, 1, none⟩ = some b ∧ w1.frozen? ⟨w.heap.size, 0, none⟩ = false ∧ w1.frozen? ⟨w.heap.size, 1, none⟩ = false := by
  have hh := hb.block w.heap.size (by omega)
  rw [heap_alloc_new w _] at hh
  refine ⟨by rw [cell_of_row _ w.heap.size 0 _ _ (0, 0) hh]; rfl, by rw [cell_of_row _ w.heap.size 1 _ _ (0, 0) hh]; rfl, ?_, ?_⟩ <;> simp [World.frozen?, hh]
theorem below_box {w w1 : World} {o : Obj} (hb : Below (w.heap.size + 1) (w.alloc o) w1) : Below w.heap.size w w1 := ((Below.refl _ w).alloc (Nat.le_refl _) _).trans (hb.mono (by omega))
theorem grown_set (w : World) (b i : Nat) (v : Value) : w.grownBy (w.setCell ⟨b, i, none⟩ v) (some b) :=
  ⟨rfl, rfl, rfl, by simp [World.setCell], fun k _ hk => Below.heap_setCell _ _ _ _ (fun e => hk (by simp [e]))⟩
theorem set2 {W : World} {B : Nat} {x y : Value} (c0 : W.cell? ⟨B, 0, none⟩ = some x) (c1 : W.cell? ⟨B, 1, none⟩ = some y) (a b : Value) :
    ((W.setCell ⟨B, 0, none⟩ a).setCell ⟨B, 1, none⟩ b).cell? ⟨B, 0, none⟩ = some a ∧ ((W.setCell ⟨B, 0, none⟩ a).setCell ⟨B, 1, none⟩ b).cell? ⟨B, 1, none⟩ = some b := by
  have e : (W.setCell ⟨B, 0, none⟩ a).cell? ⟨B, 1, none⟩ = some y := (World.cell?_setCell_other _ _ _ _ (by intro e; injection e; omega)).trans c1
  exact ⟨(World.cell?_setCell_other _ _ _ _ (by intro e; injection e; omega)).trans (World.cell?_setCell_same' _ _ _ (by rw [c0]; rfl)), World.cell?_setCell_same' _ _ _ (by rw [e]; rfl)⟩
theorem body_cut {w : World} {b off n m : Nat} {xs : List UInt8} (h : RB w (some ⟨b, off, none⟩) n xs) (hl : m + 7 ≤ n) : RB w (some ⟨b, off + 3, none⟩) m ((xs.drop 3).take m) := by
  have := (rb_drop h (m := 3) (by omega)).take (k := m) (by omega)
  exact this
set_option maxHeartbeats 1000000 in
theorem take_okT (A : Option Addr) (n c : Nat) (xs : List UInt8) (w : World) (h : RB w A n xs) (hc : n ≤ c) (he : errT xs = 0) :
    Calls Tryz.prog 160 #[.slice A n c] w fun e w' => ∃ A' c', e = .returned (.tuple #[frV (frT xs) A' c', .int .i64 (((frT xs).b.length + 7 : Nat) : Int), .int .i64 0]) ∧ (BodyAt w' A' c' (frT xs).b ∧ TyB w' A' (frT xs).b.length) ∧ Below w.heap.size w w' := by
  obtain ⟨i0, hi, hz0, hz1, hz2⟩ := info_parts u8_info
  have hl := h.1
  obtain ⟨e1, e2, e3, e4, e5⟩ := errT_zero he
  obtain ⟨b, off, rfl, hb, hcell⟩ := h.at_ (by omega)
  have ha0 := hcell 0 (by omega)
  rw [Nat.add_zero] at ha0
  have HR := Lib.hid h
  have s1 := fun (g : Nat) (w1 : World) (hg : HasB w1 g) (hb : Below w.heap.size w w1) => faultB_any g w1.heap.size 0 1 n c (some ⟨b, off, none⟩) xs (w1.alloc (.cells #[.slice (some ⟨b, off, none⟩) n c] 27))
    (by
      have := (Below.refl w1.heap.size w1).alloc (Nat.le_refl _) (.cells #[.slice (some ⟨b, off, none⟩) n c] 27)
      exact (this.block g (Array.getElem?_eq_some_iff.1 hg).1).trans hg) (by simp)
    (by rw [cell_of_row _ w1.heap.size 0 _ _ (0, 0) (heap_alloc_new w1 _)]; rfl) ((HR.out.below hb).alloc _) hc
  rw [he] at s1
  have s3 := fun (w1 : World) (hb : Below w.heap.size w w1) => first_any b off n c xs w1 (HR.out.below hb) hc (by omega) e3 (by omega)
  have hfb : (frT xs).b.length = bodyN xs := (enc_take he).2.1
  have hfk : (frT xs).k = xs.getD 0 0 := rfl
  have hfl : (frT xs).b = (xs.drop 3).take (bodyN xs) := rfl
  obtain ⟨m, hm⟩ : ∃ m, bodyN xs = m := ⟨_, rfl⟩
  rw [hm] at s3 e3 e4 hfb hfl
  obtain ⟨kk, hkk⟩ : ∃ kk : Int, ((xs.getD 0 0).toNat : Int) = kk := ⟨_, rfl⟩
  rw [hkk] at ha0
  have HK : Hid (((frT xs).k.toNat : Int) = kk) := Lib.hid (by rw [hfk, hkk])
  have HL := Lib.hid hfb
  have HFL := Lib.hid hfl
  have HBody : Hid (RB w (some ⟨b, off + 3, none⟩) m ((xs.drop 3).take m)) := Lib.hid (body_cut h (by omega))
  have hn7 : m + 7 ≤ n := by omega
  have hc7 : m + 7 ≤ c := by omega
  have S1 := Lib.hid s1
  have S3 := Lib.hid s3
  have HA0 := Lib.hid ha0
  have HB' := Lib.hid hb
  clear h he s1 s3 hl e1 e2 e4 e5 hcell hfb hfk hfl hm hkk ha0 hb
  go_enter Tryz.func160, Tryz.ntmps160
  go_wp2_with fail
  refine (ofBytes_any _).mono ?_
  obtain ⟨W0, hW0⟩ : ∃ W0, w.alloc (.cells #[.int .u8 0, .slice none 0 0] 120) = W0 := ⟨_, rfl⟩
  have hs0 : W0.heap.size = w.heap.size + 1 := by rw [← hW0]; simp
  obtain ⟨g, hgd⟩ : ∃ g, W0.heap.size = g := ⟨_, rfl⟩
  rw [hW0, hgd]
  rintro e w1 ⟨rfl, hg, hb⟩
  have hb0 : Below (w.heap.size + 1) (w.alloc (.cells #[.int .u8 0, .slice none 0 0] 120)) w1 := by rw [hW0, ← hs0, hgd]; exact hb
  have s2 := S1.out g w1 hg (below_box hb0)
  have HB0 := Lib.hid hb0
  clear hg hb hb0 hgd hs0 hW0
  go_wp2_with fail
  refine s2.mono ?_
  rintro e w2 ⟨rfl, hb2⟩
  have hz := HB0.out.size
  rw [World.size_alloc] at hz
  have hb2' : Below (w.heap.size + 1) w1 w2 := ((Below.refl _ w1).alloc hz _).trans (hb2.mono (by rw [World.size_alloc]; omega))
  have HB2 := Lib.hid (HB0.out.trans hb2')
  have s4 := S3.out w2 (below_box HB2.out)
  clear s2 hb2 hb2' hz
  go_wp2_with fail
  refine s4.mono ?_
  rintro e w3 ⟨rfl, hb3⟩
  have HB3 := Lib.hid (HB2.out.trans (hb3.mono (by have := HB2.out.size; rw [World.size_alloc] at this; omega)))
  clear s4 hb3
  obtain ⟨c0, c1, f0, f1⟩ := box2 HB3.out
  have a0 : w3.cell? ⟨b, off, none⟩ = some (.int .u8 kk) := ((below_box HB3.out).cell (p := ⟨b, off, none⟩) HB'.out).trans HA0.out
  by_cases hm0 : m = 0
  · subst hm0
    go_wp2
    obtain ⟨d0, d1⟩ := set2 c0 c1 (.int .u8 kk) (.slice none 0 0)
    refine bodyPost_ret (v := .tuple #[.agg #[.int .u8 kk, .slice none 0 0], .int .i64 7, .int .i64 0]) (by simp [results, Tryz.results160, go_sem, d0, d1]) rfl ?_
    refine ⟨none, 0, by rw [frV, HK.out, HL.out]; rfl, ?_, ?_⟩
    · rw [HFL.out]
      exact ⟨⟨RB.zero _ _, Nat.le_refl _, fun _ => rfl, by simp⟩, fun h => absurd h (by simp)⟩
    · exact ((below_box HB3.out).setCell (p := ⟨w.heap.size, 0, none⟩) (Nat.le_refl _) _).setCell (p := ⟨w.heap.size, 1, none⟩) (Nat.le_refl _) _
  · have q1 : 0 < m := by omega
    have q2 : ¬ m + 3 = 3 := by omega
    have HS3 := Lib.hid (HBody.out.below (below_box HB3.out))
    go_wp2_with (at_builtin; refine wpList_append_rb rfl (.const (.slice none 0 0)) (.tmp 25) 27 rfl w3.heap.size 5 i0 (.int .u8 0) 1 Tryz.underlying27 hi hz0 hz1 hz2 rfl _ 0 [] rfl (World.ownsRow_nil _ _ _ _) (some ⟨b, off + 3, none⟩) m m ((xs.drop 3).take m) rfl (fun e => by cases e) HS3.out ?c1 ?c2 ?c3 ?_)
    case c1 => unfold maxLen; omega
    case c2 => omega
    case c3 => exact Nat.le_refl _
    intro v4 w4 hown4 hg4
    have hown5 : w4.ownsRow w3.heap.size 5 1 v4 m (((xs.drop 3).take m).map byteV) := by simpa using hown4
    obtain ⟨A4, c4, rfl, hr4, hn4, hc4, _⟩ := RB.own hown5
    have hb4 : Below w3.heap.size w3 w4 := (Below.refl _ w3).grown hg4 (Nat.le_refl _) (fun j hj => by simp [Value.ownBlock] at hj)
    have HB4 := Lib.hid (HB3.out.trans (hb4.mono (by have := HB3.out.size; rw [World.size_alloc] at this; omega)))
    have HO4 : Hid (∀ u1 u2, ((w4.setCell ⟨w.heap.size, 0, none⟩ u1).setCell ⟨w.heap.size, 1, none⟩ u2).ownsRow w3.heap.size 5 1 (.slice A4 m c4) m (((xs.drop 3).take m).map byteV)) := Lib.hid (fun u1 u2 => by
      have hlo := HB3.out.size
      rw [World.size_alloc] at hlo
      have hne : (Value.slice A4 m c4).ownBlock = none ∨ (Value.slice A4 m c4).ownBlock ≠ some w.heap.size := by
        refine Or.inr fun e => ?_
        have := (hown5.lt _ e).1
        omega
      exact (hown5.kept (grown_set w4 w.heap.size 0 u1) hne).kept (grown_set _ w.heap.size 1 u2) hne)
    have HLn : Hid (((xs.drop 3).take m).length = m ∧ m ≤ c4 ∧ (A4 = none → c4 = 0)) := Lib.hid ⟨hr4.1, hc4, hn4⟩
    obtain ⟨c0, c1, f0, f1⟩ := box2 HB4.out
    have a0 : w4.cell? ⟨b, off, none⟩ = some (.int .u8 kk) := ((below_box HB4.out).cell (p := ⟨b, off, none⟩) HB'.out).trans HA0.out
    clear hown4 hown5 hr4 hb4 hn4 hg4 hc4
    go_wp2
    obtain ⟨d0, d1⟩ := set2 c0 c1 (.int .u8 kk) (.slice A4 m c4)
    refine bodyPost_ret (v := .tuple #[.agg #[.int .u8 kk, .slice A4 m c4], .int .i64 (((m + 7 : Nat)) : Int), .int .i64 0]) (by simp [results, Tryz.results160, go_sem, d0, d1]) rfl ?_
    refine ⟨A4, c4, by rw [frV, HK.out, HL.out], ?_, ?_⟩
    · have hty : TyB ((w4.setCell ⟨w.heap.size, 0, none⟩ (.int .u8 kk)).setCell ⟨w.heap.size, 1, none⟩ (.slice A4 m c4)) A4 m := TyB.own (HO4.out (.int .u8 kk) (.slice A4 m c4))
      obtain ⟨A5, c5, ev, hr5, _⟩ := RB.own (HO4.out (.int .u8 kk) (.slice A4 m c4))
      simp only [Value.slice.injEq] at ev
      obtain ⟨rfl, _, rfl⟩ := ev
      obtain ⟨l1, l2, l3⟩ := HLn.out
      rw [HFL.out]
      exact ⟨⟨by rw [l1]; exact hr5, by rw [l1]; exact l2, l3, by rw [l1]; omega⟩, by rw [l1]; exact hty⟩
    · exact ((below_box HB4.out).setCell (p := ⟨w.heap.size, 0, none⟩) (Nat.le_refl _) _).setCell (p := ⟨w.heap.size, 1, none⟩) (Nat.le_refl _) _
theorem take_ok (A : Option Addr) (n c : Nat) (xs : List UInt8) (w : World) (h : RB w A n xs) (hc : n ≤ c) (he : errT xs = 0) :
    Calls Tryz.prog 160 #[.slice A n c] w fun e w' => ∃ A' c', e = .returned (.tuple #[frV (frT xs) A' c', .int .i64 (((frT xs).b.length + 7 : Nat) : Int), .int .i64 0]) ∧ BodyAt w' A' c' (frT xs).b ∧ Below w.heap.size w w' :=
  (take_okT A n c xs w h hc he).mono fun _ _ ⟨A', c', h1, h2, h3⟩ => ⟨A', c', h1, h2.1, h3⟩
end Go.Proofs.YtaicipldjmngaaaGreatDoor

namespace Go.Proofs.YtaicipldjmngaaaGreatDoor
open Go.RowKit
set_option linter.unusedSimpArgs false
theorem sum_piece (A : Option Addr) (n c : Nat) (xs : List UInt8) (w : World) (h : RB w A n xs) (hn : n ≤ maxLen) :
    Calls Tryz.prog 155 #[.slice (some ⟨w.heap.size, 0, none⟩) 1 1] (w.alloc (.cells #[.slice A n c] 27)) fun e w' => e = .returned (.int .u32 ((crc xs).toNat : Int)) ∧ Below w.heap.size w w' := by
  have := con_held.sum (some ⟨w.heap.size, 0, none⟩) 1 1 [xs] (w.alloc (.cells #[.slice A n c] 27)) (Pieces.one h hn _) rfl (by omega)
  rw [show [xs].flatten = xs by simp] at this
  exact this.mono fun e w' ⟨he, hb⟩ => ⟨he, ((Below.refl _ w).alloc (Nat.le_refl _) _).trans (hb.mono (by simp))⟩
def Addable (w : World) (base L : Nat) (v : Value) (m : Nat) (xs : List UInt8) : Prop :=
  (w.ownsRow base 5 1 v m (xs.map byteV) ∧ ∀ j, v.ownBlock = some j → j < L) ∨ ∃ B, v = .slice B m m ∧ RB w B m xs ∧ (B = none → m = 0)
theorem wpList_append_add {P : Program} {w : World} {ops : Array Oper} {rest : List Oper} {o : Oper} {a : Act} {Q : Exit → Act → World → Prop} (hgd : o.guard = none) (s x : Operand) (t : TypeId)
    (ho : o.op = .call { callee := .builtin .append, args := #[s, x], argTypes := #[t, t] })
    (base : Nat) (i : TypeInfo) (ht : P.underlying t = some (.slice 5)) (hi : P.info? 5 = some i) (hz : i.zero = some (.int .u8 0))
    (hsize : i.size = 1) (hby : i.bytes = 1)
    (v : Value) (m : Nat) (ys : List UInt8) (hs : a.eval s = v) (L : Nat) (hv : Addable w base L v m ys)
    (A : Option Addr) (n c : Nat) (xs : List UInt8) (hx : a.eval x = .slice A n c) (hR : RB w A n xs) (hn : 0 < n)
    (h63 : m + n ≤ maxLen) (hbytes : (m + n) * 1 ≤ 140737488355328) (hbase : base ≤ w.heap.size)
    (h : Hid (∀ v' w', w'.ownsRow base 5 1 v' (m + n) ((ys ++ xs).map byteV) → (∀ B0, B0 ≤ base → Below B0 w w') → (∀ p : Addr, L ≤ p.block → p.block < w.heap.size → w'.cell? p = w.cell? p) → wpList P ops Q rest (a.put o.dst v') w')) : wpList P ops Q (o :: rest) a w := by
  rcases hv with ⟨hown, hL⟩ | ⟨B, rfl, hB, hnil⟩
  · refine wpList_append_rb hgd s x t ho base 5 i (.int .u8 0) 1 ht hi hz hsize hby rfl v m (ys.map byteV) hs hown A n c xs hx (fun e => by
      obtain ⟨_, _, e', _⟩ := hR.2 hn
      rw [e] at e'; cases e') hR h63 hbytes hbase (fun v' w' h1 h2 => h.out v' w' (by rw [List.map_append]; exact h1) (fun B0 hB0 => (Below.refl _ w).grown h2 (by omega) (fun j hj => Nat.le_trans hB0 (hown.lt j hj).1)) (fun p hp hpl => World.cell?_of_block (h2.block p.block hpl (fun e => by have := hL _ e.symm; omega))))
  · obtain ⟨b, off, rfl, hlt, _⟩ := hR.2 hn
    refine wpList_append_grows w hgd s x t ho 5 i (.int .u8 0) 1 1 ht hi hz hsize hby rfl (by decide) B m m (ys.map byteV) hs (fun e => ⟨hnil e, hnil e⟩) (by simp [hB.1]) (fun ad e j u hu => by
        subst e
        exact hB.news j u hu) ⟨b, off, none⟩ n c (xs.map byteV) hx (by simp [hR.1]) hR.news (by
      intro u hu
      simp only [List.mem_map] at hu
      obtain ⟨y, _, rfl⟩ := hu
      rfl) (by omega) h63 hbytes (fun v' w' h1 h2 => h.out v' w' (by rw [List.map_append]; exact bown_base h1 hbase) (fun B0 hB0 => (Below.refl _ w).grown h2 (by omega) (fun j hj => by cases hj)) (fun p hp hpl => World.cell?_of_block (h2.block p.block hpl (fun e => by cases e))))
theorem Addable.below {w w' : World} {base L : Nat} {v : Value} {m : Nat} {xs : List UInt8} (h : Addable w base L v m xs) (hb : Below w.heap.size w w') : Addable w' base L v m xs := by
  rcases h with ⟨h, hL⟩ | ⟨B, e, h, hn⟩
  · exact .inl ⟨bown_keep h hb, hL⟩
  · exact .inr ⟨B, e, h.below hb, hn⟩
theorem rb_three (w : World) (x y z : UInt8) (a b c : Int) (t : TypeId) (ha : a = (x.toNat : Int)) (hb : b = (y.toNat : Int)) (hc : c = (z.toNat : Int)) : RB (w.alloc (.cells #[.int .u8 a, .int .u8 b, .int .u8 c] t)) (some ⟨w.heap.size, 0, none⟩) 3 [x, y, z] := by
  subst ha hb hc
  refine ⟨rfl, fun _ => ⟨_, _, rfl, by simp, fun j hj => ?_⟩⟩
  rw [cell_of_row _ w.heap.size _ _ _ (0, 0) (heap_alloc_new w _)]
  have hj3 : j < 3 := hj
  match j, hj3 with
  | 0, _ | 1, _ | 2, _ => rfl
theorem head_vals {n : Nat} (h : n ≤ 1000) : (n : Int) / 256 = (((n / 256).toUInt8).toNat : Int) ∧ (n : Int) % 256 = (((n % 256).toUInt8).toNat : Int) := by
  rw [toU8 (by omega), toU8 (by omega)]
  omega
def head3 (f : Fr) : List UInt8 := [f.k, (f.b.length / 256).toUInt8, (f.b.length % 256).toUInt8]
theorem head3_app (f : Fr) : head3 f ++ f.b = headF f := rfl
set_option maxHeartbeats 1000000 in
theorem lay_any (w0 w : World) (base m d : Nat) (B : Option Addr) (xs : List UInt8) (hv : Addable w base w.heap.size (.slice B m d) m xs) (hb : Below w0.heap.size w0 w) (h1 : w0.heap.size ≤ base) (h2 : base ≤ w.heap.size)
    (f : Fr) (A : Option Addr) (c : Nat) (hf : BodyAt w0 A c f.b) (hfl : f.b.length ≤ 1000) (hm : m + 1007 ≤ 140737488355328) :
    Calls Tryz.prog 106 #[.slice B m d, frV f A c] w fun e w' => ∃ v', e = .returned v' ∧ w'.ownsRow base 5 1 v' (m + (f.b.length + 7)) ((xs ++ encF f).map byteV) ∧ Below w0.heap.size w0 w' := by
  obtain ⟨i0, hi, hz0, hz1, hz2⟩ := info_parts u8_info
  obtain ⟨r1, r2, r3, r4⟩ := hf
  obtain ⟨n, hn⟩ : ∃ n, f.b.length = n := ⟨_, rfl⟩
  unfold frV
  rw [hn] at r1 r2 hfl ⊢
  have HV := Lib.hid hv
  have HB := Lib.hid hb
  have HR := Lib.hid r1
  have HN := Lib.hid hn
  have HNil := Lib.hid r3
  clear hv hb r1 r3 r4 hn
  go_enter Tryz.func106, Tryz.ntmps106
  go_wp2
  go_quiet (fail)
  obtain ⟨W1, hW1⟩ : ∃ W1, (w.alloc (.cells #[.int .u8 (f.k.toNat : Int), .slice A n c] 120)).drewN nq = W1 := ⟨_, rfl⟩
  have hbw1 : Below w.heap.size w W1 := by rw [← hW1]; exact below_drewN ((Below.refl _ w).alloc (Nat.le_refl _) _) nq
  have hsz1 : W1.heap.size = w.heap.size + 1 := by rw [← hW1]; simp [World.drewN]
  obtain ⟨W2, hW2⟩ : ∃ W2, W1.alloc (.cells #[.int .u8 (f.k.toNat : Int), .int .u8 ((n : Int) / 256), .int .u8 ((n : Int) % 256)] 5) = W2 := ⟨_, rfl⟩
  have hbw2 : Below w.heap.size w W2 := by rw [← hW2]; exact hbw1.alloc (by omega) _
  have hR3 : RB W2 (some ⟨w.heap.size + 1, 0, none⟩) 3 (head3 f) := by
    have := rb_three W1 f.k (f.b.length / 256).toUInt8 (f.b.length % 256).toUInt8 (f.k.toNat : Int) ((n : Int) / 256) ((n : Int) % 256) 5 rfl (by rw [HN.out]; exact (head_vals hfl).1) (by rw [HN.out]; exact (head_vals hfl).2)
    rw [hW2, hsz1] at this
    exact this
  have hc0 : W1.cell? ⟨w.heap.size, 0, none⟩ = some (.int .u8 (f.k.toNat : Int)) := by rw [← hW1]; exact cell_of_row (w.alloc (.cells #[.int .u8 (f.k.toNat : Int), .slice A n c] 120)) w.heap.size 0 _ _ (0, 0) (heap_alloc_new w _)
  have hc1 : W1.cell? ⟨w.heap.size, 1, none⟩ = some (.slice A n c) := by rw [← hW1]; exact cell_of_row (w.alloc (.cells #[.int .u8 (f.k.toNat : Int), .slice A n c] 120)) w.heap.size 1 _ _ (0, 0) (heap_alloc_new w _)
  have hbw12 : Below W1.heap.size W1 W2 := by rw [← hW2]; exact (Below.refl _ _).alloc (Nat.le_refl _) _
  have hc2 : W2.cell? ⟨w.heap.size, 1, none⟩ = some (.slice A n c) := (hbw12.cell (p := ⟨w.heap.size, 1, none⟩) (by show w.heap.size < _; omega)).trans hc1
  have HV2 := Lib.hid (HV.out.below hbw2)
  have HB2 : Hid (Below w0.heap.size w0 W2) := Lib.hid (HB.out.trans (hbw2.mono HB.out.size))
  have HR3 := Lib.hid hR3
  have HC2 := Lib.hid hc2
  have hsz2 : w.heap.size ≤ W2.heap.size := hbw2.size
  have hsz2' : w.heap.size < W2.heap.size := bcell_lt hc2
  have HS1 := Lib.hid hsz1
  clear hbw1 hbw2 hbw12 hR3 hc2
  rw [hW1]
  go_wp2_with (at_builtin; refine wpList_append_add rfl (.tmp 12) (.tmp 20) 27 rfl base i0 Tryz.underlying27 hi hz0 hz1 hz2 _ m xs rfl w.heap.size HV2.out (some ⟨w.heap.size + 1, 0, none⟩) 3 3 (head3 f) ?e1 HR3.out (by omega) ?e2 ?e3 ?e4 ?_)
  case e1 => rw [← HS1.out]; rfl
  case e2 => unfold maxLen; omega
  case e3 => omega
  case e4 => omega
  refine Lib.hid ?_
  intro v3 W3 hown3 hbel3 hkeep3
  have hb3 := hbel3 w0.heap.size h1
  have HB3 : Hid (Below w0.heap.size w0 W3) := Lib.hid (HB2.out.trans hb3)
  have hz3 := (hbel3 base (Nat.le_refl _)).size
  have hc3 : W3.cell? ⟨w.heap.size, 1, none⟩ = some (.slice A n c) := (hkeep3 ⟨w.heap.size, 1, none⟩ (Nat.le_refl _) (by show w.heap.size < _; omega)).trans HC2.out
  replace hown3 : W3.ownsRow base 5 1 v3 (m + 3) ((xs ++ head3 f).map byteV) := by rw [List.map_append]; exact hown3
  obtain ⟨A3, c3, rfl, _, _, _, _⟩ := RB.own hown3
  have HO3 := Lib.hid hown3
  have HR3' := Lib.hid (HR.out.below HB3.out)
  clear hbel3 hkeep3 hb3 hown3
  go_wp2_with (at_builtin; refine wpList_append_rbh rfl (.tmp 22) (.tmp 24) 27 rfl base i0 Tryz.underlying27 hi hz0 hz1 hz2 _ (m + 3) (xs ++ head3 f) rfl HO3.out A n c f.b rfl HNil.out HR3'.out ?g1 ?g2 ?g3 ?_)
  case g1 => unfold maxLen; omega
  case g2 => omega
  case g3 => omega
  refine Lib.hid ?_
  intro v4 W4 hown4 hg4
  have HB4 : Hid (Below w0.heap.size w0 W4) := Lib.hid (HB3.out.trans ((Below.refl _ W3).grown hg4 (HB3.out.size) (fun j hj => Nat.le_trans h1 (HO3.out.lt j hj).1)))
  have hz4 := hg4.size
  have hown4' : W4.ownsRow base 5 1 v4 (m + 3 + n) ((xs ++ headF f).map byteV) := by
    rw [← head3_app, ← List.append_assoc]; simpa using hown4
  obtain ⟨A4, c4, rfl, hr4, hn4, hc4, hm4⟩ := RB.own hown4'
  have HO4 := Lib.hid hown4'
  obtain ⟨g4, o4, rfl, hg4l, _⟩ := hr4.2 (by omega)
  have HR4 := Lib.hid hr4
  clear hg4 hown4 hown4' hr4 hn4
  have q2 : ¬ (m + 3 + n = m) := by omega
  have HLx : Hid (xs.length = m) := Lib.hid (by
    have := HR4.out.1
    rw [List.length_append, headF_length, HN.out] at this
    omega)
  have hrd : RB W4 (some ⟨g4, o4 + m, none⟩) (m + 3 + n - m) (headF f) := by
    have := rb_drop HR4.out (m := m) (by omega)
    have hd : (xs ++ headF f).drop m = headF f := by rw [← HLx.out, List.drop_left]
    rwa [hd] at this
  have s1 := sum_piece (some ⟨g4, o4 + m, none⟩) (m + 3 + n - m) (m + 3 + n - m) (headF f) W4 hrd (by unfold maxLen; omega)
  obtain ⟨T, hT⟩ : ∃ T : BitVec 32, crc (headF f) = T := ⟨_, rfl⟩
  rw [hT] at s1
  have HT := Lib.hid hT
  clear hrd hT
  go_wp2_with fail
  refine s1.mono ?_
  rintro e W5 ⟨rfl, hb5⟩
  have HB45 := Lib.hid hb5
  clear s1 hb5
  go_wp2_with fail
  refine (con_held.bytes T W5).mono ?_
  rintro e W6 ⟨A6, c6, rfl, hr6, hn6, hc6, hm6, hb6⟩
  have HB46 : Hid (Below W4.heap.size W4 W6) := Lib.hid (HB45.out.trans (hb6.mono HB45.out.size))
  have HO6 := Lib.hid (bown_keep HO4.out HB46.out)
  have HB6 : Hid (Below w0.heap.size w0 W6) := Lib.hid (HB4.out.trans (HB46.out.mono HB4.out.size))
  have hz6 := HB46.out.size
  have l4 : (sumBytes T).length = 4 := rfl
  rw [l4] at hr6 hc6 ⊢
  have HR6 := Lib.hid hr6
  have HN6 := Lib.hid hn6
  clear hr6 hn6 hb6 l4
  go_wp2_with (at_builtin; refine wpList_append_rbh rfl (.tmp 26) (.tmp 36) 27 rfl base i0 Tryz.underlying27 hi hz0 hz1 hz2 _ (m + 3 + n) (xs ++ headF f) rfl HO6.out A6 4 c6 (sumBytes T) rfl HN6.out HR6.out ?i1 ?i2 ?i3 ?_)
  case i1 => unfold maxLen; omega
  case i2 => omega
  case i3 => omega
  refine Lib.hid ?_
  intro v7 W7 hown7 hg7
  have HB7 : Hid (Below w0.heap.size w0 W7) := Lib.hid (HB6.out.trans ((Below.refl _ W6).grown hg7 (HB6.out.size) (fun j hj => Nat.le_trans h1 (HO6.out.lt j hj).1)))
  have HO7 : Hid (W7.ownsRow base 5 1 v7 (m + (n + 7)) ((xs ++ encF f).map byteV)) := Lib.hid (by
    have e : xs ++ encF f = xs ++ headF f ++ sumBytes T := by rw [encF, sealB, HT.out, List.append_assoc]
    rw [e, show m + (n + 7) = m + 3 + n + 4 by omega]
    simpa using hown7)
  obtain ⟨A7, c7, rfl, _, _, _, _⟩ := RB.own HO7.out
  clear hown7 hg7
  go_wp2
  go_ret
  exact ⟨_, rfl, HO7.out, HB7.out⟩
end Go.Proofs.YtaicipldjmngaaaGreatDoor

namespace Go.Proofs.YtaicipldjmngaaaGreatDoor
open Go.RowKit
set_option linter.unusedSimpArgs false
theorem HasF.below {w w' : World} {g : Nat} (h : HasF w g) (hb : Below w.heap.size w w') : HasF w' g := (hb.block g (Array.getElem?_eq_some_iff.1 h).1).trans h
theorem HasB.below {w w' : World} {g : Nat} (h : HasB w g) (hb : Below w.heap.size w w') : HasB w' g := (hb.block g (Array.getElem?_eq_some_iff.1 h).1).trans h
def putR (f : Fr) (V : Value) : Nat → Value → World → Prop
  | 0, v, w => ∃ g, v = .slice (some ⟨g, 0, none⟩) 2 2 ∧ HasF w g
  | 1, v, _ => v = V
  | 2, v, w => ∃ g, v = .slice (some ⟨g, 0, none⟩) 1 1 ∧ RFs w (some ⟨g, 0, none⟩) 1 [f]
  | _, v, _ => v = .int .i64 (errF f : Int)
theorem putR_stable (f : Fr) (V : Value) : ∀ i v w w', putR f V i v w → Go.Rel.Grew w w' → putR f V i v w'
  | 0, _, _, _, ⟨g, e, h⟩, k => ⟨g, e, h.below k⟩
  | 1, _, _, _, h, _ => h
  | 2, _, _, _, ⟨g, e, h⟩, k => ⟨g, e, h.below k⟩
  | _ + 3, _, _, _, h, _ => h
end Go.Proofs.YtaicipldjmngaaaGreatDoor

namespace Go.Proofs.YtaicipldjmngaaaGreatDoor
open Go.RowKit
set_option linter.unusedSimpArgs false
end Go.Proofs.YtaicipldjmngaaaGreatDoor

namespace Go.Proofs.YtaicipldjmngaaaGreatDoor
open Go.RowKit
set_option linter.unusedSimpArgs false
end Go.Proofs.YtaicipldjmngaaaGreatDoor

namespace Go.Proofs.YtaicipldjmngaaaGreatDoor
open Go.RowKit
set_option linter.unusedSimpArgs false
end Go.Proofs.YtaicipldjmngaaaGreatDoor

namespace Go.Proofs.YtaicipldjmngaaaGreatDoor
open Go.RowKit
set_option linter.unusedSimpArgs false
def PackPost (w : World) (fs : List Fr) (e : Ending) (w' : World) : Prop :=
  Below w.heap.size w w' ∧ ((errPack fs ≠ 0 ∧ e = .returned (.tuple #[.slice none 0 0, .int .i64 (errPack fs : Int)])) ∨
    (errPack fs = 0 ∧ ∃ A c, e = .returned (.tuple #[.slice A (encs fs).length c, .int .i64 0]) ∧ RB w' A (encs fs).length (encs fs) ∧ (A = none → c = 0) ∧ (encs fs).length ≤ c))
theorem encs_take_le {fs : List Fr} (h : ∀ f ∈ fs, okF f) (hl : fs.length ≤ 32) (k : Nat) : (encs (fs.take k)).length ≤ 32224 := by
  have : ∀ gs : List Fr, (∀ f ∈ gs, okF f) → (encs gs).length ≤ 1007 * gs.length := by
    intro gs
    induction gs with
    | nil => intro _; simp [encs]
    | cons g gs ih =>
      intro hg
      have h1 := (hg g (by simp)).2
      have h2 := ih (fun f hf => hg f (by simp [hf]))
      rw [encs_cons, List.length_append, encF_length, List.length_cons]
      omega
  have h1 := this (fs.take k) (fun f hf => h f (List.mem_of_mem_take hf))
  have h2 : (fs.take k).length ≤ 32 := by rw [List.length_take]; omega
  omega
def PackNew (w : World) (fs : List Fr) (e : Ending) (w' : World) : Prop :=
  Below w.heap.size w w' ∧ ((errPack fs ≠ 0 ∧ e = .returned (.tuple #[.slice none 0 0, .int .i64 (errPack fs : Int)])) ∨
    (errPack fs = 0 ∧ ∃ A c, e = .returned (.tuple #[.slice A (encs fs).length c, .int .i64 0]) ∧ w'.ownsRow w.heap.size 5 1 (.slice A (encs fs).length c) (encs fs).length ((encs fs).map byteV)))
theorem PackNew.post {w w' : World} {fs : List Fr} {e : Ending} (h : PackNew w fs e w') : PackPost w fs e w' := by
  refine ⟨h.1, h.2.imp id ?_⟩
  rintro ⟨h0, A, c, rfl, h1⟩
  obtain ⟨A', c', e', h3, h4, h5, _⟩ := RB.own h1
  simp only [Value.slice.injEq, true_and] at e'
  obtain ⟨rfl, rfl⟩ := e'
  exact ⟨h0, A, c, rfl, h3, h4, h5⟩
set_option maxHeartbeats 4000000 in
theorem pack_new (A : Option Addr) (n c : Nat) (fs : List Fr) (w : World) (hR : RFs w A n fs) (hn : n ≤ 4398046511104) : Calls Tryz.prog 59 #[.slice A n c] w (PackNew w fs) := by
  have HR := Lib.hid hR
  have HL := Lib.hid hR.1
  have S2 := Lib.hid (fun (g : Nat) (w1 : World) (hg : HasF w1 g) (hb : Below w.heap.size w w1) => faultF_any g n c A fs w1 hg (hR.below hb) (by omega))
  clear hR
  obtain ⟨E, hE⟩ : ∃ E, errsF fs = E := ⟨_, rfl⟩
  rw [hE] at S2
  have HE := Lib.hid hE
  obtain ⟨g0, hg0⟩ : ∃ g, w.heap.size = g := ⟨_, rfl⟩
  clear hE
  go_enter Tryz.func59, Tryz.ntmps59
  go_wp2_with fail
  refine (ofFrame_any w).mono ?_
  rw [hg0]
  rintro e w1 ⟨rfl, hg, hb⟩
  have hb' : Below w.heap.size w w1 := by rw [hg0]; exact hb
  have s2 := S2.out g0 w1 hg hb'
  have HB1 := Lib.hid hb'
  clear hb hb' hg
  go_wp2_with fail
  refine s2.mono ?_
  rintro e w2 ⟨rfl, hb2⟩
  have HB2 : Hid (Below w.heap.size w w2) := Lib.hid (HB1.out.trans (hb2.mono HB1.out.size))
  clear s2 hb2
  by_cases hE0 : E = 0
  · subst hE0
    by_cases h32 : n = 0 ∨ 32 < n
    · have HEP : Hid (errPack fs = 5) := Lib.hid (by unfold errPack; rw [if_neg (by simp [HE.out]), if_pos (by rw [HL.out]; exact h32)])
      rcases h32 with h0 | h0
      · subst h0
        clear hg0
        go_wp2
        go_ret2
        exact ⟨HB2.out, .inl ⟨by rw [HEP.out]; omega, by rw [HEP.out]; rfl⟩⟩
      · have q0 : ((n : Int) == 0) = false := by rw [beq_eq_false_iff_ne]; omega
        have q1 : (32 : Int) < (n : Int) := by omega
        clear hg0
        go_wp2
        go_ret2
        exact ⟨HB2.out, .inl ⟨by rw [HEP.out]; omega, by rw [HEP.out]; rfl⟩⟩
    · have h1 : 0 < n := by omega
      have h2 : n ≤ 32 := by omega
      have HOk : Hid (∀ f ∈ fs, okF f) := Lib.hid (errsF_zero.1 HE.out)
      have HEP : Hid (errPack fs = if 1400 < (encs fs).length then 5 else 0) := Lib.hid (by unfold errPack; rw [if_neg (by simp [HE.out]), if_neg (by rw [HL.out]; exact h32)])
      have q0 : ((n : Int) == 0) = false := by rw [beq_eq_false_iff_ne]; omega
      have q1 : (n : Int) ≤ 32 := by omega
      clear h32
      go_wp2
      rw [hg0] at HB2
      go_loopw [5, 24] (fun v i wr => ∃ k : Nat, k ≤ n ∧ i = .int .i64 k ∧ Hid (wr.ownsRow g0 5 1 v (encs (fs.take k)).length ((encs (fs.take k)).map byteV)) ∧ Hid (Below g0 w wr)) (fun _ i _ => n - (intOf i).toNat)
      case atStart => exact ⟨0, Nat.zero_le _, rfl, Lib.hid (World.ownsRow_nil _ _ _ _), HB2⟩
      case round =>
        obtain ⟨k, hk, rfl, hown, hbw⟩ := hrel
        obtain ⟨Bv, dv, rfl, hrb, hnl, hle, _⟩ := RB.own hown.out
        have hl32 := encs_take_le HOk.out (by rw [HL.out]; exact h2) k
        obtain ⟨L, hL⟩ : ∃ L, (encs (fs.take k)).length = L := ⟨_, rfl⟩
        rw [hL] at hown hrb hle hl32 ⊢
        have HLL := Lib.hid hL
        by_cases hlt : k < n
        · have hkl : k < fs.length := by rw [HL.out]; exact hlt
          obtain ⟨b, off, rfl, hb, hat⟩ := HR.out.2 (by omega)
          obtain ⟨f, hf⟩ : ∃ f, fs[k] = f := ⟨_, rfl⟩
          have hfr := hat k hkl
          rw [hf] at hfr
          have hfr2 := hfr.below (by rw [hg0]; exact hbw.out)
          obtain ⟨_, hc0, A1, cA, hc1, hbody1⟩ := hfr
          obtain ⟨_, hc0', A2, cA2, hc1', _⟩ := hfr2
          have hA12 : A2 = A1 ∧ cA2 = cA := by
            have e1 := (hbw.out.cell (p := ⟨b, off + k * 2 + 1, none⟩) (by show b < g0; omega)).trans hc1
            rw [hc1'] at e1
            simp only [Option.some.injEq, Value.slice.injEq] at e1
            exact ⟨e1.1, e1.2.2⟩
          obtain ⟨rfl, rfl⟩ := hA12
          have hokf := HOk.out f (by rw [← hf]; exact List.getElem_mem hkl)
          have hgw := hbw.out.size
          rw [hg0] at hgw
          have S5 := Lib.hid (fun (w5 : World) (hb5 : Below wr.heap.size wr w5) => lay_any w w5 g0 L dv Bv (encs (fs.take k)) (.inl ⟨bown_keep hown.out hb5, ((bown_keep hown.out hb5).lt · · |>.2)⟩) (by rw [hg0]; exact hbw.out.trans (hb5.mono hgw)) (by omega) (Nat.le_trans hgw hb5.size) f A2 cA2 hbody1 hokf.2 (by omega))
          have HT : Hid (encs (fs.take (k + 1)) = encs (fs.take k) ++ encF f) := Lib.hid (by rw [List.take_succ_eq_append_getElem hkl, encs_snoc, hf])
          obtain ⟨ln, hln⟩ : ∃ v : Nat, f.b.length = v := ⟨_, rfl⟩
          unfold frV at S5
          rw [hln] at S5 hc1'
          have HLN := Lib.hid hln
          have HG0 := Lib.hid hg0
          clear hc0 hc1 hbody1 hokf hat hf hrb hnl hL hown hln hg0
          go_wp2_with fail
          refine (S5.out _ ((Below.refl _ wr).alloc (Nat.le_refl _) _)).mono ?_
          rintro e w6 ⟨v6, rfl, hown6, hb6⟩
          have hl6 : L + (ln + 7) = (encs (fs.take (k + 1))).length := by rw [HT.out, List.length_append, encF_length, HLL.out, HLN.out]
          rw [hl6, ← HT.out] at hown6
          have HO6 := Lib.hid hown6
          obtain ⟨A6, c6, rfl, _, _, _, _⟩ := RB.own hown6
          have HB6 : Hid (Below g0 w w6) := Lib.hid (by rw [← HG0.out]; exact hb6)
          clear hown6 hb6 hl6 hc0' hc1'
          go_wp2
          go_roundw
          case rel => exact ⟨k + 1, by omega, by go_num, HO6, HB6⟩
          case measure => simp [intOf]; omega
        · obtain rfl : k = n := by omega
          have htk : fs.take k = fs := List.take_of_length_le (by rw [HL.out]; omega)
          rw [htk] at hown hrb hL
          have HRB := Lib.hid hrb
          have HNL := Lib.hid hnl
          have HLe := Lib.hid hL
          have HBw : Hid (Below w.heap.size w wr) := Lib.hid (by rw [hg0]; exact hbw.out)
          have HG9 := Lib.hid hg0
          clear hrb hnl hL hg0 htk
          by_cases h14 : 1400 < L
          · have HE5 : Hid (errPack fs = 5) := Lib.hid (by rw [HEP.out, if_pos (by rw [HLe.out]; exact h14)])
            have q2 : (1400 : Int) < (L : Int) := by omega
            go_wp2
            go_ret2
            exact ⟨HBw.out, .inl ⟨by rw [HE5.out]; omega, by rw [HE5.out]; rfl⟩⟩
          · have HE5 : Hid (errPack fs = 0) := Lib.hid (by rw [HEP.out, if_neg (by rw [HLe.out]; exact h14)])
            have q2 : (L : Int) ≤ 1400 := by omega
            clear h14
            go_wp2
            go_ret2
            exact ⟨HBw.out, .inr ⟨HE5.out, _, _, by rw [HLe.out]; rfl, by rw [HLe.out, HG9.out]; exact hown.out⟩⟩
  · have HEP : Hid (errPack fs = E) := Lib.hid (by unfold errPack; rw [if_pos (by rw [HE.out]; exact hE0), HE.out])
    have e0 : ((E : Int) == 0) = false := by rw [beq_eq_false_iff_ne]; omega
    have e0' : ((E : Int) != 0) = true := by rw [bne_iff_ne]; omega
    have HE0 := Lib.hid hE0
    clear hE0 hg0
    go_wp2
    go_ret2
    exact ⟨HB2.out, .inl ⟨by rw [HEP.out]; exact HE0.out, by rw [HEP.out]; rfl⟩⟩
end Go.Proofs.YtaicipldjmngaaaGreatDoor
