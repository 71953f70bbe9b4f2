import Derived.Test.YtaicipldjmngaaaGreatDoorZj17
import Derived.Test.YtaicipldjmngaaaGreatDoorZj15
import Derived.StillTailTactics
import Derived.Deep.QuietTactic
import Derived.BigQuiet
import Derived.WalkLawsBesides
import Derived.Test.YtaicipldjmngaaaGreatDoorZj2
import Derived.Deep.CutRange
import Derived.Deep.DeepCutAuto
import Derived.Laws.IdiomStrings
namespace Go.Proofs.YtaicipldjmngaaaGreatDoor
open Go.RowKit
set_option linter.unusedSimpArgs false
def Pieces (w : World) (A : Option Addr) (ps : List (List UInt8)) : Prop :=
  ps ≠ [] → ∃ b off, A = some ⟨b, off, none⟩ ∧ b < w.heap.size ∧ ∀ j (h : j < ps.length), ∃ Aj cj, w.cell? ⟨b, off + j, none⟩ = some (.slice Aj ps[j].length cj) ∧ RB w Aj ps[j].length ps[j] ∧ ps[j].length ≤ maxLen
theorem Pieces.none (w : World) (A : Option Addr) : Pieces w A [] := fun h => absurd rfl h
theorem Pieces.below {w w' : World} {A : Option Addr} {ps : List (List UInt8)} (h : Pieces w A ps) (hb : Below w.heap.size w w') : Pieces w' A ps := fun hn => by
  obtain ⟨b, off, e, hlt, hc⟩ := h hn
  refine ⟨b, off, e, Nat.lt_of_lt_of_le hlt hb.size, fun j hj => ?_⟩
  obtain ⟨Aj, cj, h1, h2, h3⟩ := hc j hj
  exact ⟨Aj, cj, (hb.cell (p := ⟨b, off + j, Option.none⟩) hlt).trans h1, h2.below hb, h3⟩
theorem Pieces.one {w : World} {A : Option Addr} {n c : Nat} {xs : List UInt8} (h : RB w A n xs) (hn : n ≤ maxLen) (t : TypeId) : Pieces (w.alloc (.cells #[.slice A n c] t)) (some ⟨w.heap.size, 0, Option.none⟩) [xs] := fun _ => by
  refine ⟨_, _, rfl, by simp, fun j hj => ?_⟩
  have hj0 : j = 0 := by simpa using hj
  subst hj0
  have hl := h.1
  subst hl
  exact ⟨A, c, by rw [cell_of_row _ w.heap.size _ _ _ _ (heap_alloc_new w _)]; rfl, h.alloc _, hn⟩
theorem Pieces.two {w : World} {A B : Option Addr} {n c m d : Nat} {xs ys : List UInt8} (h : RB w A n xs) (hn : n ≤ maxLen) (h' : RB w B m ys) (hm : m ≤ maxLen) (t : TypeId) : Pieces (w.alloc (.cells #[.slice A n c, .slice B m d] t)) (some ⟨w.heap.size, 0, Option.none⟩) [xs, ys] := fun _ => by
  refine ⟨_, _, rfl, by simp, fun j hj => ?_⟩
  have hj0 : j = 0 ∨ j = 1 := by simp at hj; omega
  have hl := h.1
  have hl' := h'.1
  subst hl hl'
  rcases hj0 with rfl | rfl
  · exact ⟨A, c, by rw [cell_of_row _ w.heap.size _ _ _ _ (heap_alloc_new w _)]; rfl, h.alloc _, hn⟩
  · exact ⟨B, d, by rw [cell_of_row _ w.heap.size _ _ _ _ (heap_alloc_new w _)]; rfl, h'.alloc _, hm⟩
structure Con : Prop where
  from_ : ∀ (A : Option Addr) (n c : Nat) (xs : List UInt8) (s : BitVec 32) (w : World), RB w A n xs → n ≤ maxLen →
    Calls Tryz.prog 206 #[.int .u32 (s.toNat : Int), .slice A n c] w fun e w' => e = .returned (.int .u32 ((crcFrom s xs).toNat : Int)) ∧ Below w.heap.size w w'
  sum : ∀ (A : Option Addr) (n c : Nat) (ps : List (List UInt8)) (w : World), Pieces w A ps → ps.length = n → n ≤ 1000 →
    Calls Tryz.prog 155 #[.slice A n c] w fun e w' => e = .returned (.int .u32 ((crc ps.flatten).toNat : Int)) ∧ Below w.heap.size w w'
  bytes : ∀ (s : BitVec 32) (w : World),
    Calls Tryz.prog 154 #[.int .u32 (s.toNat : Int)] w fun e w' => BGives w (sumBytes s) e w'
  sealed : ∀ (A : Option Addr) (n c : Nat) (xs : List UInt8) (w : World), RB w A n xs → (A = none → c = 0) → n ≤ c → n ≤ 140737488355328 →
    Calls Tryz.prog 213 #[.slice A n c] w fun e w' => e = .returned (.bool (sealedB xs)) ∧ Below w.heap.size w w'
end Go.Proofs.YtaicipldjmngaaaGreatDoor

namespace Go.Proofs.YtaicipldjmngaaaGreatDoor
open Go.RowKit
set_option linter.unusedSimpArgs false
def fourV (R : BitVec 32) : BitVec 32 := feedV R (List.replicate 4 false)
theorem poly_mask (S : BitVec 32) : bits .xor .u32 ((S.toNat : Int) * 2 % 4294967296) (bits .and .u32 79764919 (-((S.toNat : Int) / 2147483648) % 4294967296)) = ((stepV S false).toNat : Int) := by
  have hl := S.isLt
  rw [step_nat]
  have e2 : (S.toNat : Int) * 2 % 4294967296 = ((S.toNat % 2147483648 * 2 : Nat) : Int) := by omega
  have hq : S.toNat / 2147483648 ≤ 1 := by omega
  rw [e2]
  by_cases h1 : S.toNat / 2147483648 = 1
  · have e : -((S.toNat : Int) / 2147483648) % 4294967296 = ((4294967295 : Nat) : Int) := by omega
    have ea := u32_and_nat 79764919 4294967295 (by omega) (by omega)
    rw [e, show (79764919 : Int) = ((79764919 : Nat) : Int) from rfl, ea, u32_xor_nat _ _ (by omega) (by decide)]
    simp [h1]
  · have e : -((S.toNat : Int) / 2147483648) % 4294967296 = ((0 : Nat) : Int) := by omega
    have ea := u32_and_nat 79764919 0 (by omega) (by omega)
    have h0 : S.toNat / 2147483648 = 0 := by omega
    rw [e, show (79764919 : Int) = ((79764919 : Nat) : Int) from rfl, ea, u32_xor_nat _ _ (by omega) (by decide)]
    simp [h0]
theorem feed_snoc (R : BitVec 32) (k : Nat) : feedV R (List.replicate (k + 1) false) = stepV (feedV R (List.replicate k false)) false := by
  rw [List.replicate_succ', feed_append]; rfl
theorem feed_first (v : BitVec 32) : ∀ n, n ≤ 32 → feedV v ((List.range n).map fun i => v.getLsbD (31 - i)) = v <<< n := by
  intro n
  induction n with
  | zero => intro _; simp [feed_nil]
  | succ n ih =>
    intro hn
    rw [List.range_succ, List.map_append, feed_append, ih (by omega)]
    show stepV (v <<< n) (v.getLsbD (31 - n)) = v <<< (n + 1)
    have hb : (v <<< n).msb = v.getLsbD (31 - n) := by
      rw [BitVec.msb_eq_getLsbD_last, BitVec.getLsbD_shiftLeft]
      simp [show ¬ (31 < n) by omega]
    unfold stepV
    rw [hb]
    simp [BitVec.shiftLeft_add]
theorem feed_byte (R : BitVec 32) (x : UInt8) : fourV (fourV (R ^^^ BitVec.ofNat 32 (x.toNat * 16777216))) = feedV R (byteBits x) := by
  rw [fourV, fourV, ← feed_append, show List.replicate 4 false ++ List.replicate 4 false = List.replicate 8 false from rfl]
  have hx := x.toNat_lt
  obtain ⟨W, hW⟩ : ∃ W, BitVec.ofNat 32 (x.toNat * 16777216) = W := ⟨_, rfl⟩
  have hWn : W.toNat = x.toNat * 16777216 := by rw [← hW, BitVec.toNat_ofNat]; omega
  have hb : byteBits x = (List.range 8).map fun i => W.getLsbD (31 - i) := by
    rw [byteBits]
    refine List.map_congr_left fun i hi => ?_
    have hi8 : i < 8 := List.mem_range.1 hi
    rw [BitVec.getLsbD, hWn, show (16777216 : Nat) = 2 ^ 24 from rfl, Nat.testBit_mul_two_pow, decide_eq_true (show 24 ≤ 31 - i by omega), Bool.true_and]
    congr 1
    omega
  have h0 : feedV W (byteBits x) = 0#32 := by
    rw [hb, feed_first W 8 (by omega)]
    apply BitVec.eq_of_toNat_eq
    rw [BitVec.toNat_shiftLeft, hWn, Nat.shiftLeft_eq]
    have : x.toNat * 16777216 * 2 ^ 8 = x.toNat * 4294967296 := by omega
    rw [this]
    simp
  rw [hW]
  have h := feed_xor (byteBits x) (byteBits x) R W rfl
  rw [h0, BitVec.xor_zero] at h
  rw [← h]
  congr 1
  have hl := byteBits_length x
  generalize byteBits x = l at hl
  rw [← hl]
  clear h h0 hb hl
  induction l with
  | nil => rfl
  | cons x l ih => rw [List.zipWith_cons_cons, ← ih]; simp [List.replicate_succ]
set_option maxHeartbeats 1000000 in
theorem four_any (R : BitVec 32) (w : World) :
    Calls Tryz.prog 233 #[.int .u32 (R.toNat : Int)] w fun e w' => e = .returned (.int .u32 ((fourV R).toNat : Int)) ∧ w = w' := by
  go_enter Tryz.func233, Tryz.ntmps233
  go_wp2
  go_loop [0, 3] (fun r i => ∃ k : Nat, k ≤ 4 ∧ i = .int .i64 k ∧ r = .int .u32 ((feedV R (List.replicate k false)).toNat : Int)) (fun _ i => 4 - (intOf i).toNat)
  case atStart => exact ⟨0, by omega, rfl, rfl⟩
  case round =>
    obtain ⟨k, hk, rfl, rfl⟩ := hrel
    obtain ⟨S, hS⟩ : ∃ S, feedV R (List.replicate k false) = S := ⟨_, rfl⟩
    have HS := Lib.hid hS
    rw [hS]
    clear hS
    have hl := S.isLt
    by_cases hlt : k < 4
    · go_wp2
      exact ⟨⟨k + 1, by omega, by go_num, by rw [poly_mask, feed_snoc, HS.out]⟩, by simp [intOf]; omega⟩
    · obtain rfl : k = 4 := by omega
      go_wp2
      go_ret
      exact ⟨ret_u32 (congrArg (fun b : BitVec 32 => (b.toNat : Int)) HS.out).symm, rfl⟩
theorem four_at (v : Int) (R : BitVec 32) (w : World) (h : v = (R.toNat : Int)) :
    Calls Tryz.prog 233 #[.int .u32 v] w fun e w' => e = .returned (.int .u32 ((fourV R).toNat : Int)) ∧ w = w' := by
  rw [h]
  exact four_any R w
theorem byte_over (R : BitVec 32) (x : UInt8) : bits .xor .u32 (R.toNat : Int) ((x.toNat : Int) * 16777216) = ((R ^^^ BitVec.ofNat 32 (x.toNat * 16777216)).toNat : Int) := by
  have hx := x.toNat_lt
  have h := u32_xor_nat R.toNat (x.toNat * 16777216) R.isLt (by omega)
  have e : ((x.toNat : Int) * 16777216) = ((x.toNat * 16777216 : Nat) : Int) := by omega
  rw [e, h, BitVec.toNat_xor, BitVec.toNat_ofNat, Nat.mod_eq_of_lt (by omega)]
theorem not_xor (s : BitVec 32) : bits .xor .u32 IntKind.u32.max (s.toNat : Int) = ((~~~ s).toNat : Int) := by
  have h := u32_xor_nat 4294967295 s.toNat (by omega) s.isLt
  have e : IntKind.u32.max = ((4294967295 : Nat) : Int) := by decide
  rw [e, h, show (4294967295 : Nat) = (BitVec.allOnes 32).toNat from rfl, ← BitVec.toNat_xor, BitVec.allOnes_xor]
set_option maxHeartbeats 1000000 in
theorem own_from (A : Option Addr) (n c : Nat) (xs : List UInt8) (s : BitVec 32) (w : World) (h : RB w A n xs) (hn : n ≤ maxLen) :
    Calls Tryz.prog 206 #[.int .u32 (s.toNat : Int), .slice A n c] w fun e w' => e = .returned (.int .u32 ((crcFrom s xs).toNat : Int)) ∧ w = w' := by
  have hl := h.1
  unfold maxLen at hn
  have hs := s.isLt
  obtain ⟨R0, hR0⟩ : ∃ R0 : BitVec 32, ~~~ s = R0 := ⟨_, rfl⟩
  have HF : Hid (∀ R : BitVec 32, R = feedV R0 (bitsL xs) → ((crcFrom s xs).toNat : Int) = 4294967295 - (R.toNat : Int)) := Lib.hid (by
    rintro R rfl
    rw [crcFrom, hR0, not_toNat])
  have HH := Lib.hid h
  clear h
  go_enter Tryz.func206, Tryz.ntmps206
  go_wp2
  rw [not_xor, hR0]
  clear hR0
  go_loop [6, 13] (fun r i => ∃ (k : Nat) (R : BitVec 32), k ≤ n ∧ i = .int .i64 k ∧ R = feedV R0 (bitsL (xs.take k)) ∧ r = .int .u32 (R.toNat : Int)) (fun _ i => n - (intOf i).toNat)
  case atStart => exact ⟨0, R0, Nat.zero_le _, rfl, by simp [bitsL_nil, feed_nil], rfl⟩
  case round =>
    obtain ⟨k, R, hk, rfl, hR, rfl⟩ := hrel
    by_cases hlt : k < n
    · obtain ⟨b, off, rfl, hb, hc⟩ := HH.out.2 (by omega)
      have q : k < xs.length := by omega
      have hcell := hc k q
      have HR := Lib.hid (show feedV R (byteBits xs[k]) = feedV R0 (bitsL (xs.take (k + 1))) by
        rw [List.take_succ_eq_append_getElem q, bitsL_append, bitsL_one, feed_append, ← hR])
      have hRl := R.isLt
      obtain ⟨x, hx⟩ : ∃ x : UInt8, xs[k] = x := ⟨_, rfl⟩
      rw [hx] at hcell HR
      have hxl := x.toNat_lt
      clear hc hR hx
      go_wp2_with fail
      refine (four_at _ (R ^^^ BitVec.ofNat 32 (x.toNat * 16777216)) _ (byte_over R x)).mono ?_
      rintro e w1 ⟨rfl, rfl⟩
      go_wp2_with fail
      refine (four_at _ _ _ rfl).mono ?_
      rintro e w1 ⟨rfl, rfl⟩
      rw [feed_byte, HR.out]
      go_wp2
      exact ⟨⟨k + 1, feedV R0 (bitsL (xs.take (k + 1))), by omega, by go_num, rfl, rfl⟩, by simp [intOf]; omega⟩
    · obtain rfl : k = n := by omega
      have e : xs.take k = xs := List.take_of_length_le (by omega)
      rw [e] at hR
      have HS := Lib.hid (HF.out R hR)
      have hRl := R.isLt
      clear hR e
      go_wp2
      rw [not_xor]
      go_ret
      exact ⟨ret_u32 (by rw [not_toNat]; exact HS.out.symm), rfl⟩
set_option maxHeartbeats 1000000 in
theorem own_sum (A : Option Addr) (n c : Nat) (ps : List (List UInt8)) (w : World) (h : Pieces w A ps) (hl : ps.length = n) (hn : n ≤ 1000) :
    Calls Tryz.prog 155 #[.slice A n c] w fun e w' => e = .returned (.int .u32 ((crc ps.flatten).toNat : Int)) ∧ w = w' := by
  have HH := Lib.hid h
  have HL := Lib.hid hl
  clear h hl
  go_enter Tryz.func155, Tryz.ntmps155
  go_wp2
  go_loop [3, 8] (fun r i => ∃ k : Nat, k ≤ n ∧ i = .int .i64 k ∧ r = .int .u32 ((crc (ps.take k).flatten).toNat : Int)) (fun _ i => n - (intOf i).toNat)
  case atStart => exact ⟨0, Nat.zero_le _, rfl, by rw [List.take_zero, List.flatten_nil, crc_nil]; rfl⟩
  case round =>
    obtain ⟨k, hk, rfl, rfl⟩ := hrel
    by_cases hlt : k < n
    · have q : k < ps.length := by have := HL.out; omega
      obtain ⟨b, off, rfl, hb, hc⟩ := HH.out (by intro e; rw [e] at q; exact absurd q (by simp))
      obtain ⟨Aj, cj, hcell, hR, hm⟩ := hc k q
      have c1 := own_from Aj ps[k].length cj ps[k] (crc (ps.take k).flatten) w hR hm
      have HE : Hid (crcFrom (crc (ps.take k).flatten) ps[k] = crc (ps.take (k + 1)).flatten) := Lib.hid (by
        rw [List.take_succ_eq_append_getElem q, List.flatten_append, crc, crc, crcFrom_append]; simp)
      rw [HE.out] at c1
      obtain ⟨m, hm2⟩ : ∃ m, ps[k].length = m := ⟨_, rfl⟩
      rw [hm2] at hcell c1
      clear hc hR hm hm2
      go_wp2_with fail
      refine c1.mono ?_
      rintro e w1 ⟨rfl, rfl⟩
      go_wp2
      exact ⟨⟨k + 1, by omega, by go_num, rfl⟩, by simp [intOf]; omega⟩
    · obtain rfl : k = n := by omega
      have e : ps.take k = ps := List.take_of_length_le (by have := HL.out; omega)
      have HE := Lib.hid e
      clear e
      go_wp2
      go_ret
      exact ⟨ret_u32 (by rw [HE.out]), rfl⟩
theorem rb_new (w : World) (ys : List UInt8) : RB (w.alloc (.cells (ys.map byteV).toArray 5)) (some ⟨w.heap.size, 0, none⟩) ys.length ys := by
  refine ⟨rfl, fun _ => ⟨_, _, rfl, by simp, fun j hj => ?_⟩⟩
  rw [cell_of_row _ w.heap.size _ _ _ _ (heap_alloc_new w _)]
  simp [byteV, hj]
set_option maxHeartbeats 1000000 in
theorem own_bytes (s : BitVec 32) (w : World) :
    Calls Tryz.prog 154 #[.int .u32 (s.toNat : Int)] w fun e w' => BGives w (sumBytes s) e w' := by
  have hs := s.isLt
  go_enter Tryz.func154, Tryz.ntmps154
  go_wp2
  go_ret
  have hr := rb_new w (sumBytes s)
  rw [sumBytes_vals] at hr
  exact ⟨_, _, rfl, hr, (fun e => by cases e), Nat.le_refl 4, by unfold maxLen; omega, (Below.refl _ _).alloc (Nat.le_refl _) _⟩
set_option maxHeartbeats 1000000 in
theorem own_equal (A B : Option Addr) (n c m d : Nat) (xs ys : List UInt8) (w : World) (h : RB w A n xs) (h' : RB w B m ys) :
    Calls Tryz.prog 234 #[.slice A n c, .slice B m d] w fun e w' => e = .returned (.bool (decide (xs = ys))) ∧ w = w' := by
  have k1 := own_conv h c
  have k2 := own_conv h' d
  obtain ⟨s1, hs1⟩ : ∃ s1 : ByteArray, (⟨xs.toArray⟩ : ByteArray) = s1 := ⟨_, rfl⟩
  obtain ⟨s2, hs2⟩ : ∃ s2 : ByteArray, (⟨ys.toArray⟩ : ByteArray) = s2 := ⟨_, rfl⟩
  have hss : (s1.toList == s2.toList) = decide (xs = ys) := by
    rw [← hs1, ← hs2, ByteArray.toList_mk, ByteArray.toList_mk, Bool.eq_iff_iff, beq_iff_eq, decide_eq_true_eq]
  rw [hs1] at k1
  rw [hs2] at k2
  have HS := Lib.hid hss
  clear hs1 hs2 h h' hss
  go_enter Tryz.func234, Tryz.ntmps234
  go_wp2
  go_ret
  exact ⟨congrArg (fun b => Ending.returned (.bool b)) HS.out, rfl⟩
def sealR (V : Value) (m : Nat) (X Y : List UInt8) : Nat → Value → World → Prop
  | 0, v, _ => v = .int .i64 m
  | 1, v, _ => v = .bool true
  | 2, v, _ => v = .bool true
  | 3, v, _ => v = V
  | 4, v, _ => v = .int .i64 m
  | 5, v, w => ∃ A c, v = .slice A 4 c ∧ RB w A 4 Y
  | 6, v, _ => v = V
  | 7, v, _ => v = .int .i64 m
  | 8, v, w => ∃ A c, v = .slice A m c ∧ RB w A m X
  | 9, v, w => ∃ g, v = .slice (some ⟨g, 0, none⟩) 1 1 ∧ Pieces w (some ⟨g, 0, none⟩) [X]
  | 10, v, _ => v = .int .u32 ((crc X).toNat : Int)
  | 11, v, w => ∃ A c, v = .slice A 4 c ∧ RB w A 4 (sumBytes (crc X))
  | _, v, _ => v = .bool (decide (Y = sumBytes (crc X)))
theorem sealR_stable (V : Value) (m : Nat) (X Y : List UInt8) : ∀ i v w w', sealR V m X Y i v w → Go.Rel.Grew w w' → sealR V m X Y i v w'
  | 0, _, _, _, h, _ | 1, _, _, _, h, _ | 2, _, _, _, h, _ | 3, _, _, _, h, _ | 4, _, _, _, h, _ | 6, _, _, _, h, _ | 7, _, _, _, h, _ | 10, _, _, _, h, _ => h
  | 5, _, _, _, ⟨A, c, e, h⟩, g | 8, _, _, _, ⟨A, c, e, h⟩, g | 11, _, _, _, ⟨A, c, e, h⟩, g => ⟨A, c, e, h.below g⟩
  | 9, _, _, _, ⟨b, e, h⟩, g => ⟨b, e, h.below g⟩
  | _ + 12, _, _, _, h, _ => h
def shortR (k : Int) : Nat → Value → World → Prop
  | 0, v, _ => v = .int .i64 k
  | 1, v, _ => v = .bool false
  | 2, v, _ => v = .bool false
  | 13, v, _ => v = .bool false
  | 14, v, _ => v = .bool false
  | _, _, _ => True
theorem shortR_stable (k : Int) : ∀ i v w w', shortR k i v w → Go.Rel.Grew w w' → shortR k i v w'
  | 0, _, _, _, h, _ | 1, _, _, _, h, _ | 2, _, _, _, h, _ | 13, _, _, _, h, _ | 14, _, _, _, h, _ => h
  | 3, _, _, _, _, _ | 4, _, _, _, _, _ | 5, _, _, _, _, _ | 6, _, _, _, _, _ | 7, _, _, _, _, _ | 8, _, _, _, _, _ | 9, _, _, _, _, _ | 10, _, _, _, _, _ | 11, _, _, _, _, _ | 12, _, _, _, _, _ | _ + 15, _, _, _, _, _ => trivial
set_option maxHeartbeats 1000000 in
theorem own_sealed (A : Option Addr) (n c : Nat) (xs : List UInt8) (w : World) (h : RB w A n xs) (hc : n ≤ c) (hn : n ≤ 140737488355328) :
    Calls Tryz.prog 213 #[.slice A n c] w fun e w' => e = .returned (.bool (sealedB xs)) ∧ Below w.heap.size w w' := by
  have HR := Lib.hid h
  have hl := h.1
  have hM : maxLen = 9223372036854775807 := by unfold maxLen; omega
  have HM := Lib.hid hM
  clear h hM
  by_cases hs : n < 4
  · have HE : Hid (sealedB xs = false) := Lib.hid (sealed_short (by omega))
    have g0 : decide ((0 : Int) ≤ (n : Int) - 4) = false := by simp; omega
    obtain ⟨k, hk⟩ : ∃ k : Int, (n : Int) - 4 = k := ⟨_, rfl⟩
    have gk : decide ((0 : Int) ≤ k) = false := by rw [← hk]; exact g0
    have HK := Lib.hid hk
    have g1 : IntKind.i64.wrap ((n : Int) - 4) = k := by rw [IntWalk.i64_in _ (by omega)]; exact hk
    clear hl hk
    go_enter Tryz.func213, Tryz.ntmps213
    go_wp2
    refine Go.Rel.wp_region_grew (by kernel_rfl) (by kernel_rfl) (by kernel_rfl) (by kernel_rfl) (shortR k) (shortR_stable k) ?hsteps ?hend
    case hsteps =>
      refine .cons ?_ (.cons ?_ (.cons ?_ (.cons ?_ (.cons ?_ (.cons ?_ (.cons ?_ (.cons ?_ (.cons ?_ (.cons ?_ (.cons ?_ (.cons ?_ (.cons ?_ (.cons ?_ (.cons ?_ .nil))))))))))))))
      · intro a w' hle hs' hd K hK
        have s0 : a.tmps[3]? = some (.int .i64 k) := hs'.2.2 3 (by kernel_rfl)
        unfold Go.Rel.stepOf
        go_simp
        exact hK _ _ (Go.Rel.Grew.refl _) rfl
      · intro a w' hle hs' hd K hK
        obtain ⟨_, s1, rfl⟩ := hd 0 7 (by kernel_rfl)
        unfold Go.Rel.stepOf
        go_simp
        exact hK _ _ (Go.Rel.Grew.refl _) rfl
      · intro a w' hle hs' hd K hK
        obtain ⟨_, s1, rfl⟩ := hd 1 8 (by kernel_rfl)
        unfold Go.Rel.stepOf
        go_simp
        exact hK _ _ (Go.Rel.Grew.refl _) rfl
      · intro a w' hle hs' hd K hK
        obtain ⟨_, s1, rfl⟩ := hd 2 9 (by kernel_rfl)
        unfold Go.Rel.stepOf
        go_simp
        exact hK _ _ (Go.Rel.Grew.refl _) trivial
      · intro a w' hle hs' hd K hK
        obtain ⟨_, s1, rfl⟩ := hd 2 9 (by kernel_rfl)
        unfold Go.Rel.stepOf
        go_simp
        exact hK _ _ (Go.Rel.Grew.refl _) trivial
      · intro a w' hle hs' hd K hK
        obtain ⟨_, s1, rfl⟩ := hd 2 9 (by kernel_rfl)
        unfold Go.Rel.stepOf
        go_simp
        exact hK _ _ (Go.Rel.Grew.refl _) trivial
      · intro a w' hle hs' hd K hK
        obtain ⟨_, s1, rfl⟩ := hd 2 9 (by kernel_rfl)
        unfold Go.Rel.stepOf
        go_simp
        exact hK _ _ (Go.Rel.Grew.refl _) trivial
      · intro a w' hle hs' hd K hK
        obtain ⟨_, s1, rfl⟩ := hd 2 9 (by kernel_rfl)
        unfold Go.Rel.stepOf
        go_simp
        exact hK _ _ (Go.Rel.Grew.refl _) trivial
      · intro a w' hle hs' hd K hK
        obtain ⟨_, s1, rfl⟩ := hd 2 9 (by kernel_rfl)
        unfold Go.Rel.stepOf
        go_simp
        exact hK _ _ (Go.Rel.Grew.refl _) trivial
      · intro a w' hle hs' hd K hK
        obtain ⟨_, s1, rfl⟩ := hd 2 9 (by kernel_rfl)
        unfold Go.Rel.stepOf
        go_simp
        exact hK _ _ (Go.Rel.Grew.refl _) trivial
      · intro a w' hle hs' hd K hK
        obtain ⟨_, s1, rfl⟩ := hd 2 9 (by kernel_rfl)
        unfold Go.Rel.stepOf
        go_simp
        exact hK _ _ (Go.Rel.Grew.refl _) trivial
      · intro a w' hle hs' hd K hK
        obtain ⟨_, s1, rfl⟩ := hd 2 9 (by kernel_rfl)
        unfold Go.Rel.stepOf
        go_simp
        exact hK _ _ (Go.Rel.Grew.refl _) trivial
      · intro a w' hle hs' hd K hK
        obtain ⟨_, s1, rfl⟩ := hd 2 9 (by kernel_rfl)
        unfold Go.Rel.stepOf
        go_simp
        exact hK _ _ (Go.Rel.Grew.refl _) trivial
      · intro a w' hle hs' hd K hK
        obtain ⟨_, s1, rfl⟩ := hd 2 9 (by kernel_rfl)
        unfold Go.Rel.stepOf
        go_simp
        exact hK _ _ (Go.Rel.Grew.refl _) rfl
      · intro a w' hle hs' hd K hK
        obtain ⟨_, s1, rfl⟩ := hd 13 20 (by kernel_rfl)
        unfold Go.Rel.stepOf
        go_simp
        exact hK _ _ (Go.Rel.Grew.refl _) rfl
    case hend =>
      intro a w' hle hs' hR
      obtain ⟨_, s6, rfl⟩ := hR 14 2 (by kernel_rfl)
      go_wp2
      refine bodyPost_ret (results_tmp rfl _ _ _) hs'.1 ?_
      exact ⟨by simp [s6, HE.out], hle⟩
  · obtain ⟨m, rfl⟩ : ∃ m, n = m + 4 := ⟨n - 4, by omega⟩
    obtain ⟨b, off, rfl, _, _⟩ := HR.out.2 (by omega)
    have HX := Lib.hid (HR.out.take (k := m) (by omega))
    have HY : Hid (RB w (some ⟨b, off + m, none⟩) 4 (xs.drop m)) := Lib.hid (by have := rb_drop HR.out (m := m) (by omega); rwa [Nat.add_sub_cancel_left] at this)
    obtain ⟨X, hX⟩ : ∃ X, xs.take m = X := ⟨_, rfl⟩
    obtain ⟨Y, hY⟩ : ∃ Y, xs.drop m = Y := ⟨_, rfl⟩
    have HE : Hid (sealedB xs = decide (Y = sumBytes (crc X))) := Lib.hid (by
      rw [sealedB, decide_eq_true (by omega), Bool.true_and, hl, Nat.add_sub_cancel, hX, hY])
    rw [hX] at HX
    rw [hY] at HY
    clear hX hY hl HR
    have q1 : m ≤ c := by omega
    have q2 : ¬ c = m := by omega
    have q3 : (m : Int) ≤ (m : Int) + 4 := by omega
    have g0 : (0 : Int) ≤ (m : Int) := by omega
    have g1 : IntKind.i64.wrap ((m : Int) + 4 - 4) = (m : Int) := by rw [IntWalk.i64_in _ (by omega)]; omega
    go_enter Tryz.func213, Tryz.ntmps213
    go_wp2
    refine Go.Rel.wp_region_grew (by kernel_rfl) (by kernel_rfl) (by kernel_rfl) (by kernel_rfl) (sealR (.slice (some ⟨b, off, none⟩) (m + 4) c) m X Y) (sealR_stable _ _ _ _) ?hsteps ?hend
    case hsteps =>
      refine .cons ?_ (.cons ?_ (.cons ?_ (.cons ?_ (.cons ?_ (.cons ?_ (.cons ?_ (.cons ?_ (.cons ?_ (.cons ?_ (.cons ?_ (.cons ?_ (.cons ?_ (.cons ?_ (.cons ?_ .nil))))))))))))))
      · intro a w' hle hs' hd K hK
        have s0 : a.tmps[3]? = some (.int .i64 (m : Int)) := hs'.2.2 3 (by kernel_rfl)
        unfold Go.Rel.stepOf
        go_simp
        exact hK _ _ (Go.Rel.Grew.refl _) rfl
      · intro a w' hle hs' hd K hK
        obtain ⟨_, s1, rfl⟩ := hd 0 7 (by kernel_rfl)
        unfold Go.Rel.stepOf
        go_simp
        exact hK _ _ (Go.Rel.Grew.refl _) rfl
      · intro a w' hle hs' hd K hK
        obtain ⟨_, s1, rfl⟩ := hd 1 8 (by kernel_rfl)
        unfold Go.Rel.stepOf
        go_simp
        exact hK _ _ (Go.Rel.Grew.refl _) rfl
      · intro a w' hle hs' hd K hK
        obtain ⟨_, s9, rfl⟩ := hd 2 9 (by kernel_rfl)
        have s0 : a.tmps[0]? = some (.slice (some ⟨b, off, none⟩) (m + 4) c) := hs'.2.2 0 (by kernel_rfl)
        unfold Go.Rel.stepOf
        go_simp
        exact hK _ _ (Go.Rel.Grew.refl _) rfl
      · intro a w' hle hs' hd K hK
        obtain ⟨_, s9, rfl⟩ := hd 2 9 (by kernel_rfl)
        have s0 : a.tmps[3]? = some (.int .i64 (m : Int)) := hs'.2.2 3 (by kernel_rfl)
        unfold Go.Rel.stepOf
        go_simp
        exact hK _ _ (Go.Rel.Grew.refl _) rfl
      · intro a w' hle hs' hd K hK
        obtain ⟨_, s9, rfl⟩ := hd 2 9 (by kernel_rfl)
        obtain ⟨_, s1, rfl⟩ := hd 3 10 (by kernel_rfl)
        obtain ⟨_, s2, rfl⟩ := hd 4 11 (by kernel_rfl)
        unfold Go.Rel.stepOf
        go_simp
        exact hK _ _ (Go.Rel.Grew.refl _) ⟨_, _, rfl, HY.out.below hle⟩
      · intro a w' hle hs' hd K hK
        obtain ⟨_, s9, rfl⟩ := hd 2 9 (by kernel_rfl)
        have s0 : a.tmps[0]? = some (.slice (some ⟨b, off, none⟩) (m + 4) c) := hs'.2.2 0 (by kernel_rfl)
        unfold Go.Rel.stepOf
        go_simp
        exact hK _ _ (Go.Rel.Grew.refl _) rfl
      · intro a w' hle hs' hd K hK
        obtain ⟨_, s9, rfl⟩ := hd 2 9 (by kernel_rfl)
        have s0 : a.tmps[3]? = some (.int .i64 (m : Int)) := hs'.2.2 3 (by kernel_rfl)
        unfold Go.Rel.stepOf
        go_simp
        exact hK _ _ (Go.Rel.Grew.refl _) rfl
      · intro a w' hle hs' hd K hK
        obtain ⟨_, s9, rfl⟩ := hd 2 9 (by kernel_rfl)
        obtain ⟨_, s1, rfl⟩ := hd 6 13 (by kernel_rfl)
        obtain ⟨_, s2, rfl⟩ := hd 7 14 (by kernel_rfl)
        unfold Go.Rel.stepOf
        go_simp
        exact hK _ _ (Go.Rel.Grew.refl _) ⟨_, _, rfl, HX.out.below hle⟩
      · intro a w' hle hs' hd K hK
        obtain ⟨_, s9, rfl⟩ := hd 2 9 (by kernel_rfl)
        obtain ⟨_, s1, A5, c5, rfl, h5⟩ := hd 8 15 (by kernel_rfl)
        unfold Go.Rel.stepOf
        go_simp
        exact hK _ _ ((Below.refl _ _).alloc (Nat.le_refl _) _) ⟨_, rfl, Pieces.one h5 (by have := HM.out; omega) _⟩
      · intro a w' hle hs' hd K hK
        obtain ⟨_, s9, rfl⟩ := hd 2 9 (by kernel_rfl)
        obtain ⟨_, s1, g5, rfl, h5⟩ := hd 9 16 (by kernel_rfl)
        have s5 := own_sum (some ⟨g5, 0, none⟩) 1 1 [X] w' h5 rfl (by omega)
        unfold Go.Rel.stepOf
        go_simp
        refine s5.mono ?_
        rintro e w2 ⟨rfl, rfl⟩
        exact hK _ _ (Go.Rel.Grew.refl _) (by simp [sealR])
      · intro a w' hle hs' hd K hK
        obtain ⟨_, s9, rfl⟩ := hd 2 9 (by kernel_rfl)
        obtain ⟨_, s1, rfl⟩ := hd 10 17 (by kernel_rfl)
        have s5 := own_bytes (crc X) w'
        unfold Go.Rel.stepOf
        go_simp
        refine s5.mono ?_
        rintro e w2 ⟨A5, c5, rfl, h5, _, _, _, hb⟩
        exact hK _ _ hb ⟨A5, c5, rfl, h5⟩
      · intro a w' hle hs' hd K hK
        obtain ⟨_, s9, rfl⟩ := hd 2 9 (by kernel_rfl)
        obtain ⟨_, s1, A5, c5, rfl, h5⟩ := hd 5 12 (by kernel_rfl)
        obtain ⟨_, s2, A6, c6, rfl, h6⟩ := hd 11 18 (by kernel_rfl)
        have s5 := own_equal A5 A6 4 c5 4 c6 Y _ w' h5 h6
        unfold Go.Rel.stepOf
        go_simp
        refine s5.mono ?_
        rintro e w2 ⟨rfl, rfl⟩
        exact hK _ _ (Go.Rel.Grew.refl _) rfl
      · intro a w' hle hs' hd K hK
        obtain ⟨_, s9, rfl⟩ := hd 2 9 (by kernel_rfl)
        obtain ⟨_, s1, rfl⟩ := hd 12 19 (by kernel_rfl)
        unfold Go.Rel.stepOf
        go_simp
        exact hK _ _ (Go.Rel.Grew.refl _) rfl
      · intro a w' hle hs' hd K hK
        obtain ⟨_, s1, rfl⟩ := hd 13 20 (by kernel_rfl)
        unfold Go.Rel.stepOf
        go_simp
        exact hK _ _ (Go.Rel.Grew.refl _) rfl
    case hend =>
      intro a w' hle hs' hR
      obtain ⟨_, s6, rfl⟩ := hR 14 2 (by kernel_rfl)
      go_wp2
      refine bodyPost_ret (results_tmp rfl _ _ _) hs'.1 ?_
      exact ⟨by simp [s6, HE.out], hle⟩
theorem con_held : Con where
  from_ A n c xs s w h hn := (own_from A n c xs s w h hn).mono fun _ _ ⟨he, hw⟩ => ⟨he, hw ▸ Below.refl _ _⟩
  sum A n c ps w h hl hn := (own_sum A n c ps w h hl hn).mono fun _ _ ⟨he, hw⟩ => ⟨he, hw ▸ Below.refl _ _⟩
  bytes := own_bytes
  sealed A n c xs w h _ hc hn := own_sealed A n c xs w h hc hn
end Go.Proofs.YtaicipldjmngaaaGreatDoor
