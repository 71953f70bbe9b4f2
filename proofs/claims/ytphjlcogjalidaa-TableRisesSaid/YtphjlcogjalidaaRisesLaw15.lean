/-
  As long as indexes rise, no row was made behind the index at which it was turned last, and none is above the last index: the law sodalitylaw15.TableRises, walked over what the program's table does.
-/
import Derived.Test.YtphjlcogjalidaaPlaysLaw15
namespace Go.Proofs.Ytphjlcogjalidaa
open Go.RowKit
set_option linter.unusedSimpArgs false
set_option linter.unusedVariables false

def tbRi (_ : Nat → Prop) (b : Nat) (off : Nat) (n : Nat) (c : Nat) (Bp : Nat) (k : Nat) (a1 : Nat) (s : TSt) (pr : Rw Int) (pn : Int) : Nat → Value → World → Prop
  | 0, v, _ => v = .pointer (some ⟨Bp, 0, none⟩)
  | 1, v, _ => v = .slice (some ⟨b, off, none⟩) n c
  | 2, v, _ => v = .int .i64 (k : Int)
  | 3, v, _ => v = .pointer (some ⟨b, off + k * 4, none⟩)
  | 4, v, _ => v = .pointer (some ⟨b, off + k * 4 + 1, none⟩)
  | 5, v, _ => v = .string s.key
  | 6, v, _ => v = .slice (some ⟨b, off, none⟩) n c
  | 7, v, _ => v = .int .i64 (k : Int)
  | 8, v, _ => v = .pointer (some ⟨b, off + k * 4, none⟩)
  | 9, v, _ => v = .pointer (some ⟨b, off + k * 4 + 2, none⟩)
  | 10, v, _ => v = .int .i64 s.v
  | 11, v, _ => v = .int .u64 (a1 : Int)
  | 12, v, _ => v = .tuple #[.agg #[.string pr.key, .int .i64 pr.val, .int .u64 (pr.made : Int), .int .u64 (pr.ix : Int)], .int .i64 pn]
  | _, _, _ => True
theorem tbRi_stable (S : Nat → Prop) (b : Nat) (off : Nat) (n : Nat) (c : Nat) (Bp : Nat) (k : Nat) (a1 : Nat) (s : TSt) (pr : Rw Int) (pn : Int) : ∀ i v w w', tbRi S b off n c Bp k a1 s pr pn i v w → But S w w' → tbRi S b off n c Bp k a1 s pr pn i v w'
  | 0, _, _, _, h, _ | 1, _, _, _, h, _ | 2, _, _, _, h, _ | 3, _, _, _, h, _ | 4, _, _, _, h, _ | 5, _, _, _, h, _ | 6, _, _, _, h, _ | 7, _, _, _, h, _ | 8, _, _, _, h, _ | 9, _, _, _, h, _ | 10, _, _, _, h, _ | 11, _, _, _, h, _ | 12, _, _, _, h, _ => h
  | _ + 13, _, _, _, h, _ => h
def tbRa (_ : Nat → Prop) (b : Nat) (off : Nat) (m : Nat) (c2 : Nat) (Bp : Nat) (j : Nat) (j1 : Nat) (x : Rw Int) (y : Rw Int) (lst : Nat) : Nat → Value → World → Prop
  | 0, v, _ => v = .slice (some ⟨b, off, none⟩) m c2
  | 1, v, _ => v = .int .i64 (j : Int)
  | 2, v, _ => v = .pointer (some ⟨b, off + j * 4, none⟩)
  | 3, v, _ => v = .pointer (some ⟨b, off + j * 4 + 2, none⟩)
  | 4, v, _ => v = .int .u64 (x.made : Int)
  | 5, v, _ => v = .slice (some ⟨b, off, none⟩) m c2
  | 6, v, _ => v = .int .i64 (j : Int)
  | 7, v, _ => v = .pointer (some ⟨b, off + j * 4, none⟩)
  | 8, v, _ => v = .pointer (some ⟨b, off + j * 4 + 3, none⟩)
  | 9, v, _ => v = .int .u64 (x.ix : Int)
  | 10, v, _ => v = .bool false
  | 11, v, _ => v = .bool false
  | 12, v, _ => v = .slice (some ⟨b, off, none⟩) m c2
  | 13, v, _ => v = .int .i64 (j : Int)
  | 14, v, _ => v = .pointer (some ⟨b, off + j * 4, none⟩)
  | 15, v, _ => v = .pointer (some ⟨b, off + j * 4 + 3, none⟩)
  | 16, v, _ => v = .int .u64 (x.ix : Int)
  | 17, v, _ => v = .pointer (some ⟨Bp, 0, none⟩)
  | 18, v, _ => v = .int .u64 (lst : Int)
  | 19, v, _ => v = .bool false
  | 20, v, _ => v = .bool false
  | 21, v, _ => v = .bool false
  | 22, v, _ => v = .int .i64 (j : Int)
  | 23, v, _ => v = .bool false
  | 24, v, _ => v = .bool false
  | 25, v, _ => v = undef
  | 26, v, _ => v = undef
  | 27, v, _ => v = undef
  | 28, v, _ => v = undef
  | 29, v, _ => v = undef
  | 30, v, _ => v = undef
  | 31, v, _ => v = undef
  | 32, v, _ => v = undef
  | 33, v, _ => v = undef
  | 34, v, _ => v = undef
  | 35, v, _ => v = undef
  | 36, v, _ => v = undef
  | 37, v, _ => v = .bool false
  | 38, v, _ => v = .bool false
  | _, _, _ => True
theorem tbRa_stable (S : Nat → Prop) (b : Nat) (off : Nat) (m : Nat) (c2 : Nat) (Bp : Nat) (j : Nat) (j1 : Nat) (x : Rw Int) (y : Rw Int) (lst : Nat) : ∀ i v w w', tbRa S b off m c2 Bp j j1 x y lst i v w → But S w w' → tbRa S b off m c2 Bp j j1 x y lst i v w'
  | 0, _, _, _, h, _ | 1, _, _, _, h, _ | 2, _, _, _, h, _ | 3, _, _, _, h, _ | 4, _, _, _, h, _ | 5, _, _, _, h, _ | 6, _, _, _, h, _ | 7, _, _, _, h, _ | 8, _, _, _, h, _ | 9, _, _, _, h, _ | 10, _, _, _, h, _ | 11, _, _, _, h, _ | 12, _, _, _, h, _ | 13, _, _, _, h, _ | 14, _, _, _, h, _ | 15, _, _, _, h, _ | 16, _, _, _, h, _ | 17, _, _, _, h, _ | 18, _, _, _, h, _ | 19, _, _, _, h, _ | 20, _, _, _, h, _ | 21, _, _, _, h, _ | 22, _, _, _, h, _ | 23, _, _, _, h, _ | 24, _, _, _, h, _ | 25, _, _, _, h, _ | 26, _, _, _, h, _ | 27, _, _, _, h, _ | 28, _, _, _, h, _ | 29, _, _, _, h, _ | 30, _, _, _, h, _ | 31, _, _, _, h, _ | 32, _, _, _, h, _ | 33, _, _, _, h, _ | 34, _, _, _, h, _ | 35, _, _, _, h, _ | 36, _, _, _, h, _ | 37, _, _, _, h, _ | 38, _, _, _, h, _ => h
  | _ + 39, _, _, _, h, _ => h
def tbRb (_ : Nat → Prop) (b : Nat) (off : Nat) (m : Nat) (c2 : Nat) (Bp : Nat) (j : Nat) (j1 : Nat) (x : Rw Int) (y : Rw Int) (lst : Nat) : Nat → Value → World → Prop
  | 0, v, _ => v = .slice (some ⟨b, off, none⟩) m c2
  | 1, v, _ => v = .int .i64 (j : Int)
  | 2, v, _ => v = .pointer (some ⟨b, off + j * 4, none⟩)
  | 3, v, _ => v = .pointer (some ⟨b, off + j * 4 + 2, none⟩)
  | 4, v, _ => v = .int .u64 (x.made : Int)
  | 5, v, _ => v = .slice (some ⟨b, off, none⟩) m c2
  | 6, v, _ => v = .int .i64 (j : Int)
  | 7, v, _ => v = .pointer (some ⟨b, off + j * 4, none⟩)
  | 8, v, _ => v = .pointer (some ⟨b, off + j * 4 + 3, none⟩)
  | 9, v, _ => v = .int .u64 (x.ix : Int)
  | 10, v, _ => v = .bool false
  | 11, v, _ => v = .bool false
  | 12, v, _ => v = .slice (some ⟨b, off, none⟩) m c2
  | 13, v, _ => v = .int .i64 (j : Int)
  | 14, v, _ => v = .pointer (some ⟨b, off + j * 4, none⟩)
  | 15, v, _ => v = .pointer (some ⟨b, off + j * 4 + 3, none⟩)
  | 16, v, _ => v = .int .u64 (x.ix : Int)
  | 17, v, _ => v = .pointer (some ⟨Bp, 0, none⟩)
  | 18, v, _ => v = .int .u64 (lst : Int)
  | 19, v, _ => v = .bool false
  | 20, v, _ => v = .bool false
  | 21, v, _ => v = .bool false
  | 22, v, _ => v = .int .i64 (j : Int)
  | 23, v, _ => v = .bool true
  | 24, v, _ => v = .bool true
  | 25, v, _ => v = .slice (some ⟨b, off, none⟩) m c2
  | 26, v, _ => v = .int .i64 (j : Int)
  | 27, v, _ => v = .pointer (some ⟨b, off + j * 4, none⟩)
  | 28, v, _ => v = .pointer (some ⟨b, off + j * 4, none⟩)
  | 29, v, _ => v = .string x.key
  | 30, v, _ => v = .slice (some ⟨b, off, none⟩) m c2
  | 31, v, _ => v = .int .i64 (j : Int)
  | 32, v, _ => v = .int .i64 (j1 : Int)
  | 33, v, _ => v = .pointer (some ⟨b, off + j1 * 4, none⟩)
  | 34, v, _ => v = .pointer (some ⟨b, off + j1 * 4, none⟩)
  | 35, v, _ => v = .string y.key
  | 36, v, _ => v = .bool false
  | 37, v, _ => v = .bool false
  | 38, v, _ => v = .bool false
  | _, _, _ => True
theorem tbRb_stable (S : Nat → Prop) (b : Nat) (off : Nat) (m : Nat) (c2 : Nat) (Bp : Nat) (j : Nat) (j1 : Nat) (x : Rw Int) (y : Rw Int) (lst : Nat) : ∀ i v w w', tbRb S b off m c2 Bp j j1 x y lst i v w → But S w w' → tbRb S b off m c2 Bp j j1 x y lst i v w'
  | 0, _, _, _, h, _ | 1, _, _, _, h, _ | 2, _, _, _, h, _ | 3, _, _, _, h, _ | 4, _, _, _, h, _ | 5, _, _, _, h, _ | 6, _, _, _, h, _ | 7, _, _, _, h, _ | 8, _, _, _, h, _ | 9, _, _, _, h, _ | 10, _, _, _, h, _ | 11, _, _, _, h, _ | 12, _, _, _, h, _ | 13, _, _, _, h, _ | 14, _, _, _, h, _ | 15, _, _, _, h, _ | 16, _, _, _, h, _ | 17, _, _, _, h, _ | 18, _, _, _, h, _ | 19, _, _, _, h, _ | 20, _, _, _, h, _ | 21, _, _, _, h, _ | 22, _, _, _, h, _ | 23, _, _, _, h, _ | 24, _, _, _, h, _ | 25, _, _, _, h, _ | 26, _, _, _, h, _ | 27, _, _, _, h, _ | 28, _, _, _, h, _ | 29, _, _, _, h, _ | 30, _, _, _, h, _ | 31, _, _, _, h, _ | 32, _, _, _, h, _ | 33, _, _, _, h, _ | 34, _, _, _, h, _ | 35, _, _, _, h, _ | 36, _, _, _, h, _ | 37, _, _, _, h, _ | 38, _, _, _, h, _ => h
  | _ + 39, _, _, _, h, _ => h
/-- '<=' of two texts that does not hold. -/
theorem run_leq_str (x y : ByteArray) (h : ltT y x = true) (w : World) : (binOp .leq 9 (.string x) (.string y)).run Try.prog w = .ok (.bool false) w := by
  have h3 : Op.bytesLess x.toList y.toList = false := ltT_asymm h
  have h2 : (x.toList == y.toList) = false := text_other.2 (ltT_ne h).symm
  simp [binOp, Op.binOp, Try.underlying9, Op.stringOp, h2, h3]
theorem But.of_below0 {g0 : Nat} {w w' : World} (h : Below g0 w w') : But (fun k => g0 ≤ k) w w' := ⟨h.os, h.tape, h.output, h.size, fun k _ hn => h.block k (by omega)⟩
section
variable {P : (Nat → Prop) → World → Nat → Tb Int → Prop} {g0 B : Nat} {t : Tb Int} {w w' : World}
/-- A table all of which lies from g0 on. -/
def Mine (P : (Nat → Prop) → World → Nat → Tb Int → Prop) (g0 : Nat) (w : World) (B : Nat) (t : Tb Int) : Prop := ∃ S : Nat → Prop, P S w B t ∧ (∀ k, S k → g0 ≤ k) ∧ g0 ≤ w.heap.size
theorem Mine.below (C : Prg P) (h : Mine P g0 w B t) (hb : Below w.heap.size w w') : Mine P g0 w' B t := by
  obtain ⟨S, h1, h2, h3⟩ := h
  exact ⟨S, C.below h1 hb, h2, Nat.le_trans h3 hb.size⟩
theorem Mine.ok (C : Prg P) (h : Mine P g0 w B t) : t.Ok := by
  obtain ⟨S, h1, _⟩ := h
  exact C.ok h1
theorem Mine.next (h3 : g0 ≤ w.heap.size) {S : Nat → Prop} (h2 : ∀ k, S k → g0 ≤ k) {t' : Tb Int} (k1 : P (fun k => S k ∨ w.heap.size ≤ k) w' B t') (kb : But S w w') : Mine P g0 w' B t' ∧ Below g0 w w' :=
  ⟨⟨_, k1, fun k hk => by rcases hk with hk | hk; exact h2 k hk; omega, Nat.le_trans h3 kb.size⟩, kb.below h3 fun k hk hs => by have := h2 k hs; omega⟩
theorem mine_put (C : Prg P) (k : ByteArray) (v : Int) (i : Nat) (h : Mine P g0 w B t) (hi : i < 18446744073709551616) (hk : k.size ≤ maxLen) :
    Calls Try.prog 17 #[.pointer (some ⟨B, 0, none⟩), .string k, .int .i64 v, .int .u64 (i : Int)] w fun e w' => e = .returned (putV t k v i) ∧ Mine P g0 w' B (t.putT k v i) ∧ Below g0 w w' := by
  obtain ⟨S, h1, h2, h3⟩ := h
  exact (C.put k v i w h1 hi hk).mono fun e w' ⟨a, b, c⟩ => ⟨a, Mine.next h3 h2 b (c.mono fun k e => by rw [e]; exact C.mine h1)⟩
theorem mine_drop (C : Prg P) (k : ByteArray) (i : Nat) (h : Mine P g0 w B t) (hi : i < 18446744073709551616) (hk : k.size ≤ maxLen) :
    Calls Try.prog 19 #[.pointer (some ⟨B, 0, none⟩), .string k, .int .u64 (i : Int)] w fun e w' => e = .returned (.bool (getR t.l k).isSome) ∧ Mine P g0 w' B (t.dropT k i) ∧ Below g0 w w' := by
  obtain ⟨S, h1, h2, h3⟩ := h
  exact (C.drop k i w h1 hi hk).mono fun e w' ⟨a, b, c⟩ => ⟨a, Mine.next h3 h2 b (c.mono fun k e => by rw [e]; exact C.mine h1)⟩
theorem Tb.Up.putT {t : Tb Int} (ok : t.Ok) {a : Nat} (h : t.Up a) (k : ByteArray) (v : Int) {i : Nat} (hi : a ≤ i) : (t.putT k v i).Up i := by
  unfold Tb.putT
  split
  · exact h.mono hi
  · exact h.put ok k v hi
theorem Tb.Up.dropT {t : Tb Int} {a : Nat} (h : t.Up a) (k : ByteArray) {i : Nat} (hi : a ≤ i) : (t.dropT k i).Up i := by
  unfold Tb.dropT
  split
  · exact h.drop k hi
  · exact h.mono hi
set_option maxHeartbeats 16000000 in
set_option maxRecDepth 100000 in
theorem rises_walk (C : Prg P) (A : Option Addr) (n c : Nat) (ss : List TSt) (w : World) (hS : SK tsC 4 w A n ss) (hok : ∀ s ∈ ss, s.ok) (hn : n ≤ maxLen) :
    Calls Try.prog 5 #[.slice A n c] w fun e w' => e = .returned (.bool true) ∧ Below w.heap.size w w' := by
  unfold maxLen at hn
  have hn' : (n : Int) ≤ 9223372036854775807 := by omega
  have HC := Lib.hid C
  have HN := Lib.hid (C.new 20 w (by omega))
  have HSS := Lib.hid hS
  have HSl := Lib.hid hS.1
  have HOk := Lib.hid hok
  obtain ⟨g0, hg0⟩ : ∃ g0, w.heap.size = g0 := ⟨_, rfl⟩
  rw [hg0] at HN ⊢
  have HG0 := Lib.hid hg0
  clear C hS hok hn hg0
  go_enter Try.func5, Try.ntmps5
  go_wp2_with fail
  refine HN.out.mono ?_
  rintro e w1 ⟨Bp, rfl, hp, hb1⟩
  have HM : Hid (Mine P g0 w1 Bp ⟨mostT 20, [], 0⟩) := Lib.hid ⟨_, hp, fun k h => h, by rw [← HG0.out]; exact hb1.size⟩
  have HB1 := Lib.hid hb1
  clear HN hp hb1
  go_wp2
  go_loopw [4, 5] (fun av iv wr => ∃ (k a : Nat) (t : Tb Int), k ≤ n ∧ a ≤ 8 * k ∧ k ≤ 80 ∧ iv = .int .i64 (k : Int) ∧ av = .int .u64 (a : Int) ∧ Hid (t.Up a) ∧ Hid (Mine P g0 wr Bp t) ∧ Hid (Below g0 w wr)) (fun _ iv _ => n - (intOf iv).toNat)
  case atStart => exact ⟨0, 0, _, Nat.zero_le _, Nat.zero_le _, by omega, rfl, rfl, Lib.hid ⟨Nat.le_refl _, fun x hx => by cases hx⟩, HM, HB1⟩
  case round =>
    obtain ⟨k, a, t, hk, ha, hk80, rfl, rfl, hup, hmi, hb⟩ := hrel
    by_cases hlt : k < n ∧ k < 80
    · obtain ⟨h1, h2⟩ := hlt
      have hkl : k < ss.length := by rw [HSl.out]; exact h1
      have ht := HSS.out.below (w' := wr) (by rw [HG0.out]; exact hb.out)
      obtain ⟨b, off, rfl, hbl, hit⟩ := ht.at_ h1 hkl
      have hso := HOk.out ss[k] (List.getElem_mem _)
      obtain ⟨s, hs⟩ : ∃ s, ss[k] = s := ⟨_, rfl⟩
      rw [hs] at hit hso
      have HK := Lib.hid (show ∀ wx, Below g0 w wx → ItAt tsC wx b (off + k * 4) s from fun wx hx => by
        obtain ⟨b', off', e, _, h2⟩ := (HSS.out.below (w' := wx) (by rw [HG0.out]; exact hx)).at_ h1 hkl
        cases e
        rw [hs] at h2
        exact h2)
      obtain ⟨c0, c1, c2, c3⟩ := ts_cells hit
      have hky := hso.key
      have hix := hso.ix
      have q1 : (k : Int) < (n : Int) := by omega
      have q2 : (k : Int) < 80 := by omega
      have q0 : (0 : Int) ≤ (k : Int) := by omega
      obtain ⟨m9, hm9⟩ : ∃ m9, s.ix % 9 = m9 := ⟨_, rfl⟩
      have hmod : m9 < 9 := by rw [← hm9]; exact Nat.mod_lt _ (by decide)
      have hr1 : ((s.ix : Int).tmod 9) = (m9 : Int) := by rw [Int.tmod_eq_emod_of_nonneg (by omega)]; omega
      obtain ⟨a1, ha1⟩ : ∃ a1, a + m9 = a1 := ⟨_, rfl⟩
      have hwr : IntKind.u64.wrap ((a : Int) + (m9 : Int)) = (a1 : Int) := (IntWalk.u64_in _ (by omega)).trans (by omega)
      have ha2 : a ≤ a1 ∧ a1 ≤ 8 * (k + 1) := by omega
      have hi1 : a1 < 18446744073709551616 := by omega
      clear ht hit hso hs
      by_cases hkd : s.kind = 1
      · have z1 : (s.kind == 1) = true := by rw [beq_iff_eq]; exact hkd
        have HDr := Lib.hid (mine_drop HC.out s.key a1 hmi.out hi1 hky)
        clear hkd
        go_wp2_with fail
        refine HDr.out.mono ?_
        rintro e w2 ⟨rfl, hm2, hb2⟩
        have HM2 := Lib.hid hm2
        have HB2 := Lib.hid (hb.out.trans hb2)
        have HU2 := Lib.hid (hup.out.dropT s.key ha2.1)
        clear HDr hm2 hb2
        go_wp2
        go_roundw
        case rel => exact ⟨k + 1, a1, _, by omega, by omega, by omega, by go_num, rfl, HU2, HM2, HB2⟩
        case measure => simp [intOf]; omega
      · have z1 : (s.kind == 1) = false := by rw [beq_eq_false_iff_ne]; exact hkd
        obtain ⟨pr, pn, hpf⟩ := putV_form t s.key s.v a1
        obtain ⟨t', ht'⟩ : ∃ t', t.putT s.key s.v a1 = t' := ⟨_, rfl⟩
        have HPu : Hid (∀ wx, Mine P g0 wx Bp t → Calls Try.prog 17 #[.pointer (some ⟨Bp, 0, none⟩), .string s.key, .int .i64 s.v, .int .u64 (a1 : Int)] wx fun e w2 => e = .returned (.tuple #[.agg #[.string pr.key, .int .i64 pr.val, .int .u64 (pr.made : Int), .int .u64 (pr.ix : Int)], .int .i64 pn]) ∧ Mine P g0 w2 Bp t' ∧ Below g0 wx w2) := Lib.hid fun wx h => by
          have := mine_put HC.out s.key s.v a1 h hi1 hky
          rw [hpf, ht'] at this
          exact this
        have HU2 := Lib.hid (show t'.Up a1 by rw [← ht']; exact hup.out.putT (hmi.out.ok HC.out) s.key s.v ha2.1)
        clear hkd hpf ht'
        go_wp2_with fail
        refine Go.Rel.wp_region_states (by kernel_rfl) (by kernel_rfl) (by kernel_rfl) (by kernel_rfl) (fun f wx => Mine P g0 wx Bp (if f 12 = true then t' else t) ∧ Below g0 w wx) (But (fun k => g0 ≤ k)) (fun _ _ _ h k => h.trans k) ((But.refl _ _).drew) ⟨hmi.out.below HC.out ((Below.refl _ _).drew), hb.out.drew⟩ (tbRi (fun k => g0 ≤ k) b off n c Bp k a1 s pr pn) (tbRi_stable (fun k => g0 ≤ k) b off n c Bp k a1 s pr pn) ?hsR ?heR
        case hsR =>
          refine (.cons ?_ (.cons ?_ (.cons ?_ (.cons ?_ (.cons ?_ (.cons ?_ (.cons ?_ (.cons ?_ (.cons ?_ (.cons ?_ (.cons ?_ (.cons ?_ (.cons ?_ .nil)))))))))))))
          · intro f a w' hI hf hanc hdesc hle hs' hd K hK
            have f3 : a.tmps[3]? = some (.pointer (some ⟨Bp, 0, none⟩)) := hs'.2.2 3 (by kernel_rfl)
            unfold Go.Rel.stepOf
            go_simp
            exact hK _ _ (But.refl _ _) (hI) rfl
          · intro f a w' hI hf hanc hdesc hle hs' hd K hK
            have f0 : a.tmps[0]? = some (.slice (some ⟨b, off, none⟩) n c) := hs'.2.2 0 (by kernel_rfl)
            unfold Go.Rel.stepOf
            go_simp
            exact hK _ _ (But.refl _ _) (hI) rfl
          · intro f a w' hI hf hanc hdesc hle hs' hd K hK
            have f5 : a.tmps[5]? = some (.int .i64 (k : Int)) := hs'.2.2 5 (by kernel_rfl)
            unfold Go.Rel.stepOf
            go_simp
            exact hK _ _ (But.refl _ _) (hI) rfl
          · intro f a w' hI hf hanc hdesc hle hs' hd K hK
            obtain ⟨_, t1, rfl⟩ := hd 1 42 (by kernel_rfl)
            obtain ⟨_, t2, rfl⟩ := hd 2 43 (by kernel_rfl)
            unfold Go.Rel.stepOf
            go_simp
            exact hK _ _ (But.refl _ _) (hI) rfl
          · intro f a w' hI hf hanc hdesc hle hs' hd K hK
            obtain ⟨_, t3, rfl⟩ := hd 3 44 (by kernel_rfl)
            unfold Go.Rel.stepOf
            go_simp
            exact hK _ _ (But.refl _ _) (hI) rfl
          · intro f a w' hI hf hanc hdesc hle hs' hd K hK
            obtain ⟨_, t4, rfl⟩ := hd 4 45 (by kernel_rfl)
            obtain ⟨d0, d1, d2, d3⟩ := ts_cells (HK.out w' hI.2)
            unfold Go.Rel.stepOf
            go_simp
            exact hK _ _ (But.refl _ _) (hI) rfl
          · intro f a w' hI hf hanc hdesc hle hs' hd K hK
            have f0 : a.tmps[0]? = some (.slice (some ⟨b, off, none⟩) n c) := hs'.2.2 0 (by kernel_rfl)
            unfold Go.Rel.stepOf
            go_simp
            exact hK _ _ (But.refl _ _) (hI) rfl
          · intro f a w' hI hf hanc hdesc hle hs' hd K hK
            have f5 : a.tmps[5]? = some (.int .i64 (k : Int)) := hs'.2.2 5 (by kernel_rfl)
            unfold Go.Rel.stepOf
            go_simp
            exact hK _ _ (But.refl _ _) (hI) rfl
          · intro f a w' hI hf hanc hdesc hle hs' hd K hK
            obtain ⟨_, t6, rfl⟩ := hd 6 47 (by kernel_rfl)
            obtain ⟨_, t7, rfl⟩ := hd 7 48 (by kernel_rfl)
            unfold Go.Rel.stepOf
            go_simp
            exact hK _ _ (But.refl _ _) (hI) rfl
          · intro f a w' hI hf hanc hdesc hle hs' hd K hK
            obtain ⟨_, t8, rfl⟩ := hd 8 49 (by kernel_rfl)
            unfold Go.Rel.stepOf
            go_simp
            exact hK _ _ (But.refl _ _) (hI) rfl
          · intro f a w' hI hf hanc hdesc hle hs' hd K hK
            obtain ⟨_, t9, rfl⟩ := hd 9 50 (by kernel_rfl)
            obtain ⟨d0, d1, d2, d3⟩ := ts_cells (HK.out w' hI.2)
            unfold Go.Rel.stepOf
            go_simp
            exact hK _ _ (But.refl _ _) (hI) rfl
          · intro f a w' hI hf hanc hdesc hle hs' hd K hK
            have f4 : a.tmps[4]? = some (.int .u64 (a1 : Int)) := hs'.2.2 4 (by kernel_rfl)
            unfold Go.Rel.stepOf
            go_simp
            exact hK _ _ (But.refl _ _) (hI) rfl
          · intro f a w' hI hf hanc hdesc hle hs' hd K hK
            obtain ⟨_, t0, rfl⟩ := hd 0 41 (by kernel_rfl)
            obtain ⟨_, t5, rfl⟩ := hd 5 46 (by kernel_rfl)
            obtain ⟨_, t10, rfl⟩ := hd 10 51 (by kernel_rfl)
            obtain ⟨_, t11, rfl⟩ := hd 11 52 (by kernel_rfl)
            have hst := hI.1
            rw [hf] at hst
            unfold Go.Rel.stepOf
            go_simp
            refine (HPu.out w' hst).mono ?_
            rintro e w2 ⟨rfl, hr5, hb5⟩
            exact hK _ _ (But.of_below0 hb5) ⟨hr5, hI.2.trans hb5⟩ rfl
        case heR =>
          intro f a9 w6 hall hI hle hs' hR'
          have hf := hall 12 (by decide)
          have HM2 : Hid (Mine P g0 w6 Bp t') := Lib.hid (by
            have h := hI.1
            simp only [hf, if_true] at h
            exact h)
          have HB2 := Lib.hid hI.2
          clear hI hle hall hf
          obtain ⟨v41, s41, _⟩ := hR' 0 41 (by kernel_rfl)
          obtain ⟨v42, s42, _⟩ := hR' 1 42 (by kernel_rfl)
          obtain ⟨v43, s43, _⟩ := hR' 2 43 (by kernel_rfl)
          obtain ⟨v44, s44, _⟩ := hR' 3 44 (by kernel_rfl)
          obtain ⟨v45, s45, _⟩ := hR' 4 45 (by kernel_rfl)
          obtain ⟨v46, s46, _⟩ := hR' 5 46 (by kernel_rfl)
          obtain ⟨v47, s47, _⟩ := hR' 6 47 (by kernel_rfl)
          obtain ⟨v48, s48, _⟩ := hR' 7 48 (by kernel_rfl)
          obtain ⟨v49, s49, _⟩ := hR' 8 49 (by kernel_rfl)
          obtain ⟨v50, s50, _⟩ := hR' 9 50 (by kernel_rfl)
          obtain ⟨v51, s51, _⟩ := hR' 10 51 (by kernel_rfl)
          obtain ⟨v52, s52, _⟩ := hR' 11 52 (by kernel_rfl)
          obtain ⟨_, s53, rfl⟩ := hR' 12 53 (by kernel_rfl)
          have e := hs'.shape
          simp only [List.toList_toArray, List.foldl, Go.Rel.reset, Array.getD_eq_getD_getElem?, s41, s42, s43, s44, s45, s46, s47, s48, s49, s50, s51, s52, s53, Option.getD_some] at e
          simp at e
          clear hR' hs' s41 s42 s43 s44 s45 s46 s47 s48 s49 s50 s51 s52 s53
          subst e
          go_wp2
          go_roundw
          case rel => exact ⟨k + 1, a1, t', by omega, by omega, by omega, by go_num, rfl, HU2, HM2, HB2⟩
          case measure => simp [intOf]; omega
    · have HOk5 := hmi.out.ok HC.out
      have h64 : t.l.length ≤ 64 := Nat.le_trans HOk5.len HOk5.most.2
      have hrow : ∀ x ∈ t.l, x.made ≤ x.ix ∧ x.ix ≤ t.last := fun x hx => ⟨hup.out.row x hx, (HOk5.row x hx).2⟩
      have hla : t.last ≤ a := hup.out.last
      have HSR := Lib.hid HOk5.rise
      have HRow := Lib.hid hrow
      obtain ⟨lst, hlst⟩ : ∃ x, t.last = x := ⟨_, rfl⟩
      obtain ⟨m, hm⟩ : ∃ x, t.l.length = x := ⟨_, rfl⟩
      have HLi : Hid (∀ wx, Mine P g0 wx Bp t → Calls Try.prog 15 #[.pointer (some ⟨Bp, 0, none⟩)] wx (NewRows wx t.l)) := Lib.hid fun wx ⟨S, hp, _⟩ => HC.out.list wx hp
      have HLa : Hid (∀ wx, Mine P g0 wx Bp t → Calls Try.prog 13 #[.pointer (some ⟨Bp, 0, none⟩)] wx fun e w' => e = .returned (.int .u64 (lst : Int)) ∧ Below wx.heap.size wx w') := Lib.hid fun wx ⟨S, hp, _⟩ => by rw [← hlst]; exact HC.out.last wx hp
      rw [hlst] at hla HRow
      rw [hm] at h64
      have HMm := Lib.hid hm
      have q9 : (lst : Int) ≤ (a : Int) := by omega
      clear HOk5 hrow hlst hm
      by_cases h1 : k < n
      case' pos =>
        have q1 : (k : Int) < (n : Int) := by omega
        have q2 : ¬ (k : Int) < 80 := by omega
        go_wp2_with fail
      case' neg =>
        have q1 : ¬ (k : Int) < (n : Int) := by omega
        go_wp2_with fail
      all_goals
        refine (HLi.out wr hmi.out).mono ?_
        rintro e w5 ⟨A2, c2, rfl, hsk, _, _, _, hb5⟩
        rw [HMm.out] at hsk ⊢
        have HSK := Lib.hid hsk
        have HM5 := Lib.hid (hmi.out.below HC.out hb5)
        have HB5 : Hid (Below g0 w w5) := Lib.hid (hb.out.trans (hb5.mono (by have := hb.out.size; have := HG0.out; omega)))
        clear hsk hb5 hmi
        go_wp2
        go_loopw [7] (fun iv wr => ∃ j : Nat, j ≤ m ∧ iv = .int .i64 (j : Int) ∧ Hid (Mine P g0 wr Bp t) ∧ Hid (Below w5.heap.size w5 wr)) (fun iv _ => m - (intOf iv).toNat)
        case atStart => exact ⟨0, Nat.zero_le _, rfl, HM5, Lib.hid (Below.refl _ _)⟩
        case round =>
          obtain ⟨j, hj, rfl, hmi, hb6⟩ := hrel
          by_cases hlt : j < m
          · have hjl : j < t.l.length := by rw [HMm.out]; exact hlt
            obtain ⟨b, off, rfl, hbl, hit⟩ := HSK.out.at_ hlt hjl
            obtain ⟨x, hx⟩ : ∃ x, t.l[j] = x := ⟨_, rfl⟩
            have hxr := HRow.out t.l[j] (List.getElem_mem _)
            rw [hx] at hxr hit
            have HXr : Hid (∀ wx, Below w5.heap.size w5 wx → ItAt trC wx b (off + j * 4) x) := Lib.hid fun wx hb => hit.of_block (hb.block b hbl)
            have q5 : decide (x.ix < x.made) = false := decide_eq_false (by omega)
            have q6 : decide (lst < x.ix) = false := decide_eq_false (by omega)
            have q3 : (j : Int) < (m : Int) := by omega
            have q4 : (0 : Int) ≤ (j : Int) := by omega
            by_cases hj0 : 0 < j
            · obtain ⟨j1, rfl⟩ : ∃ j1, j = j1 + 1 := ⟨j - 1, by omega⟩
              obtain ⟨y, hy⟩ : ∃ y, t.l[j1]'(by omega) = y := ⟨_, rfl⟩
              have hrise := HSR.out.get hjl (Nat.lt_succ_self j1)
              obtain ⟨b', off', e', _, hit2⟩ := HSK.out.at_ (j := j1) (by omega) (by omega)
              cases e'
              rw [hx, hy] at hrise
              rw [hy] at hit2
              have HY : Hid (∀ wx, Below w5.heap.size w5 wx → ItAt trC wx b (off + j1 * 4) y) := Lib.hid fun wx hb => hit2.of_block (hb.block b hbl)
              have ql := run_leq_str x.key y.key hrise
              have hwr : IntKind.i64.wrap (((j1 + 1 : Nat) : Int) - 1) = (j1 : Int) := (IntWalk.i64_in _ (by omega)).trans (by omega)
              have q7 : decide (0 < j1 + 1) = true := decide_eq_true (by omega)
              have q8 : (j1 : Int) < (m : Int) := by omega
              have q10 : (0 : Int) ≤ (j1 : Int) := by omega
              clear hx hy hit hit2 hrise hjl hxr hj0
              obtain ⟨j, hj9⟩ : ∃ j, j1 + 1 = j := ⟨_, rfl⟩
              rw [hj9] at HXr hwr q3 q4 q7 hlt hj ⊢
              go_wp2_with fail
              refine Go.Rel.wp_region_states (by kernel_rfl) (by kernel_rfl) (by kernel_rfl) (by kernel_rfl) (fun f wx => Mine P g0 wx Bp t ∧ Below w5.heap.size w5 wx) (But NoB) (fun _ _ _ h k => h.trans k) ((But.refl _ _).drew) ⟨hmi.out.below HC.out ((Below.refl _ _).drew), hb6.out.drew⟩ (tbRb NoB b off m c2 Bp j j1 x y lst) (tbRb_stable NoB b off m c2 Bp j j1 x y lst) ?hsR ?heR
              case hsR =>
                refine (.cons ?_ (.cons ?_ (.cons ?_ (.cons ?_ (.cons ?_ (.cons ?_ (.cons ?_ (.cons ?_ (.cons ?_ (.cons ?_ (.cons ?_ (.cons ?_ (.cons ?_ (.cons ?_ (.cons ?_ (.cons ?_ (.cons ?_ (.cons ?_ (.cons ?_ (.cons ?_ (.cons ?_ (.cons ?_ (.cons ?_ (.cons ?_ (.cons ?_ (.cons ?_ (.cons ?_ (.cons ?_ (.cons ?_ (.cons ?_ (.cons ?_ (.cons ?_ (.cons ?_ (.cons ?_ (.cons ?_ (.cons ?_ (.cons ?_ (.cons ?_ (.cons ?_ .nil)))))))))))))))))))))))))))))))))))))))
                · intro f a w' hI hf hanc hdesc hle hs' hd K hK
                  have f6 : a.tmps[6]? = some (.slice (some ⟨b, off, none⟩) m c2) := hs'.2.2 6 (by kernel_rfl)
                  unfold Go.Rel.stepOf
                  go_simp
                  exact hK _ _ (But.refl _ _) (hI) rfl
                · intro f a w' hI hf hanc hdesc hle hs' hd K hK
                  have f7 : a.tmps[7]? = some (.int .i64 (j : Int)) := hs'.2.2 7 (by kernel_rfl)
                  unfold Go.Rel.stepOf
                  go_simp
                  exact hK _ _ (But.refl _ _) (hI) rfl
                · intro f a w' hI hf hanc hdesc hle hs' hd K hK
                  obtain ⟨_, t0, rfl⟩ := hd 0 62 (by kernel_rfl)
                  obtain ⟨_, t1, rfl⟩ := hd 1 63 (by kernel_rfl)
                  unfold Go.Rel.stepOf
                  go_simp
                  exact hK _ _ (But.refl _ _) (hI) rfl
                · intro f a w' hI hf hanc hdesc hle hs' hd K hK
                  obtain ⟨_, t2, rfl⟩ := hd 2 64 (by kernel_rfl)
                  unfold Go.Rel.stepOf
                  go_simp
                  exact hK _ _ (But.refl _ _) (hI) rfl
                · intro f a w' hI hf hanc hdesc hle hs' hd K hK
                  obtain ⟨_, t3, rfl⟩ := hd 3 65 (by kernel_rfl)
                  obtain ⟨d0, d1, d2, d3⟩ := tr_cells (HXr.out w' hI.2)
                  unfold Go.Rel.stepOf
                  go_simp
                  exact hK _ _ (But.refl _ _) (hI) rfl
                · intro f a w' hI hf hanc hdesc hle hs' hd K hK
                  have f6 : a.tmps[6]? = some (.slice (some ⟨b, off, none⟩) m c2) := hs'.2.2 6 (by kernel_rfl)
                  unfold Go.Rel.stepOf
                  go_simp
                  exact hK _ _ (But.refl _ _) (hI) rfl
                · intro f a w' hI hf hanc hdesc hle hs' hd K hK
                  have f7 : a.tmps[7]? = some (.int .i64 (j : Int)) := hs'.2.2 7 (by kernel_rfl)
                  unfold Go.Rel.stepOf
                  go_simp
                  exact hK _ _ (But.refl _ _) (hI) rfl
                · intro f a w' hI hf hanc hdesc hle hs' hd K hK
                  obtain ⟨_, t5, rfl⟩ := hd 5 67 (by kernel_rfl)
                  obtain ⟨_, t6, rfl⟩ := hd 6 68 (by kernel_rfl)
                  unfold Go.Rel.stepOf
                  go_simp
                  exact hK _ _ (But.refl _ _) (hI) rfl
                · intro f a w' hI hf hanc hdesc hle hs' hd K hK
                  obtain ⟨_, t7, rfl⟩ := hd 7 69 (by kernel_rfl)
                  unfold Go.Rel.stepOf
                  go_simp
                  exact hK _ _ (But.refl _ _) (hI) rfl
                · intro f a w' hI hf hanc hdesc hle hs' hd K hK
                  obtain ⟨_, t8, rfl⟩ := hd 8 70 (by kernel_rfl)
                  obtain ⟨d0, d1, d2, d3⟩ := tr_cells (HXr.out w' hI.2)
                  unfold Go.Rel.stepOf
                  go_simp
                  exact hK _ _ (But.refl _ _) (hI) rfl
                · intro f a w' hI hf hanc hdesc hle hs' hd K hK
                  obtain ⟨_, t4, rfl⟩ := hd 4 66 (by kernel_rfl)
                  obtain ⟨_, t9, rfl⟩ := hd 9 71 (by kernel_rfl)
                  unfold Go.Rel.stepOf
                  go_simp
                  exact hK _ _ (But.refl _ _) (hI) rfl
                · intro f a w' hI hf hanc hdesc hle hs' hd K hK
                  obtain ⟨_, t10, rfl⟩ := hd 10 72 (by kernel_rfl)
                  unfold Go.Rel.stepOf
                  go_simp
                  exact hK _ _ (But.refl _ _) (hI) rfl
                · intro f a w' hI hf hanc hdesc hle hs' hd K hK
                  obtain ⟨_, tg, rfl⟩ := hd 11 73 (by kernel_rfl)
                  have f6 : a.tmps[6]? = some (.slice (some ⟨b, off, none⟩) m c2) := hs'.2.2 6 (by kernel_rfl)
                  unfold Go.Rel.stepOf
                  go_simp
                  exact hK _ _ (But.refl _ _) (hI) rfl
                · intro f a w' hI hf hanc hdesc hle hs' hd K hK
                  obtain ⟨_, tg, rfl⟩ := hd 11 73 (by kernel_rfl)
                  have f7 : a.tmps[7]? = some (.int .i64 (j : Int)) := hs'.2.2 7 (by kernel_rfl)
                  unfold Go.Rel.stepOf
                  go_simp
                  exact hK _ _ (But.refl _ _) (hI) rfl
                · intro f a w' hI hf hanc hdesc hle hs' hd K hK
                  obtain ⟨_, tg, rfl⟩ := hd 11 73 (by kernel_rfl)
                  obtain ⟨_, t12, rfl⟩ := hd 12 74 (by kernel_rfl)
                  obtain ⟨_, t13, rfl⟩ := hd 13 75 (by kernel_rfl)
                  unfold Go.Rel.stepOf
                  go_simp
                  exact hK _ _ (But.refl _ _) (hI) rfl
                · intro f a w' hI hf hanc hdesc hle hs' hd K hK
                  obtain ⟨_, tg, rfl⟩ := hd 11 73 (by kernel_rfl)
                  obtain ⟨_, t14, rfl⟩ := hd 14 76 (by kernel_rfl)
                  unfold Go.Rel.stepOf
                  go_simp
                  exact hK _ _ (But.refl _ _) (hI) rfl
                · intro f a w' hI hf hanc hdesc hle hs' hd K hK
                  obtain ⟨_, tg, rfl⟩ := hd 11 73 (by kernel_rfl)
                  obtain ⟨_, t15, rfl⟩ := hd 15 77 (by kernel_rfl)
                  obtain ⟨d0, d1, d2, d3⟩ := tr_cells (HXr.out w' hI.2)
                  unfold Go.Rel.stepOf
                  go_simp
                  exact hK _ _ (But.refl _ _) (hI) rfl
                · intro f a w' hI hf hanc hdesc hle hs' hd K hK
                  obtain ⟨_, tg, rfl⟩ := hd 11 73 (by kernel_rfl)
                  have f3 : a.tmps[3]? = some (.pointer (some ⟨Bp, 0, none⟩)) := hs'.2.2 3 (by kernel_rfl)
                  unfold Go.Rel.stepOf
                  go_simp
                  exact hK _ _ (But.refl _ _) (hI) rfl
                · intro f a w' hI hf hanc hdesc hle hs' hd K hK
                  obtain ⟨_, tg, rfl⟩ := hd 11 73 (by kernel_rfl)
                  obtain ⟨_, t17, rfl⟩ := hd 17 79 (by kernel_rfl)
                  unfold Go.Rel.stepOf
                  go_simp
                  refine (HLa.out w' hI.1).mono ?_
                  rintro e w2 ⟨rfl, hb5⟩
                  exact hK _ _ (But.of_below hb5) ⟨hI.1.below HC.out hb5, hI.2.trans (hb5.mono hI.2.size)⟩ rfl
                · intro f a w' hI hf hanc hdesc hle hs' hd K hK
                  obtain ⟨_, tg, rfl⟩ := hd 11 73 (by kernel_rfl)
                  obtain ⟨_, t16, rfl⟩ := hd 16 78 (by kernel_rfl)
                  obtain ⟨_, t18, rfl⟩ := hd 18 80 (by kernel_rfl)
                  unfold Go.Rel.stepOf
                  go_simp
                  exact hK _ _ (But.refl _ _) (hI) rfl
                · intro f a w' hI hf hanc hdesc hle hs' hd K hK
                  obtain ⟨_, t11, rfl⟩ := hd 11 73 (by kernel_rfl)
                  obtain ⟨_, t19, rfl⟩ := hd 19 81 (by kernel_rfl)
                  unfold Go.Rel.stepOf
                  go_simp
                  exact hK _ _ (But.refl _ _) (hI) rfl
                · intro f a w' hI hf hanc hdesc hle hs' hd K hK
                  obtain ⟨_, t20, rfl⟩ := hd 20 82 (by kernel_rfl)
                  unfold Go.Rel.stepOf
                  go_simp
                  exact hK _ _ (But.refl _ _) (hI) rfl
                · intro f a w' hI hf hanc hdesc hle hs' hd K hK
                  obtain ⟨_, tg, rfl⟩ := hd 21 83 (by kernel_rfl)
                  have f7 : a.tmps[7]? = some (.int .i64 (j : Int)) := hs'.2.2 7 (by kernel_rfl)
                  unfold Go.Rel.stepOf
                  go_simp
                  exact hK _ _ (But.refl _ _) (hI) rfl
                · intro f a w' hI hf hanc hdesc hle hs' hd K hK
                  obtain ⟨_, tg, rfl⟩ := hd 21 83 (by kernel_rfl)
                  obtain ⟨_, t22, rfl⟩ := hd 22 84 (by kernel_rfl)
                  unfold Go.Rel.stepOf
                  go_simp
                  exact hK _ _ (But.refl _ _) (hI) rfl
                · intro f a w' hI hf hanc hdesc hle hs' hd K hK
                  obtain ⟨_, tg, rfl⟩ := hd 21 83 (by kernel_rfl)
                  obtain ⟨_, t23, rfl⟩ := hd 23 85 (by kernel_rfl)
                  unfold Go.Rel.stepOf
                  go_simp
                  exact hK _ _ (But.refl _ _) (hI) rfl
                · intro f a w' hI hf hanc hdesc hle hs' hd K hK
                  obtain ⟨_, tg, rfl⟩ := hd 24 86 (by kernel_rfl)
                  have f6 : a.tmps[6]? = some (.slice (some ⟨b, off, none⟩) m c2) := hs'.2.2 6 (by kernel_rfl)
                  unfold Go.Rel.stepOf
                  go_simp
                  exact hK _ _ (But.refl _ _) (hI) rfl
                · intro f a w' hI hf hanc hdesc hle hs' hd K hK
                  obtain ⟨_, tg, rfl⟩ := hd 24 86 (by kernel_rfl)
                  have f7 : a.tmps[7]? = some (.int .i64 (j : Int)) := hs'.2.2 7 (by kernel_rfl)
                  unfold Go.Rel.stepOf
                  go_simp
                  exact hK _ _ (But.refl _ _) (hI) rfl
                · intro f a w' hI hf hanc hdesc hle hs' hd K hK
                  obtain ⟨_, tg, rfl⟩ := hd 24 86 (by kernel_rfl)
                  obtain ⟨_, t25, rfl⟩ := hd 25 87 (by kernel_rfl)
                  obtain ⟨_, t26, rfl⟩ := hd 26 88 (by kernel_rfl)
                  unfold Go.Rel.stepOf
                  go_simp
                  exact hK _ _ (But.refl _ _) (hI) rfl
                · intro f a w' hI hf hanc hdesc hle hs' hd K hK
                  obtain ⟨_, tg, rfl⟩ := hd 24 86 (by kernel_rfl)
                  obtain ⟨_, t27, rfl⟩ := hd 27 89 (by kernel_rfl)
                  unfold Go.Rel.stepOf
                  go_simp
                  exact hK _ _ (But.refl _ _) (hI) rfl
                · intro f a w' hI hf hanc hdesc hle hs' hd K hK
                  obtain ⟨_, tg, rfl⟩ := hd 24 86 (by kernel_rfl)
                  obtain ⟨_, t28, rfl⟩ := hd 28 90 (by kernel_rfl)
                  obtain ⟨d0, d1, d2, d3⟩ := tr_cells (HXr.out w' hI.2)
                  unfold Go.Rel.stepOf
                  go_simp
                  exact hK _ _ (But.refl _ _) (hI) rfl
                · intro f a w' hI hf hanc hdesc hle hs' hd K hK
                  obtain ⟨_, tg, rfl⟩ := hd 24 86 (by kernel_rfl)
                  have f6 : a.tmps[6]? = some (.slice (some ⟨b, off, none⟩) m c2) := hs'.2.2 6 (by kernel_rfl)
                  unfold Go.Rel.stepOf
                  go_simp
                  exact hK _ _ (But.refl _ _) (hI) rfl
                · intro f a w' hI hf hanc hdesc hle hs' hd K hK
                  obtain ⟨_, tg, rfl⟩ := hd 24 86 (by kernel_rfl)
                  have f7 : a.tmps[7]? = some (.int .i64 (j : Int)) := hs'.2.2 7 (by kernel_rfl)
                  unfold Go.Rel.stepOf
                  go_simp
                  exact hK _ _ (But.refl _ _) (hI) rfl
                · intro f a w' hI hf hanc hdesc hle hs' hd K hK
                  obtain ⟨_, tg, rfl⟩ := hd 24 86 (by kernel_rfl)
                  obtain ⟨_, t31, rfl⟩ := hd 31 93 (by kernel_rfl)
                  unfold Go.Rel.stepOf
                  go_simp
                  exact hK _ _ (But.refl _ _) (hI) rfl
                · intro f a w' hI hf hanc hdesc hle hs' hd K hK
                  obtain ⟨_, tg, rfl⟩ := hd 24 86 (by kernel_rfl)
                  obtain ⟨_, t30, rfl⟩ := hd 30 92 (by kernel_rfl)
                  obtain ⟨_, t32, rfl⟩ := hd 32 94 (by kernel_rfl)
                  unfold Go.Rel.stepOf
                  go_simp
                  exact hK _ _ (But.refl _ _) (hI) rfl
                · intro f a w' hI hf hanc hdesc hle hs' hd K hK
                  obtain ⟨_, tg, rfl⟩ := hd 24 86 (by kernel_rfl)
                  obtain ⟨_, t33, rfl⟩ := hd 33 95 (by kernel_rfl)
                  unfold Go.Rel.stepOf
                  go_simp
                  exact hK _ _ (But.refl _ _) (hI) rfl
                · intro f a w' hI hf hanc hdesc hle hs' hd K hK
                  obtain ⟨_, tg, rfl⟩ := hd 24 86 (by kernel_rfl)
                  obtain ⟨_, t34, rfl⟩ := hd 34 96 (by kernel_rfl)
                  obtain ⟨d0, d1, d2, d3⟩ := tr_cells (HY.out w' hI.2)
                  unfold Go.Rel.stepOf
                  go_simp
                  exact hK _ _ (But.refl _ _) (hI) rfl
                · intro f a w' hI hf hanc hdesc hle hs' hd K hK
                  obtain ⟨_, tg, rfl⟩ := hd 24 86 (by kernel_rfl)
                  obtain ⟨_, t29, rfl⟩ := hd 29 91 (by kernel_rfl)
                  obtain ⟨_, t35, rfl⟩ := hd 35 97 (by kernel_rfl)
                  unfold Go.Rel.stepOf
                  go_simp
                  exact hK _ _ (But.refl _ _) (hI) rfl
                · intro f a w' hI hf hanc hdesc hle hs' hd K hK
                  obtain ⟨_, tg, rfl⟩ := hd 21 83 (by kernel_rfl)
                  obtain ⟨_, t24, rfl⟩ := hd 24 86 (by kernel_rfl)
                  obtain ⟨_, t36, rfl⟩ := hd 36 98 (by kernel_rfl)
                  unfold Go.Rel.stepOf
                  go_simp
                  exact hK _ _ (But.refl _ _) (hI) rfl
                · intro f a w' hI hf hanc hdesc hle hs' hd K hK
                  obtain ⟨_, t21, rfl⟩ := hd 21 83 (by kernel_rfl)
                  obtain ⟨_, t37, rfl⟩ := hd 37 99 (by kernel_rfl)
                  unfold Go.Rel.stepOf
                  go_simp
                  exact hK _ _ (But.refl _ _) (hI) rfl
              case heR =>
                intro f a9 w7 hall hI hle hs' hR'
                have HM7 := Lib.hid hI.1
                have HB7 := Lib.hid hI.2
                clear hI hle hall
                obtain ⟨v62, s62, _⟩ := hR' 0 62 (by kernel_rfl)
                obtain ⟨v63, s63, _⟩ := hR' 1 63 (by kernel_rfl)
                obtain ⟨v64, s64, _⟩ := hR' 2 64 (by kernel_rfl)
                obtain ⟨v65, s65, _⟩ := hR' 3 65 (by kernel_rfl)
                obtain ⟨v66, s66, _⟩ := hR' 4 66 (by kernel_rfl)
                obtain ⟨v67, s67, _⟩ := hR' 5 67 (by kernel_rfl)
                obtain ⟨v68, s68, _⟩ := hR' 6 68 (by kernel_rfl)
                obtain ⟨v69, s69, _⟩ := hR' 7 69 (by kernel_rfl)
                obtain ⟨v70, s70, _⟩ := hR' 8 70 (by kernel_rfl)
                obtain ⟨v71, s71, _⟩ := hR' 9 71 (by kernel_rfl)
                obtain ⟨v72, s72, _⟩ := hR' 10 72 (by kernel_rfl)
                obtain ⟨v73, s73, _⟩ := hR' 11 73 (by kernel_rfl)
                obtain ⟨v74, s74, _⟩ := hR' 12 74 (by kernel_rfl)
                obtain ⟨v75, s75, _⟩ := hR' 13 75 (by kernel_rfl)
                obtain ⟨v76, s76, _⟩ := hR' 14 76 (by kernel_rfl)
                obtain ⟨v77, s77, _⟩ := hR' 15 77 (by kernel_rfl)
                obtain ⟨v78, s78, _⟩ := hR' 16 78 (by kernel_rfl)
                obtain ⟨v79, s79, _⟩ := hR' 17 79 (by kernel_rfl)
                obtain ⟨v80, s80, _⟩ := hR' 18 80 (by kernel_rfl)
                obtain ⟨v81, s81, _⟩ := hR' 19 81 (by kernel_rfl)
                obtain ⟨v82, s82, _⟩ := hR' 20 82 (by kernel_rfl)
                obtain ⟨v83, s83, _⟩ := hR' 21 83 (by kernel_rfl)
                obtain ⟨v84, s84, _⟩ := hR' 22 84 (by kernel_rfl)
                obtain ⟨v85, s85, _⟩ := hR' 23 85 (by kernel_rfl)
                obtain ⟨v86, s86, _⟩ := hR' 24 86 (by kernel_rfl)
                obtain ⟨v87, s87, _⟩ := hR' 25 87 (by kernel_rfl)
                obtain ⟨v88, s88, _⟩ := hR' 26 88 (by kernel_rfl)
                obtain ⟨v89, s89, _⟩ := hR' 27 89 (by kernel_rfl)
                obtain ⟨v90, s90, _⟩ := hR' 28 90 (by kernel_rfl)
                obtain ⟨v91, s91, _⟩ := hR' 29 91 (by kernel_rfl)
                obtain ⟨v92, s92, _⟩ := hR' 30 92 (by kernel_rfl)
                obtain ⟨v93, s93, _⟩ := hR' 31 93 (by kernel_rfl)
                obtain ⟨v94, s94, _⟩ := hR' 32 94 (by kernel_rfl)
                obtain ⟨v95, s95, _⟩ := hR' 33 95 (by kernel_rfl)
                obtain ⟨v96, s96, _⟩ := hR' 34 96 (by kernel_rfl)
                obtain ⟨v97, s97, _⟩ := hR' 35 97 (by kernel_rfl)
                obtain ⟨v98, s98, _⟩ := hR' 36 98 (by kernel_rfl)
                obtain ⟨v99, s99, _⟩ := hR' 37 99 (by kernel_rfl)
                obtain ⟨_, s100, rfl⟩ := hR' 38 100 (by kernel_rfl)
                have e := hs'.shape
                simp only [List.toList_toArray, List.foldl, Go.Rel.reset, Array.getD_eq_getD_getElem?, s62, s63, s64, s65, s66, s67, s68, s69, s70, s71, s72, s73, s74, s75, s76, s77, s78, s79, s80, s81, s82, s83, s84, s85, s86, s87, s88, s89, s90, s91, s92, s93, s94, s95, s96, s97, s98, s99, s100, Option.getD_some] at e
                simp at e
                clear hR' hs' s62 s63 s64 s65 s66 s67 s68 s69 s70 s71 s72 s73 s74 s75 s76 s77 s78 s79 s80 s81 s82 s83 s84 s85 s86 s87 s88 s89 s90 s91 s92 s93 s94 s95 s96 s97 s98 s99 s100
                subst e
                go_wp2
                go_roundw
                case rel => exact ⟨j + 1, by omega, by go_num, HM7, HB7⟩
                case measure => simp [intOf]; omega
            · have q7 : decide (0 < j) = false := decide_eq_false (by omega)
              obtain ⟨j1, hj1⟩ : ∃ j1 : Nat, j1 = 0 := ⟨_, rfl⟩
              obtain ⟨y, hy⟩ : ∃ y : Rw Int, y = x := ⟨_, rfl⟩
              clear hx hit hjl hxr hj0 hj1 hy
              go_wp2_with fail
              refine Go.Rel.wp_region_states (by kernel_rfl) (by kernel_rfl) (by kernel_rfl) (by kernel_rfl) (fun f wx => Mine P g0 wx Bp t ∧ Below w5.heap.size w5 wx) (But NoB) (fun _ _ _ h k => h.trans k) ((But.refl _ _).drew) ⟨hmi.out.below HC.out ((Below.refl _ _).drew), hb6.out.drew⟩ (tbRa NoB b off m c2 Bp j j1 x y lst) (tbRa_stable NoB b off m c2 Bp j j1 x y lst) ?hsR ?heR
              case hsR =>
                refine (.cons ?_ (.cons ?_ (.cons ?_ (.cons ?_ (.cons ?_ (.cons ?_ (.cons ?_ (.cons ?_ (.cons ?_ (.cons ?_ (.cons ?_ (.cons ?_ (.cons ?_ (.cons ?_ (.cons ?_ (.cons ?_ (.cons ?_ (.cons ?_ (.cons ?_ (.cons ?_ (.cons ?_ (.cons ?_ (.cons ?_ (.cons ?_ (.cons ?_ (.cons ?_ (.cons ?_ (.cons ?_ (.cons ?_ (.cons ?_ (.cons ?_ (.cons ?_ (.cons ?_ (.cons ?_ (.cons ?_ (.cons ?_ (.cons ?_ (.cons ?_ (.cons ?_ .nil)))))))))))))))))))))))))))))))))))))))
                · intro f a w' hI hf hanc hdesc hle hs' hd K hK
                  have f6 : a.tmps[6]? = some (.slice (some ⟨b, off, none⟩) m c2) := hs'.2.2 6 (by kernel_rfl)
                  unfold Go.Rel.stepOf
                  go_simp
                  exact hK _ _ (But.refl _ _) (hI) rfl
                · intro f a w' hI hf hanc hdesc hle hs' hd K hK
                  have f7 : a.tmps[7]? = some (.int .i64 (j : Int)) := hs'.2.2 7 (by kernel_rfl)
                  unfold Go.Rel.stepOf
                  go_simp
                  exact hK _ _ (But.refl _ _) (hI) rfl
                · intro f a w' hI hf hanc hdesc hle hs' hd K hK
                  obtain ⟨_, t0, rfl⟩ := hd 0 62 (by kernel_rfl)
                  obtain ⟨_, t1, rfl⟩ := hd 1 63 (by kernel_rfl)
                  unfold Go.Rel.stepOf
                  go_simp
                  exact hK _ _ (But.refl _ _) (hI) rfl
                · intro f a w' hI hf hanc hdesc hle hs' hd K hK
                  obtain ⟨_, t2, rfl⟩ := hd 2 64 (by kernel_rfl)
                  unfold Go.Rel.stepOf
                  go_simp
                  exact hK _ _ (But.refl _ _) (hI) rfl
                · intro f a w' hI hf hanc hdesc hle hs' hd K hK
                  obtain ⟨_, t3, rfl⟩ := hd 3 65 (by kernel_rfl)
                  obtain ⟨d0, d1, d2, d3⟩ := tr_cells (HXr.out w' hI.2)
                  unfold Go.Rel.stepOf
                  go_simp
                  exact hK _ _ (But.refl _ _) (hI) rfl
                · intro f a w' hI hf hanc hdesc hle hs' hd K hK
                  have f6 : a.tmps[6]? = some (.slice (some ⟨b, off, none⟩) m c2) := hs'.2.2 6 (by kernel_rfl)
                  unfold Go.Rel.stepOf
                  go_simp
                  exact hK _ _ (But.refl _ _) (hI) rfl
                · intro f a w' hI hf hanc hdesc hle hs' hd K hK
                  have f7 : a.tmps[7]? = some (.int .i64 (j : Int)) := hs'.2.2 7 (by kernel_rfl)
                  unfold Go.Rel.stepOf
                  go_simp
                  exact hK _ _ (But.refl _ _) (hI) rfl
                · intro f a w' hI hf hanc hdesc hle hs' hd K hK
                  obtain ⟨_, t5, rfl⟩ := hd 5 67 (by kernel_rfl)
                  obtain ⟨_, t6, rfl⟩ := hd 6 68 (by kernel_rfl)
                  unfold Go.Rel.stepOf
                  go_simp
                  exact hK _ _ (But.refl _ _) (hI) rfl
                · intro f a w' hI hf hanc hdesc hle hs' hd K hK
                  obtain ⟨_, t7, rfl⟩ := hd 7 69 (by kernel_rfl)
                  unfold Go.Rel.stepOf
                  go_simp
                  exact hK _ _ (But.refl _ _) (hI) rfl
                · intro f a w' hI hf hanc hdesc hle hs' hd K hK
                  obtain ⟨_, t8, rfl⟩ := hd 8 70 (by kernel_rfl)
                  obtain ⟨d0, d1, d2, d3⟩ := tr_cells (HXr.out w' hI.2)
                  unfold Go.Rel.stepOf
                  go_simp
                  exact hK _ _ (But.refl _ _) (hI) rfl
                · intro f a w' hI hf hanc hdesc hle hs' hd K hK
                  obtain ⟨_, t4, rfl⟩ := hd 4 66 (by kernel_rfl)
                  obtain ⟨_, t9, rfl⟩ := hd 9 71 (by kernel_rfl)
                  unfold Go.Rel.stepOf
                  go_simp
                  exact hK _ _ (But.refl _ _) (hI) rfl
                · intro f a w' hI hf hanc hdesc hle hs' hd K hK
                  obtain ⟨_, t10, rfl⟩ := hd 10 72 (by kernel_rfl)
                  unfold Go.Rel.stepOf
                  go_simp
                  exact hK _ _ (But.refl _ _) (hI) rfl
                · intro f a w' hI hf hanc hdesc hle hs' hd K hK
                  obtain ⟨_, tg, rfl⟩ := hd 11 73 (by kernel_rfl)
                  have f6 : a.tmps[6]? = some (.slice (some ⟨b, off, none⟩) m c2) := hs'.2.2 6 (by kernel_rfl)
                  unfold Go.Rel.stepOf
                  go_simp
                  exact hK _ _ (But.refl _ _) (hI) rfl
                · intro f a w' hI hf hanc hdesc hle hs' hd K hK
                  obtain ⟨_, tg, rfl⟩ := hd 11 73 (by kernel_rfl)
                  have f7 : a.tmps[7]? = some (.int .i64 (j : Int)) := hs'.2.2 7 (by kernel_rfl)
                  unfold Go.Rel.stepOf
                  go_simp
                  exact hK _ _ (But.refl _ _) (hI) rfl
                · intro f a w' hI hf hanc hdesc hle hs' hd K hK
                  obtain ⟨_, tg, rfl⟩ := hd 11 73 (by kernel_rfl)
                  obtain ⟨_, t12, rfl⟩ := hd 12 74 (by kernel_rfl)
                  obtain ⟨_, t13, rfl⟩ := hd 13 75 (by kernel_rfl)
                  unfold Go.Rel.stepOf
                  go_simp
                  exact hK _ _ (But.refl _ _) (hI) rfl
                · intro f a w' hI hf hanc hdesc hle hs' hd K hK
                  obtain ⟨_, tg, rfl⟩ := hd 11 73 (by kernel_rfl)
                  obtain ⟨_, t14, rfl⟩ := hd 14 76 (by kernel_rfl)
                  unfold Go.Rel.stepOf
                  go_simp
                  exact hK _ _ (But.refl _ _) (hI) rfl
                · intro f a w' hI hf hanc hdesc hle hs' hd K hK
                  obtain ⟨_, tg, rfl⟩ := hd 11 73 (by kernel_rfl)
                  obtain ⟨_, t15, rfl⟩ := hd 15 77 (by kernel_rfl)
                  obtain ⟨d0, d1, d2, d3⟩ := tr_cells (HXr.out w' hI.2)
                  unfold Go.Rel.stepOf
                  go_simp
                  exact hK _ _ (But.refl _ _) (hI) rfl
                · intro f a w' hI hf hanc hdesc hle hs' hd K hK
                  obtain ⟨_, tg, rfl⟩ := hd 11 73 (by kernel_rfl)
                  have f3 : a.tmps[3]? = some (.pointer (some ⟨Bp, 0, none⟩)) := hs'.2.2 3 (by kernel_rfl)
                  unfold Go.Rel.stepOf
                  go_simp
                  exact hK _ _ (But.refl _ _) (hI) rfl
                · intro f a w' hI hf hanc hdesc hle hs' hd K hK
                  obtain ⟨_, tg, rfl⟩ := hd 11 73 (by kernel_rfl)
                  obtain ⟨_, t17, rfl⟩ := hd 17 79 (by kernel_rfl)
                  unfold Go.Rel.stepOf
                  go_simp
                  refine (HLa.out w' hI.1).mono ?_
                  rintro e w2 ⟨rfl, hb5⟩
                  exact hK _ _ (But.of_below hb5) ⟨hI.1.below HC.out hb5, hI.2.trans (hb5.mono hI.2.size)⟩ rfl
                · intro f a w' hI hf hanc hdesc hle hs' hd K hK
                  obtain ⟨_, tg, rfl⟩ := hd 11 73 (by kernel_rfl)
                  obtain ⟨_, t16, rfl⟩ := hd 16 78 (by kernel_rfl)
                  obtain ⟨_, t18, rfl⟩ := hd 18 80 (by kernel_rfl)
                  unfold Go.Rel.stepOf
                  go_simp
                  exact hK _ _ (But.refl _ _) (hI) rfl
                · intro f a w' hI hf hanc hdesc hle hs' hd K hK
                  obtain ⟨_, t11, rfl⟩ := hd 11 73 (by kernel_rfl)
                  obtain ⟨_, t19, rfl⟩ := hd 19 81 (by kernel_rfl)
                  unfold Go.Rel.stepOf
                  go_simp
                  exact hK _ _ (But.refl _ _) (hI) rfl
                · intro f a w' hI hf hanc hdesc hle hs' hd K hK
                  obtain ⟨_, t20, rfl⟩ := hd 20 82 (by kernel_rfl)
                  unfold Go.Rel.stepOf
                  go_simp
                  exact hK _ _ (But.refl _ _) (hI) rfl
                · intro f a w' hI hf hanc hdesc hle hs' hd K hK
                  obtain ⟨_, tg, rfl⟩ := hd 21 83 (by kernel_rfl)
                  have f7 : a.tmps[7]? = some (.int .i64 (j : Int)) := hs'.2.2 7 (by kernel_rfl)
                  unfold Go.Rel.stepOf
                  go_simp
                  exact hK _ _ (But.refl _ _) (hI) rfl
                · intro f a w' hI hf hanc hdesc hle hs' hd K hK
                  obtain ⟨_, tg, rfl⟩ := hd 21 83 (by kernel_rfl)
                  obtain ⟨_, t22, rfl⟩ := hd 22 84 (by kernel_rfl)
                  unfold Go.Rel.stepOf
                  go_simp
                  exact hK _ _ (But.refl _ _) (hI) rfl
                · intro f a w' hI hf hanc hdesc hle hs' hd K hK
                  obtain ⟨_, tg, rfl⟩ := hd 21 83 (by kernel_rfl)
                  obtain ⟨_, t23, rfl⟩ := hd 23 85 (by kernel_rfl)
                  unfold Go.Rel.stepOf
                  go_simp
                  exact hK _ _ (But.refl _ _) (hI) rfl
                · intro f a w' hI hf hanc hdesc hle hs' hd K hK
                  obtain ⟨_, tg, rfl⟩ := hd 24 86 (by kernel_rfl)
                  have f6 : a.tmps[6]? = some (.slice (some ⟨b, off, none⟩) m c2) := hs'.2.2 6 (by kernel_rfl)
                  unfold Go.Rel.stepOf
                  go_simp
                  exact hK _ _ (But.refl _ _) (hI) rfl
                · intro f a w' hI hf hanc hdesc hle hs' hd K hK
                  obtain ⟨_, tg, rfl⟩ := hd 24 86 (by kernel_rfl)
                  have f7 : a.tmps[7]? = some (.int .i64 (j : Int)) := hs'.2.2 7 (by kernel_rfl)
                  unfold Go.Rel.stepOf
                  go_simp
                  exact hK _ _ (But.refl _ _) (hI) rfl
                · intro f a w' hI hf hanc hdesc hle hs' hd K hK
                  obtain ⟨_, tg, rfl⟩ := hd 24 86 (by kernel_rfl)
                  obtain ⟨_, t25, rfl⟩ := hd 25 87 (by kernel_rfl)
                  obtain ⟨_, t26, rfl⟩ := hd 26 88 (by kernel_rfl)
                  unfold Go.Rel.stepOf
                  go_simp
                  exact hK _ _ (But.refl _ _) (hI) rfl
                · intro f a w' hI hf hanc hdesc hle hs' hd K hK
                  obtain ⟨_, tg, rfl⟩ := hd 24 86 (by kernel_rfl)
                  obtain ⟨_, t27, rfl⟩ := hd 27 89 (by kernel_rfl)
                  unfold Go.Rel.stepOf
                  go_simp
                  exact hK _ _ (But.refl _ _) (hI) rfl
                · intro f a w' hI hf hanc hdesc hle hs' hd K hK
                  obtain ⟨_, tg, rfl⟩ := hd 24 86 (by kernel_rfl)
                  obtain ⟨_, t28, rfl⟩ := hd 28 90 (by kernel_rfl)
                  unfold Go.Rel.stepOf
                  go_simp
                  exact hK _ _ (But.refl _ _) (hI) rfl
                · intro f a w' hI hf hanc hdesc hle hs' hd K hK
                  obtain ⟨_, tg, rfl⟩ := hd 24 86 (by kernel_rfl)
                  have f6 : a.tmps[6]? = some (.slice (some ⟨b, off, none⟩) m c2) := hs'.2.2 6 (by kernel_rfl)
                  unfold Go.Rel.stepOf
                  go_simp
                  exact hK _ _ (But.refl _ _) (hI) rfl
                · intro f a w' hI hf hanc hdesc hle hs' hd K hK
                  obtain ⟨_, tg, rfl⟩ := hd 24 86 (by kernel_rfl)
                  have f7 : a.tmps[7]? = some (.int .i64 (j : Int)) := hs'.2.2 7 (by kernel_rfl)
                  unfold Go.Rel.stepOf
                  go_simp
                  exact hK _ _ (But.refl _ _) (hI) rfl
                · intro f a w' hI hf hanc hdesc hle hs' hd K hK
                  obtain ⟨_, tg, rfl⟩ := hd 24 86 (by kernel_rfl)
                  obtain ⟨_, t31, rfl⟩ := hd 31 93 (by kernel_rfl)
                  unfold Go.Rel.stepOf
                  go_simp
                  exact hK _ _ (But.refl _ _) (hI) rfl
                · intro f a w' hI hf hanc hdesc hle hs' hd K hK
                  obtain ⟨_, tg, rfl⟩ := hd 24 86 (by kernel_rfl)
                  obtain ⟨_, t30, rfl⟩ := hd 30 92 (by kernel_rfl)
                  obtain ⟨_, t32, rfl⟩ := hd 32 94 (by kernel_rfl)
                  unfold Go.Rel.stepOf
                  go_simp
                  exact hK _ _ (But.refl _ _) (hI) rfl
                · intro f a w' hI hf hanc hdesc hle hs' hd K hK
                  obtain ⟨_, tg, rfl⟩ := hd 24 86 (by kernel_rfl)
                  obtain ⟨_, t33, rfl⟩ := hd 33 95 (by kernel_rfl)
                  unfold Go.Rel.stepOf
                  go_simp
                  exact hK _ _ (But.refl _ _) (hI) rfl
                · intro f a w' hI hf hanc hdesc hle hs' hd K hK
                  obtain ⟨_, tg, rfl⟩ := hd 24 86 (by kernel_rfl)
                  obtain ⟨_, t34, rfl⟩ := hd 34 96 (by kernel_rfl)
                  unfold Go.Rel.stepOf
                  go_simp
                  exact hK _ _ (But.refl _ _) (hI) rfl
                · intro f a w' hI hf hanc hdesc hle hs' hd K hK
                  obtain ⟨_, tg, rfl⟩ := hd 24 86 (by kernel_rfl)
                  obtain ⟨_, t29, rfl⟩ := hd 29 91 (by kernel_rfl)
                  obtain ⟨_, t35, rfl⟩ := hd 35 97 (by kernel_rfl)
                  unfold Go.Rel.stepOf
                  go_simp
                  exact hK _ _ (But.refl _ _) (hI) rfl
                · intro f a w' hI hf hanc hdesc hle hs' hd K hK
                  obtain ⟨_, tg, rfl⟩ := hd 21 83 (by kernel_rfl)
                  obtain ⟨_, t24, rfl⟩ := hd 24 86 (by kernel_rfl)
                  obtain ⟨_, t36, rfl⟩ := hd 36 98 (by kernel_rfl)
                  unfold Go.Rel.stepOf
                  go_simp
                  exact hK _ _ (But.refl _ _) (hI) rfl
                · intro f a w' hI hf hanc hdesc hle hs' hd K hK
                  obtain ⟨_, t21, rfl⟩ := hd 21 83 (by kernel_rfl)
                  obtain ⟨_, t37, rfl⟩ := hd 37 99 (by kernel_rfl)
                  unfold Go.Rel.stepOf
                  go_simp
                  exact hK _ _ (But.refl _ _) (hI) rfl
              case heR =>
                intro f a9 w7 hall hI hle hs' hR'
                have HM7 := Lib.hid hI.1
                have HB7 := Lib.hid hI.2
                clear hI hle hall
                obtain ⟨v62, s62, _⟩ := hR' 0 62 (by kernel_rfl)
                obtain ⟨v63, s63, _⟩ := hR' 1 63 (by kernel_rfl)
                obtain ⟨v64, s64, _⟩ := hR' 2 64 (by kernel_rfl)
                obtain ⟨v65, s65, _⟩ := hR' 3 65 (by kernel_rfl)
                obtain ⟨v66, s66, _⟩ := hR' 4 66 (by kernel_rfl)
                obtain ⟨v67, s67, _⟩ := hR' 5 67 (by kernel_rfl)
                obtain ⟨v68, s68, _⟩ := hR' 6 68 (by kernel_rfl)
                obtain ⟨v69, s69, _⟩ := hR' 7 69 (by kernel_rfl)
                obtain ⟨v70, s70, _⟩ := hR' 8 70 (by kernel_rfl)
                obtain ⟨v71, s71, _⟩ := hR' 9 71 (by kernel_rfl)
                obtain ⟨v72, s72, _⟩ := hR' 10 72 (by kernel_rfl)
                obtain ⟨v73, s73, _⟩ := hR' 11 73 (by kernel_rfl)
                obtain ⟨v74, s74, _⟩ := hR' 12 74 (by kernel_rfl)
                obtain ⟨v75, s75, _⟩ := hR' 13 75 (by kernel_rfl)
                obtain ⟨v76, s76, _⟩ := hR' 14 76 (by kernel_rfl)
                obtain ⟨v77, s77, _⟩ := hR' 15 77 (by kernel_rfl)
                obtain ⟨v78, s78, _⟩ := hR' 16 78 (by kernel_rfl)
                obtain ⟨v79, s79, _⟩ := hR' 17 79 (by kernel_rfl)
                obtain ⟨v80, s80, _⟩ := hR' 18 80 (by kernel_rfl)
                obtain ⟨v81, s81, _⟩ := hR' 19 81 (by kernel_rfl)
                obtain ⟨v82, s82, _⟩ := hR' 20 82 (by kernel_rfl)
                obtain ⟨v83, s83, _⟩ := hR' 21 83 (by kernel_rfl)
                obtain ⟨v84, s84, _⟩ := hR' 22 84 (by kernel_rfl)
                obtain ⟨v85, s85, _⟩ := hR' 23 85 (by kernel_rfl)
                obtain ⟨v86, s86, _⟩ := hR' 24 86 (by kernel_rfl)
                obtain ⟨v87, s87, _⟩ := hR' 25 87 (by kernel_rfl)
                obtain ⟨v88, s88, _⟩ := hR' 26 88 (by kernel_rfl)
                obtain ⟨v89, s89, _⟩ := hR' 27 89 (by kernel_rfl)
                obtain ⟨v90, s90, _⟩ := hR' 28 90 (by kernel_rfl)
                obtain ⟨v91, s91, _⟩ := hR' 29 91 (by kernel_rfl)
                obtain ⟨v92, s92, _⟩ := hR' 30 92 (by kernel_rfl)
                obtain ⟨v93, s93, _⟩ := hR' 31 93 (by kernel_rfl)
                obtain ⟨v94, s94, _⟩ := hR' 32 94 (by kernel_rfl)
                obtain ⟨v95, s95, _⟩ := hR' 33 95 (by kernel_rfl)
                obtain ⟨v96, s96, _⟩ := hR' 34 96 (by kernel_rfl)
                obtain ⟨v97, s97, _⟩ := hR' 35 97 (by kernel_rfl)
                obtain ⟨v98, s98, _⟩ := hR' 36 98 (by kernel_rfl)
                obtain ⟨v99, s99, _⟩ := hR' 37 99 (by kernel_rfl)
                obtain ⟨_, s100, rfl⟩ := hR' 38 100 (by kernel_rfl)
                have e := hs'.shape
                simp only [List.toList_toArray, List.foldl, Go.Rel.reset, Array.getD_eq_getD_getElem?, s62, s63, s64, s65, s66, s67, s68, s69, s70, s71, s72, s73, s74, s75, s76, s77, s78, s79, s80, s81, s82, s83, s84, s85, s86, s87, s88, s89, s90, s91, s92, s93, s94, s95, s96, s97, s98, s99, s100, Option.getD_some] at e
                simp at e
                clear hR' hs' s62 s63 s64 s65 s66 s67 s68 s69 s70 s71 s72 s73 s74 s75 s76 s77 s78 s79 s80 s81 s82 s83 s84 s85 s86 s87 s88 s89 s90 s91 s92 s93 s94 s95 s96 s97 s98 s99 s100
                subst e
                go_wp2
                go_roundw
                case rel => exact ⟨j + 1, by omega, by go_num, HM7, HB7⟩
                case measure => simp [intOf]; omega
          · have q11 : decide (lst ≤ a) = true := decide_eq_true (by omega)
            go_wp2_with fail
            refine (HLa.out _ hmi.out).mono ?_
            rintro e w7 ⟨rfl, hb7⟩
            have HWk := Lib.hid (works_any HC.out w7)
            have HB7 := Lib.hid (hb6.out.trans (hb7.mono hb6.out.size))
            clear hb7
            go_wp2_with fail
            refine HWk.out.mono ?_
            rintro e w8 ⟨rfl, hb8⟩
            have HB8 : Hid (Below g0 w w8) := Lib.hid (HB5.out.trans ((HB7.out.trans (hb8.mono HB7.out.size)).mono (by have := HB5.out.size; have := HG0.out; omega)))
            clear hb8
            go_wp2
            go_ret
            exact ⟨rfl, HB8.out⟩
end
end Go.Proofs.Ytphjlcogjalidaa
