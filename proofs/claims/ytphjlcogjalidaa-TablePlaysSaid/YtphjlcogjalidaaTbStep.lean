/-
  A step of the law (layer 15): Put and Raise of both.
-/
import Derived.Test.YtphjlcogjalidaaTbPrg
import Derived.Deep.CutRange
import Derived.Deep.DeepCutAuto
namespace Go.Proofs.Ytphjlcogjalidaa
open Go.RowKit
set_option linter.unusedSimpArgs false
set_option linter.unusedVariables false

/-- A step as it comes. -/
structure TSt where
  kind : Int
  key : ByteArray
  v : Int
  ix : Nat
abbrev TS : TypeId := 30
def tsC (s : TSt) : List Value := [.int .i64 s.kind, .string s.key, .int .i64 s.v, .int .u64 (s.ix : Int)]
def tsV (s : TSt) : Value := .agg #[.int .i64 s.kind, .string s.key, .int .i64 s.v, .int .u64 (s.ix : Int)]
structure TSt.ok (s : TSt) : Prop where
  key : s.key.size ≤ maxLen
  v : -9223372036854775808 ≤ s.v ∧ s.v ≤ 9223372036854775807
  ix : s.ix < 18446744073709551616
theorem putV_form (t : Tb Int) (k : ByteArray) (v : Int) (i : Nat) : ∃ r n, putV t k v i = .tuple #[trV r, .int .i64 n] := by
  unfold putV
  split
  · exact ⟨_, _, rfl⟩
  · exact ⟨_, _, rfl⟩
/-- What a step makes of a table. -/
def TSt.after (s : TSt) (t : Tb Int) : Tb Int :=
  if s.kind = 0 then t.putT s.key s.v s.ix else if s.kind = 1 then t.dropT s.key s.ix else if s.kind = 2 then t.raise s.ix else t
def StepPost (P : (Nat → Prop) → World → Nat → Tb Int → Prop) (O : Nat → Prop) (w : World) (Bp Bd : Nat) (t : Tb Int) (e : Ending) (w' : World) : Prop :=
  e = .returned (.bool true) ∧ Both P O w' Bp t Bd t ∧ But O w w'
section
variable {P : (Nat → Prop) → World → Nat → Tb Int → Prop} {O : Nat → Prop} {Bp Bd : Nat} {t : Tb Int}
/-- Rows one by one. -/
theorem same_one (r : Rw Int) : sameT [r] [r] = true := (sameT_iff _ _).2 rfl
theorem SK.one {w : World} {X : Nat} {r : Rw Int} (h : X < w.heap.size) (hi : ItAt trC w X 0 r) : SK trC 4 w (some ⟨X, 0, none⟩) 1 [r] :=
  ⟨rfl, fun _ => ⟨X, 0, rfl, h, fun j hj => by
    obtain rfl : j = 0 := by simp at hj; omega
    exact hi⟩⟩
set_option maxHeartbeats 4000000 in
theorem step_put (C : Prg P) (s : TSt) (w : World) (h : Both P O w Bp t Bd t) (hs : s.ok) (hk : s.kind = 0) :
    Calls Try.prog 9 #[.pointer (some ⟨Bp, 0, none⟩), .pointer (some ⟨Bd, 0, none⟩), tsV s] w (StepPost P O w Bp Bd (t.putT s.key s.v s.ix)) := by
  obtain ⟨k, key, v, i⟩ := s
  simp only at hk
  subst hk
  unfold tsV
  simp only
  have hky : key.size ≤ maxLen := hs.key
  have hi : i < 18446744073709551616 := hs.ix
  obtain ⟨X, hX⟩ : ∃ X, w.heap.size = X := ⟨_, rfl⟩
  obtain ⟨W, hW⟩ : ∃ W, w.alloc (.cells #[.int .i64 0, .string key, .int .i64 v, .int .u64 (i : Int)] TS) = W := ⟨_, rfl⟩
  have hb0 : Below w.heap.size w W := by rw [← hW]; exact below1 _ _ _
  have hs0 : W.heap.size = X + 1 := by rw [← hW, ← hX]; simp
  have k0 : W.heap[X]? = some (.cells #[.int .i64 0, .string key, .int .i64 v, .int .u64 (i : Int)] TS (0, 0)) := by rw [← hW, ← hX]; exact heap_alloc_new w _
  have h1 := h.box C hb0 (X := X) (by omega) (by omega)
  have HPut := Lib.hid (both_put C key v i h1 hi hky)
  have HC := Lib.hid C
  have HB0 := Lib.hid hb0
  have HS0 := Lib.hid hs0
  have HK0 := Lib.hid k0
  have HW := Lib.hid hW
  have HX := Lib.hid hX
  obtain ⟨d0, d1, d2, d3⟩ := blk4 k0
  obtain ⟨r, n, hp⟩ := putV_form t key v i
  rw [hp] at HPut
  have HP := Lib.hid hp
  clear C h h1 hs hX hW hb0 hs0 k0 hp
  go_enter Try.func9, Try.ntmps9
  go_wp2_with fail
  rw [HW.out, HX.out]
  go_wp2_with fail
  refine HPut.out.mono ?_
  rintro e w1 ⟨rfl, hB1, hb1⟩
  unfold trV
  obtain ⟨Y1, hY1⟩ : ∃ Y, w1.heap.size = Y := ⟨_, rfl⟩
  obtain ⟨W1, hW1⟩ : ∃ W1, w1.alloc (.cells #[.string r.key, .int .i64 r.val, .int .u64 (r.made : Int), .int .u64 (r.ix : Int)] 32) = W1 := ⟨_, rfl⟩
  have hba : Below w1.heap.size w1 W1 := by rw [← hW1]; exact below1 _ _ _
  have hs1 : W1.heap.size = Y1 + 1 := by rw [← hW1, ← hY1]; simp
  have ky : W1.heap[Y1]? = some (.cells #[.string r.key, .int .i64 r.val, .int .u64 (r.made : Int), .int .u64 (r.ix : Int)] 32 (0, 0)) := by rw [← hW1, ← hY1]; exact heap_alloc_new w1 _
  have hXY : X < Y1 := by have := hb1.size; have := HS0.out; omega
  have kx : W1.heap[X]? = some (.cells #[.int .i64 0, .string key, .int .i64 v, .int .u64 (i : Int)] TS (0, 0)) := (hba.block X (by omega)).trans ((hb1.block X (by have := HS0.out; omega) (fun e => e.2 rfl)).trans HK0.out)
  have hB2 := hB1.box HC.out hba (X := Y1) (by omega) (by omega)
  have HRp := Lib.hid (both_rput HC.out key v i hB2 hi hky)
  rw [HP.out] at HRp
  have hbw1 : But O w W1 := (But.of_below HB0.out).trans ((hb1.mono fun k h => h.1).trans (But.of_below hba))
  have HBw1 := Lib.hid hbw1
  have HKX := Lib.hid kx
  have HKY := Lib.hid ky
  have HS1 := Lib.hid hs1
  have HW1 := Lib.hid hW1
  have HY1 := Lib.hid hY1
  obtain ⟨f0, f1, f2, f3⟩ := blk4 kx
  clear hba hs1 ky kx hB2 hbw1 hW1 hY1 hB1 hb1 HPut d0 d1 d2 d3
  go_upto_region 4 with fail
  rw [HW1.out, HY1.out]
  go_wp2_with fail
  refine HRp.out.mono ?_
  rintro e w2 ⟨rfl, hB3, hb3⟩
  unfold trV
  have hs2 : Y1 + 1 ≤ w2.heap.size := by rw [← HS1.out]; exact hb3.size
  obtain ⟨Y2, hY2⟩ : ∃ Y, w2.heap.size = Y := ⟨_, rfl⟩
  obtain ⟨W3, hW3⟩ : ∃ W3, w2.alloc (.cells #[.string r.key, .int .i64 r.val, .int .u64 (r.made : Int), .int .u64 (r.ix : Int)] 35) = W3 := ⟨_, rfl⟩
  have hbc : Below w2.heap.size w2 W3 := by rw [← hW3]; exact below1 _ _ _
  have hs3 : W3.heap.size = Y2 + 1 := by rw [← hW3, ← hY2]; simp
  have ky1 : W3.heap[Y1]? = some (.cells #[.string r.key, .int .i64 r.val, .int .u64 (r.made : Int), .int .u64 (r.ix : Int)] 32 (0, 0)) := (hbc.block Y1 (by omega)).trans ((hb3.block Y1 (by have := HS1.out; omega) (fun e => e.2 rfl)).trans HKY.out)
  have ky2 : W3.heap[Y2]? = some (.cells #[.string r.key, .int .i64 r.val, .int .u64 (r.made : Int), .int .u64 (r.ix : Int)] 35 (0, 0)) := by rw [← hW3, ← hY2]; exact heap_alloc_new w2 _
  have HB4 := Lib.hid ((hB3.wide (O' := O) fun k h => h.1.1).below HC.out hbc)
  have HBw : Hid (But O w W3) := Lib.hid (HBw1.out.trans ((hb3.mono fun k h => h.1.1).trans (But.of_below hbc)))
  have HSm : Hid (∀ (w' : World) (b1 b2 : Nat), b1 < w'.heap.size → b2 < w'.heap.size → ItAt trC w' b1 0 r → ItAt trC w' b2 0 r → Calls Try.prog 12 #[.slice (some ⟨b1, 0, none⟩) 1 1, .slice (some ⟨b2, 0, none⟩) 1 1] w' fun e w2 => e = .returned (.bool true) ∧ Below w'.heap.size w' w2) := Lib.hid fun w' b1 b2 h1 h2 h3 h4 => by
    rw [← same_one r]
    exact same_any _ 1 1 [r] _ 1 1 [r] w' (SK.one h1 h3) (SK.one h2 h4) (by decide)
  have HW3 := Lib.hid hW3
  have HY2 := Lib.hid hY2
  have HS3 := Lib.hid hs3
  obtain ⟨e0, e1, e2, e3⟩ := blk4 ky1
  obtain ⟨g0, g1, g2, g3⟩ := blk4 ky2
  have hY12 : Y1 < W3.heap.size := by rw [hs3]; omega
  have hY22 : Y2 < W3.heap.size := by rw [hs3]; omega
  clear hB3 hb3 hs2 hbc hs3 ky1 ky2 hW3 hY2 HRp f0 f1 f2 f3
  go_upto_region 5 with fail
  rw [HW3.out, HY2.out]
  go_wp2_with fail
  obtain ⟨W5, hW5⟩ : ∃ W5, (W3.alloc (.cells #[.string r.key, .int .i64 r.val, .int .u64 (r.made : Int), .int .u64 (r.ix : Int)] 32)).alloc (.cells #[.string r.key, .int .i64 r.val, .int .u64 (r.made : Int), .int .u64 (r.ix : Int)] 35) = W5 := ⟨_, rfl⟩
  have hi2 := tr_new (W3.alloc (.cells #[.string r.key, .int .i64 r.val, .int .u64 (r.made : Int), .int .u64 (r.ix : Int)] 32)) r 35
  have hi1 := (tr_new W3 r 32).of_block (w' := W5) (by rw [← hW5]; exact heap_alloc_old _ _ (by simp))
  have hz : (W3.alloc (.cells #[.string r.key, .int .i64 r.val, .int .u64 (r.made : Int), .int .u64 (r.ix : Int)] 32)).heap.size = W3.heap.size + 1 := by simp
  rw [hW5, hz] at hi2
  have hz5 : W5.heap.size = W3.heap.size + 2 := by rw [← hW5]; simp
  have hb5 : Below W3.heap.size W3 W5 := by rw [← hW5]; exact (below1 W3 _ _).alloc (by simp) _
  rw [hW5]
  refine (HSm.out W5 W3.heap.size (W3.heap.size + 1) (by omega) (by omega) hi1 hi2).mono ?_
  rintro e w6 ⟨rfl, hb6⟩
  have hb7 : Below W3.heap.size W3 w6 := hb5.trans (hb6.mono (by omega))
  have HB8 := Lib.hid (HB4.out.below HC.out hb7)
  have HBx := Lib.hid (HBw.out.trans (But.of_below hb7))
  clear hi2 hi1 hz hz5 hb5 hW5 hb6 hb7 HSm e0 e1 e2 e3 g0 g1 g2 g3
  go_wp2
  go_ret
  exact ⟨rfl, HB8.out, HBx.out⟩
end
end Go.Proofs.Ytphjlcogjalidaa
