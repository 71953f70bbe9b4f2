/-
  Of any bytes the frame is told with which they begin, or what is wrong: the law sodalitylaw03.FrameTakes over the contracts.
-/
import Derived.Test.YtkbllhpjfgeaaaaFWorks
namespace Go.Proofs.Ytkbllhpjfgeaaaa
open Go.RowKit
set_option linter.unusedSimpArgs false

set_option maxHeartbeats 1000000 in
theorem takes_walk (A : Option Addr) (n c : Nat) (xs : List UInt8) (w : World) (h : RB w A n xs) (hc : n ≤ c) : Calls Try.prog 4 #[.slice A n c] w fun e w' => e = .returned (.bool true) ∧ Below w.heap.size w w' := by
  have HR := Lib.hid h
  by_cases he : errT xs = 0
  · have s1 := take_ok A n c xs w h hc he
    have S2 := Lib.hid (fun (w1 : World) (hb : Below w.heap.size w w1) => rtake_any A n c xs w1 (HR.out.below hb) hc)
    obtain ⟨f, hf⟩ : ∃ f, frT xs = f := ⟨_, rfl⟩
    have HF := Lib.hid hf
    have HE := Lib.hid he
    rw [hf] at s1
    clear h he hf
    unfold frV at s1
    obtain ⟨m, hm⟩ : ∃ m, f.b.length = m := ⟨_, rfl⟩
    have HM := Lib.hid hm
    rw [hm] at s1
    clear hm
    go_enter Try.func4, Try.ntmps4
    go_wp2_with fail
    refine s1.mono ?_
    rintro e w1 ⟨A1, c1, rfl, hbody, hb1⟩
    have HB1 := Lib.hid hb1
    have HBody := Lib.hid hbody
    obtain ⟨W1, hW1⟩ : ∃ W1, w1.alloc (.cells #[.int .u8 (f.k.toNat : Int), .slice A1 m c1] 24) = W1 := ⟨_, rfl⟩
    have hbW1 : Below w1.heap.size w1 W1 := by rw [← hW1]; exact (Below.refl _ _).alloc (Nat.le_refl _) _
    have hsW1 : W1.heap.size = w1.heap.size + 1 := by rw [← hW1]; simp
    obtain ⟨c0, c1', _, _⟩ := box2 (Below.refl (w1.heap.size + 1) (w1.alloc (.cells #[.int .u8 (f.k.toNat : Int), .slice A1 m c1] 24)))
    rw [hW1] at c0 c1'
    have hB1W : Below w.heap.size w W1 := HB1.out.trans (hbW1.mono HB1.out.size)
    have s2 := S2.out W1 hB1W
    have HB1W := Lib.hid hB1W
    have HbW1 := Lib.hid hbW1
    have HC0 := Lib.hid c0
    have HC1 := Lib.hid c1'
    have HS1 := Lib.hid hsW1
    have HW1 := Lib.hid hW1
    clear s1 hbody hb1 hbW1 hB1W hsW1 hW1 c0 c1'
    go_wp2_with fail
    rw [HW1.out]
    refine s2.mono ?_
    rintro e w2 ⟨hb2, hp⟩
    rcases hp with ⟨hne, _⟩ | ⟨_, A2, c2, rfl, hbody2, _⟩
    · exact absurd HE.out hne
    rw [HF.out] at hbody2 ⊢
    have hbody1 := ((HBody.out.below HbW1.out).below hb2)
    have e0 := (hb2.cell (p := ⟨w1.heap.size, 0, none⟩) (by show w1.heap.size < _; rw [HS1.out]; omega)).trans HC0.out
    have e1 := (hb2.cell (p := ⟨w1.heap.size, 1, none⟩) (by show w1.heap.size < _; rw [HS1.out]; omega)).trans HC1.out
    unfold frV
    rw [HM.out]
    obtain ⟨W2, hW2⟩ : ∃ W2, w2.alloc (.cells #[.int .u8 (f.k.toNat : Int), .slice A2 m c2] 24) = W2 := ⟨_, rfl⟩
    have hbW2 : Below w2.heap.size w2 W2 := by rw [← hW2]; exact (Below.refl _ _).alloc (Nat.le_refl _) _
    obtain ⟨d0, d1, _, _⟩ := box2 (Below.refl (w2.heap.size + 1) (w2.alloc (.cells #[.int .u8 (f.k.toNat : Int), .slice A2 m c2] 24)))
    rw [hW2] at d0 d1
    have e0' := (hbW2.cell (p := ⟨w1.heap.size, 0, none⟩) (by show w1.heap.size < _; have := hb2.size; rw [HS1.out] at this; omega)).trans e0
    have e1' := (hbW2.cell (p := ⟨w1.heap.size, 1, none⟩) (by show w1.heap.size < _; have := hb2.size; rw [HS1.out] at this; omega)).trans e1
    have r1 := (hbody1.below hbW2).1
    have r2 := (hbody2.below hbW2).1
    rw [HM.out] at r1 r2
    have k1 := own_conv r1 c1
    have k2 := own_conv r2 c2
    obtain ⟨st, hst⟩ : ∃ st : ByteArray, (⟨f.b.toArray⟩ : ByteArray) = st := ⟨_, rfl⟩
    rw [hst] at k1 k2
    have HBF : Hid (Below w.heap.size w W2) := Lib.hid (HB1W.out.trans ((hb2.trans (hbW2.mono hb2.size)).mono HB1W.out.size))
    clear s2 hb2 hbody2 hbody1 e0 e1 hbW2 r1 r2 hst
    go_wp2_with fail
    refine (works_any W2).mono ?_
    rintro e w3 ⟨rfl, hb3⟩
    have HB3 : Hid (Below w.heap.size w w3) := Lib.hid (HBF.out.trans (hb3.mono HBF.out.size))
    clear hb3
    go_wp2
    go_ret
    exact ⟨rfl, HB3.out⟩
  · have s1 := take_err A n c xs w h hc he
    have S2 := Lib.hid (fun (w1 : World) (hb : Below w.heap.size w w1) => rtake_any A n c xs w1 (HR.out.below hb) hc)
    obtain ⟨E, hE⟩ : ∃ E, errT xs = E := ⟨_, rfl⟩
    have HE := Lib.hid hE
    rw [hE] at s1 he
    have HE0 := Lib.hid he
    clear h hE he
    go_enter Try.func4, Try.ntmps4
    go_wp2_with fail
    refine s1.mono ?_
    rintro e w1 ⟨rfl, hb1⟩
    have HB1 := Lib.hid hb1
    obtain ⟨W1, hW1⟩ : ∃ W1, w1.alloc (.cells #[.int .u8 0, .slice none 0 0] 24) = W1 := ⟨_, rfl⟩
    have hbW1 : Below w1.heap.size w1 W1 := by rw [← hW1]; exact (Below.refl _ _).alloc (Nat.le_refl _) _
    have hsW1 : W1.heap.size = w1.heap.size + 1 := by rw [← hW1]; simp
    obtain ⟨c0, c1', _, _⟩ := box2 (Below.refl (w1.heap.size + 1) (w1.alloc (.cells #[.int .u8 0, .slice none 0 0] 24)))
    rw [hW1] at c0 c1'
    have hB1W : Below w.heap.size w W1 := HB1.out.trans (hbW1.mono HB1.out.size)
    have s2 := S2.out W1 hB1W
    have HB1W := Lib.hid hB1W
    have HC0 := Lib.hid c0
    have HC1 := Lib.hid c1'
    have HS1 := Lib.hid hsW1
    have HW1 := Lib.hid hW1
    clear s1 hb1 hbW1 hB1W hsW1 hW1 c0 c1'
    go_wp2_with fail
    rw [HW1.out]
    refine s2.mono ?_
    rintro e w2 ⟨hb2, hp⟩
    rcases hp with ⟨_, rfl⟩ | ⟨h0, _⟩
    · unfold errAns
      rw [HE.out]
      have e0 := (hb2.cell (p := ⟨w1.heap.size, 0, none⟩) (by show w1.heap.size < _; rw [HS1.out]; omega)).trans HC0.out
      have e1 := (hb2.cell (p := ⟨w1.heap.size, 1, none⟩) (by show w1.heap.size < _; rw [HS1.out]; omega)).trans HC1.out
      have hbW2 : Below w2.heap.size w2 (w2.alloc (.cells #[.int .u8 0, .slice none 0 0] 24)) := (Below.refl _ _).alloc (Nat.le_refl _) _
      have e0' := (hbW2.cell (p := ⟨w1.heap.size, 0, none⟩) (by show w1.heap.size < _; have := hb2.size; rw [HS1.out] at this; omega)).trans e0
      have e1' := (hbW2.cell (p := ⟨w1.heap.size, 1, none⟩) (by show w1.heap.size < _; have := hb2.size; rw [HS1.out] at this; omega)).trans e1
      have k1 := own_conv (RB.zero (w2.alloc (.cells #[.int .u8 0, .slice none 0 0] 24)) none) 0
      have HBF : Hid (Below w.heap.size w (w2.alloc (.cells #[.int .u8 0, .slice none 0 0] 24))) := Lib.hid (HB1W.out.trans ((hb2.trans (hbW2.mono hb2.size)).mono HB1W.out.size))
      clear s2 hb2 e0 e1 hbW2
      go_wp2_with fail
      refine (works_any _).mono ?_
      rintro e w3 ⟨rfl, hb3⟩
      have HB3 : Hid (Below w.heap.size w w3) := Lib.hid (HBF.out.trans (hb3.mono HBF.out.size))
      clear hb3
      go_wp2
      go_ret
      exact ⟨rfl, HB3.out⟩
    · exact absurd (HE.out ▸ h0) HE0.out
end Go.Proofs.Ytkbllhpjfgeaaaa
