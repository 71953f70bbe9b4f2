/-
  Any frames are packed as the document says, or refused; any bytes are unpacked, or refused: the law sodalitylaw03.FramePacks over the contracts.
-/
import Derived.Test.YtkbllhpjfgeaaaaFRefA
import Derived.Test.YtkbllhpjfgeaaaaFRefP
import Derived.Test.YtkbllhpjfgeaaaaFSame
namespace Go.Proofs.Ytkbllhpjfgeaaaa
open Go.RowKit
set_option linter.unusedSimpArgs false

/-- Two answers that are the same bytes, or none. -/
theorem pack_as {w : World} {fs : List Fr} {e : Ending} {w' : World} (h : PackPost w fs e w') : ∃ (l : List UInt8) (A : Option Addr) (c : Nat), l = (if errPack fs = 0 then encs fs else []) ∧ e = .returned (.tuple #[.slice A l.length c, .int .i64 (errPack fs : Int)]) ∧ RB w' A l.length l ∧ Below w.heap.size w w' := by
  obtain ⟨hb, ⟨hne, rfl⟩ | ⟨h0, A, c, rfl, hr, _⟩⟩ := h
  · exact ⟨[], none, 0, by rw [if_neg hne], rfl, RB.zero _ _, hb⟩
  · exact ⟨encs fs, A, c, by rw [if_pos h0], by rw [h0]; rfl, hr, hb⟩

set_option maxHeartbeats 2000000 in
theorem packs_walk (A : Option Addr) (n c : Nat) (fs : List Fr) (B : Option Addr) (m d : Nat) (xs : List UInt8) (w : World) (hR : RFs w A n fs) (_ : A = none → c = 0) (hn : n ≤ 4398046511104) (hX : RB w B m xs) (hmd : m ≤ d) (_ : B = none → d = 0) (_ : m ≤ 140737488351232) :
    Calls Try.prog 6 #[.slice A n c, .slice B m d] w fun e w' => e = .returned (.bool true) ∧ Below w.heap.size w w' := by
  obtain ⟨gs, r, hcut⟩ := cut_all xs
  have HR := Lib.hid hR
  have HX := Lib.hid hX
  have HCut := Lib.hid hcut
  have s1 := pack_any A n c fs w hR hn
  clear hR hX hcut
  go_enter Try.func6, Try.ntmps6
  go_wp2_with fail
  refine s1.mono ?_
  rintro e w1 hp1
  obtain ⟨l, A1, c1, hl, rfl, hr1, hb1⟩ := pack_as hp1
  have HB1 := Lib.hid hb1
  have HR1 := Lib.hid hr1
  obtain ⟨L, hL⟩ : ∃ L, l.length = L := ⟨_, rfl⟩
  obtain ⟨E, hE⟩ : ∃ E, errPack fs = E := ⟨_, rfl⟩
  have HLl := Lib.hid hl
  have HL := Lib.hid hL
  have HE := Lib.hid hE
  rw [hL, hE]
  clear s1 hp1 hb1 hr1 hl hL hE
  have s2 := rpack_any A n c fs w1 (HR.out.below HB1.out) hn
  go_wp2_with fail
  refine s2.mono ?_
  rintro e w2 hp2
  obtain ⟨l2, A2, c2, hl2, rfl, hr2, hb2⟩ := pack_as hp2
  obtain rfl : l2 = l := hl2.trans HLl.out.symm
  rw [HL.out] at hr2
  rw [HL.out, HE.out]
  have HB2 : Hid (Below w.heap.size w w2) := Lib.hid (HB1.out.trans (hb2.mono HB1.out.size))
  have HR12 : Hid (RB w2 A1 L l2) := Lib.hid (by have := HR1.out.below hb2; rwa [HL.out] at this)
  have HR2 := Lib.hid hr2
  clear s2 hp2 hb2 hr2 hl2
  have s3 := unpack_any B m d xs gs r HCut.out w2 (HX.out.below HB2.out) hmd
  go_wp2_with fail
  refine s3.mono ?_
  rintro e w3 ⟨hb3, hp3⟩
  have HB3 : Hid (Below w.heap.size w w3) := Lib.hid (HB2.out.trans (hb3.mono HB2.out.size))
  have HB23 := Lib.hid hb3
  have s4 := runpack_any B m d xs gs r HCut.out w3 (HX.out.below HB3.out) hmd
  clear s3 hb3
  obtain ⟨st, hst⟩ : ∃ st : ByteArray, (⟨l2.toArray⟩ : ByteArray) = st := ⟨_, rfl⟩
  have HST := Lib.hid hst
  clear hst
  rcases hp3 with ⟨hne, rfl⟩ | ⟨h0, A3, c3, rfl, hr3, _, _⟩
  · obtain ⟨U, hU⟩ : ∃ U, errUn xs gs r = U := ⟨_, rfl⟩
    rw [hU] at hne s4 ⊢
    have HU := Lib.hid hU
    have HNe := Lib.hid hne
    clear hU hne
    go_wp2_with fail
    refine s4.mono ?_
    rintro e w4 ⟨hb4, hp4⟩
    rcases hp4 with ⟨_, rfl⟩ | ⟨h0, _⟩
    · have hb24 : Below w2.heap.size w2 w4 := HB23.out.trans (hb4.mono HB23.out.size)
      have HB4 : Hid (Below w.heap.size w w4) := Lib.hid (HB3.out.trans (hb4.mono HB3.out.size))
      have k1 := own_conv (HR12.out.below hb24) c1
      have k2 := own_conv (HR2.out.below hb24) c2
      rw [HST.out] at k1 k2
      have s5 := same_any none none 0 0 0 [] w4 (RFs.zero _ _) (RFs.zero _ _) (by omega)
      clear s4 hb4 hb24
      go_wp2_with fail
      refine s5.mono ?_
      rintro e w5 ⟨rfl, hb5⟩
      have HB5 : Hid (Below w.heap.size w w5) := Lib.hid (HB4.out.trans (hb5.mono HB4.out.size))
      clear hb5 s5 k1 k2
      go_wp2_with fail
      refine (works_any w5).mono ?_
      rintro e w6 ⟨rfl, hb6⟩
      have HB6 : Hid (Below w.heap.size w w6) := Lib.hid (HB5.out.trans (hb6.mono HB5.out.size))
      clear hb6
      go_wp2
      go_ret
      exact ⟨rfl, HB6.out⟩
    · exact absurd h0 HNe.out
  · have hg : gs.length ≤ 4398046511104 := by
      by_cases h : 32 < gs.length
      · exfalso
        unfold errUn at h0
        by_cases q1 : xs.length = 0 ∨ 1400 < xs.length
        · rw [if_pos q1] at h0; omega
        · rw [if_neg q1] at h0
          by_cases q2 : errE r ≠ 0
          · rw [if_pos q2] at h0; omega
          · rw [if_neg q2, if_pos h] at h0; omega
      · omega
    have H0 := Lib.hid h0
    obtain ⟨N, hN⟩ : ∃ N, gs.length = N := ⟨_, rfl⟩
    rw [hN] at hr3 s4 hg ⊢
    have HR3 := Lib.hid hr3
    clear h0 hr3 hN
    go_wp2_with fail
    refine s4.mono ?_
    rintro e w4 ⟨hb4, hp4⟩
    rcases hp4 with ⟨hne, _⟩ | ⟨_, A4, c4, rfl, hr4⟩
    · exact absurd H0.out hne
    · have hb24 : Below w2.heap.size w2 w4 := HB23.out.trans (hb4.mono HB23.out.size)
      have HB4 : Hid (Below w.heap.size w w4) := Lib.hid (HB3.out.trans (hb4.mono HB3.out.size))
      have k1 := own_conv (HR12.out.below hb24) c1
      have k2 := own_conv (HR2.out.below hb24) c2
      rw [HST.out] at k1 k2
      have s5 := same_any A3 A4 N c3 c4 gs w4 (HR3.out.below hb4) hr4 hg
      clear s4 hb4 hb24 hr4
      go_wp2_with fail
      refine s5.mono ?_
      rintro e w5 ⟨rfl, hb5⟩
      have HB5 : Hid (Below w.heap.size w w5) := Lib.hid (HB4.out.trans (hb5.mono HB4.out.size))
      clear hb5 s5 k1 k2
      go_wp2_with fail
      refine (works_any w5).mono ?_
      rintro e w6 ⟨rfl, hb6⟩
      have HB6 : Hid (Below w.heap.size w w6) := Lib.hid (HB5.out.trans (hb6.mono HB5.out.size))
      clear hb6
      go_wp2
      go_ret
      exact ⟨rfl, HB6.out⟩
end Go.Proofs.Ytkbllhpjfgeaaaa
