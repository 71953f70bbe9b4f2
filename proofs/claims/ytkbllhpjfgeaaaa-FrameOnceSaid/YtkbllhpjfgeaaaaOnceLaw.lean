/-
  What is unpacked is packed to just these bytes: the law sodalitylaw03.FrameOnce over the contracts.
-/
import Derived.Test.YtkbllhpjfgeaaaaFUnpack
import Derived.Test.YtkbllhpjfgeaaaaFPack
namespace Go.Proofs.Ytkbllhpjfgeaaaa
open Go.RowKit
set_option linter.unusedSimpArgs false

set_option maxHeartbeats 1000000 in
theorem once_walk (A : Option Addr) (n c : Nat) (xs : List UInt8) (w : World) (hR : RB w A n xs) (hnc : n ≤ c) (_ : A = none → c = 0) (_ : n ≤ 140737488351232) :
    Calls Try.prog 8 #[.slice A n c] w fun e w' => e = .returned (.bool true) ∧ Below w.heap.size w w' := by
  obtain ⟨fs, r, hcut⟩ := cut_all xs
  have HCut := Lib.hid hcut
  have HR := Lib.hid hR
  have s1 := unpack_any A n c xs fs r hcut w hR hnc
  clear hR hcut
  go_enter Try.func8, Try.ntmps8
  go_wp2_with fail
  refine s1.mono ?_
  rintro e w1 ⟨hb1, hp⟩
  have HB1 := Lib.hid hb1
  clear s1 hb1
  rcases hp with ⟨hne, rfl⟩ | ⟨h0, A1, c1, rfl, hr1, hn1, hc1⟩
  · obtain ⟨E, hE⟩ : ∃ E, errUn xs fs r = E := ⟨_, rfl⟩
    rw [hE] at hne ⊢
    have e0 : ((E : Int) == 0) = false := by rw [beq_eq_false_iff_ne]; omega
    have e0' : ((E : Int) != 0) = true := by rw [bne_iff_ne]; omega
    clear hE hne
    go_wp2_with fail
    refine (works_any w1).mono ?_
    rintro e w3 ⟨rfl, hb3⟩
    have HB3 : Hid (Below w.heap.size w w3) := Lib.hid (HB1.out.trans (hb3.mono HB1.out.size))
    clear hb3
    go_wp2
    go_ret
    exact ⟨rfl, HB3.out⟩
  · obtain ⟨hp0, hen⟩ := un_back HCut.out h0
    have hfl : fs.length ≤ 4398046511104 := by
      by_cases h : 32 < fs.length
      · unfold errPack at hp0
        split at hp0
        · contradiction
        · rw [if_pos (.inr h)] at hp0; cases hp0
      · omega
    have s2 := pack_any A1 fs.length c1 fs w1 hr1 hfl
    obtain ⟨N, hN⟩ : ∃ N, fs.length = N := ⟨_, rfl⟩
    rw [hN] at s2 ⊢
    have HP0 := Lib.hid hp0
    have HEn := Lib.hid hen
    clear h0 hr1 hn1 hc1 hp0 hen hfl hN
    go_wp2_with fail
    refine s2.mono ?_
    rintro e w2 ⟨hb2, hp⟩
    have HB2 : Hid (Below w.heap.size w w2) := Lib.hid (HB1.out.trans (hb2.mono HB1.out.size))
    clear s2 hb2
    rcases hp with ⟨hne, _⟩ | ⟨_, A2, c2, rfl, hr2, hn2, hc2⟩
    · exact absurd HP0.out hne
    rw [HEn.out] at hr2 hc2 ⊢
    have k1 := own_conv hr2 c2
    have k2 := own_conv (HR.out.below HB2.out) c
    obtain ⟨st, hst⟩ : ∃ st : ByteArray, (⟨xs.toArray⟩ : ByteArray) = st := ⟨_, rfl⟩
    rw [hst] at k1 k2
    clear hr2 hn2 hst
    go_wp2_with fail
    refine (works_any w2).mono ?_
    rintro e w3 ⟨rfl, hb3⟩
    have HB3 : Hid (Below w.heap.size w w3) := Lib.hid (HB2.out.trans (hb3.mono HB2.out.size))
    clear hb3
    go_wp2
    go_ret
    exact ⟨rfl, HB3.out⟩
end Go.Proofs.Ytkbllhpjfgeaaaa
