/-
  What is packed is unpacked as it was: the law sodalitylaw03.FrameBack over the contracts.
-/
import Derived.Test.YtkbllhpjfgeaaaaFUnpack
import Derived.Test.YtkbllhpjfgeaaaaFPack
import Derived.Test.YtkbllhpjfgeaaaaFSame
namespace Go.Proofs.Ytkbllhpjfgeaaaa
open Go.RowKit
set_option linter.unusedSimpArgs false

set_option maxHeartbeats 1000000 in
theorem back_walk (A : Option Addr) (n c : Nat) (fs : List Fr) (w : World) (hR : RFs w A n fs) (_ : A = none → c = 0) (hn : n ≤ 4398046511104) :
    Calls Try.prog 7 #[.slice A n c] w fun e w' => e = .returned (.bool true) ∧ Below w.heap.size w w' := by
  have HR := Lib.hid hR
  have HL := Lib.hid hR.1
  have s1 := pack_any A n c fs w hR hn
  clear hR
  go_enter Try.func7, Try.ntmps7
  go_wp2_with fail
  refine s1.mono ?_
  rintro e w1 ⟨hb1, hp⟩
  have HB1 := Lib.hid hb1
  clear s1 hb1
  rcases hp with ⟨hne, rfl⟩ | ⟨h0, A1, c1, rfl, hr1, hn1, hc1⟩
  · obtain ⟨E, hE⟩ : ∃ E, errPack fs = E := ⟨_, rfl⟩
    rw [hE] at hne ⊢
    have e0 : ((E : Int) == 0) = false := by rw [beq_eq_false_iff_ne]; omega
    have e0' : ((E : Int) != 0) = true := by rw [bne_iff_ne]; omega
    clear hE hne
    go_wp2_with fail
    refine (works_any w1).mono ?_
    rintro e w3 ⟨rfl, hb3⟩
    have HB3 : Hid (Below w.heap.size w w3) := Lib.hid (HB1.out.trans (hb3.mono HB1.out.size))
    clear hb3
    go_wp2
    go_ret
    exact ⟨rfl, HB3.out⟩
  · obtain ⟨hcut, hu0⟩ := pack_back h0
    have s2 := unpack_any A1 (encs fs).length c1 (encs fs) fs [] hcut w1 hr1 hc1
    obtain ⟨N, hN⟩ : ∃ N, (encs fs).length = N := ⟨_, rfl⟩
    rw [hN] at s2 ⊢
    have HU0 := Lib.hid hu0
    clear h0 hr1 hn1 hc1 hcut hu0 hN
    go_wp2_with fail
    refine s2.mono ?_
    rintro e w2 ⟨hb2, hp⟩
    have HB2 : Hid (Below w.heap.size w w2) := Lib.hid (HB1.out.trans (hb2.mono HB1.out.size))
    clear s2 hb2
    rcases hp with ⟨hne, _⟩ | ⟨_, A2, c2, rfl, hr2, hn2, hc2⟩
    · exact absurd HU0.out hne
    rw [HL.out] at hr2 hc2 ⊢
    have s3 := same_any A A2 n c c2 fs w2 (HR.out.below HB2.out) hr2 hn
    clear hr2 hn2
    go_wp2_with fail
    refine s3.mono ?_
    rintro e w3 ⟨rfl, hb3⟩
    have HB3 : Hid (Below w.heap.size w w3) := Lib.hid (HB2.out.trans (hb3.mono HB2.out.size))
    clear hb3 s3
    go_wp2_with fail
    refine (works_any w3).mono ?_
    rintro e w4 ⟨rfl, hb4⟩
    have HB4 : Hid (Below w.heap.size w w4) := Lib.hid (HB3.out.trans (hb4.mono HB3.out.size))
    clear hb4
    go_wp2
    go_ret
    exact ⟨rfl, HB4.out⟩
end Go.Proofs.Ytkbllhpjfgeaaaa
