/-
  The document's draws: Some (layer 5).
-/
import Derived.Test.YtckeknhoimgccaaERefO
import Derived.Test.YtckeknhoimgccaaESome
namespace Go.Proofs.Ytckeknhoimgccaa
open Go.RowKit
set_option linter.unusedSimpArgs false

set_option maxHeartbeats 1000000 in
theorem rsome_any (S : Nat → Prop) (B : Nat) (d : Dr) (n k : Int) (w : World) (h : RwAt S w B d) :
    Calls Try.prog 35 #[.pointer (some ⟨B, 0, none⟩), .int .i64 n, .int .i64 k] w fun e w' => RowOf w (d.some_ n k) e w' ∧ RwAt S w' B (d.afterO n) ∧ But (· = B) w w' := by
  have s1 := rorder_any S B d n w h
  have hlen := order_length n d
  have h64 := sizeO_le n
  have HS : Hid (d.some_ n k = (d.order n).take k.toNat) := Lib.hid rfl
  obtain ⟨xs, hxs⟩ : ∃ xs, d.order n = xs := ⟨_, rfl⟩
  obtain ⟨d2, hd2⟩ : ∃ d2, d.afterO n = d2 := ⟨_, rfl⟩
  rw [hxs] at s1 HS hlen
  rw [hd2] at s1 ⊢
  obtain ⟨L, hL⟩ : ∃ L, xs.length = L := ⟨_, rfl⟩
  have hL64 : L ≤ 64 := by omega
  have HL := Lib.hid hL
  have S1 := Lib.hid s1
  clear s1 hxs hd2 hlen h64 hL h
  have hcase : (k < 0 ∧ k.toNat = 0) ∨ (0 ≤ k ∧ k ≤ (L : Int)) ∨ (0 ≤ k ∧ (L : Int) < k) := by omega
  rcases hcase with ⟨h1, h2⟩ | ⟨h1, h2⟩ | ⟨h1, h2⟩
  · have HE : Hid (d.some_ n k = []) := Lib.hid (by rw [HS.out, h2]; rfl)
    clear h2
    have q1 : ¬ (L : Int) < 0 := by omega
    go_enter Try.func35, Try.ntmps35
    go_wp2_with fail
    refine S1.out.mono ?_
    rintro e w1 ⟨⟨A, c, rfl, hR, hnc, hbase⟩, hd, hb⟩
    rw [HL.out] at hR hnc ⊢
    have HR := Lib.hid hR
    have HBs := Lib.hid hbase
    clear hR hbase
    go_wp2
    go_ret
    rw [HE.out]
    exact ⟨⟨A, c, rfl, RV.zero _ _, Nat.zero_le _, HBs.out⟩, hd, hb⟩
  · obtain ⟨K, rfl⟩ : ∃ K : Nat, k = (K : Int) := ⟨k.toNat, by omega⟩
    have HE : Hid (d.some_ n (K : Int) = xs.take K ∧ (xs.take K).length = K) := Lib.hid ⟨by rw [HS.out, show ((K : Int)).toNat = K by omega], take_len _ _ (by rw [HL.out]; omega)⟩
    have q2 : ¬ (L : Int) < (K : Int) := by omega
    go_enter Try.func35, Try.ntmps35
    go_wp2_with fail
    refine S1.out.mono ?_
    rintro e w1 ⟨⟨A, c, rfl, hR, hnc, hbase⟩, hd, hb⟩
    rw [HL.out] at hR hnc ⊢
    have HR := Lib.hid hR
    have HBs := Lib.hid hbase
    clear hR hbase
    have q1 : (K : Int) ≤ (c : Int) := by omega
    go_wp2
    go_ret
    rw [HE.out.1]
    refine ⟨⟨A, c, by rw [HE.out.2]; rfl, ?_, by rw [HE.out.2]; omega, HBs.out⟩, hd, hb⟩
    have := HR.out.take (k := K) (by omega)
    rw [HE.out.2, List.map_take]
    exact this
  · have HE : Hid (d.some_ n k = xs) := Lib.hid (by rw [HS.out]; exact List.take_of_length_le (by rw [HL.out]; omega))
    go_enter Try.func35, Try.ntmps35
    go_wp2_with fail
    refine S1.out.mono ?_
    rintro e w1 ⟨⟨A, c, rfl, hR, hnc, hbase⟩, hd, hb⟩
    rw [HL.out] at hR hnc ⊢
    have HR := Lib.hid hR
    have HBs := Lib.hid hbase
    clear hR hbase
    have q1 : (L : Int) ≤ (c : Int) := by omega
    go_wp2
    go_ret
    rw [HE.out]
    exact ⟨⟨A, c, by rw [HL.out]; rfl, by rw [HL.out]; exact HR.out, by rw [HL.out]; exact hnc, HBs.out⟩, hd, hb⟩

end Go.Proofs.Ytckeknhoimgccaa
