/-
  The document's draws: Some; same of the law; works (layer 5).
-/
import Derived.Test.YtonbojecgggheaaERefO
import Derived.Test.YtonbojecgggheaaESome
import Derived.Test.YtonbojecgggheaaENew
namespace Go.Proofs.Ytonbojecgggheaa
open Go.RowKit
set_option linter.unusedSimpArgs false

set_option maxHeartbeats 1000000 in
theorem rsome_any (S : Nat → Prop) (B : Nat) (d : Dr) (n k : Int) (w : World) (h : RwAt S w B d) :
    Calls Try.prog 16 #[.pointer (some ⟨B, 0, none⟩), .int .i64 n, .int .i64 k] w fun e w' => RowOf w (d.some_ n k) e w' ∧ RwAt S w' B (d.afterO n) ∧ But (· = B) w w' := by
  have s1 := rorder_any S B d n w h
  have hlen := order_length n d
  have h64 := sizeO_le n
  have HS : Hid (d.some_ n k = (d.order n).take k.toNat) := Lib.hid rfl
  obtain ⟨xs, hxs⟩ : ∃ xs, d.order n = xs := ⟨_, rfl⟩
  obtain ⟨d2, hd2⟩ : ∃ d2, d.afterO n = d2 := ⟨_, rfl⟩
  rw [hxs] at s1 HS hlen
  rw [hd2] at s1 ⊢
  obtain ⟨L, hL⟩ : ∃ L, xs.length = L := ⟨_, rfl⟩
  have hL64 : L ≤ 64 := by omega
  have HL := Lib.hid hL
  have S1 := Lib.hid s1
  clear s1 hxs hd2 hlen h64 hL h
  have hcase : (k < 0 ∧ k.toNat = 0) ∨ (0 ≤ k ∧ k ≤ (L : Int)) ∨ (0 ≤ k ∧ (L : Int) < k) := by omega
  rcases hcase with ⟨h1, h2⟩ | ⟨h1, h2⟩ | ⟨h1, h2⟩
  · have HE : Hid (d.some_ n k = []) := Lib.hid (by rw [HS.out, h2]; rfl)
    clear h2
    have q1 : ¬ (L : Int) < 0 := by omega
    go_enter Try.func16, Try.ntmps16
    go_wp2_with fail
    refine S1.out.mono ?_
    rintro e w1 ⟨⟨A, c, rfl, hR, hnc, hbase⟩, hd, hb⟩
    rw [HL.out] at hR hnc ⊢
    have HR := Lib.hid hR
    have HBs := Lib.hid hbase
    clear hR hbase
    go_wp2
    go_ret
    rw [HE.out]
    exact ⟨⟨A, c, rfl, RV.zero _ _, Nat.zero_le _, HBs.out⟩, hd, hb⟩
  · obtain ⟨K, rfl⟩ : ∃ K : Nat, k = (K : Int) := ⟨k.toNat, by omega⟩
    have HE : Hid (d.some_ n (K : Int) = xs.take K ∧ (xs.take K).length = K) := Lib.hid ⟨by rw [HS.out, show ((K : Int)).toNat = K by omega], take_len _ _ (by rw [HL.out]; omega)⟩
    have q2 : ¬ (L : Int) < (K : Int) := by omega
    go_enter Try.func16, Try.ntmps16
    go_wp2_with fail
    refine S1.out.mono ?_
    rintro e w1 ⟨⟨A, c, rfl, hR, hnc, hbase⟩, hd, hb⟩
    rw [HL.out] at hR hnc ⊢
    have HR := Lib.hid hR
    have HBs := Lib.hid hbase
    clear hR hbase
    have q1 : (K : Int) ≤ (c : Int) := by omega
    go_wp2
    go_ret
    rw [HE.out.1]
    refine ⟨⟨A, c, by rw [HE.out.2]; rfl, ?_, by rw [HE.out.2]; omega, HBs.out⟩, hd, hb⟩
    have := HR.out.take (k := K) (by omega)
    rw [HE.out.2, List.map_take]
    exact this
  · have HE : Hid (d.some_ n k = xs) := Lib.hid (by rw [HS.out]; exact List.take_of_length_le (by rw [HL.out]; omega))
    go_enter Try.func16, Try.ntmps16
    go_wp2_with fail
    refine S1.out.mono ?_
    rintro e w1 ⟨⟨A, c, rfl, hR, hnc, hbase⟩, hd, hb⟩
    rw [HL.out] at hR hnc ⊢
    have HR := Lib.hid hR
    have HBs := Lib.hid hbase
    clear hR hbase
    have q1 : (L : Int) ≤ (c : Int) := by omega
    go_wp2
    go_ret
    rw [HE.out]
    exact ⟨⟨A, c, by rw [HL.out]; rfl, by rw [HL.out]; exact HR.out, by rw [HL.out]; exact hnc, HBs.out⟩, hd, hb⟩

set_option maxHeartbeats 1000000 in
theorem same_any (A B : Option Addr) (n c d : Nat) (l : List Nat) (w : World) (h1 : RV w A n (l.map iV)) (h2 : RV w B n (l.map iV)) (hn : n ≤ 140737488355328) :
    Calls Try.prog 12 #[.slice A n c, .slice B n d] w fun e w' => e = .returned (.bool true) ∧ Below w.heap.size w w' := by
  have hln : l.length = n := by simpa using h1.1
  have H1 := Lib.hid h1
  have H2 := Lib.hid h2
  have HLn := Lib.hid hln
  clear h1 h2 hln
  go_enter Try.func12, Try.ntmps12
  go_wp2
  go_loopw [5] (fun kv wr => ∃ k : Nat, k ≤ n ∧ kv = .int .i64 (k : Int) ∧ Hid (Below w.heap.size w wr)) (fun kv _ => n - (intOf kv).toNat)
  case atStart => exact ⟨0, Nat.zero_le _, rfl, Lib.hid (Below.refl _ _)⟩
  case round =>
    obtain ⟨k, hk, rfl, hb⟩ := hrel
    by_cases hlt : k < n
    · have hk' : k < l.length := by rw [HLn.out]; exact hlt
      obtain ⟨b, off, rfl, _, hc1⟩ := (H1.out.below hb.out).at_ hlt
      obtain ⟨b2, off2, rfl, _, hc2⟩ := (H2.out.below hb.out).at_ hlt
      rw [List.getElem_map] at hc1 hc2
      obtain ⟨x, hx⟩ : ∃ x, l[k] = x := ⟨_, rfl⟩
      rw [hx] at hc1 hc2
      unfold iV at hc1 hc2
      have q1 : (k : Int) < (n : Int) := by omega
      have q2 : (0 : Int) ≤ (k : Int) := by omega
      clear hx hk'
      go_wp2
      go_quiet (fail)
      have HB := Lib.hid (below_drewN hb.out nq)
      go_wp2
      go_roundw
      case rel => exact ⟨k + 1, by omega, by go_num, HB⟩
      case measure => simp [intOf]; omega
    · obtain rfl : k = n := by omega
      go_wp2
      go_ret
      exact ⟨rfl, hb.out⟩
/-- A draw. -/
theorem works_any (w : World) : Calls Try.prog 19 #[] w fun e w' => e = .returned (.bool true) ∧ Below w.heap.size w w' := by
  have hb0 : Below w.heap.size w (w.alloc (.cells #[.int .u32 2147483648] 47)) := (Below.refl _ _).alloc (Nat.le_refl _) _
  have s1 := new_any (some ⟨w.heap.size, 0, none⟩) 1 1 [2147483648] (w.alloc (.cells #[.int .u32 2147483648] 47)) ⟨rfl, fun _ => ⟨_, _, rfl, by simp, fun j hj => by
    obtain rfl : j = 0 := by simpa using hj
    rw [cell_of_row _ _ _ _ _ _ (heap_alloc_new w _)]
    rfl⟩⟩ (fun e => by cases e) (by omega) (by omega) (by simp)
  have S1 := Lib.hid s1
  have HB0 := Lib.hid hb0
  clear s1 hb0
  go_enter Try.func19, Try.ntmps19
  go_wp2_with fail
  refine S1.out.mono ?_
  rintro e w1 ⟨B, rfl, hB, hlt, hd, hb1⟩
  have s2 := below_any _ _ _ 10 w1 hd (by omega)
  rw [show Dr.below 10 ⟨[2147483648].take 4096, 0⟩ = 5 by decide] at s2
  have HB1 : Hid (Below w.heap.size w w1) := Lib.hid (HB0.out.trans (hb1.mono (by simp)))
  have S2 := Lib.hid s2
  have HBw : Hid (w.heap.size ≤ B) := Lib.hid (by have := hB; simp at this; omega)
  clear s2 hd hb1 hB S1
  go_wp2_with fail
  refine S2.out.mono ?_
  rintro e w2 ⟨rfl, _, hb2⟩
  have HB2 : Hid (Below w.heap.size w w2) := Lib.hid (HB1.out.trans (hb2.below HB1.out.size (fun k hk e => by
    have h1 := HBw.out
    simp only [Tgt, Value.pointer.injEq, Option.some.injEq, Addr.mk.injEq] at e
    omega)))
  clear hb2
  go_wp2
  go_ret
  exact ⟨rfl, HB2.out⟩
end Go.Proofs.Ytonbojecgggheaa
