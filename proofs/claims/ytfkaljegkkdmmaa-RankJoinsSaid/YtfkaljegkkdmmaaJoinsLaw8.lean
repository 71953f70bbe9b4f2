/-
  Any two lists have the table together that the document says; in any list a node's update is found: the law sodalitylaw08.RankJoins over the contracts (layer 8).
-/
import Derived.Test.YtfkaljegkkdmmaaRkSup
namespace Go.Proofs.Ytfkaljegkkdmmaa
open Go.RowKit
set_option linter.unusedSimpArgs false
set_option linter.unusedVariables false

set_option maxHeartbeats 8000000 in
theorem joins_walk (A : Option Addr) (n c : Nat) (l : List Up) (A2 : Option Addr) (n2 c2 : Nat) (l2 : List Up) (z : Int) (w : World) (hS : SUp w A n l) (hnc : n ≤ c) (hm : c ≤ maxLen) (hS2 : SUp w A2 n2 l2) (hnc2 : n2 ≤ c2) (hm2 : c2 ≤ maxLen) :
    Calls Try.prog 4 #[.slice A n c, .slice A2 n2 c2, .int .i64 z] w fun e w' => e = .returned (.bool true) ∧ Below w.heap.size w w' := by
  have HC1 := Lib.hid (cut_any A n c l w hS hnc hm)
  have HC2 := Lib.hid (cut_any A2 n2 c2 l2 w hS2 hnc2 hm2)
  obtain ⟨m, hmm⟩ : ∃ m, min n 60 = m := ⟨_, rfl⟩
  obtain ⟨m2, hmm2⟩ : ∃ m, min n2 60 = m := ⟨_, rfl⟩
  rw [hmm] at HC1
  rw [hmm2] at HC2
  have HM := Lib.hid (show m ≤ 60 ∧ m ≤ c by omega)
  have HM2 := Lib.hid (show m2 ≤ 60 ∧ m2 ≤ c2 by omega)
  have HX := Lib.hid hm
  have HX2 := Lib.hid hm2
  have HT := Lib.hid (hS.take (show m ≤ n by omega))
  have HT2 := Lib.hid (hS2.take (show m2 ≤ n2 by omega))
  obtain ⟨p, hp⟩ : ∃ p, l.take m = p := ⟨_, rfl⟩
  obtain ⟨q, hq⟩ : ∃ p, l2.take m2 = p := ⟨_, rfl⟩
  rw [hp] at HT
  rw [hq] at HT2
  have HPf := Lib.hid (fun w h => pfind_any A m c p z w h HM.out.2 hm)
  have HRf := Lib.hid (fun w h => rfind_any A m c p z w h HM.out.2 hm)
  obtain ⟨u, hu⟩ : ∃ u, foundU p z = u := ⟨_, rfl⟩
  obtain ⟨is, his⟩ : ∃ u, (findU p z).isSome = u := ⟨_, rfl⟩
  rw [hu, his] at HPf HRf
  have HEq : Hid (∀ w, (Op.equalIn 10000 24 (.agg #[.int .i64 u.node, .int .u32 (u.inc : Int), .int .i64 u.st]) (.agg #[.int .i64 u.node, .int .u32 (u.inc : Int), .int .i64 u.st])).run Try.prog w = .ok true w) := Lib.hid (fun w => by rw [up_eq, decide_eq_true rfl])
  have HWk := Lib.hid (fun w => works_any w)
  clear hS hS2 hnc hm hnc2 hm2 hmm hmm2 hp hq hu his
  go_enter Try.func4, Try.ntmps4
  go_wp2_with fail
  refine HC1.out.mono ?_
  rintro e w' ⟨rfl, hw'⟩
  rw [hw']
  clear hw' HC1
  go_wp2_with fail
  refine HC2.out.mono ?_
  rintro e w' ⟨rfl, hw'⟩
  rw [hw']
  clear hw' HC2
  go_wp2_with fail
  refine (HPf.out _ HT.out).mono ?_
  clear HPf
  rintro e w1 ⟨rfl, hb1⟩
  have HB1 := Lib.hid hb1
  have hT1 := HT.out.of_block hb1
  have hU0 := heap_alloc_new w1 (.cells #[.int .i64 u.node, .int .u32 (u.inc : Int), .int .i64 u.st] 24)
  obtain ⟨W1, hW1⟩ : ∃ W1, w1.alloc (.cells #[.int .i64 u.node, .int .u32 (u.inc : Int), .int .i64 u.st] 24) = W1 := ⟨_, rfl⟩
  have hb1' : Below w1.heap.size w1 W1 := by rw [← hW1]; exact below1 _ _
  obtain ⟨U, hU⟩ : ∃ U, w1.heap.size = U := ⟨_, rfl⟩
  rw [hW1, hU] at hU0
  have HT1 := Lib.hid (hT1.of_block hb1')
  have HU1 := Lib.hid hU0
  have HBW1 := Lib.hid (hb1.trans (hb1'.mono hb1.size))
  have HW1 := Lib.hid hW1
  have HU := Lib.hid hU
  clear hb1 hT1 hU0 hW1 hU hb1'
  go_wp2_with fail
  rw [HW1.out, HU.out]
  refine (HRf.out _ HT1.out).mono ?_
  clear HRf
  rintro e w2 ⟨rfl, hb2⟩
  have hU2 := (hb2.block U (block_lt HU1.out)).trans HU1.out
  have hV0 := heap_alloc_new w2 (.cells #[.int .i64 u.node, .int .u32 (u.inc : Int), .int .i64 u.st] 24)
  obtain ⟨W2, hW2⟩ : ∃ W2, w2.alloc (.cells #[.int .i64 u.node, .int .u32 (u.inc : Int), .int .i64 u.st] 24) = W2 := ⟨_, rfl⟩
  have hb2' : Below w2.heap.size w2 W2 := by rw [← hW2]; exact below1 _ _
  obtain ⟨V, hV⟩ : ∃ U, w2.heap.size = U := ⟨_, rfl⟩
  rw [hW2, hV] at hV0
  have HBW2 := Lib.hid (HBW1.out.trans ((hb2.trans (hb2'.mono hb2.size)).mono HBW1.out.size))
  have HU2 := Lib.hid ((hb2'.block U (block_lt hU2)).trans hU2)
  have HV2 := Lib.hid hV0
  have HT22 := Lib.hid (HT.out.of_block HBW2.out)
  have HT23 := Lib.hid (HT2.out.of_block HBW2.out)
  have HW2 := Lib.hid hW2
  have HV := Lib.hid hV
  clear hb2 hb2' hU2 hV0 hW2 hV
  go_wp2_with fail
  rw [HW2.out, HV.out]
  refine (join_sup A m c p A2 m2 c2 q W2 HT22.out HM.out.2 HX.out HT23.out HM2.out.2 HX2.out).mono ?_
  rintro e w3 ⟨A3, c3, rfl, hS3, hn3, hm3, hb3⟩
  have HS3 := Lib.hid hS3
  have HN3 := Lib.hid (And.intro hn3 hm3)
  have HB3 := Lib.hid hb3
  have HT32 := Lib.hid (HT22.out.of_block hb3)
  have HT33 := Lib.hid (HT23.out.of_block hb3)
  clear hS3 hn3 hm3 hb3
  go_wp2_with fail
  refine (rjoin_sup A m c p A2 m2 c2 q w3 HT32.out HM.out.1 HT33.out HM2.out.1).mono ?_
  rintro e w4 ⟨A4, c4, rfl, hS4, hn4, hm4, hb4⟩
  have HS4 := Lib.hid hS4
  have HS34 := Lib.hid (HS3.out.of_block hb4)
  have HB4 := Lib.hid (HB3.out.trans (hb4.mono HB3.out.size))
  clear hS4 hn4 hm4 hb4
  go_wp2_with fail
  refine (same_yes _ _ _ _ _ _ _ w4 HS34.out HS4.out HN3.out.1 HN3.out.2).mono ?_
  rintro e w5 ⟨rfl, hb5⟩
  have hB5 := HB4.out.trans (hb5.mono HB4.out.size)
  have hU5 := (hB5.block U (block_lt HU2.out)).trans HU2.out
  have hV5 := (hB5.block V (block_lt HV2.out)).trans HV2.out
  obtain ⟨d0, d1, d2⟩ := blk3 hU5
  obtain ⟨e0, e1, e2⟩ := blk3 hV5
  have ug := up_guard
  have ue := HEq.out
  have HB5 := Lib.hid hB5
  clear hb5 hB5 hU5 hV5
  go_wp2_with fail
  refine (HWk.out _).mono ?_
  clear ue ug
  rintro e w6 ⟨rfl, hb6⟩
  have HB6 := Lib.hid (HB5.out.trans (hb6.mono HB5.out.size))
  clear hb6 d0 d1 d2 e0 e1 e2
  go_wp2
  go_ret
  exact ⟨by simp, HBW2.out.trans (HB6.out.mono HBW2.out.size)⟩
end Go.Proofs.Ytfkaljegkkdmmaa
