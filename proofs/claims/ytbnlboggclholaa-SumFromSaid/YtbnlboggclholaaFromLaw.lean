/-
  From any sum any bytes go on as the document says: the law sodalitylaw02.SumFrom over the contracts.
-/
import Derived.Test.YtbnlboggclholaaWorks
namespace Go.Proofs.Ytbnlboggclholaa
open Go.RowKit
set_option linter.unusedSimpArgs false

set_option maxHeartbeats 1000000 in
theorem from_walk (C : Con) (A : Option Addr) (n c : Nat) (xs : List UInt8) (s : BitVec 32) (w : World) (h : RB w A n xs) (hn : n ≤ maxLen) :
    Calls Try.prog 4 #[.int .u32 (s.toNat : Int), .slice A n c] w fun e w' => e = .returned (.bool true) ∧ Below w.heap.size w w' := by
  have c1 := C.from_ A n c xs s w h hn
  have c2 := fun (w1 : World) (hb : Below w.heap.size w w1) => rfrom_any A n c xs s w1 (h.below hb) hn
  have c3 := fun (w1 : World) => C.from_ none 0 0 [] s w1 (RB.zero _ _) (Nat.zero_le _)
  simp only [crcFrom_nil] at c3
  have c4 := fun (w1 : World) => works_any C w1
  obtain ⟨S, hS⟩ : ∃ S : Nat, s.toNat = S := ⟨_, rfl⟩
  obtain ⟨T, hT⟩ : ∃ T : Nat, (crcFrom s xs).toNat = T := ⟨_, rfl⟩
  rw [hS, hT] at c1
  simp only [hS, hT] at c2 c3
  rw [hS]
  clear hS hT h hn
  go_enter Try.func4, Try.ntmps4
  go_wp2_with fail
  refine c1.mono ?_
  rintro e w1 ⟨rfl, hb1⟩
  go_wp2_with fail
  refine (c2 w1 hb1).mono ?_
  rintro e w2 ⟨rfl, rfl⟩
  go_wp2_with fail
  refine (c3 w1).mono ?_
  rintro e w3 ⟨rfl, hb3⟩
  go_wp2_with fail
  refine (c4 w3).mono ?_
  rintro e w4 ⟨rfl, hb4⟩
  have HB := Lib.hid ((hb1.trans (hb3.mono hb1.size)).trans (hb4.mono (Nat.le_trans hb1.size hb3.size)))
  clear c1 c2 c3 c4 hb1 hb3 hb4
  go_wp2
  go_ret
  exact ⟨rfl, HB.out⟩
end Go.Proofs.Ytbnlboggclholaa
