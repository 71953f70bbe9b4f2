/-
  A step of layer 16's laws, as it comes.
-/
import Derived.Test.YtohnkagabpefdaaDoorZj29
import Derived.Test.YtohnkagabpefdaaDoorZj38
import Derived.Test.YtohnkagabpefdaaDoorZj40
namespace Go.Proofs.YtohnkagabpefdaaDoor
open Go.RowKit
set_option linter.unusedSimpArgs false
set_option linter.unusedVariables false

/-- A step as it comes. -/
structure KSt where
  kind : Int
  key : ByteArray
  val : ByteArray
  old : Nat
  ses : Nat
  ix : Nat
abbrev TS : TypeId := 34
def stCs (s : KSt) : List Value := [.int .i64 s.kind, .string s.key, .string s.val, .int .u64 (s.old : Int), .int .u64 (s.ses : Int), .int .u64 (s.ix : Int)]
def stV (s : KSt) : Value := .agg #[.int .i64 s.kind, .string s.key, .string s.val, .int .u64 (s.old : Int), .int .u64 (s.ses : Int), .int .u64 (s.ix : Int)]
structure KSt.Ok (s : KSt) : Prop where
  key : s.key.size ≤ maxLen
  val : s.val.size ≤ maxLen
  old : s.old < 18446744073709551616
  ses : s.ses < 18446744073709551616
  ix : s.ix < 18446744073709551616
end Go.Proofs.YtohnkagabpefdaaDoor
/-
  works (layer 16), walked.
-/
namespace Go.Proofs.YtohnkagabpefdaaDoor
open Go.RowKit
set_option linter.unusedSimpArgs false
set_option linter.unusedVariables false

theorem works_put : kSet ⟨9, [], 0⟩ ⟨#[97]⟩ ⟨#[49]⟩ 3 = (0, ⟨9, [⟨⟨#[97]⟩, ⟨⟨#[49]⟩, 0, 0⟩, 3, 3⟩], 3⟩) := by
  have h : firstE ((keyB (⟨#[97]⟩ : ByteArray).data.toList, 10) :: [shortC ⟨#[49]⟩]) = none := by
    rw [firstE_cons, show keyB (⟨#[97]⟩ : ByteArray).data.toList = true by decide, if_pos rfl, shortC, firstE_cons, decide_eq_true (by decide), if_pos rfl]
    rfl
  unfold kSet
  rw [modK_put h]
  rfl
theorem works_got : entO ⟨9, [⟨⟨#[97]⟩, ⟨⟨#[49]⟩, 0, 0⟩, 3, 3⟩], 3⟩ ⟨#[97]⟩ = ⟨⟨#[97]⟩, ⟨⟨#[49]⟩, 0, 0⟩, 3, 3⟩ ∧ isO ⟨9, [⟨⟨#[97]⟩, ⟨⟨#[49]⟩, 0, 0⟩, 3, 3⟩], 3⟩ ⟨#[97]⟩ = true := by
  unfold entO isO
  rw [getR_cons, if_pos rfl]
  exact ⟨rfl, rfl⟩
theorem works_any (w : World) (hM : MaxIs w) : Calls Tryd.prog 7 #[] w fun e w' => e = .returned (.bool true) ∧ Below w.heap.size w w' := by
  have HN := Lib.hid (knew_any 9 w (by decide))
  have HM := Lib.hid hM
  clear hM
  go_enter Tryd.func7, Tryd.ntmps7
  go_wp2_with fail
  refine HN.out.mono ?_
  rintro e w1 ⟨B, Bt, rfl, hk1, hb1⟩
  have HS := Lib.hid (kset_any ⟨#[97]⟩ ⟨#[49]⟩ 3 hk1 (HM.out.keep hb1) (by decide) (by decide) (by decide))
  rw [show mostT 9 = 9 from rfl, works_put] at HS
  have hBt := hk1.tmine.1
  have HB1 := Lib.hid hb1
  have HBt := Lib.hid hBt
  clear hk1 hb1 hBt HN
  go_wp2_with fail
  refine HS.out.mono ?_
  rintro e w2 ⟨rfl, hk2, hb2⟩
  have HG := Lib.hid (kget_any ⟨#[97]⟩ hk2)
  rw [works_got.1, works_got.2] at HG
  have HB2 : Hid (Below w.heap.size w w2) := Lib.hid (HB1.out.trans (hb2.below HB1.out.size fun k hk e => by have := HBt.out; have : k = Bt := e; omega))
  unfold enV Kt.trV at HG
  have ue := en_eq ⟨⟨#[97]⟩, ⟨⟨#[49]⟩, 0, 0⟩, 3, 3⟩ ⟨⟨#[97]⟩, ⟨⟨#[49]⟩, 0, 0⟩, 3, 3⟩
  rw [(eqE_iff _ _).2 rfl] at ue
  unfold enV Kt.trV at ue
  have ug := en_guard
  clear hk2 hb2 HS
  go_wp2_with fail
  refine HG.out.mono ?_
  rintro e w3 ⟨rfl, hb3⟩
  have HB3 := Lib.hid (HB2.out.trans (hb3.mono HB2.out.size))
  clear hb3 HG
  go_wp2
  go_ret
  exact ⟨rfl, HB3.out.alloc HB3.out.size _⟩
end Go.Proofs.YtohnkagabpefdaaDoor
