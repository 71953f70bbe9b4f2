/-
  DERIVED. GIVEN WITH THE SEED: THE CARDS: each row of YtaicipldjmngaaaGreatDoorRows.lean that lists a variable, with what it lists TIED to the program's text (the seventh form; the later family's looks); each row that meets fmt, with fmt's text TOLD by the authors' own Lean function (tested against real Go, not proved from fmt's source: count such statements apart). THE CARD IS WHAT COUNTS. Prove the row's statement (the work); the ties are given (YtaicipldjmngaaaGreatDoorTie.lean); close each card by the builder's one call (the guide's Derived/Test/ToyasCard.lean, 'card_holds'). Laid BY PROGRAM, IN A SANDBOX (cutbox-door.mjs). By AI agents, Wed Nov 11 2026. No macro, syntax, notation, axiom, sorry.
-/
import Derived.Test.YtaicipldjmngaaaGreatDoorRows
import GoSem.ClaimSeven
namespace Go.Proofs.YtaicipldjmngaaaGreatDoor
namespace Rows

/-- THE TIED CARD OF 'sodalitylaw14.SwimRights'. -/
def swimRightsCard : Claim7 := { stood := { row := swimRightsRow, standIns := [], harness := (true, "a7d82189f0220f1c6bc8ab9630d7d9655ea1227dc634c1084fc37f49250eb3a1"), looks := false }, kinds := [], alts := [], laidByText := true, laidKinds := [.data], laidTests := true, laidLooks := .later }
def SwimRightsCardSaid : Prop := Claim7.holds Tryz.pinned (.plain (OpenSpec.ofChange swimRightsSpec)) swimRightsCard

/-- THE TIED CARD OF 'sodalitylaw14.SwimNone'. -/
def swimNoneCard : Claim7 := { stood := { row := swimNoneRow, standIns := [], harness := (true, "a7d82189f0220f1c6bc8ab9630d7d9655ea1227dc634c1084fc37f49250eb3a1"), looks := false }, kinds := [], alts := [], laidByText := true, laidKinds := [.data], laidTests := true, laidLooks := .later }
def SwimNoneCardSaid : Prop := Claim7.holds Tryz.pinned (.plain (OpenSpec.ofChange swimNoneSpec)) swimNoneCard

/-- THE TIED CARD OF 'sodalitylaw14.SwimRises'. -/
def swimRisesCard : Claim7 := { stood := { row := swimRisesRow, standIns := [], harness := (true, "a7d82189f0220f1c6bc8ab9630d7d9655ea1227dc634c1084fc37f49250eb3a1"), looks := false }, kinds := [], alts := [], laidByText := true, laidKinds := [.data], laidTests := true, laidLooks := .later }
def SwimRisesCardSaid : Prop := Claim7.holds Tryz.pinned (.plain (OpenSpec.ofChange swimRisesSpec)) swimRisesCard

/-- THE TIED CARD OF 'sodalitylaw14.SwimDoubts'. -/
def swimDoubtsCard : Claim7 := { stood := { row := swimDoubtsRow, standIns := [], harness := (true, "a7d82189f0220f1c6bc8ab9630d7d9655ea1227dc634c1084fc37f49250eb3a1"), looks := false }, kinds := [], alts := [], laidByText := true, laidKinds := [.data], laidTests := true, laidLooks := .later }
def SwimDoubtsCardSaid : Prop := Claim7.holds Tryz.pinned (.plain (OpenSpec.ofChange swimDoubtsSpec)) swimDoubtsCard

/-- THE TIED CARD OF 'sodalitylaw14.SwimRefutes'. -/
def swimRefutesCard : Claim7 := { stood := { row := swimRefutesRow, standIns := [], harness := (true, "a7d82189f0220f1c6bc8ab9630d7d9655ea1227dc634c1084fc37f49250eb3a1"), looks := false }, kinds := [], alts := [], laidByText := true, laidKinds := [.data], laidTests := true, laidLooks := .later }
def SwimRefutesCardSaid : Prop := Claim7.holds Tryz.pinned (.plain (OpenSpec.ofChange swimRefutesSpec)) swimRefutesCard

/-- THE TIED CARD OF 'sodalitylaw14.SwimAnswers'. -/
def swimAnswersCard : Claim7 := { stood := { row := swimAnswersRow, standIns := [], harness := (true, "a7d82189f0220f1c6bc8ab9630d7d9655ea1227dc634c1084fc37f49250eb3a1"), looks := false }, kinds := [], alts := [], laidByText := true, laidKinds := [.data], laidTests := true, laidLooks := .later }
def SwimAnswersCardSaid : Prop := Claim7.holds Tryz.pinned (.plain (OpenSpec.ofChange swimAnswersSpec)) swimAnswersCard

/-- THE TIED CARD OF 'sodalitylaw14.SwimCalm'. -/
def swimCalmCard : Claim7 := { stood := { row := swimCalmRow, standIns := [], harness := (true, "a7d82189f0220f1c6bc8ab9630d7d9655ea1227dc634c1084fc37f49250eb3a1"), looks := false }, kinds := [], alts := [], laidByText := true, laidKinds := [.data], laidTests := true, laidLooks := .later }
def SwimCalmCardSaid : Prop := Claim7.holds Tryz.pinned (.plain (OpenSpec.ofChange swimCalmSpec)) swimCalmCard

/-- THE SECOND FORM's CARD OF 'sodalitylaw14.SwimRights'. -/
def swimRightsUptoCard : Claim7 := { stood := { row := swimRightsUptoRow, standIns := [], harness := (true, "a7d82189f0220f1c6bc8ab9630d7d9655ea1227dc634c1084fc37f49250eb3a1"), looks := false }, kinds := [], alts := [], laidByText := true, laidKinds := [.data], laidTests := true, laidLooks := .later }
def SwimRightsUptoCardSaid : Prop := Claim7.holds Tryz.pinned (.plain (OpenSpec.upto swimRightsSpec)) swimRightsUptoCard

/-- THE SECOND FORM's CARD OF 'sodalitylaw14.SwimNone'. -/
def swimNoneUptoCard : Claim7 := { stood := { row := swimNoneUptoRow, standIns := [], harness := (true, "a7d82189f0220f1c6bc8ab9630d7d9655ea1227dc634c1084fc37f49250eb3a1"), looks := false }, kinds := [], alts := [], laidByText := true, laidKinds := [.data], laidTests := true, laidLooks := .later }
def SwimNoneUptoCardSaid : Prop := Claim7.holds Tryz.pinned (.plain (OpenSpec.upto swimNoneSpec)) swimNoneUptoCard

/-- THE SECOND FORM's CARD OF 'sodalitylaw14.SwimRises'. -/
def swimRisesUptoCard : Claim7 := { stood := { row := swimRisesUptoRow, standIns := [], harness := (true, "a7d82189f0220f1c6bc8ab9630d7d9655ea1227dc634c1084fc37f49250eb3a1"), looks := false }, kinds := [], alts := [], laidByText := true, laidKinds := [.data], laidTests := true, laidLooks := .later }
def SwimRisesUptoCardSaid : Prop := Claim7.holds Tryz.pinned (.plain (OpenSpec.upto swimRisesSpec)) swimRisesUptoCard

/-- THE SECOND FORM's CARD OF 'sodalitylaw14.SwimDoubts'. -/
def swimDoubtsUptoCard : Claim7 := { stood := { row := swimDoubtsUptoRow, standIns := [], harness := (true, "a7d82189f0220f1c6bc8ab9630d7d9655ea1227dc634c1084fc37f49250eb3a1"), looks := false }, kinds := [], alts := [], laidByText := true, laidKinds := [.data], laidTests := true, laidLooks := .later }
def SwimDoubtsUptoCardSaid : Prop := Claim7.holds Tryz.pinned (.plain (OpenSpec.upto swimDoubtsSpec)) swimDoubtsUptoCard

/-- THE SECOND FORM's CARD OF 'sodalitylaw14.SwimRefutes'. -/
def swimRefutesUptoCard : Claim7 := { stood := { row := swimRefutesUptoRow, standIns := [], harness := (true, "a7d82189f0220f1c6bc8ab9630d7d9655ea1227dc634c1084fc37f49250eb3a1"), looks := false }, kinds := [], alts := [], laidByText := true, laidKinds := [.data], laidTests := true, laidLooks := .later }
def SwimRefutesUptoCardSaid : Prop := Claim7.holds Tryz.pinned (.plain (OpenSpec.upto swimRefutesSpec)) swimRefutesUptoCard

/-- THE SECOND FORM's CARD OF 'sodalitylaw14.SwimAnswers'. -/
def swimAnswersUptoCard : Claim7 := { stood := { row := swimAnswersUptoRow, standIns := [], harness := (true, "a7d82189f0220f1c6bc8ab9630d7d9655ea1227dc634c1084fc37f49250eb3a1"), looks := false }, kinds := [], alts := [], laidByText := true, laidKinds := [.data], laidTests := true, laidLooks := .later }
def SwimAnswersUptoCardSaid : Prop := Claim7.holds Tryz.pinned (.plain (OpenSpec.upto swimAnswersSpec)) swimAnswersUptoCard

/-- THE SECOND FORM's CARD OF 'sodalitylaw14.SwimCalm'. -/
def swimCalmUptoCard : Claim7 := { stood := { row := swimCalmUptoRow, standIns := [], harness := (true, "a7d82189f0220f1c6bc8ab9630d7d9655ea1227dc634c1084fc37f49250eb3a1"), looks := false }, kinds := [], alts := [], laidByText := true, laidKinds := [.data], laidTests := true, laidLooks := .later }
def SwimCalmUptoCardSaid : Prop := Claim7.holds Tryz.pinned (.plain (OpenSpec.upto swimCalmSpec)) swimCalmUptoCard
end Rows
end Go.Proofs.YtaicipldjmngaaaGreatDoor
