/-
  DERIVED. GIVEN WITH THE SEED: THE CARDS: each row of YtilkbfmaofmjoaaGreatDoorRows.lean that lists a variable, with what it lists TIED to the program's text (the seventh form; the later family's looks); each row that meets fmt, with fmt's text TOLD by the authors' own Lean function (tested against real Go, not proved from fmt's source: count such statements apart). THE CARD IS WHAT COUNTS. Prove the row's statement (the work); the ties are given (YtilkbfmaofmjoaaGreatDoorTie.lean); close each card by the builder's one call (the guide's Derived/Test/ToyasCard.lean, 'card_holds'). Laid BY PROGRAM, IN A SANDBOX (cutbox-door.mjs). By AI agents, Wed Nov 11 2026. No macro, syntax, notation, axiom, sorry.
-/
import Derived.Test.YtilkbfmaofmjoaaGreatDoorRows
import GoSem.ClaimSeven
namespace Go.Proofs.YtilkbfmaofmjoaaGreatDoor
namespace Rows

/-- THE TIED CARD OF 'sodalitylaw19.RosterPlays'. -/
def rosterPlaysCard : Claim7 := { stood := { row := rosterPlaysRow, standIns := [], harness := (true, "016537fe32cacfb314108429c7220ab42a37a242f92ff213278c5c18dd5d1c4a"), looks := false }, kinds := [], alts := [], laidByText := true, laidKinds := [.data, .data, .data], laidTests := true, laidLooks := .later }
def RosterPlaysCardSaid : Prop := Claim7.holds Tryz.pinned (.plain (OpenSpec.ofChange rosterPlaysSpec)) rosterPlaysCard

/-- THE TIED CARD OF 'sodalitylaw19.RosterWhole'. -/
def rosterWholeCard : Claim7 := { stood := { row := rosterWholeRow, standIns := [], harness := (true, "016537fe32cacfb314108429c7220ab42a37a242f92ff213278c5c18dd5d1c4a"), looks := false }, kinds := [], alts := [], laidByText := true, laidKinds := [.data, .data, .data], laidTests := true, laidLooks := .later }
def RosterWholeCardSaid : Prop := Claim7.holds Tryz.pinned (.plain (OpenSpec.ofChange rosterWholeSpec)) rosterWholeCard

/-- THE TIED CARD OF 'sodalitylaw19.RosterHealth'. -/
def rosterHealthCard : Claim7 := { stood := { row := rosterHealthRow, standIns := [], harness := (true, "016537fe32cacfb314108429c7220ab42a37a242f92ff213278c5c18dd5d1c4a"), looks := false }, kinds := [], alts := [], laidByText := true, laidKinds := [.data, .data, .data], laidTests := true, laidLooks := .later }
def RosterHealthCardSaid : Prop := Claim7.holds Tryz.pinned (.plain (OpenSpec.ofChange rosterHealthSpec)) rosterHealthCard

/-- THE TIED CARD OF 'sodalitylaw19.RosterLoads'. -/
def rosterLoadsCard : Claim7 := { stood := { row := rosterLoadsRow, standIns := [], harness := (true, "016537fe32cacfb314108429c7220ab42a37a242f92ff213278c5c18dd5d1c4a"), looks := false }, kinds := [], alts := [], laidByText := true, laidKinds := [.data, .data, .data], laidTests := true, laidLooks := .later }
def RosterLoadsCardSaid : Prop := Claim7.holds Tryz.pinned (.plain (OpenSpec.ofChange rosterLoadsSpec)) rosterLoadsCard

/-- THE TIED CARD OF 'sodalitylaw19.RosterBack'. -/
def rosterBackCard : Claim7 := { stood := { row := rosterBackRow, standIns := [], harness := (true, "016537fe32cacfb314108429c7220ab42a37a242f92ff213278c5c18dd5d1c4a"), looks := false }, kinds := [], alts := [], laidByText := true, laidKinds := [.data, .data, .data], laidTests := true, laidLooks := .later }
def RosterBackCardSaid : Prop := Claim7.holds Tryz.pinned (.plain (OpenSpec.ofChange rosterBackSpec)) rosterBackCard

/-- THE TIED CARD OF 'sodalitylaw19.RosterNone'. -/
def rosterNoneCard : Claim7 := { stood := { row := rosterNoneRow, standIns := [], harness := (true, "016537fe32cacfb314108429c7220ab42a37a242f92ff213278c5c18dd5d1c4a"), looks := false }, kinds := [], alts := [], laidByText := true, laidKinds := [.data, .data, .data], laidTests := true, laidLooks := .later }
def RosterNoneCardSaid : Prop := Claim7.holds Tryz.pinned (.plain (OpenSpec.ofChange rosterNoneSpec)) rosterNoneCard

/-- THE SECOND FORM's CARD OF 'sodalitylaw19.RosterPlays'. -/
def rosterPlaysUptoCard : Claim7 := { stood := { row := rosterPlaysUptoRow, standIns := [], harness := (true, "016537fe32cacfb314108429c7220ab42a37a242f92ff213278c5c18dd5d1c4a"), looks := false }, kinds := [], alts := [], laidByText := true, laidKinds := [.data, .data, .data], laidTests := true, laidLooks := .later }
def RosterPlaysUptoCardSaid : Prop := Claim7.holds Tryz.pinned (.plain (OpenSpec.upto rosterPlaysSpec)) rosterPlaysUptoCard

/-- THE SECOND FORM's CARD OF 'sodalitylaw19.RosterWhole'. -/
def rosterWholeUptoCard : Claim7 := { stood := { row := rosterWholeUptoRow, standIns := [], harness := (true, "016537fe32cacfb314108429c7220ab42a37a242f92ff213278c5c18dd5d1c4a"), looks := false }, kinds := [], alts := [], laidByText := true, laidKinds := [.data, .data, .data], laidTests := true, laidLooks := .later }
def RosterWholeUptoCardSaid : Prop := Claim7.holds Tryz.pinned (.plain (OpenSpec.upto rosterWholeSpec)) rosterWholeUptoCard

/-- THE SECOND FORM's CARD OF 'sodalitylaw19.RosterHealth'. -/
def rosterHealthUptoCard : Claim7 := { stood := { row := rosterHealthUptoRow, standIns := [], harness := (true, "016537fe32cacfb314108429c7220ab42a37a242f92ff213278c5c18dd5d1c4a"), looks := false }, kinds := [], alts := [], laidByText := true, laidKinds := [.data, .data, .data], laidTests := true, laidLooks := .later }
def RosterHealthUptoCardSaid : Prop := Claim7.holds Tryz.pinned (.plain (OpenSpec.upto rosterHealthSpec)) rosterHealthUptoCard

/-- THE SECOND FORM's CARD OF 'sodalitylaw19.RosterLoads'. -/
def rosterLoadsUptoCard : Claim7 := { stood := { row := rosterLoadsUptoRow, standIns := [], harness := (true, "016537fe32cacfb314108429c7220ab42a37a242f92ff213278c5c18dd5d1c4a"), looks := false }, kinds := [], alts := [], laidByText := true, laidKinds := [.data, .data, .data], laidTests := true, laidLooks := .later }
def RosterLoadsUptoCardSaid : Prop := Claim7.holds Tryz.pinned (.plain (OpenSpec.upto rosterLoadsSpec)) rosterLoadsUptoCard

/-- THE SECOND FORM's CARD OF 'sodalitylaw19.RosterBack'. -/
def rosterBackUptoCard : Claim7 := { stood := { row := rosterBackUptoRow, standIns := [], harness := (true, "016537fe32cacfb314108429c7220ab42a37a242f92ff213278c5c18dd5d1c4a"), looks := false }, kinds := [], alts := [], laidByText := true, laidKinds := [.data, .data, .data], laidTests := true, laidLooks := .later }
def RosterBackUptoCardSaid : Prop := Claim7.holds Tryz.pinned (.plain (OpenSpec.upto rosterBackSpec)) rosterBackUptoCard

/-- THE SECOND FORM's CARD OF 'sodalitylaw19.RosterNone'. -/
def rosterNoneUptoCard : Claim7 := { stood := { row := rosterNoneUptoRow, standIns := [], harness := (true, "016537fe32cacfb314108429c7220ab42a37a242f92ff213278c5c18dd5d1c4a"), looks := false }, kinds := [], alts := [], laidByText := true, laidKinds := [.data, .data, .data], laidTests := true, laidLooks := .later }
def RosterNoneUptoCardSaid : Prop := Claim7.holds Tryz.pinned (.plain (OpenSpec.upto rosterNoneSpec)) rosterNoneUptoCard
end Rows
end Go.Proofs.YtilkbfmaofmjoaaGreatDoor
