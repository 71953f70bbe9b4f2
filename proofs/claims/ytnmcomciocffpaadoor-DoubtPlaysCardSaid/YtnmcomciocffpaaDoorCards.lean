/-
  DERIVED. GIVEN WITH THE SEED: THE CARDS: each row of YtnmcomciocffpaaDoorRows.lean that lists a variable, with what it lists TIED to the program's text (the seventh form; the later family's looks); each row that meets fmt, with fmt's text TOLD by the authors' own Lean function (tested against real Go, not proved from fmt's source: count such statements apart). THE CARD IS WHAT COUNTS. Prove the row's statement (the work); the ties are given (YtnmcomciocffpaaDoorTie.lean); close each card by the builder's one call (the guide's Derived/Test/ToyasCard.lean, 'card_holds'). Laid BY PROGRAM, IN A SANDBOX (cutbox-door.mjs). By AI agents, Wed Nov 11 2026. No macro, syntax, notation, axiom, sorry.
-/
import Derived.Test.YtnmcomciocffpaaDoorRows
import GoSem.ClaimSeven
namespace Go.Proofs.YtnmcomciocffpaaDoor
namespace Rows

/-- THE TIED CARD OF 'sodalitylaw11.DoubtWaits'. -/
def doubtWaitsCard : Claim7 := { stood := { row := doubtWaitsRow, standIns := [], harness := (true, "651514b314d7933490b4b1091cc30726ae80d66dfddc9cfa7a1f6da3e5562e28"), looks := false }, kinds := [], alts := [], laidByText := true, laidKinds := [.data], laidTests := true, laidLooks := .later }
def DoubtWaitsCardSaid : Prop := Claim7.holds Tryd.pinned (.plain (OpenSpec.ofChange doubtWaitsSpec)) doubtWaitsCard

/-- THE TIED CARD OF 'sodalitylaw11.DoubtPlays'. -/
def doubtPlaysCard : Claim7 := { stood := { row := doubtPlaysRow, standIns := [], harness := (true, "651514b314d7933490b4b1091cc30726ae80d66dfddc9cfa7a1f6da3e5562e28"), looks := false }, kinds := [], alts := [], laidByText := true, laidKinds := [.data], laidTests := true, laidLooks := .later }
def DoubtPlaysCardSaid : Prop := Claim7.holds Tryd.pinned (.plain (OpenSpec.ofChange doubtPlaysSpec)) doubtPlaysCard

/-- THE TIED CARD OF 'sodalitylaw11.DoubtBounds'. -/
def doubtBoundsCard : Claim7 := { stood := { row := doubtBoundsRow, standIns := [], harness := (true, "651514b314d7933490b4b1091cc30726ae80d66dfddc9cfa7a1f6da3e5562e28"), looks := false }, kinds := [], alts := [], laidByText := true, laidKinds := [.data], laidTests := true, laidLooks := .later }
def DoubtBoundsCardSaid : Prop := Claim7.holds Tryd.pinned (.plain (OpenSpec.ofChange doubtBoundsSpec)) doubtBoundsCard

/-- THE TIED CARD OF 'sodalitylaw11.DoubtNone'. -/
def doubtNoneCard : Claim7 := { stood := { row := doubtNoneRow, standIns := [], harness := (true, "651514b314d7933490b4b1091cc30726ae80d66dfddc9cfa7a1f6da3e5562e28"), looks := false }, kinds := [], alts := [], laidByText := true, laidKinds := [.data], laidTests := true, laidLooks := .later }
def DoubtNoneCardSaid : Prop := Claim7.holds Tryd.pinned (.plain (OpenSpec.ofChange doubtNoneSpec)) doubtNoneCard

/-- THE SECOND FORM's CARD OF 'sodalitylaw11.DoubtWaits'. -/
def doubtWaitsUptoCard : Claim7 := { stood := { row := doubtWaitsUptoRow, standIns := [], harness := (true, "651514b314d7933490b4b1091cc30726ae80d66dfddc9cfa7a1f6da3e5562e28"), looks := false }, kinds := [], alts := [], laidByText := true, laidKinds := [.data], laidTests := true, laidLooks := .later }
def DoubtWaitsUptoCardSaid : Prop := Claim7.holds Tryd.pinned (.plain (OpenSpec.upto doubtWaitsSpec)) doubtWaitsUptoCard

/-- THE SECOND FORM's CARD OF 'sodalitylaw11.DoubtPlays'. -/
def doubtPlaysUptoCard : Claim7 := { stood := { row := doubtPlaysUptoRow, standIns := [], harness := (true, "651514b314d7933490b4b1091cc30726ae80d66dfddc9cfa7a1f6da3e5562e28"), looks := false }, kinds := [], alts := [], laidByText := true, laidKinds := [.data], laidTests := true, laidLooks := .later }
def DoubtPlaysUptoCardSaid : Prop := Claim7.holds Tryd.pinned (.plain (OpenSpec.upto doubtPlaysSpec)) doubtPlaysUptoCard

/-- THE SECOND FORM's CARD OF 'sodalitylaw11.DoubtBounds'. -/
def doubtBoundsUptoCard : Claim7 := { stood := { row := doubtBoundsUptoRow, standIns := [], harness := (true, "651514b314d7933490b4b1091cc30726ae80d66dfddc9cfa7a1f6da3e5562e28"), looks := false }, kinds := [], alts := [], laidByText := true, laidKinds := [.data], laidTests := true, laidLooks := .later }
def DoubtBoundsUptoCardSaid : Prop := Claim7.holds Tryd.pinned (.plain (OpenSpec.upto doubtBoundsSpec)) doubtBoundsUptoCard

/-- THE SECOND FORM's CARD OF 'sodalitylaw11.DoubtNone'. -/
def doubtNoneUptoCard : Claim7 := { stood := { row := doubtNoneUptoRow, standIns := [], harness := (true, "651514b314d7933490b4b1091cc30726ae80d66dfddc9cfa7a1f6da3e5562e28"), looks := false }, kinds := [], alts := [], laidByText := true, laidKinds := [.data], laidTests := true, laidLooks := .later }
def DoubtNoneUptoCardSaid : Prop := Claim7.holds Tryd.pinned (.plain (OpenSpec.upto doubtNoneSpec)) doubtNoneUptoCard
end Rows
end Go.Proofs.YtnmcomciocffpaaDoor
