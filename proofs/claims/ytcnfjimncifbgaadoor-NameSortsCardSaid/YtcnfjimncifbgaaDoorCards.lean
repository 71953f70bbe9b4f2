/-
  DERIVED. GIVEN WITH THE SEED: THE CARDS: each row of YtcnfjimncifbgaaDoorRows.lean that lists a variable, with what it lists TIED to the program's text (the seventh form; the later family's looks); each row that meets fmt, with fmt's text TOLD by the authors' own Lean function (tested against real Go, not proved from fmt's source: count such statements apart). THE CARD IS WHAT COUNTS. Prove the row's statement (the work); the ties are given (YtcnfjimncifbgaaDoorTie.lean); close each card by the builder's one call (the guide's Derived/Test/ToyasCard.lean, 'card_holds'). Laid BY PROGRAM, IN A SANDBOX (cutbox-door.mjs). By AI agents, Wed Nov 11 2026. No macro, syntax, notation, axiom, sorry.
-/
import Derived.Test.YtcnfjimncifbgaaDoorRows
import GoSem.ClaimSeven
namespace Go.Proofs.YtcnfjimncifbgaaDoor
namespace Rows

/-- THE TIED CARD OF 'sodalitylaw01.NameRights'. -/
def nameRightsCard : Claim7 := { stood := { row := nameRightsRow, standIns := [], harness := (true, "72231b6c03a6f29a1d70901864428b2920b291c28eaec352411cb73282441814"), looks := false }, kinds := [], alts := [], laidByText := true, laidKinds := [.data, .pinned], laidTests := true, laidLooks := .later }
def NameRightsCardSaid : Prop := Claim7.holds Tryd.pinned (.plain (OpenSpec.ofChange nameRightsSpec)) nameRightsCard

/-- THE TIED CARD OF 'sodalitylaw01.NameKeys'. -/
def nameKeysCard : Claim7 := { stood := { row := nameKeysRow, standIns := [], harness := (true, "72231b6c03a6f29a1d70901864428b2920b291c28eaec352411cb73282441814"), looks := false }, kinds := [], alts := [], laidByText := true, laidKinds := [.data, .pinned], laidTests := true, laidLooks := .later }
def NameKeysCardSaid : Prop := Claim7.holds Tryd.pinned (.plain (OpenSpec.ofChange nameKeysSpec)) nameKeysCard

/-- THE TIED CARD OF 'sodalitylaw01.NameSorts'. -/
def nameSortsCard : Claim7 := { stood := { row := nameSortsRow, standIns := [], harness := (true, "72231b6c03a6f29a1d70901864428b2920b291c28eaec352411cb73282441814"), looks := false }, kinds := [], alts := [], laidByText := true, laidKinds := [.data, .pinned], laidTests := true, laidLooks := .later }
def NameSortsCardSaid : Prop := Claim7.holds Tryd.pinned (.plain (OpenSpec.ofChange nameSortsSpec)) nameSortsCard

/-- THE TIED CARD OF 'sodalitylaw01.NameTags'. -/
def nameTagsCard : Claim7 := { stood := { row := nameTagsRow, standIns := [], harness := (true, "72231b6c03a6f29a1d70901864428b2920b291c28eaec352411cb73282441814"), looks := false }, kinds := [], alts := [], laidByText := true, laidKinds := [.data, .pinned], laidTests := true, laidLooks := .later }
def NameTagsCardSaid : Prop := Claim7.holds Tryd.pinned (.plain (OpenSpec.ofChange nameTagsSpec)) nameTagsCard

/-- THE TIED CARD OF 'sodalitylaw01.NameAgain'. -/
def nameAgainCard : Claim7 := { stood := { row := nameAgainRow, standIns := [], harness := (true, "72231b6c03a6f29a1d70901864428b2920b291c28eaec352411cb73282441814"), looks := false }, kinds := [], alts := [], laidByText := true, laidKinds := [.data, .pinned], laidTests := true, laidLooks := .later }
def NameAgainCardSaid : Prop := Claim7.holds Tryd.pinned (.plain (OpenSpec.ofChange nameAgainSpec)) nameAgainCard

/-- THE TIED CARD OF 'sodalitylaw01.NameParts'. -/
def namePartsCard : Claim7 := { stood := { row := namePartsRow, standIns := [], harness := (true, "72231b6c03a6f29a1d70901864428b2920b291c28eaec352411cb73282441814"), looks := false }, kinds := [], alts := [], laidByText := true, laidKinds := [.data, .pinned], laidTests := true, laidLooks := .later }
def NamePartsCardSaid : Prop := Claim7.holds Tryd.pinned (.plain (OpenSpec.ofChange namePartsSpec)) namePartsCard

/-- THE SECOND FORM's CARD OF 'sodalitylaw01.NameRights'. -/
def nameRightsUptoCard : Claim7 := { stood := { row := nameRightsUptoRow, standIns := [], harness := (true, "72231b6c03a6f29a1d70901864428b2920b291c28eaec352411cb73282441814"), looks := false }, kinds := [], alts := [], laidByText := true, laidKinds := [.data, .pinned], laidTests := true, laidLooks := .later }
def NameRightsUptoCardSaid : Prop := Claim7.holds Tryd.pinned (.plain (OpenSpec.upto nameRightsSpec)) nameRightsUptoCard

/-- THE SECOND FORM's CARD OF 'sodalitylaw01.NameKeys'. -/
def nameKeysUptoCard : Claim7 := { stood := { row := nameKeysUptoRow, standIns := [], harness := (true, "72231b6c03a6f29a1d70901864428b2920b291c28eaec352411cb73282441814"), looks := false }, kinds := [], alts := [], laidByText := true, laidKinds := [.data, .pinned], laidTests := true, laidLooks := .later }
def NameKeysUptoCardSaid : Prop := Claim7.holds Tryd.pinned (.plain (OpenSpec.upto nameKeysSpec)) nameKeysUptoCard

/-- THE SECOND FORM's CARD OF 'sodalitylaw01.NameSorts'. -/
def nameSortsUptoCard : Claim7 := { stood := { row := nameSortsUptoRow, standIns := [], harness := (true, "72231b6c03a6f29a1d70901864428b2920b291c28eaec352411cb73282441814"), looks := false }, kinds := [], alts := [], laidByText := true, laidKinds := [.data, .pinned], laidTests := true, laidLooks := .later }
def NameSortsUptoCardSaid : Prop := Claim7.holds Tryd.pinned (.plain (OpenSpec.upto nameSortsSpec)) nameSortsUptoCard

/-- THE SECOND FORM's CARD OF 'sodalitylaw01.NameTags'. -/
def nameTagsUptoCard : Claim7 := { stood := { row := nameTagsUptoRow, standIns := [], harness := (true, "72231b6c03a6f29a1d70901864428b2920b291c28eaec352411cb73282441814"), looks := false }, kinds := [], alts := [], laidByText := true, laidKinds := [.data, .pinned], laidTests := true, laidLooks := .later }
def NameTagsUptoCardSaid : Prop := Claim7.holds Tryd.pinned (.plain (OpenSpec.upto nameTagsSpec)) nameTagsUptoCard

/-- THE SECOND FORM's CARD OF 'sodalitylaw01.NameAgain'. -/
def nameAgainUptoCard : Claim7 := { stood := { row := nameAgainUptoRow, standIns := [], harness := (true, "72231b6c03a6f29a1d70901864428b2920b291c28eaec352411cb73282441814"), looks := false }, kinds := [], alts := [], laidByText := true, laidKinds := [.data, .pinned], laidTests := true, laidLooks := .later }
def NameAgainUptoCardSaid : Prop := Claim7.holds Tryd.pinned (.plain (OpenSpec.upto nameAgainSpec)) nameAgainUptoCard

/-- THE SECOND FORM's CARD OF 'sodalitylaw01.NameParts'. -/
def namePartsUptoCard : Claim7 := { stood := { row := namePartsUptoRow, standIns := [], harness := (true, "72231b6c03a6f29a1d70901864428b2920b291c28eaec352411cb73282441814"), looks := false }, kinds := [], alts := [], laidByText := true, laidKinds := [.data, .pinned], laidTests := true, laidLooks := .later }
def NamePartsUptoCardSaid : Prop := Claim7.holds Tryd.pinned (.plain (OpenSpec.upto namePartsSpec)) namePartsUptoCard
end Rows
end Go.Proofs.YtcnfjimncifbgaaDoor
