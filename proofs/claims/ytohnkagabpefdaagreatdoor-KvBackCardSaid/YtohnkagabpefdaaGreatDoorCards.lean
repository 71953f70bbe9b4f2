/-
  DERIVED. GIVEN WITH THE SEED: THE CARDS: each row of YtohnkagabpefdaaGreatDoorRows.lean that lists a variable, with what it lists TIED to the program's text (the seventh form; the later family's looks); each row that meets fmt, with fmt's text TOLD by the authors' own Lean function (tested against real Go, not proved from fmt's source: count such statements apart). THE CARD IS WHAT COUNTS. Prove the row's statement (the work); the ties are given (YtohnkagabpefdaaGreatDoorTie.lean); close each card by the builder's one call (the guide's Derived/Test/ToyasCard.lean, 'card_holds'). Laid BY PROGRAM, IN A SANDBOX (cutbox-door.mjs). By AI agents, Wed Nov 11 2026. No macro, syntax, notation, axiom, sorry.
-/
import Derived.Test.YtohnkagabpefdaaGreatDoorRows
import GoSem.ClaimSeven
namespace Go.Proofs.YtohnkagabpefdaaGreatDoor
namespace Rows

/-- THE TIED CARD OF 'sodalitylaw16.KvPlays'. -/
def kvPlaysCard : Claim7 := { stood := { row := kvPlaysRow, standIns := [], harness := (true, "50d836ff96acb3752b3413de1d660e5032dfd778b84f2af78455d9ce3be69a6a"), looks := false }, kinds := [], alts := [], laidByText := true, laidKinds := [.data, .pinned], laidTests := true, laidLooks := .later }
def KvPlaysCardSaid : Prop := Claim7.holds Tryz.pinned (.plain (OpenSpec.ofChange kvPlaysSpec)) kvPlaysCard

/-- THE TIED CARD OF 'sodalitylaw16.KvOnce'. -/
def kvOnceCard : Claim7 := { stood := { row := kvOnceRow, standIns := [], harness := (true, "50d836ff96acb3752b3413de1d660e5032dfd778b84f2af78455d9ce3be69a6a"), looks := false }, kinds := [], alts := [], laidByText := true, laidKinds := [.data, .pinned], laidTests := true, laidLooks := .later }
def KvOnceCardSaid : Prop := Claim7.holds Tryz.pinned (.plain (OpenSpec.ofChange kvOnceSpec)) kvOnceCard

/-- THE TIED CARD OF 'sodalitylaw16.KvHeld'. -/
def kvHeldCard : Claim7 := { stood := { row := kvHeldRow, standIns := [], harness := (true, "50d836ff96acb3752b3413de1d660e5032dfd778b84f2af78455d9ce3be69a6a"), looks := false }, kinds := [], alts := [], laidByText := true, laidKinds := [.data, .pinned], laidTests := true, laidLooks := .later }
def KvHeldCardSaid : Prop := Claim7.holds Tryz.pinned (.plain (OpenSpec.ofChange kvHeldSpec)) kvHeldCard

/-- THE TIED CARD OF 'sodalitylaw16.KvBack'. -/
def kvBackCard : Claim7 := { stood := { row := kvBackRow, standIns := [], harness := (true, "50d836ff96acb3752b3413de1d660e5032dfd778b84f2af78455d9ce3be69a6a"), looks := false }, kinds := [], alts := [], laidByText := true, laidKinds := [.data, .pinned], laidTests := true, laidLooks := .later }
def KvBackCardSaid : Prop := Claim7.holds Tryz.pinned (.plain (OpenSpec.ofChange kvBackSpec)) kvBackCard

/-- THE SECOND FORM's CARD OF 'sodalitylaw16.KvPlays'. -/
def kvPlaysUptoCard : Claim7 := { stood := { row := kvPlaysUptoRow, standIns := [], harness := (true, "50d836ff96acb3752b3413de1d660e5032dfd778b84f2af78455d9ce3be69a6a"), looks := false }, kinds := [], alts := [], laidByText := true, laidKinds := [.data, .pinned], laidTests := true, laidLooks := .later }
def KvPlaysUptoCardSaid : Prop := Claim7.holds Tryz.pinned (.plain (OpenSpec.upto kvPlaysSpec)) kvPlaysUptoCard

/-- THE SECOND FORM's CARD OF 'sodalitylaw16.KvOnce'. -/
def kvOnceUptoCard : Claim7 := { stood := { row := kvOnceUptoRow, standIns := [], harness := (true, "50d836ff96acb3752b3413de1d660e5032dfd778b84f2af78455d9ce3be69a6a"), looks := false }, kinds := [], alts := [], laidByText := true, laidKinds := [.data, .pinned], laidTests := true, laidLooks := .later }
def KvOnceUptoCardSaid : Prop := Claim7.holds Tryz.pinned (.plain (OpenSpec.upto kvOnceSpec)) kvOnceUptoCard

/-- THE SECOND FORM's CARD OF 'sodalitylaw16.KvHeld'. -/
def kvHeldUptoCard : Claim7 := { stood := { row := kvHeldUptoRow, standIns := [], harness := (true, "50d836ff96acb3752b3413de1d660e5032dfd778b84f2af78455d9ce3be69a6a"), looks := false }, kinds := [], alts := [], laidByText := true, laidKinds := [.data, .pinned], laidTests := true, laidLooks := .later }
def KvHeldUptoCardSaid : Prop := Claim7.holds Tryz.pinned (.plain (OpenSpec.upto kvHeldSpec)) kvHeldUptoCard

/-- THE SECOND FORM's CARD OF 'sodalitylaw16.KvBack'. -/
def kvBackUptoCard : Claim7 := { stood := { row := kvBackUptoRow, standIns := [], harness := (true, "50d836ff96acb3752b3413de1d660e5032dfd778b84f2af78455d9ce3be69a6a"), looks := false }, kinds := [], alts := [], laidByText := true, laidKinds := [.data, .pinned], laidTests := true, laidLooks := .later }
def KvBackUptoCardSaid : Prop := Claim7.holds Tryz.pinned (.plain (OpenSpec.upto kvBackSpec)) kvBackUptoCard
end Rows
end Go.Proofs.YtohnkagabpefdaaGreatDoor
