/-
  DERIVED. GIVEN WITH THE SEED: THE CARDS: each row of YtohnkagabpefdaaDoorRows.lean that lists a variable, with what it lists TIED to the program's text (the seventh form; the later family's looks); each row that meets fmt, with fmt's text TOLD by the authors' own Lean function (tested against real Go, not proved from fmt's source: count such statements apart). THE CARD IS WHAT COUNTS. Prove the row's statement (the work); the ties are given (YtohnkagabpefdaaDoorTie.lean); close each card by the builder's one call (the guide's Derived/Test/ToyasCard.lean, 'card_holds'). Laid BY PROGRAM, IN A SANDBOX (cutbox-door.mjs). By AI agents, Wed Nov 11 2026. No macro, syntax, notation, axiom, sorry.
-/
import Derived.Test.YtohnkagabpefdaaDoorRows
import GoSem.ClaimSeven
namespace Go.Proofs.YtohnkagabpefdaaDoor
namespace Rows

/-- THE TIED CARD OF 'sodalitylaw16.KvLoads'. -/
def kvLoadsCard : Claim7 := { stood := { row := kvLoadsRow, standIns := [], harness := (true, "2bcde1032ad5543ce782610e3616a88f2c9e1d12530c52a92a5581c03f13b40c"), looks := false }, kinds := [], alts := [], laidByText := true, laidKinds := [.data, .pinned], laidTests := true, laidLooks := .later }
def KvLoadsCardSaid : Prop := Claim7.holds Tryd.pinned (.plain (OpenSpec.ofChange kvLoadsSpec)) kvLoadsCard

/-- THE TIED CARD OF 'sodalitylaw16.KvNone'. -/
def kvNoneCard : Claim7 := { stood := { row := kvNoneRow, standIns := [], harness := (true, "2bcde1032ad5543ce782610e3616a88f2c9e1d12530c52a92a5581c03f13b40c"), looks := false }, kinds := [], alts := [], laidByText := true, laidKinds := [.data, .pinned], laidTests := true, laidLooks := .later }
def KvNoneCardSaid : Prop := Claim7.holds Tryd.pinned (.plain (OpenSpec.ofChange kvNoneSpec)) kvNoneCard

/-- THE SECOND FORM's CARD OF 'sodalitylaw16.KvLoads'. -/
def kvLoadsUptoCard : Claim7 := { stood := { row := kvLoadsUptoRow, standIns := [], harness := (true, "2bcde1032ad5543ce782610e3616a88f2c9e1d12530c52a92a5581c03f13b40c"), looks := false }, kinds := [], alts := [], laidByText := true, laidKinds := [.data, .pinned], laidTests := true, laidLooks := .later }
def KvLoadsUptoCardSaid : Prop := Claim7.holds Tryd.pinned (.plain (OpenSpec.upto kvLoadsSpec)) kvLoadsUptoCard

/-- THE SECOND FORM's CARD OF 'sodalitylaw16.KvNone'. -/
def kvNoneUptoCard : Claim7 := { stood := { row := kvNoneUptoRow, standIns := [], harness := (true, "2bcde1032ad5543ce782610e3616a88f2c9e1d12530c52a92a5581c03f13b40c"), looks := false }, kinds := [], alts := [], laidByText := true, laidKinds := [.data, .pinned], laidTests := true, laidLooks := .later }
def KvNoneUptoCardSaid : Prop := Claim7.holds Tryd.pinned (.plain (OpenSpec.upto kvNoneSpec)) kvNoneUptoCard
end Rows
end Go.Proofs.YtohnkagabpefdaaDoor
