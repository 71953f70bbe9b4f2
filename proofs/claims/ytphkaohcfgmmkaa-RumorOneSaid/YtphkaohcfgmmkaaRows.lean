/-
  No cell of these rows narrows 'for every input' (looked for: loops, veiled, ifaces, maps, wideKeys, modest, calm, conditions, laid).
  DERIVED. THE GIVEN ROWS OF THIS SEAT. 3 by the template 'for every input the law returns true; each argument reads behind the call as it read before'; 0 by the template 'total and deterministic' (their statements: YtphkaohcfgmmkaaTotals.lean).
  GIVEN WITH THE SEED: the statements are not yours to turn. If you find one false, say at which input.
  Laid BY PROGRAM, IN A SANDBOX (cutbox-rows.mjs): the forced cells as the released guide's own fill.sh prints them over the translation ab70a179c23b2437… (all of the seat's roots in one cut). By AI agents, Wed Nov 11 2026. No macro, syntax, notation, axiom, sorry.
-/
import Derived.Test.YtphkaohcfgmmkaaChecked
import GoSem.Claim
import GoSem.ClaimJoined
import GoSem.ClaimMapViews
import Derived.JoinedTies
import Derived.KernelRfl
namespace Go.Proofs.Ytphkaohcfgmmkaa
/- THE CELL 'sum', in the pinned program and in every row, IS THE sha256 OF THE DUMP (.gsa) THAT YtphkaohcfgmmkaaProg.lean LOADS. Nothing in Lean hashes anything: it is a label: what it is worth is what the hold of that sum in a sandbox is worth. -/
noncomputable def Try.pinned : Pinned := { name := "ytphkaohcfgmmkaa", sum := "ab70a179c23b2437688bab229c4d2371e266d5f56fb82c8e068d2a91794bdaac", checked := Try.checked }
namespace Rows
def none {H : Type} : Left H := { results := [], args := [] }

/-- 'sodalitylaw10.RumorOne': WHATEVER THE INPUT: true; the input reads as it did. -/
def rumorOneSpec : ChangeSpec := { name := "rumorOne", fn := fun _ => fun
  | [d1, d2] => { results := [.lit (.bool true)], args := [d1, d2] }
  | _ => none }
def rumorOneRow : OpenClaim := { program := "ytphkaohcfgmmkaa", sum := "ab70a179c23b2437688bab229c4d2371e266d5f56fb82c8e068d2a91794bdaac", func := "sodality/sodalitylaw10.RumorOne", spec := "rumorOne", unfollowed := true, recurses := true, apart := false }
def RumorOneSaid : Prop := rumorOneRow.holds Try.pinned (OpenSpec.ofChange rumorOneSpec)

/-- ITS FALSE NEIGHBOUR: 'it returns false'. Refute it at one input. -/
def rumorOneWrong : ChangeSpec := { name := "rumorOne", fn := fun _ => fun
  | [d1, d2] => { results := [.lit (.bool false)], args := [d1, d2] }
  | _ => none }
def RumorOneWrongFalsely : Prop := rumorOneRow.holds Try.pinned (OpenSpec.ofChange rumorOneWrong)

/-- 'sodalitylaw10.RumorEnough': WHATEVER THE INPUT: true; the input reads as it did. -/
def rumorEnoughSpec : ChangeSpec := { name := "rumorEnough", fn := fun _ => fun
  | [d1, d2, d3] => { results := [.lit (.bool true)], args := [d1, d2, d3] }
  | _ => none }
def rumorEnoughRow : OpenClaim := { program := "ytphkaohcfgmmkaa", sum := "ab70a179c23b2437688bab229c4d2371e266d5f56fb82c8e068d2a91794bdaac", func := "sodality/sodalitylaw10.RumorEnough", spec := "rumorEnough", unfollowed := true, recurses := true, apart := false }
def RumorEnoughSaid : Prop := rumorEnoughRow.holds Try.pinned (OpenSpec.ofChange rumorEnoughSpec)

/-- ITS FALSE NEIGHBOUR: 'it returns false'. Refute it at one input. -/
def rumorEnoughWrong : ChangeSpec := { name := "rumorEnough", fn := fun _ => fun
  | [d1, d2, d3] => { results := [.lit (.bool false)], args := [d1, d2, d3] }
  | _ => none }
def RumorEnoughWrongFalsely : Prop := rumorEnoughRow.holds Try.pinned (OpenSpec.ofChange rumorEnoughWrong)

/-- 'sodalitylaw10.RumorNone': WHATEVER THE INPUT: true; the input reads as it did. -/
def rumorNoneSpec : ChangeSpec := { name := "rumorNone", fn := fun _ => fun
  | [d] => { results := [.lit (.bool true)], args := [d] }
  | _ => none }
def rumorNoneRow : OpenClaim := { program := "ytphkaohcfgmmkaa", sum := "ab70a179c23b2437688bab229c4d2371e266d5f56fb82c8e068d2a91794bdaac", func := "sodality/sodalitylaw10.RumorNone", spec := "rumorNone", unfollowed := true, recurses := true, apart := false }
def RumorNoneSaid : Prop := rumorNoneRow.holds Try.pinned (OpenSpec.ofChange rumorNoneSpec)

/-- ITS FALSE NEIGHBOUR: 'it returns false'. Refute it at one input. -/
def rumorNoneWrong : ChangeSpec := { name := "rumorNone", fn := fun _ => fun
  | [d] => { results := [.lit (.bool false)], args := [d] }
  | _ => none }
def RumorNoneWrongFalsely : Prop := rumorNoneRow.holds Try.pinned (OpenSpec.ofChange rumorNoneWrong)

/- THE SECOND FORM. 'bulk': how many values and letters a reading holds, each counted each time it is reached (what is shared counts as often as it is met; a slice's spare places count too). A statement '..UptoSaid' is the law's where the arguments, and the package variables that the reading takes, are together of bulk at most 1048576: NARROWER than '..Said'. Prove '..Said' where nothing that the law and all that it calls make is longer than what came in: it says more and counts as full. Else prove '..UptoSaid'. A law counts once. -/
mutual
def uptoBulk {H : Type} : DataW H → Nat
  | .lit (.string bytes) => bytes.length + 1
  | .lit _ => 1
  | .nil => 1
  | .ptr d => uptoBulk d + 1
  | .slice elems spare => uptoBulkAll elems + uptoBulkAll spare + 1
  | .agg parts => uptoBulkAll parts + 1
  | .iface _ d => uptoBulk d + 1
  | .map entries => uptoBulkEntries entries + 1
  | .held _ => 1
def uptoBulkAll {H : Type} : List (DataW H) → Nat
  | [] => 0
  | d :: r => uptoBulk d + uptoBulkAll r
def uptoBulkEntries {H : Type} : List (Lit × DataW H) → Nat
  | [] => 0
  | x :: r => uptoBulkEntry x + uptoBulkEntries r
def uptoBulkEntry {H : Type} : Lit × DataW H → Nat
  | (.string bytes, d) => bytes.length + uptoBulk d + 1
  | (_, d) => uptoBulk d + 1
 end
def uptoSmall : (H : Type) → List (DataW H) → Bool := fun _ ds => decide (uptoBulkAll ds ≤ 1048576)
def OpenSpec.upto (s : _root_.Go.ChangeSpec) : _root_.Go.OpenSpec := { _root_.Go.OpenSpec.ofChange s with cond := some uptoSmall }

/-- 'sodalitylaw10.RumorOne', WHERE WHAT IT READS IS OF BULK AT MOST 1048576: true; the input reads as it did. -/
def rumorOneUptoRow : OpenClaim := { program := "ytphkaohcfgmmkaa", sum := "ab70a179c23b2437688bab229c4d2371e266d5f56fb82c8e068d2a91794bdaac", func := "sodality/sodalitylaw10.RumorOne", spec := "rumorOne", unfollowed := true, recurses := true, apart := false, narrowed := true }
def RumorOneUptoSaid : Prop := rumorOneUptoRow.holds Try.pinned (OpenSpec.upto rumorOneSpec)

/-- 'sodalitylaw10.RumorEnough', WHERE WHAT IT READS IS OF BULK AT MOST 1048576: true; the input reads as it did. -/
def rumorEnoughUptoRow : OpenClaim := { program := "ytphkaohcfgmmkaa", sum := "ab70a179c23b2437688bab229c4d2371e266d5f56fb82c8e068d2a91794bdaac", func := "sodality/sodalitylaw10.RumorEnough", spec := "rumorEnough", unfollowed := true, recurses := true, apart := false, narrowed := true }
def RumorEnoughUptoSaid : Prop := rumorEnoughUptoRow.holds Try.pinned (OpenSpec.upto rumorEnoughSpec)

/-- 'sodalitylaw10.RumorNone', WHERE WHAT IT READS IS OF BULK AT MOST 1048576: true; the input reads as it did. -/
def rumorNoneUptoRow : OpenClaim := { program := "ytphkaohcfgmmkaa", sum := "ab70a179c23b2437688bab229c4d2371e266d5f56fb82c8e068d2a91794bdaac", func := "sodality/sodalitylaw10.RumorNone", spec := "rumorNone", unfollowed := true, recurses := true, apart := false, narrowed := true }
def RumorNoneUptoSaid : Prop := rumorNoneUptoRow.holds Try.pinned (OpenSpec.upto rumorNoneSpec)

end Rows
end Go.Proofs.Ytphkaohcfgmmkaa
