/-
  NARROWER THAN 'FOR EVERY INPUT', by the rows' own cells (each row's printed sentence says how): SwimRights: laid · SwimNone: laid · SwimRises: laid · SwimDoubts: laid · SwimRefutes: laid · SwimAnswers: laid · SwimCalm: laid.
  DERIVED. THE GIVEN ROWS OF THIS SEAT. 7 by the template 'for every input the law returns true; each argument reads behind the call as it read before'; 0 by the template 'total and deterministic' (their statements: YtaicipldjmngaaaGreatDoorTotals.lean).
  GIVEN WITH THE SEED: the statements are not yours to turn. If you find one false, say at which input.
  Laid BY PROGRAM, IN A SANDBOX (cutbox-rows.mjs): the forced cells as the released guide's own fill.sh prints them over the translation eae1df2b94a8ba05… (all of the seat's roots in one cut). By AI agents, Wed Nov 11 2026. No macro, syntax, notation, axiom, sorry.
-/
import Derived.Test.YtaicipldjmngaaaGreatDoorChecked
import GoSem.Claim
import GoSem.ClaimJoined
import GoSem.ClaimMapViews
import Derived.JoinedTies
import Derived.KernelRfl
namespace Go.Proofs.YtaicipldjmngaaaGreatDoor
/- THE CELL 'sum', in the pinned program and in every row, IS THE sha256 OF THE DUMP (.gsa) THAT YtaicipldjmngaaaGreatDoorProg.lean LOADS. Nothing in Lean hashes anything: it is a label: what it is worth is what the hold of that sum in a sandbox is worth. -/
noncomputable def Tryz.pinned : Pinned := { name := "ytaicipldjmngaaagreatdoor", sum := "eae1df2b94a8ba051b8b1b297a910106881cb3094a19914a2d59a4ff2f328e5e", checked := Tryz.checked }
namespace Rows
def none {H : Type} : Left H := { results := [], args := [] }

/- WHAT THE LISTED PACKAGE-LEVEL VARIABLES READ AS WHEN THE CALL BEGINS. Each datum BY PROGRAM (the guide's laid-datum.mjs) off the statement by which the dump's own 'gosem.cut.vars' lays the variable. In a bare row this is a premise. The card (YtaicipldjmngaaaGreatDoorCards.lean) ties it to the program's text. -/
def laid_sodality_doubt_scale {H : Type} : DataW H := .agg [.lit (.int .i64 0), .lit (.int .i64 0), .lit (.int .i64 1000), .lit (.int .i64 1585), .lit (.int .i64 2000), .lit (.int .i64 2322), .lit (.int .i64 2585), .lit (.int .i64 2807), .lit (.int .i64 3000), .lit (.int .i64 3170)]

/-- 'sodalitylaw14.SwimRights': WHATEVER THE INPUT: true; the input reads as it did. -/
def swimRightsSpec : ChangeSpec := { name := "swimRights", fn := fun _ => fun
  | [d] => { results := [.lit (.bool true)], args := [d] }
  | _ => none }
def swimRightsRow : OpenClaim := { program := "ytaicipldjmngaaagreatdoor", sum := "eae1df2b94a8ba051b8b1b297a910106881cb3094a19914a2d59a4ff2f328e5e", func := "sodality/sodalitylaw14.SwimRights", spec := "swimRights", unfollowed := true, recurses := true, named := ["sodality/doubt.scale"], apart := false, laid := [("sodality/doubt.scale", laid_sodality_doubt_scale)] }
def SwimRightsSaid : Prop := swimRightsRow.holds Tryz.pinned (OpenSpec.ofChange swimRightsSpec)

/-- ITS FALSE NEIGHBOUR: 'it returns false'. Refute it at one input. -/
def swimRightsWrong : ChangeSpec := { name := "swimRights", fn := fun _ => fun
  | [d] => { results := [.lit (.bool false)], args := [d] }
  | _ => none }
def SwimRightsWrongFalsely : Prop := swimRightsRow.holds Tryz.pinned (OpenSpec.ofChange swimRightsWrong)

/-- 'sodalitylaw14.SwimNone': WHATEVER THE INPUT: true; the input reads as it did. -/
def swimNoneSpec : ChangeSpec := { name := "swimNone", fn := fun _ => fun
  | [d1, d2] => { results := [.lit (.bool true)], args := [d1, d2] }
  | _ => none }
def swimNoneRow : OpenClaim := { program := "ytaicipldjmngaaagreatdoor", sum := "eae1df2b94a8ba051b8b1b297a910106881cb3094a19914a2d59a4ff2f328e5e", func := "sodality/sodalitylaw14.SwimNone", spec := "swimNone", unfollowed := true, recurses := true, named := ["sodality/doubt.scale"], apart := false, laid := [("sodality/doubt.scale", laid_sodality_doubt_scale)] }
def SwimNoneSaid : Prop := swimNoneRow.holds Tryz.pinned (OpenSpec.ofChange swimNoneSpec)

/-- ITS FALSE NEIGHBOUR: 'it returns false'. Refute it at one input. -/
def swimNoneWrong : ChangeSpec := { name := "swimNone", fn := fun _ => fun
  | [d1, d2] => { results := [.lit (.bool false)], args := [d1, d2] }
  | _ => none }
def SwimNoneWrongFalsely : Prop := swimNoneRow.holds Tryz.pinned (OpenSpec.ofChange swimNoneWrong)

/-- 'sodalitylaw14.SwimRises': WHATEVER THE INPUT: true; the input reads as it did. -/
def swimRisesSpec : ChangeSpec := { name := "swimRises", fn := fun _ => fun
  | [d1, d2] => { results := [.lit (.bool true)], args := [d1, d2] }
  | _ => none }
def swimRisesRow : OpenClaim := { program := "ytaicipldjmngaaagreatdoor", sum := "eae1df2b94a8ba051b8b1b297a910106881cb3094a19914a2d59a4ff2f328e5e", func := "sodality/sodalitylaw14.SwimRises", spec := "swimRises", unfollowed := true, recurses := true, named := ["sodality/doubt.scale"], apart := false, laid := [("sodality/doubt.scale", laid_sodality_doubt_scale)] }
def SwimRisesSaid : Prop := swimRisesRow.holds Tryz.pinned (OpenSpec.ofChange swimRisesSpec)

/-- ITS FALSE NEIGHBOUR: 'it returns false'. Refute it at one input. -/
def swimRisesWrong : ChangeSpec := { name := "swimRises", fn := fun _ => fun
  | [d1, d2] => { results := [.lit (.bool false)], args := [d1, d2] }
  | _ => none }
def SwimRisesWrongFalsely : Prop := swimRisesRow.holds Tryz.pinned (OpenSpec.ofChange swimRisesWrong)

/-- 'sodalitylaw14.SwimDoubts': WHATEVER THE INPUT: true; the input reads as it did. -/
def swimDoubtsSpec : ChangeSpec := { name := "swimDoubts", fn := fun _ => fun
  | [d1, d2] => { results := [.lit (.bool true)], args := [d1, d2] }
  | _ => none }
def swimDoubtsRow : OpenClaim := { program := "ytaicipldjmngaaagreatdoor", sum := "eae1df2b94a8ba051b8b1b297a910106881cb3094a19914a2d59a4ff2f328e5e", func := "sodality/sodalitylaw14.SwimDoubts", spec := "swimDoubts", unfollowed := true, recurses := true, named := ["sodality/doubt.scale"], apart := false, laid := [("sodality/doubt.scale", laid_sodality_doubt_scale)] }
def SwimDoubtsSaid : Prop := swimDoubtsRow.holds Tryz.pinned (OpenSpec.ofChange swimDoubtsSpec)

/-- ITS FALSE NEIGHBOUR: 'it returns false'. Refute it at one input. -/
def swimDoubtsWrong : ChangeSpec := { name := "swimDoubts", fn := fun _ => fun
  | [d1, d2] => { results := [.lit (.bool false)], args := [d1, d2] }
  | _ => none }
def SwimDoubtsWrongFalsely : Prop := swimDoubtsRow.holds Tryz.pinned (OpenSpec.ofChange swimDoubtsWrong)

/-- 'sodalitylaw14.SwimRefutes': WHATEVER THE INPUT: true; the input reads as it did. -/
def swimRefutesSpec : ChangeSpec := { name := "swimRefutes", fn := fun _ => fun
  | [d1, d2, d3] => { results := [.lit (.bool true)], args := [d1, d2, d3] }
  | _ => none }
def swimRefutesRow : OpenClaim := { program := "ytaicipldjmngaaagreatdoor", sum := "eae1df2b94a8ba051b8b1b297a910106881cb3094a19914a2d59a4ff2f328e5e", func := "sodality/sodalitylaw14.SwimRefutes", spec := "swimRefutes", unfollowed := true, recurses := true, named := ["sodality/doubt.scale"], apart := false, laid := [("sodality/doubt.scale", laid_sodality_doubt_scale)] }
def SwimRefutesSaid : Prop := swimRefutesRow.holds Tryz.pinned (OpenSpec.ofChange swimRefutesSpec)

/-- ITS FALSE NEIGHBOUR: 'it returns false'. Refute it at one input. -/
def swimRefutesWrong : ChangeSpec := { name := "swimRefutes", fn := fun _ => fun
  | [d1, d2, d3] => { results := [.lit (.bool false)], args := [d1, d2, d3] }
  | _ => none }
def SwimRefutesWrongFalsely : Prop := swimRefutesRow.holds Tryz.pinned (OpenSpec.ofChange swimRefutesWrong)

/-- 'sodalitylaw14.SwimAnswers': WHATEVER THE INPUT: true; the input reads as it did. -/
def swimAnswersSpec : ChangeSpec := { name := "swimAnswers", fn := fun _ => fun
  | [d1, d2, d3] => { results := [.lit (.bool true)], args := [d1, d2, d3] }
  | _ => none }
def swimAnswersRow : OpenClaim := { program := "ytaicipldjmngaaagreatdoor", sum := "eae1df2b94a8ba051b8b1b297a910106881cb3094a19914a2d59a4ff2f328e5e", func := "sodality/sodalitylaw14.SwimAnswers", spec := "swimAnswers", unfollowed := true, recurses := true, named := ["sodality/doubt.scale"], apart := false, laid := [("sodality/doubt.scale", laid_sodality_doubt_scale)] }
def SwimAnswersSaid : Prop := swimAnswersRow.holds Tryz.pinned (OpenSpec.ofChange swimAnswersSpec)

/-- ITS FALSE NEIGHBOUR: 'it returns false'. Refute it at one input. -/
def swimAnswersWrong : ChangeSpec := { name := "swimAnswers", fn := fun _ => fun
  | [d1, d2, d3] => { results := [.lit (.bool false)], args := [d1, d2, d3] }
  | _ => none }
def SwimAnswersWrongFalsely : Prop := swimAnswersRow.holds Tryz.pinned (OpenSpec.ofChange swimAnswersWrong)

/-- 'sodalitylaw14.SwimCalm': WHATEVER THE INPUT: true; the input reads as it did. -/
def swimCalmSpec : ChangeSpec := { name := "swimCalm", fn := fun _ => fun
  | [d1, d2, d3] => { results := [.lit (.bool true)], args := [d1, d2, d3] }
  | _ => none }
def swimCalmRow : OpenClaim := { program := "ytaicipldjmngaaagreatdoor", sum := "eae1df2b94a8ba051b8b1b297a910106881cb3094a19914a2d59a4ff2f328e5e", func := "sodality/sodalitylaw14.SwimCalm", spec := "swimCalm", unfollowed := true, recurses := true, named := ["sodality/doubt.scale"], apart := false, laid := [("sodality/doubt.scale", laid_sodality_doubt_scale)] }
def SwimCalmSaid : Prop := swimCalmRow.holds Tryz.pinned (OpenSpec.ofChange swimCalmSpec)

/-- ITS FALSE NEIGHBOUR: 'it returns false'. Refute it at one input. -/
def swimCalmWrong : ChangeSpec := { name := "swimCalm", fn := fun _ => fun
  | [d1, d2, d3] => { results := [.lit (.bool false)], args := [d1, d2, d3] }
  | _ => none }
def SwimCalmWrongFalsely : Prop := swimCalmRow.holds Tryz.pinned (OpenSpec.ofChange swimCalmWrong)

/- THE SECOND FORM. 'bulk': how many values and letters a reading holds, each counted each time it is reached (what is shared counts as often as it is met; a slice's spare places count too). A statement '..UptoSaid' is the law's where the arguments, and the package variables that the reading takes, are together of bulk at most 1048576: NARROWER than '..Said'. Prove '..Said' where nothing that the law and all that it calls make is longer than what came in: it says more and counts as full. Else prove '..UptoSaid'. A law counts once. -/
mutual
def uptoBulk {H : Type} : DataW H → Nat
  | .lit (.string bytes) => bytes.length + 1
  | .lit _ => 1
  | .nil => 1
  | .ptr d => uptoBulk d + 1
  | .slice elems spare => uptoBulkAll elems + uptoBulkAll spare + 1
  | .agg parts => uptoBulkAll parts + 1
  | .iface _ d => uptoBulk d + 1
  | .map entries => uptoBulkEntries entries + 1
  | .held _ => 1
def uptoBulkAll {H : Type} : List (DataW H) → Nat
  | [] => 0
  | d :: r => uptoBulk d + uptoBulkAll r
def uptoBulkEntries {H : Type} : List (Lit × DataW H) → Nat
  | [] => 0
  | x :: r => uptoBulkEntry x + uptoBulkEntries r
def uptoBulkEntry {H : Type} : Lit × DataW H → Nat
  | (.string bytes, d) => bytes.length + uptoBulk d + 1
  | (_, d) => uptoBulk d + 1
 end
def uptoSmall : (H : Type) → List (DataW H) → Bool := fun _ ds => decide (uptoBulkAll ds ≤ 1048576)
def OpenSpec.upto (s : _root_.Go.ChangeSpec) : _root_.Go.OpenSpec := { _root_.Go.OpenSpec.ofChange s with cond := some uptoSmall }

/-- 'sodalitylaw14.SwimRights', WHERE WHAT IT READS IS OF BULK AT MOST 1048576: true; the input reads as it did. -/
def swimRightsUptoRow : OpenClaim := { program := "ytaicipldjmngaaagreatdoor", sum := "eae1df2b94a8ba051b8b1b297a910106881cb3094a19914a2d59a4ff2f328e5e", func := "sodality/sodalitylaw14.SwimRights", spec := "swimRights", unfollowed := true, recurses := true, named := ["sodality/doubt.scale"], apart := false, laid := [("sodality/doubt.scale", laid_sodality_doubt_scale)], narrowed := true }
def SwimRightsUptoSaid : Prop := swimRightsUptoRow.holds Tryz.pinned (OpenSpec.upto swimRightsSpec)

/-- 'sodalitylaw14.SwimNone', WHERE WHAT IT READS IS OF BULK AT MOST 1048576: true; the input reads as it did. -/
def swimNoneUptoRow : OpenClaim := { program := "ytaicipldjmngaaagreatdoor", sum := "eae1df2b94a8ba051b8b1b297a910106881cb3094a19914a2d59a4ff2f328e5e", func := "sodality/sodalitylaw14.SwimNone", spec := "swimNone", unfollowed := true, recurses := true, named := ["sodality/doubt.scale"], apart := false, laid := [("sodality/doubt.scale", laid_sodality_doubt_scale)], narrowed := true }
def SwimNoneUptoSaid : Prop := swimNoneUptoRow.holds Tryz.pinned (OpenSpec.upto swimNoneSpec)

/-- 'sodalitylaw14.SwimRises', WHERE WHAT IT READS IS OF BULK AT MOST 1048576: true; the input reads as it did. -/
def swimRisesUptoRow : OpenClaim := { program := "ytaicipldjmngaaagreatdoor", sum := "eae1df2b94a8ba051b8b1b297a910106881cb3094a19914a2d59a4ff2f328e5e", func := "sodality/sodalitylaw14.SwimRises", spec := "swimRises", unfollowed := true, recurses := true, named := ["sodality/doubt.scale"], apart := false, laid := [("sodality/doubt.scale", laid_sodality_doubt_scale)], narrowed := true }
def SwimRisesUptoSaid : Prop := swimRisesUptoRow.holds Tryz.pinned (OpenSpec.upto swimRisesSpec)

/-- 'sodalitylaw14.SwimDoubts', WHERE WHAT IT READS IS OF BULK AT MOST 1048576: true; the input reads as it did. -/
def swimDoubtsUptoRow : OpenClaim := { program := "ytaicipldjmngaaagreatdoor", sum := "eae1df2b94a8ba051b8b1b297a910106881cb3094a19914a2d59a4ff2f328e5e", func := "sodality/sodalitylaw14.SwimDoubts", spec := "swimDoubts", unfollowed := true, recurses := true, named := ["sodality/doubt.scale"], apart := false, laid := [("sodality/doubt.scale", laid_sodality_doubt_scale)], narrowed := true }
def SwimDoubtsUptoSaid : Prop := swimDoubtsUptoRow.holds Tryz.pinned (OpenSpec.upto swimDoubtsSpec)

/-- 'sodalitylaw14.SwimRefutes', WHERE WHAT IT READS IS OF BULK AT MOST 1048576: true; the input reads as it did. -/
def swimRefutesUptoRow : OpenClaim := { program := "ytaicipldjmngaaagreatdoor", sum := "eae1df2b94a8ba051b8b1b297a910106881cb3094a19914a2d59a4ff2f328e5e", func := "sodality/sodalitylaw14.SwimRefutes", spec := "swimRefutes", unfollowed := true, recurses := true, named := ["sodality/doubt.scale"], apart := false, laid := [("sodality/doubt.scale", laid_sodality_doubt_scale)], narrowed := true }
def SwimRefutesUptoSaid : Prop := swimRefutesUptoRow.holds Tryz.pinned (OpenSpec.upto swimRefutesSpec)

/-- 'sodalitylaw14.SwimAnswers', WHERE WHAT IT READS IS OF BULK AT MOST 1048576: true; the input reads as it did. -/
def swimAnswersUptoRow : OpenClaim := { program := "ytaicipldjmngaaagreatdoor", sum := "eae1df2b94a8ba051b8b1b297a910106881cb3094a19914a2d59a4ff2f328e5e", func := "sodality/sodalitylaw14.SwimAnswers", spec := "swimAnswers", unfollowed := true, recurses := true, named := ["sodality/doubt.scale"], apart := false, laid := [("sodality/doubt.scale", laid_sodality_doubt_scale)], narrowed := true }
def SwimAnswersUptoSaid : Prop := swimAnswersUptoRow.holds Tryz.pinned (OpenSpec.upto swimAnswersSpec)

/-- 'sodalitylaw14.SwimCalm', WHERE WHAT IT READS IS OF BULK AT MOST 1048576: true; the input reads as it did. -/
def swimCalmUptoRow : OpenClaim := { program := "ytaicipldjmngaaagreatdoor", sum := "eae1df2b94a8ba051b8b1b297a910106881cb3094a19914a2d59a4ff2f328e5e", func := "sodality/sodalitylaw14.SwimCalm", spec := "swimCalm", unfollowed := true, recurses := true, named := ["sodality/doubt.scale"], apart := false, laid := [("sodality/doubt.scale", laid_sodality_doubt_scale)], narrowed := true }
def SwimCalmUptoSaid : Prop := swimCalmUptoRow.holds Tryz.pinned (OpenSpec.upto swimCalmSpec)

end Rows
end Go.Proofs.YtaicipldjmngaaaGreatDoor
