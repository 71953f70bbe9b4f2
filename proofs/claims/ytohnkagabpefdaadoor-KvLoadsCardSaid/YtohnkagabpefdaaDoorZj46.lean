/-
  A step of layer 16's laws, as it comes.
-/
import Derived.Test.YtohnkagabpefdaaDoorZj27
namespace Go.Proofs.YtohnkagabpefdaaDoor
open Go.RowKit
set_option linter.unusedSimpArgs false
set_option linter.unusedVariables false

/-- A step as it comes. -/
structure KSt where
  kind : Int
  key : ByteArray
  val : ByteArray
  old : Nat
  ses : Nat
  ix : Nat
abbrev TS : TypeId := 34
def stCs (s : KSt) : List Value := [.int .i64 s.kind, .string s.key, .string s.val, .int .u64 (s.old : Int), .int .u64 (s.ses : Int), .int .u64 (s.ix : Int)]
def stV (s : KSt) : Value := .agg #[.int .i64 s.kind, .string s.key, .string s.val, .int .u64 (s.old : Int), .int .u64 (s.ses : Int), .int .u64 (s.ix : Int)]
structure KSt.Ok (s : KSt) : Prop where
  key : s.key.size ≤ maxLen
  val : s.val.size ≤ maxLen
  old : s.old < 18446744073709551616
  ses : s.ses < 18446744073709551616
  ix : s.ix < 18446744073709551616
end Go.Proofs.YtohnkagabpefdaaDoor
