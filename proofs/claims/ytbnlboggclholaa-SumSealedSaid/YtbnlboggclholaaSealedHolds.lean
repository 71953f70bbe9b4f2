/-
  Any bytes, and their sum behind them, are sealed; any bytes are just if the document says so: the law sodalitylaw02.SumSealed returns true for every bytes, and changes nothing. For every input, without a condition.
-/
import Derived.Test.YtbnlboggclholaaSealedRow
import Derived.Test.YtbnlboggclholaaOwnSum
namespace Go.Proofs.Ytbnlboggclholaa
theorem sumSealed_holds : Rows.SumSealedSaid := sumSealed_row con_held
end Go.Proofs.Ytbnlboggclholaa
