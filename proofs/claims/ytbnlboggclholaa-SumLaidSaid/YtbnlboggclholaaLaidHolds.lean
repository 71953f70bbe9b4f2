/-
  The sum of three rows of one length, laid over one another, is their sums, laid over one another: the law sodalitylaw02.SumLaid returns true for every three rows, and changes nothing. For every input, without a condition.
-/
import Derived.Test.YtbnlboggclholaaLaidRow
import Derived.Test.YtbnlboggclholaaOwnSum
namespace Go.Proofs.Ytbnlboggclholaa
theorem sumLaid_holds : Rows.SumLaidSaid := sumLaid_row con_held
end Go.Proofs.Ytbnlboggclholaa
