/-
  From any sum any bytes go on as the document says: the law sodalitylaw02.SumFrom returns true for every sum and every bytes, and changes nothing. For every input, without a condition.
-/
import Derived.Test.YtbnlboggclholaaFromRow
import Derived.Test.YtbnlboggclholaaOwnSum
namespace Go.Proofs.Ytbnlboggclholaa
theorem sumFrom_holds : Rows.SumFromSaid := sumFrom_row con_held
end Go.Proofs.Ytbnlboggclholaa
