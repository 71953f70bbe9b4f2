/-
  Bits that are turned within 32 that follow one another turn the sum, and spoil what is sealed: the law sodalitylaw02.SumBursts returns true for every bytes and every spoil, and changes nothing. For every input, without a condition.
-/
import Derived.Test.YtbnlboggclholaaBurstsRow
import Derived.Test.YtbnlboggclholaaOwnSum
namespace Go.Proofs.Ytbnlboggclholaa
theorem sumBursts_holds : Rows.SumBurstsSaid := sumBursts_row con_held
end Go.Proofs.Ytbnlboggclholaa
