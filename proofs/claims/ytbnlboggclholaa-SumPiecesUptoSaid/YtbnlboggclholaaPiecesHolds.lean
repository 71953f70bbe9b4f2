/-
  Any bytes, in any pieces, have the document's sum; and one sum goes on where another one ended: the law sodalitylaw02.SumPieces returns true for every two texts that are together of bulk at most the bounded statement's number, and changes nothing. The condition: the bulk, at most 1048576.
-/
import Derived.Test.YtbnlboggclholaaPiecesRow
import Derived.Test.YtbnlboggclholaaOwnSum
namespace Go.Proofs.Ytbnlboggclholaa
theorem sumPiecesUpto_holds : Rows.SumPiecesUptoSaid := sumPiecesUpto_row con_held
end Go.Proofs.Ytbnlboggclholaa
