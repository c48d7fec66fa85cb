/- Rows of ints and of texts, by the general rows; a text's bytes as a new row. -/
import Derived.Test.YtpoocjffkhjeaaaGR
import Derived.Test.YtpoocjffkhjeaaaK1
import Derived.Laws.IdiomStrings
namespace Go.Proofs.Ytpoocjffkhjeaaa
open Go.RowKit

end Go.Proofs.Ytpoocjffkhjeaaa
