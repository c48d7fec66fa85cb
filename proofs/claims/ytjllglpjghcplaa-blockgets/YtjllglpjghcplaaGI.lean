/- Rows of ints and of texts, by the general rows; a text's bytes as a new row. -/
import Derived.Test.YtjllglpjghcplaaGR
import Derived.Test.YtjllglpjghcplaaK1
import Derived.Laws.IdiomStrings
namespace Go.Proofs.Ytjllglpjghcplaa
open Go.RowKit

end Go.Proofs.Ytjllglpjghcplaa
