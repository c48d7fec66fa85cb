/- What the reference's Ints does. -/
import Derived.Test.YtgdefibgifcbaaaGa
import Derived.Deep.QuietTactic
import Derived.BigQuiet
namespace Go.Proofs.Ytgdefibgifcbaaa
open Go.RowKit

end Go.Proofs.Ytgdefibgifcbaaa
