/- What the reference's Ints does. -/
import Derived.Test.YtikieblokfjphaaGa
import Derived.Deep.QuietTactic
import Derived.BigQuiet
namespace Go.Proofs.Ytikieblokfjphaa
open Go.RowKit

end Go.Proofs.Ytikieblokfjphaa
