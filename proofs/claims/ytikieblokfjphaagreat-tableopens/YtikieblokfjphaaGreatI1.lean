/- What the reference's Ints does. -/
import Derived.Test.YtikieblokfjphaaGreatGa
import Derived.Deep.QuietTactic
import Derived.BigQuiet
namespace Go.Proofs.YtikieblokfjphaaGreat
open Go.RowKit

end Go.Proofs.YtikieblokfjphaaGreat
