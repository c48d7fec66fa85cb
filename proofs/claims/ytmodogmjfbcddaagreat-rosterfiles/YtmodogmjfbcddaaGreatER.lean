/- A block told by its object. -/
import Derived.Test.YtmodogmjfbcddaaGreatGa
import Derived.Test.YtmodogmjfbcddaaGreatEF
import Derived.Test.YtmodogmjfbcddaaGreatEIa
import Derived.Test.YtmodogmjfbcddaaGreatLL
import Derived.Deep.QuietTactic
import Derived.BigQuiet
namespace Go.Proofs.YtmodogmjfbcddaaGreat
open Go.RowKit

end Go.Proofs.YtmodogmjfbcddaaGreat

/- Edits: Parts and has of the reference. -/
namespace Go.Proofs.YtmodogmjfbcddaaGreat
open Go.RowKit

end Go.Proofs.YtmodogmjfbcddaaGreat

/- Edits: may one be, as the reference asks. -/
namespace Go.Proofs.YtmodogmjfbcddaaGreat
open Go.RowKit

end Go.Proofs.YtmodogmjfbcddaaGreat

/- Edits: may one be, as the reference asks: what a log is let go of up to. -/
namespace Go.Proofs.YtmodogmjfbcddaaGreat
open Go.RowKit

end Go.Proofs.YtmodogmjfbcddaaGreat

/- Edits: the numbers that one has, as the reference tells them. -/
namespace Go.Proofs.YtmodogmjfbcddaaGreat
open Go.RowKit

end Go.Proofs.YtmodogmjfbcddaaGreat

/- Edits: may one be, as the reference asks: of any kind. -/
namespace Go.Proofs.YtmodogmjfbcddaaGreat
open Go.RowKit

end Go.Proofs.YtmodogmjfbcddaaGreat
