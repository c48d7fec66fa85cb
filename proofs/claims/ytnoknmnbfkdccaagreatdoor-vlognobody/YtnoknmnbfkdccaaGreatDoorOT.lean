/- From the reading of an argument to what it is: ints, texts, slices of flat structs. -/
import Derived.Test.YtnoknmnbfkdccaaGreatDoorGa
import Derived.Lib.SmallJoins
import Derived.SizedLaws
import Derived.ProofKit
import Derived.SliceStrings
namespace Go.Proofs.YtnoknmnbfkdccaaGreatDoor
open Go.ChangeShapes Go.WideShapes Go.RowKit

end Go.Proofs.YtnoknmnbfkdccaaGreatDoor
