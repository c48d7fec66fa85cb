/- From the reading of an argument to what it is: ints, texts, slices of flat structs. -/
import Derived.Test.YtnoknmnbfkdccaaGreatDoorGa
import Derived.Lib.SmallJoins
import Derived.SizedLaws
import Derived.ProofKit
import Derived.SliceStrings
namespace Go.Proofs.YtnoknmnbfkdccaaGreatDoor
open Go.ChangeShapes Go.WideShapes Go.RowKit

set_option maxRecDepth 100000 in
theorem i64_in {k : Int} (h : (Lit.int .i64 k).wf = true) : -9223372036854775808 ≤ k ∧ k ≤ 9223372036854775807 := by
  simp [Lit.wf, IntKind.min, IntKind.max, IntKind.bits, IntKind.signed] at h
  omega

end Go.Proofs.YtnoknmnbfkdccaaGreatDoor
