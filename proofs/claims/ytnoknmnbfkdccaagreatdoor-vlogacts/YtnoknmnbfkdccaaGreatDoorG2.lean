/- From the reading of an argument that is a slice of frames to a row of frames. -/
import Derived.Test.YtnoknmnbfkdccaaGreatDoorFB
import Derived.Deep.SlicePairs
import Derived.SizedLaws
import Derived.ProofKit
namespace Go.Proofs.YtnoknmnbfkdccaaGreatDoor
open Go.ChangeShapes Go.WideShapes Go.RowKit

end Go.Proofs.YtnoknmnbfkdccaaGreatDoor

/- What the laws' own Light and may do. -/
namespace Go.Proofs.YtnoknmnbfkdccaaGreatDoor
open Go.RowKit

def tot (fs : List Fr.F) : Nat := (fs.map fun f => f.2.length).sum
theorem tot_le (fs : List Fr.F) (k : Nat) : tot (fs.take k) ≤ tot fs := by
  have : tot fs = tot (fs.take k) + tot (fs.drop k) := by
    conv => lhs; rw [← List.take_append_drop k fs]
    simp only [tot, List.map_append, List.sum_append]
  omega

end Go.Proofs.YtnoknmnbfkdccaaGreatDoor

/- What is asked of the program's own functions; what the law FrameReads does, given that. -/
namespace Go.Proofs.YtnoknmnbfkdccaaGreatDoor
open Go.RowKit

/-- what Put tells -/
def FPutRes (w : World) (fs : List Fr.F) (e : Ending) (w' : World) : Prop :=
  (fs.all Fr.may = true ∧ ∃ a c, e = .returned (.tuple #[.slice a (Fr.all fs).length c, .int .i64 0]) ∧ w'.ownsRow w.heap.size 5 1 (.slice a (Fr.all fs).length c) (Fr.all fs).length (kcells .u8 (Fr.all fs)) ∧ Below w.heap.size w w') ∨
  (fs.all Fr.may = false ∧ ∃ a c, e = .returned (.tuple #[.slice a 0 c, .int .i64 1]) ∧ Below w.heap.size w w')
end Go.Proofs.YtnoknmnbfkdccaaGreatDoor
