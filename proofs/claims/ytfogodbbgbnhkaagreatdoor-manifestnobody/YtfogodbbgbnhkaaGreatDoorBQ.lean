/- What the reference's May, Less, Sum and Put of a point do. -/
import Derived.Test.YtfogodbbgbnhkaaGreatDoorGa
import Derived.Test.YtfogodbbgbnhkaaGreatDoorMa
import Derived.Test.YtfogodbbgbnhkaaGreatDoorWa
namespace Go.Proofs.YtfogodbbgbnhkaaGreatDoor
open Go.RowKit

end Go.Proofs.YtfogodbbgbnhkaaGreatDoor


/- What the reference's Put of a point does. -/
namespace Go.Proofs.YtfogodbbgbnhkaaGreatDoor
open Go.RowKit

end Go.Proofs.YtfogodbbgbnhkaaGreatDoor


/- What the reference's Get of a point does. -/
namespace Go.Proofs.YtfogodbbgbnhkaaGreatDoor
open Go.RowKit

end Go.Proofs.YtfogodbbgbnhkaaGreatDoor


/- What is asked of the program's own functions over points; the laws PointPuts, PointGets, PointReads, given that. -/
namespace Go.Proofs.YtfogodbbgbnhkaaGreatDoor
open Go.RowKit

end Go.Proofs.YtfogodbbgbnhkaaGreatDoor


/- The laws PointGets and PointReads, given the program's contracts. -/
namespace Go.Proofs.YtfogodbbgbnhkaaGreatDoor
open Go.RowKit

end Go.Proofs.YtfogodbbgbnhkaaGreatDoor

/- Four bytes as a number, the lowest first: what walks want of it. -/
namespace Go.Proofs.YtfogodbbgbnhkaaGreatDoor
open Go.RowKit

/-- the first bytes' number, the lowest first -/
def vk (bs : List Nat) : Nat → Nat
  | 0 => 0
  | k + 1 => vk bs k + 256 ^ k * bs.getD k 0
theorem vk4 (bs : List Nat) : vk bs 4 = Fr.val4 bs := by simp [vk, Fr.val4]

theorem or32 (n x m M : Nat) (hM : M = 2 ^ m) (hn : n < M) (hn2 : n < 4294967296) (hx : x * M < 4294967296) : bits .or .u32 (n : Int) ((x : Int) * (M : Int)) = ((n + M * x : Nat) : Int) := by
  subst hM
  have e : (x : Int) * ((2 ^ m : Nat) : Int) = ((x * 2 ^ m : Nat) : Int) := by simp
  rw [e, u32_or_nat _ _ hn2 hx, Nat.or_comm, nat_join m _ _ (Nat.mul_mod_left _ _) hn, Nat.add_comm, Nat.mul_comm x]
end Go.Proofs.YtfogodbbgbnhkaaGreatDoor

/- What the program's Check and sumOf of a point, and slices.Max, do. -/
namespace Go.Proofs.YtfogodbbgbnhkaaGreatDoor
open Go.RowKit

end Go.Proofs.YtfogodbbgbnhkaaGreatDoor


/- What the program's Put of a point does. -/
namespace Go.Proofs.YtfogodbbgbnhkaaGreatDoor
open Go.RowKit

end Go.Proofs.YtfogodbbgbnhkaaGreatDoor


/- What the program's Get of a point does. -/
namespace Go.Proofs.YtfogodbbgbnhkaaGreatDoor
open Go.RowKit

end Go.Proofs.YtfogodbbgbnhkaaGreatDoor
