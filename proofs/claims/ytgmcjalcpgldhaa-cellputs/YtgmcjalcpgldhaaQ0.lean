/- Four bytes as a number, the lowest first: what walks want of it. -/
import Derived.Test.YtgmcjalcpgldhaaU1
import Derived.Test.YtgmcjalcpgldhaaPMath
namespace Go.Proofs.Ytgmcjalcpgldhaa
open Go.RowKit

/-- the first bytes' number, the lowest first -/
def vk (bs : List Nat) : Nat → Nat
  | 0 => 0
  | k + 1 => vk bs k + 256 ^ k * bs.getD k 0
theorem vk4 (bs : List Nat) : vk bs 4 = Fr.val4 bs := by simp [vk, Fr.val4]

theorem or32 (n x m M : Nat) (hM : M = 2 ^ m) (hn : n < M) (hn2 : n < 4294967296) (hx : x * M < 4294967296) : bits .or .u32 (n : Int) ((x : Int) * (M : Int)) = ((n + M * x : Nat) : Int) := by
  subst hM
  have e : (x : Int) * ((2 ^ m : Nat) : Int) = ((x * 2 ^ m : Nat) : Int) := by simp
  rw [e, u32_or_nat _ _ hn2 hx, Nat.or_comm, nat_join m _ _ (Nat.mul_mod_left _ _) hn, Nat.add_comm, Nat.mul_comm x]
end Go.Proofs.Ytgmcjalcpgldhaa
