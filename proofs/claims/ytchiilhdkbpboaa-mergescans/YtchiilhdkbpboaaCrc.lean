/- What the sums do: crc.take, More, Of, and the reference's bit, step, run, Of, More. -/
import Derived.Test.YtchiilhdkbpboaaWa
import Derived.Test.YtchiilhdkbpboaaMa
import Derived.Laws.BitsAllLaws
namespace Go.Proofs.Ytchiilhdkbpboaa
open Go.RowKit

theorem lin_walk (r : Nat) (h : r < 4294967296) :
    bits .xor .u32 ((r : Int) / 2) (bits .and .u32 2197175160 (-bits .and .u32 (r : Int) 1 % 4294967296)) = (Crc.lin r : Nat) := by
  have e1 : bits .and .u32 (r : Int) 1 = ((r % 2 : Nat) : Int) := by
    have := u32_and_nat r 1 h (by omega); rw [Nat.and_one_is_mod] at this; exact_mod_cast this
  have e2 : (r : Int) / 2 = ((r / 2 : Nat) : Int) := by omega
  rw [e1, e2]
  unfold Crc.lin
  rcases Nat.mod_two_eq_zero_or_one r with h1 | h1
  · rw [h1, if_neg (by omega)]
    have e3 : (-((0 : Nat) : Int) % 4294967296) = ((0 : Nat) : Int) := by decide
    rw [e3]
    have := u32_and_nat 2197175160 0 (by omega) (by omega)
    rw [show ((2197175160 : Nat) : Int) = 2197175160 from rfl] at this
    rw [this, u32_xor_nat _ _ (by omega) (by decide)]
    simp
  · rw [h1, if_pos rfl]
    have e3 : (-((1 : Nat) : Int) % 4294967296) = ((4294967295 : Nat) : Int) := by decide
    rw [e3]
    have := u32_and_nat 2197175160 4294967295 (by omega) (by omega)
    rw [show ((2197175160 : Nat) : Int) = 2197175160 from rfl, show 2197175160 &&& 4294967295 = 2197175160 by decide +kernel] at this
    rw [this, u32_xor_nat _ _ (by omega) (by omega)]

theorem not_walk (s : Nat) (h : s < 4294967296) : bits .xor .u32 IntKind.u32.max (s : Int) = ((s ^^^ 4294967295 : Nat) : Int) := by
  have := u32_xor_nat 4294967295 s (by omega) h
  rw [Nat.xor_comm] at this
  rw [← this]; rfl
theorem run_hid (q : Nat) (bs : List Nat) (k : Nat) (h : k < bs.length) : Crc.run q (bs.take (k + 1)) = Crc.tk (Crc.run q (bs.take k)) (bs.getD k 0) := by
  rw [Va.take_snoc bs k h, Crc.run_snoc]

end Go.Proofs.Ytchiilhdkbpboaa
