/- What math/bits.Len64 does: the library's own text is walked. -/
import Derived.Test.YtchiilhdkbpboaaRows
import Derived.Lib.Strings
import Derived.Lib.Slices
import Derived.Lib.Small
import Derived.Lib.Walk
import Derived.Lib.BitFns
namespace Go.Proofs.Ytchiilhdkbpboaa

/-- one of the eight ways of Len64: s bits cut off, the table's byte at what is left -/
theorem len_way (x : Int) (s : Nat) (y : Int) (h0 : 0 ≤ x) (h1 : x ≤ 18446744073709551615) (hy : y = x / 2 ^ s) (hy2 : y < 256) (hs : s = 0 ∨ (2 : Int) ^ s ≤ x) :
    (s : Int) + (Lib.bitLen (y % 256).toNat : Int) = (Lib.bitLen x.toNat : Int) ∧ Lib.bitLen (y % 256).toNat ≤ 8 := by
  have hp : (0 : Int) < 2 ^ s := Int.pow_pos (by omega)
  have hy0 : 0 ≤ y := by rw [hy]; exact Int.ediv_nonneg h0 (Int.le_of_lt hp)
  have hyn : (y % 256).toNat = x.toNat / 2 ^ s := by
    have : y % 256 = y := by omega
    rw [this, hy]
    obtain ⟨n, rfl⟩ := Int.eq_ofNat_of_zero_le h0
    have : ((n : Int) / 2 ^ s) = ((n / 2 ^ s : Nat) : Int) := by simp
    rw [this, Int.toNat_natCast, Int.toNat_natCast]
  have hl := Lib.bitLen_le8' (y % 256) (by omega) (by omega)
  refine ⟨?_, hl⟩
  rw [hyn]
  rcases hs with rfl | hs
  · simp
  · have hs' : 2 ^ s ≤ x.toNat := by
      obtain ⟨n, rfl⟩ := Int.eq_ofNat_of_zero_le h0
      have : ((2 ^ s : Nat) : Int) = (2 : Int) ^ s := by simp
      rw [← this] at hs
      simp; omega
    rw [Lib.bitLen_shift s x.toNat hs' (by omega)]; omega

end Go.Proofs.Ytchiilhdkbpboaa
