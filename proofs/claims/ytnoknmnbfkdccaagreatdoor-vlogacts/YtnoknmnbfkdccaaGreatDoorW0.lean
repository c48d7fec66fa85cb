/- What math/bits.Len64 does: the library's own text is walked. -/
import Derived.Test.YtnoknmnbfkdccaaGreatDoorRows
import Derived.Lib.Strings
import Derived.Lib.Slices
import Derived.Lib.Small
import Derived.Lib.Walk
import Derived.Lib.BitFns
namespace Go.Proofs.YtnoknmnbfkdccaaGreatDoor

/-- one of the eight ways of Len64: s bits cut off, the table's byte at what is left -/
theorem len_way (x : Int) (s : Nat) (y : Int) (h0 : 0 ≤ x) (h1 : x ≤ 18446744073709551615) (hy : y = x / 2 ^ s) (hy2 : y < 256) (hs : s = 0 ∨ (2 : Int) ^ s ≤ x) :
    (s : Int) + (Lib.bitLen (y % 256).toNat : Int) = (Lib.bitLen x.toNat : Int) ∧ Lib.bitLen (y % 256).toNat ≤ 8 := by
  have hp : (0 : Int) < 2 ^ s := Int.pow_pos (by omega)
  have hy0 : 0 ≤ y := by rw [hy]; exact Int.ediv_nonneg h0 (Int.le_of_lt hp)
  have hyn : (y % 256).toNat = x.toNat / 2 ^ s := by
    have : y % 256 = y := by omega
    rw [this, hy]
    obtain ⟨n, rfl⟩ := Int.eq_ofNat_of_zero_le h0
    have : ((n : Int) / 2 ^ s) = ((n / 2 ^ s : Nat) : Int) := by simp
    rw [this, Int.toNat_natCast, Int.toNat_natCast]
  have hl := Lib.bitLen_le8' (y % 256) (by omega) (by omega)
  refine ⟨?_, hl⟩
  rw [hyn]
  rcases hs with rfl | hs
  · simp
  · have hs' : 2 ^ s ≤ x.toNat := by
      obtain ⟨n, rfl⟩ := Int.eq_ofNat_of_zero_le h0
      have : ((2 ^ s : Nat) : Int) = (2 : Int) ^ s := by simp
      rw [← this] at hs
      simp; omega
    rw [Lib.bitLen_shift s x.toNat hs' (by omega)]; omega

theorem tab_eq : (ByteArray.mk ((([0, 1, 2, 2, 3, 3, 3, 3, 4, 4, 4, 4, 4, 4, 4, 4, 5, 5, 5, 5, 5, 5, 5, 5, 5, 5, 5, 5, 5, 5, 5, 5, 6, 6, 6, 6, 6, 6, 6, 6, 6, 6, 6, 6, 6, 6, 6, 6, 6, 6, 6, 6, 6, 6, 6, 6, 6, 6, 6, 6, 6, 6, 6, 6] : List UInt8).append [7, 7, 7, 7, 7, 7, 7, 7, 7, 7, 7, 7, 7, 7, 7, 7, 7, 7, 7, 7, 7, 7, 7, 7, 7, 7, 7, 7, 7, 7, 7, 7, 7, 7, 7, 7, 7, 7, 7, 7, 7, 7, 7, 7, 7, 7, 7, 7, 7, 7, 7, 7, 7, 7, 7, 7, 7, 7, 7, 7, 7, 7, 7, 7]).append (List.append [8, 8, 8, 8, 8, 8, 8, 8, 8, 8, 8, 8, 8, 8, 8, 8, 8, 8, 8, 8, 8, 8, 8, 8, 8, 8, 8, 8, 8, 8, 8, 8, 8, 8, 8, 8, 8, 8, 8, 8, 8, 8, 8, 8, 8, 8, 8, 8, 8, 8, 8, 8, 8, 8, 8, 8, 8, 8, 8, 8, 8, 8, 8, 8] [8, 8, 8, 8, 8, 8, 8, 8, 8, 8, 8, 8, 8, 8, 8, 8, 8, 8, 8, 8, 8, 8, 8, 8, 8, 8, 8, 8, 8, 8, 8, 8, 8, 8, 8, 8, 8, 8, 8, 8, 8, 8, 8, 8, 8, 8, 8, 8, 8, 8, 8, 8, 8, 8, 8, 8, 8, 8, 8, 8, 8, 8, 8, 8])).toArray) = Lib.len8tab := by decide +kernel
set_option maxHeartbeats 4000000 in
set_option maxRecDepth 100000 in
theorem len64_int (x : Int) (w : World) (h0 : 0 ≤ x) (h1 : x ≤ 18446744073709551615) :
    Calls Tryz.prog 122 #[.int .u64 x] w fun e w' => e = .returned (.int .i64 (Lib.bitLen x.toNat)) ∧ w' = w := by
  go_enter Tryz.func122, Tryz.ntmps122
  rw [tab_eq]
  go_wp2
  all_goals (go_ret; refine ⟨congrArg Ending.returned (congrArg (Value.int IntKind.i64) ?_), rfl⟩)
  all_goals first
    | (rw [Lib.len8_of (x / 4294967296 / 65536 / 256 % 256) (by omega) (by omega)]
       have l := len_way x 56 (x / 4294967296 / 65536 / 256) h0 h1 (by omega) (by omega) (by omega)
       omega)
    | (rw [Lib.len8_of (x / 4294967296 / 65536 % 256) (by omega) (by omega)]
       have l := len_way x 48 (x / 4294967296 / 65536) h0 h1 (by omega) (by omega) (by omega)
       omega)
    | (rw [Lib.len8_of (x / 4294967296 / 256 % 256) (by omega) (by omega)]
       have l := len_way x 40 (x / 4294967296 / 256) h0 h1 (by omega) (by omega) (by omega)
       omega)
    | (rw [Lib.len8_of (x / 4294967296 % 256) (by omega) (by omega)]
       have l := len_way x 32 (x / 4294967296) h0 h1 (by omega) (by omega) (by omega)
       omega)
    | (rw [Lib.len8_of (x / 65536 / 256 % 256) (by omega) (by omega)]
       have l := len_way x 24 (x / 65536 / 256) h0 h1 (by omega) (by omega) (by omega)
       omega)
    | (rw [Lib.len8_of (x / 65536 % 256) (by omega) (by omega)]
       have l := len_way x 16 (x / 65536) h0 h1 (by omega) (by omega) (by omega)
       omega)
    | (rw [Lib.len8_of (x / 256 % 256) (by omega) (by omega)]
       have l := len_way x 8 (x / 256) h0 h1 (by omega) (by omega) (by omega)
       omega)
    | (rw [Lib.len8_of (x % 256) (by omega) (by omega)]
       have l := len_way x 0 (x) h0 h1 (by omega) (by omega) (by omega)
       omega)

theorem len64_any (x : Nat) (w : World) (h : x < 18446744073709551616) :
    Calls Tryz.prog 122 #[.int .u64 x] w fun e w' => e = .returned (.int .i64 (Lib.bitLen x : Nat)) ∧ w' = w := by
  have := len64_int x w (by omega) (by omega)
  rwa [Int.toNat_natCast] at this
end Go.Proofs.YtnoknmnbfkdccaaGreatDoor
