/- What Bytes, value and the program's Get do. -/
import Derived.Test.YtfcijbplfokinaaW2
namespace Go.Proofs.Ytfcijbplfokinaa
open Go.RowKit

set_option maxHeartbeats 400000 in
theorem bytes_any (a1 : Option Addr) (l1 c1 : Nat) (bs1 : List Nat) (a2 : Option Addr) (l2 c2 : Nat) (bs2 : List Nat) (w : World) (hr1 : Row .u8 w a1 l1 bs1) (hr2 : Row .u8 w a2 l2 bs2) :
    Calls Try.prog 11 #[.slice a1 l1 c1, .slice a2 l2 c2] w fun e w' => e = .returned (.bool (decide (bs1 = bs2))) ∧ ∃ n, w' = w.drewN n := by
  have hs := same_any a1 l1 c1 bs1 a2 l2 c2 bs2 w hr1 hr2
  clear hr1 hr2
  go_enter Try.func11, Try.ntmps11
  go_wp2_with (go_at_call 19; refine hs.mono ?_; rintro e w' ⟨rfl, n, rfl⟩)
  go_ret
  exact ⟨rfl, n, rfl⟩

theorem value_step (u x v : Nat) (hu : u = v % 18446744073709551616) : (u * 128 + x % 128) % 18446744073709551616 = (x % 128 + 128 * v) % 18446744073709551616 := by
  subst hu; omega

/-- the code that goes with how many bytes were read -/
def code (n : Nat) : Nat := if n = 0 then 2 else 0
theorem code_zero : code 0 = 2 := rfl
theorem code_succ (k : Nat) : code (k + 1) = 0 := rfl
theorem ret3 {k1 k2 k3 : IntKind} {a a' b b' c c' : Int} (h1 : a = a') (h2 : b = b') (h3 : c = c') :
    Ending.returned (.tuple #[.int k1 a, .int k2 b, .int k3 c]) = .returned (.tuple #[.int k1 a', .int k2 b', .int k3 c']) := by rw [h1, h2, h3]

theorem or_walk (u x k : Nat) (hu : u < 128 ^ k) (hx : x < 256) (hk : k ≤ 8 ∨ k = 9 ∧ x ≤ 1) :
    bits .or .u64 (u : Int) (IntKind.u64.wrap (IntKind.u64.wrap (bits .and .u8 (x : Int) 127) * 2 ^ (7 * k))) = ((u + 128 ^ k * (x % 128) : Nat) : Int) := by
  have e1 : bits .and .u8 (x : Int) 127 = ((x % 128 : Nat) : Int) := by
    have := u8_and_nat x 127 hx (by omega); rw [nat_mask7] at this; exact_mod_cast this
  have e2 : (128 : Nat) ^ k = 2 ^ (7 * k) := by rw [show 128 = 2 ^ 7 from rfl, ← Nat.pow_mul]
  have hb : x % 128 * 2 ^ (7 * k) < 18446744073709551616 := by
    rcases hk with hk | ⟨rfl, h1⟩
    · have h2 : 2 ^ (7 * k) ≤ 2 ^ 56 := Nat.pow_le_pow_right (by omega) (by omega)
      have h3 : x % 128 * 2 ^ (7 * k) ≤ 127 * 2 ^ 56 := Nat.mul_le_mul (by omega) h2
      omega
    · have : x % 128 ≤ 1 := by omega
      have h3 : x % 128 * 2 ^ (7 * 9) ≤ 1 * 2 ^ (7 * 9) := Nat.mul_le_mul_right _ this
      omega
  have e3 : (((x % 128 : Nat) : Int) % 18446744073709551616) = ((x % 128 : Nat) : Int) := by omega
  have e4 : ((x % 128 : Nat) : Int) * 2 ^ (7 * k) = ((x % 128 * 2 ^ (7 * k) : Nat) : Int) := by simp
  have hub : u < 18446744073709551616 := by
    have : (128 : Nat) ^ k ≤ 128 ^ 9 := Nat.pow_le_pow_right (by omega) (by omega)
    have : (128 : Nat) ^ 9 < 18446744073709551616 := by decide
    omega
  rw [e1]
  simp only [IntKind.wrap_u64]
  rw [e3, e4]
  rw [e2] at hu ⊢
  have e5 : (((x % 128 * 2 ^ (7 * k) : Nat) : Int) % 18446744073709551616) = ((x % 128 * 2 ^ (7 * k) : Nat) : Int) := by omega
  rw [e5, u64_or_nat _ _ hub hb, Nat.or_comm, nat_join (7 * k) _ _ (Nat.mul_mod_left _ _) hu, Nat.add_comm, Nat.mul_comm (x % 128)]
theorem acc_lt (u x k : Nat) (hu : u < 128 ^ k) : u + 128 ^ k * (x % 128) < 128 ^ (k + 1) := by
  rw [Nat.pow_succ]
  have : 128 ^ k * (x % 128) ≤ 128 ^ k * 127 := Nat.mul_le_mul_left _ (by omega)
  omega

end Go.Proofs.Ytfcijbplfokinaa
