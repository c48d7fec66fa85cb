/- The plain mathematics of the sum of bytes (registers as natural numbers): a bit's step, a byte's steps, that they are linear, and that one step of nothing loses nothing. No word of the program. -/
import Derived.WalkKit
namespace Go.Proofs.Ytgmcjalcpgldhaa.Crc

/-- the register, moved on by a bit 0 -/
def lin (r : Nat) : Nat := if r % 2 = 1 then (r / 2) ^^^ 2197175160 else r / 2
/-- the register behind the bit b -/
def stp (r b : Nat) : Nat := if r % 2 ≠ b then (r / 2) ^^^ 2197175160 else r / 2
/-- k times lin -/
def lins : Nat → Nat → Nat
  | 0, r => r
  | k + 1, r => lin (lins k r)
/-- bit i of n -/
def bt (n i : Nat) : Nat := n / 2 ^ i % 2
/-- k bits of x, from the lowest on -/
def stps : Nat → Nat → Nat → Nat
  | 0, r, _ => r
  | k + 1, r, x => stp (stps k r x) (bt x k)
/-- the register behind a byte -/
def tk (r x : Nat) : Nat := lins 8 (r ^^^ x)
/-- the register behind bytes -/
def run (r : Nat) (bs : List Nat) : Nat := bs.foldl tk r
/-- the sum of bytes behind others whose sum is s -/
def more (s : Nat) (bs : List Nat) : Nat := run (s ^^^ 4294967295) bs ^^^ 4294967295

theorem bt_lt (n i : Nat) : bt n i < 2 := Nat.mod_lt _ (by omega)
theorem xor_half (a b : Nat) : (a ^^^ b) / 2 = (a / 2) ^^^ (b / 2) := by
  apply Nat.eq_of_testBit_eq; intro i; simp [Nat.testBit_div_two]
theorem xor_low (a b : Nat) : (a ^^^ b) % 2 = (a + b) % 2 := by
  have h := Nat.testBit_xor a b 0
  simp only [Nat.testBit_zero] at h
  have e : (a + b) % 2 = (a % 2 + b % 2) % 2 := Nat.add_mod a b 2
  rw [e]
  generalize a ^^^ b = c at *
  rcases Nat.mod_two_eq_zero_or_one a with h1 | h1 <;> rcases Nat.mod_two_eq_zero_or_one b with h2 | h2 <;> rcases Nat.mod_two_eq_zero_or_one c with h3 | h3 <;> rw [h1, h2, h3] at h <;> simp [h1, h2, h3] <;> simp at h
theorem lin_lt {r : Nat} (h : r < 4294967296) : lin r < 4294967296 := by
  unfold lin; split
  · exact Nat.xor_lt_two_pow (n := 32) (by omega) (by omega)
  · omega
theorem stp_lt {r : Nat} (b : Nat) (h : r < 4294967296) : stp r b < 4294967296 := by
  unfold stp; split
  · exact Nat.xor_lt_two_pow (n := 32) (by omega) (by omega)
  · omega
theorem xor_lt {a b : Nat} (h : a < 4294967296) (h' : b < 4294967296) : a ^^^ b < 4294967296 :=
  Nat.xor_lt_two_pow (n := 32) (by omega) (by omega)
theorem lins_lt {r : Nat} (k : Nat) (h : r < 4294967296) : lins k r < 4294967296 := by
  induction k with
  | zero => exact h
  | succ k ih => exact lin_lt ih
theorem stps_lt {r : Nat} (k x : Nat) (h : r < 4294967296) : stps k r x < 4294967296 := by
  induction k with
  | zero => exact h
  | succ k ih => exact stp_lt _ ih
theorem tk_lt {r x : Nat} (h : r < 4294967296) (hx : x < 256) : tk r x < 4294967296 :=
  lins_lt 8 (xor_lt h (by omega))
theorem run_lt {r : Nat} (bs : List Nat) (h : r < 4294967296) (hb : ∀ n ∈ bs, n < 256) : run r bs < 4294967296 := by
  induction bs generalizing r with
  | nil => exact h
  | cons x l ih => exact ih (tk_lt h (hb x (by simp))) (fun n hn => hb n (by simp [hn]))
theorem more_lt {s : Nat} (bs : List Nat) (h : s < 4294967296) (hb : ∀ n ∈ bs, n < 256) : more s bs < 4294967296 :=
  xor_lt (run_lt bs (xor_lt h (by omega)) hb) (by omega)
/-- a bit laid on, with others above it -/
theorem lin_xor (s y : Nat) : lin (s ^^^ y) = stp s (y % 2) ^^^ (y / 2) := by
  unfold lin stp
  rw [xor_half, xor_low]
  by_cases h : s % 2 = y % 2
  · rw [if_neg (by omega), if_neg (by omega)]
  · rw [if_pos (by omega), if_pos h]
    rw [Nat.xor_assoc, Nat.xor_assoc, Nat.xor_comm (y / 2)]
theorem div_pow_succ (x k : Nat) : x / 2 ^ k / 2 = x / 2 ^ (k + 1) := by
  rw [Nat.div_div_eq_div_mul, Nat.pow_succ]
/-- all bits laid on at once -/
theorem lins_stps (k r x : Nat) : lins k (r ^^^ x) = stps k r x ^^^ (x / 2 ^ k) := by
  induction k with
  | zero => simp [lins, stps]
  | succ k ih => rw [lins, ih, lin_xor, stps, div_pow_succ]; rfl
theorem tk_stps (r x : Nat) (hx : x < 256) : tk r x = stps 8 r x := by
  unfold tk; rw [lins_stps, Nat.div_eq_of_lt (by omega), Nat.xor_zero]
theorem lin_add (a b : Nat) : lin (a ^^^ b) = lin a ^^^ lin b := by
  rw [lin_xor]
  have e := lin_xor 0 b
  have e2 := lin_xor a 0
  unfold lin stp at *
  by_cases h1 : a % 2 = 1 <;> by_cases h2 : b % 2 = 1
  · rw [if_neg (by omega), if_pos h1, if_pos h2]
    rw [show a / 2 ^^^ 2197175160 ^^^ (b / 2 ^^^ 2197175160) = a / 2 ^^^ b / 2 ^^^ (2197175160 ^^^ 2197175160) by
      rw [Nat.xor_assoc, Nat.xor_assoc, Nat.xor_comm (2197175160) (b / 2 ^^^ 2197175160), Nat.xor_assoc]]
    simp
  · rw [if_pos (by omega), if_pos h1, if_neg h2]
  · rw [if_pos (by omega), if_neg h1, if_pos h2]
    rw [Nat.xor_assoc, Nat.xor_comm 2197175160]
  · rw [if_neg (by omega), if_neg h1, if_neg h2]
theorem lins_add (k a b : Nat) : lins k (a ^^^ b) = lins k a ^^^ lins k b := by
  induction k with
  | zero => rfl
  | succ k ih => rw [lins, ih, lin_add]; rfl
/-- a step of nothing loses nothing -/
theorem lin_zero {r : Nat} (h : r < 4294967296) (hz : lin r = 0) : r = 0 := by
  unfold lin at hz
  split at hz
  · have h2 : r / 2 < 2 ^ 31 := by omega
    have h3 : (r / 2).testBit 31 = false := Nat.testBit_lt_two_pow h2
    have h4 := congrArg (fun n => n.testBit 31) hz
    simp only [Nat.testBit_xor, h3, Nat.zero_testBit] at h4
    exact absurd h4 (by decide)
  · omega
theorem lins_zero {r : Nat} (k : Nat) (h : r < 4294967296) (hz : lins k r = 0) : r = 0 := by
  induction k with
  | zero => exact hz
  | succ k ih => exact ih (lin_zero (lins_lt k h) hz)
theorem run_append (r : Nat) (a b : List Nat) : run r (a ++ b) = run (run r a) b := by simp [run]
theorem more_append (s : Nat) (a b : List Nat) : more (more s a) b = more s (a ++ b) := by
  unfold more; rw [run_append, Nat.xor_assoc, Nat.xor_self, Nat.xor_zero]
theorem run_snoc (r : Nat) (a : List Nat) (x : Nat) : run r (a ++ [x]) = tk (run r a) x := by simp [run]
theorem more_nil (s : Nat) : more s [] = s := by
  show (s ^^^ 4294967295) ^^^ 4294967295 = s
  rw [Nat.xor_assoc, Nat.xor_self, Nat.xor_zero]
theorem known : more 0 [49, 50, 51, 52, 53, 54, 55, 56, 57] = 3808858755 := by decide +kernel
end Go.Proofs.Ytgmcjalcpgldhaa.Crc
