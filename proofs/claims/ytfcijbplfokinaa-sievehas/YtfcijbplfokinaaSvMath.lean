/- The plain mathematics of sieves: a key's bits, the sieve of keys, whether a key is in it. Names no dump. -/
import Derived.Test.YtfcijbplfokinaaBMa
namespace Go.Proofs.Ytfcijbplfokinaa.Sv

def odd (e : Nat) : Nat := if e % 2 = 0 then e + 1 else e
def turnd (h : Nat) : Nat := odd (h * 131072 % 4294967296 + h / 32768)
def bit (n h i : Nat) : Nat := (h + i * turnd h) % 4294967296 % (8 * n)
def sum (key : List Nat) : Nat := Crc.more 0 key
/-- a key's bits in a sieve of n bytes -/
def bits (n : Nat) (key : List Nat) : List Nat := (List.range 6).map (bit n (sum key))
/-- whether a bit is set in the sieve of keys -/
def set (keys : List (List Nat)) (n b : Nat) : Bool := keys.any fun k => decide (b ∈ bits n k)
def byteGo (f : Nat → Bool) : Nat → Nat → Nat
  | 0, v => v
  | k + 1, v => byteGo f k (v * 2 + if f k = true then 1 else 0)
def byte (keys : List (List Nat)) (n i : Nat) : Nat := byteGo (fun k => set keys n (8 * i + k)) 8 0
def size (m : Nat) : Nat := m + m / 10 + 1
/-- the sieve of keys -/
def of (keys : List (List Nat)) : List Nat := (List.range (size keys.length)).map (byte keys (size keys.length))
def isSet (b : List Nat) (j : Nat) : Bool := decide (b.getD (j / 8) 0 / 2 ^ (j % 8) % 2 = 1)
/-- whether bytes have a key -/
def has (b : List Nat) (key : List Nat) : Bool := if b.length = 0 ∨ 1048576 < b.length then true else (bits b.length key).all (isSet b)

theorem byteGo_top (f : Nat → Bool) : ∀ (m v : Nat), byteGo f m v / 2 ^ m = v
  | 0, v => by simp [byteGo]
  | m + 1, v => by
    rw [byteGo, Nat.pow_succ, ← Nat.div_div_eq_div_mul, byteGo_top f m]
    split <;> omega
theorem byteGo_bit (f : Nat → Bool) : ∀ (m v k : Nat), k < m → byteGo f m v / 2 ^ k % 2 = if f k = true then 1 else 0
  | 0, v, k, h => by omega
  | m + 1, v, k, h => by
    rw [byteGo]
    rcases Nat.lt_or_ge k m with h' | h'
    · exact byteGo_bit f m _ k h'
    · obtain rfl : k = m := by omega
      rw [byteGo_top]
      split <;> omega
theorem byte_lt (keys : List (List Nat)) (n i : Nat) : byte keys n i < 256 := by
  have := byteGo_top (fun k => set keys n (8 * i + k)) 8 0
  unfold byte
  have h : (2 : Nat) ^ 8 = 256 := by decide
  rw [h] at this
  omega
theorem bit_lt {n : Nat} (hn : 0 < n) (key : List Nat) : ∀ j ∈ bits n key, j < 8 * n := by
  intro j hj
  simp only [bits, List.mem_map] at hj
  obtain ⟨i, _, rfl⟩ := hj
  exact Nat.mod_lt _ (by omega)
theorem of_length (keys : List (List Nat)) : (of keys).length = size keys.length := by simp [of]
/-- the sieve of keys has each of them -/
theorem keeps {keys : List (List Nat)} {key : List Nat} (h : key ∈ keys) : has (of keys) key = true := by
  unfold has
  rw [of_length]
  split
  · rfl
  · rw [List.all_eq_true]
    intro j hj
    have hn : 0 < size keys.length := by unfold size; omega
    have hj8 := bit_lt hn key j hj
    unfold isSet
    rw [decide_eq_true_eq]
    have e : (of keys).getD (j / 8) 0 = byte keys (size keys.length) (j / 8) := by
      have : j / 8 < size keys.length := by omega
      simp [of, this]
    rw [e, byte, byteGo_bit _ 8 0 (j % 8) (by omega)]
    have hs : set keys (size keys.length) (8 * (j / 8) + j % 8) = true := by
      rw [show 8 * (j / 8) + j % 8 = j by omega]
      unfold set
      rw [List.any_eq_true]
      exact ⟨key, h, by simpa using hj⟩
    simp only [hs, if_true]
theorem bits_len (n : Nat) (key : List Nat) : (bits n key).length = 6 := by simp [bits]
end Go.Proofs.Ytfcijbplfokinaa.Sv
