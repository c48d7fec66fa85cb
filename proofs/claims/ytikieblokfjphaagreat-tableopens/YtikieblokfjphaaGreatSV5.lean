/- What is asked of the program's own functions over sieves; the laws SieveOf, SieveHas, SieveKeeps, given that. -/
import Derived.Test.YtikieblokfjphaaGreatSVa
import Derived.Test.YtikieblokfjphaaGreatI1
namespace Go.Proofs.YtikieblokfjphaaGreat
open Go.RowKit

def Sv.bitsR (n : Int) (key : List Nat) : List Nat := if 1 ≤ n ∧ n ≤ 1048576 then Sv.bits n.toNat key else []

def VOfC : Prop := ∀ (a : Option Addr) (n c : Nat) (ks : List ByteArray) (w : World), n ≤ 16384 → (∀ s ∈ ks, s.size ≤ 1000) → InT w a n c ks → Calls Tryz.prog 37 #[.slice a n c] w (SieveRes w (Sv.of (ks.map kb)))

theorem sv_none (key : List Nat) : Sv.has [0] key = false := by
  unfold Sv.has
  rw [if_neg (by simp)]
  have : ∀ j, Sv.isSet [0] j = false := fun j => by
    unfold Sv.isSet
    rw [decide_eq_false_iff_not]
    have h : ([0] : List Nat).getD (j / 8) 0 = 0 := by
      cases j / 8 with
      | zero => rfl
      | succ k => rfl
    rw [h, Nat.zero_div]
    decide
  unfold Sv.bits
  simp [List.range, List.range.loop, this]
theorem sv_nil : Sv.of [] = [0] := by decide
theorem bits_small {n : Int} {key : List Nat} : ∀ x ∈ Sv.bitsR n key, x < lim .i64 := fun x hx => by
  unfold Sv.bitsR at hx
  split at hx
  · have := Sv.bit_lt (by omega) key x hx
    show x < 18446744073709551616
    omega
  · cases hx

end Go.Proofs.YtikieblokfjphaaGreat
