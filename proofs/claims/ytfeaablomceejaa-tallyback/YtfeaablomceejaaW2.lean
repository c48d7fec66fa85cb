/- What the readers of rows do: same (bytes), Same (numbers), Bytes, value. -/
import Derived.Test.YtfeaablomceejaaW1
import Derived.Deep.QuietTactic
import Derived.BigQuiet
namespace Go.Proofs.Ytfeaablomceejaa
open Go.RowKit

def lim : IntKind → Nat
  | .u8 => 256
  | _ => 18446744073709551616
/-- A slice that reads as the numbers bs. -/
def Row (k : IntKind) (w : World) (a : Option Addr) (len : Nat) (bs : List Nat) : Prop :=
  bs.length = len ∧ len ≤ 1000000000000000000 ∧ (∀ n ∈ bs, n < lim k) ∧
    (len = 0 ∨ ∃ b off, a = some ⟨b, off, none⟩ ∧ ∀ i, i < len → w.cell? ⟨b, off + i, none⟩ = some (.int k (bs.getD i 0 : Nat)))

theorem getD_lt {m : Nat} (hm : 0 < m) {bs : List Nat} (h : ∀ n ∈ bs, n < m) (i : Nat) : bs.getD i 0 < m := by
  rw [List.getD_eq_getElem?_getD]
  cases e : bs[i]? with
  | none => simpa using hm
  | some x => simpa using h x (List.mem_of_getElem? e)
theorem getD_lt8 {bs : List Nat} (h : ∀ n ∈ bs, n < lim .u8) (i : Nat) : bs.getD i 0 < 256 := getD_lt (by decide) h i
theorem getD_lt64 {bs : List Nat} (h : ∀ n ∈ bs, n < lim .u64) (i : Nat) : bs.getD i 0 < 18446744073709551616 := getD_lt (by decide) h i
theorem take_small {m : Nat} {bs : List Nat} (h : ∀ n ∈ bs, n < m) (k : Nat) : ∀ n ∈ bs.take k, n < m := fun n hn => h n (List.mem_of_mem_take hn)
theorem drop_small {m : Nat} {bs : List Nat} (h : ∀ n ∈ bs, n < m) (k : Nat) : ∀ n ∈ bs.drop k, n < m := fun n hn => h n (List.mem_of_mem_drop hn)
theorem eq_of_getD {a b : List Nat} (hl : a.length = b.length) (h : ∀ j, j < a.length → a.getD j 0 = b.getD j 0) : a = b := by
  apply List.ext_getElem hl
  intro i h1 h2
  have := h i h1
  simpa [h1, h2] using this
theorem Row.at {k : IntKind} {w : World} {a : Option Addr} {n : Nat} {bs : List Nat} (h : Row k w a n bs) (hn : 0 < n) :
    ∃ b off, a = some ⟨b, off, none⟩ ∧ ∀ i, i < n → w.cell? ⟨b, off + i, none⟩ = some (.int k (bs.getD i 0 : Nat)) := by
  obtain ⟨_, _, _, h0 | h0⟩ := h
  · omega
  · exact h0

end Go.Proofs.Ytfeaablomceejaa
