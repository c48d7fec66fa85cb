/- What the laws' own Light and may do. -/
import Derived.Test.YtgdefibgifcbaaaO1
namespace Go.Proofs.Ytgdefibgifcbaaa
open Go.RowKit

def tot (fs : List Fr.F) : Nat := (fs.map fun f => f.2.length).sum
def lightB (fs : List Fr.F) : Bool := decide (fs.length < 100 ∧ tot fs ≤ 4000)
theorem tot_take (fs : List Fr.F) (k : Nat) (h : k < fs.length) : tot (fs.take (k + 1)) = tot (fs.take k) + (fs.getD k (0, [])).2.length := by
  rw [List.take_succ_eq_append_getElem h]; simp only [tot, List.map_append, List.sum_append]; simp [h]
theorem tot_le (fs : List Fr.F) (k : Nat) : tot (fs.take k) ≤ tot fs := by
  have : tot fs = tot (fs.take k) + tot (fs.drop k) := by
    conv => lhs; rw [← List.take_append_drop k fs]
    simp only [tot, List.map_append, List.sum_append]
  omega

/-- may frames be, not too great? -/
def goodB (fs : List Fr.F) : Bool := (fs.take 100).all Fr.may && lightB fs

end Go.Proofs.Ytgdefibgifcbaaa
