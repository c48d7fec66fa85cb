/- Edits: the numbers that one has, as the reference tells them. -/
import Derived.Test.YtmodogmjfbcddaaGreatEP
namespace Go.Proofs.YtmodogmjfbcddaaGreat
open Go.RowKit

theorem lit_ints (w : World) (C : Array Value) (l : List Nat) (n : Nat) (hC : C.toList = l.map fun x : Nat => Value.int .i64 (x : Int)) (hn : l.length = n) (hb : n ≤ 1000) {g : Nat} (hg : w.heap.size = g) : IRow (w.alloc (.cells C 3)) (some ⟨g, 0, none⟩) n l := by
  subst hg
  refine ⟨hn, by omega, .inr ⟨_, 0, rfl, fun i hi j v hj => ?_⟩⟩
  have hj0 : j = 0 := by
    have := (List.getElem?_eq_some_iff.mp hj).1
    simp [ie] at this; omega
  subst hj0
  simp only [ie, List.getElem?_cons_zero, Option.some.injEq] at hj
  subst hj
  rw [cell_new]
  have : C[0 + i * 1 + 0]? = C.toList[i]? := by simp
  rw [this, hC, List.getElem?_map]
  have hi' : i < l.length := by omega
  simp [hi']
theorem parts_letters (k : Int) : ∀ x ∈ Ed.parts k, x = 78 ∨ x = 73 ∨ x = 84 ∨ x = 72 ∨ x = 66 := by
  intro x hx
  rcases Ed.kinds k with rfl | rfl | rfl | rfl | rfl | rfl | rfl | rfl | rfl | h
  case inr.inr.inr.inr.inr.inr.inr.inr.inr => rw [Ed.parts_none h] at hx; cases hx
  all_goals (simp [Ed.parts] at hx; omega)
theorem parts_len (k : Int) : (Ed.parts k).length ≤ 4 := by
  rcases Ed.kinds k with rfl | rfl | rfl | rfl | rfl | rfl | rfl | rfl | rfl | h
  case inr.inr.inr.inr.inr.inr.inr.inr.inr => rw [Ed.parts_none h]; simp
  all_goals decide

end Go.Proofs.YtmodogmjfbcddaaGreat
