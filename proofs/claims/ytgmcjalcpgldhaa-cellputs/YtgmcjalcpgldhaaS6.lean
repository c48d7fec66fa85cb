/- The laws PointGets and PointReads, given the program's contracts. -/
import Derived.Test.YtgmcjalcpgldhaaS5
namespace Go.Proofs.Ytgmcjalcpgldhaa
open Go.RowKit

theorem four_keep {w W : World} {c0 c1 c2 c3 : Value} {e : TypeId} (h : Below (w.alloc (.cells #[c0, c1, c2, c3] e)).heap.size (w.alloc (.cells #[c0, c1, c2, c3] e)) W) :
    W.cell? ⟨w.heap.size, 0, none⟩ = some c0 ∧ W.cell? ⟨w.heap.size, 1, none⟩ = some c1 ∧ W.cell? ⟨w.heap.size, 2, none⟩ = some c2 ∧ W.cell? ⟨w.heap.size, 3, none⟩ = some c3 ∧ w.heap.size < W.heap.size ∧ Below w.heap.size w W := by
  obtain ⟨k0, k1, k2, k3⟩ := cell_four w c0 c1 c2 c3 e rfl
  have hl : w.heap.size < (w.alloc (.cells #[c0, c1, c2, c3] e)).heap.size := by simp
  exact ⟨(h.cell (p := ⟨w.heap.size, 0, none⟩) hl).trans k0, (h.cell (p := ⟨w.heap.size, 1, none⟩) hl).trans k1, (h.cell (p := ⟨w.heap.size, 2, none⟩) hl).trans k2, (h.cell (p := ⟨w.heap.size, 3, none⟩) hl).trans k3, Nat.lt_of_lt_of_le hl h.size, (below_alloc _ _).trans (h.mono (by simp))⟩

theorem own_shape {w : World} {B n c : Nat} {a : Option Addr} {e : TypeId} {xs : List Value} (h : w.ownsRow B e 1 (.slice a n c) n xs) : Shape a n c := by
  rcases h.2 with ⟨e, h0⟩ | ⟨g, cap, cur, e, _, _, hnc, _⟩
  · simp only [Value.slice.injEq] at e
    exact .inl ⟨h0, e.2.2⟩
  · simp only [Value.slice.injEq] at e
    obtain ⟨rfl, _, rfl⟩ := e
    exact .inr ⟨g, 0, rfl, hnc⟩

end Go.Proofs.Ytgmcjalcpgldhaa
