/- A block told by its object. -/
import Derived.Test.YtmodogmjfbcddaaGreatGa
namespace Go.Proofs.YtmodogmjfbcddaaGreat
open Go.RowKit

theorem ob_lt {W : World} {g : Nat} {x : Obj} (h : W.heap[g]? = some x) : g < W.heap.size := (Array.getElem?_eq_some_iff.1 h).1
theorem ob_below {W W' : World} {g : Nat} {x : Obj} (h : W.heap[g]? = some x) (hb : Below W.heap.size W W') : W'.heap[g]? = some x := (hb.block g (ob_lt h)).trans h
theorem ob_alloc {W : World} {g : Nat} {x : Obj} (h : W.heap[g]? = some x) (o : Obj) : (W.alloc o).heap[g]? = some x := (Below.heap_alloc W o g (ob_lt h)).trans h
theorem ob_apart {W : World} {g B n s e e' : Nat} {v : Value} {cs : Array Value} {xs : List Value} {fz : Nat × Nat} (h : W.heap[g]? = some (.cells cs e' fz)) (hown : W.ownsRow B e s v n xs) (hne : e' ≠ e) : some g ≠ v.ownBlock := by
  intro ee
  rcases hown.2 with ⟨rfl, _⟩ | ⟨k, cap, cur, rfl, _, hk, _⟩
  · cases ee
  · have : g = k := by simpa [Value.ownBlock] using ee
    subst this
    rw [h] at hk
    simp only [Option.some.injEq, Obj.cells.injEq] at hk
    exact absurd hk.2.1 hne
theorem ob_grown {W W' : World} {g B n s e e' : Nat} {v : Value} {cs : Array Value} {xs : List Value} {fz : Nat × Nat} (h : W.heap[g]? = some (.cells cs e' fz)) (hown : W.ownsRow B e s v n xs) (hne : e' ≠ e) (hg : W.grownBy W' v.ownBlock) : W'.heap[g]? = some (.cells cs e' fz) :=
  (hg.block g (ob_lt h) (ob_apart h hown hne)).trans h
end Go.Proofs.YtmodogmjfbcddaaGreat
