/- Eight cells written, as an item is stored; rows kept meanwhile. -/
import Derived.Test.YtjllglpjghcplaaIT1
namespace Go.Proofs.Ytjllglpjghcplaa
open Go.RowKit

theorem owns_same {w w' : World} {B e size n : Nat} {v : Value} {xs : List Value} (h : w.ownsRow B e size v n xs) (hk : ∀ k, B ≤ k → k < w.heap.size → w'.heap[k]? = w.heap[k]?) : w'.ownsRow B e size v n xs := by
  refine ⟨h.1, ?_⟩
  rcases h.2 with hn | ⟨g, cap, cur, rfl, hg, hgg, rest⟩
  · exact .inl hn
  · exact .inr ⟨g, cap, cur, rfl, hg, by rw [hk g hg (Array.getElem?_eq_some_iff.1 hgg).1]; exact hgg, rest⟩
theorem owns_base {w : World} {B B' e size n : Nat} {v : Value} {xs : List Value} (h : w.ownsRow B e size v n xs) (hB : B' ≤ B) : w.ownsRow B' e size v n xs := by
  refine ⟨h.1, ?_⟩
  rcases h.2 with hn | ⟨g, cap, cur, rfl, hg, rest⟩
  · exact .inl hn
  · exact .inr ⟨g, cap, cur, rfl, Nat.le_trans hB hg, rest⟩
/-- eight cells are written -/
def set8 (w : World) (b : Nat) (h : IH) : World := (((((((w.setCell ⟨b, 0, none⟩ (.string h.key)).setCell ⟨b, 1, none⟩ (.bool h.dead)).setCell ⟨b, 2, none⟩ (.bool h.far)).setCell ⟨b, 3, none⟩ (.slice h.a h.n h.c)).setCell ⟨b, 4, none⟩ (.int .i64 h.p.1)).setCell ⟨b, 5, none⟩ (.int .i64 h.p.2.1)).setCell ⟨b, 6, none⟩ (.int .i64 h.p.2.2.1)).setCell ⟨b, 7, none⟩ (.int .u32 (h.p.2.2.2 : Nat))
theorem set8_other (w : World) (b : Nat) (h : IH) (k : Nat) (hk : k ≠ b) : (set8 w b h).heap[k]? = w.heap[k]? := by
  unfold set8
  rw [Below.heap_setCell _ _ _ k hk, Below.heap_setCell _ _ _ k hk, Below.heap_setCell _ _ _ k hk, Below.heap_setCell _ _ _ k hk, Below.heap_setCell _ _ _ k hk, Below.heap_setCell _ _ _ k hk, Below.heap_setCell _ _ _ k hk, Below.heap_setCell _ _ _ k hk]
theorem set8_below {w0 w : World} {B : Nat} (hb : Below B w0 w) (b : Nat) (h : IH) (hB : B ≤ b) : Below B w0 (set8 w b h) :=
  (((((((hb.setCell hB _).setCell hB _).setCell hB _).setCell hB _).setCell hB _).setCell hB _).setCell hB _).setCell hB _
/-- eight cells as they lie, to be written -/
structure Eight (w : World) (b : Nat) (c0 c1 c2 c3 c4 c5 c6 c7 : Value) : Prop where
  k0 : w.cell? ⟨b, 0, none⟩ = some c0
  k1 : w.cell? ⟨b, 1, none⟩ = some c1
  k2 : w.cell? ⟨b, 2, none⟩ = some c2
  k3 : w.cell? ⟨b, 3, none⟩ = some c3
  k4 : w.cell? ⟨b, 4, none⟩ = some c4
  k5 : w.cell? ⟨b, 5, none⟩ = some c5
  k6 : w.cell? ⟨b, 6, none⟩ = some c6
  k7 : w.cell? ⟨b, 7, none⟩ = some c7
  fz : ∀ i, w.frozen? ⟨b, i, none⟩ = false
theorem eight_of {w : World} {b : Nat} {c0 c1 c2 c3 c4 c5 c6 c7 : Value} {e : TypeId} (h : w.heap[b]? = some (.cells #[c0, c1, c2, c3, c4, c5, c6, c7] e (0, 0))) : Eight w b c0 c1 c2 c3 c4 c5 c6 c7 :=
  ⟨(Go.Joins.cell_of_block h _).trans rfl, (Go.Joins.cell_of_block h _).trans rfl, (Go.Joins.cell_of_block h _).trans rfl, (Go.Joins.cell_of_block h _).trans rfl, (Go.Joins.cell_of_block h _).trans rfl, (Go.Joins.cell_of_block h _).trans rfl, (Go.Joins.cell_of_block h _).trans rfl, (Go.Joins.cell_of_block h _).trans rfl, fun i => Go.Joins.unfrozen_of_block h i⟩
end Go.Proofs.Ytjllglpjghcplaa
