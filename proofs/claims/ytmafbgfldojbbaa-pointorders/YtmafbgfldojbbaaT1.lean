/- A block of points that is written in place: its cells, a store, a swap. -/
import Derived.Test.YtmafbgfldojbbaaS4
import Derived.Test.YtmafbgfldojbbaaSoMath
import Derived.Lib.SmallJoins
import Derived.Maps.AppendAt
namespace Go.Proofs.Ytmafbgfldojbbaa
open Go.RowKit

def PBlk (w : World) (g n : Nat) (ps : List Po.P) : Prop :=
  ∃ cur, w.heap[g]? = some (.cells cur 24 (0, 0)) ∧ cur.toList.take (n * 4) = pcells ps ∧ ps.length = n ∧ ∀ p ∈ ps, Po.Fits p
/-- the cells of one point, and that they may be written -/
def PCell (w : World) (g o : Nat) (p : Po.P) : Prop :=
  (w.cell? ⟨g, o, none⟩ = some (.int .i64 p.1) ∧ w.cell? ⟨g, o + 1, none⟩ = some (.int .i64 p.2.1) ∧ w.cell? ⟨g, o + 2, none⟩ = some (.int .i64 p.2.2.1) ∧ w.cell? ⟨g, o + 3, none⟩ = some (.int .u32 (p.2.2.2 : Nat))) ∧
  w.frozen? ⟨g, o, none⟩ = false ∧ w.frozen? ⟨g, o + 1, none⟩ = false ∧ w.frozen? ⟨g, o + 2, none⟩ = false ∧ w.frozen? ⟨g, o + 3, none⟩ = false
theorem PBlk.lt {w : World} {g n : Nat} {ps : List Po.P} (h : PBlk w g n ps) : g < w.heap.size := by
  obtain ⟨cur, hg, _⟩ := h
  exact (Array.getElem?_eq_some_iff.1 hg).1
theorem PBlk.len {w : World} {g n : Nat} {ps : List Po.P} (h : PBlk w g n ps) : ps.length = n := by obtain ⟨_, _, _, h, _⟩ := h; exact h
theorem PBlk.fits {w : World} {g n : Nat} {ps : List Po.P} (h : PBlk w g n ps) : ∀ p ∈ ps, Po.Fits p := by obtain ⟨_, _, _, _, h⟩ := h; exact h
theorem PBlk.of_block {w w' : World} {g n : Nat} {ps : List Po.P} (h : PBlk w g n ps) (e : w'.heap[g]? = w.heap[g]?) : PBlk w' g n ps := by
  obtain ⟨cur, hg, r⟩ := h
  exact ⟨cur, e.trans hg, r⟩
theorem PBlk.below {w w' : World} {B g n : Nat} {ps : List Po.P} (h : PBlk w g n ps) (hb : Below B w w') (hB : g < B) : PBlk w' g n ps := h.of_block (hb.block g hB)
theorem getD_mid (L1 L2 : List Po.P) (x : Po.P) : (L1 ++ x :: L2).getD L1.length Po.zero = x := by simp
theorem getD_next (L1 L2 : List Po.P) (x y : Po.P) : (L1 ++ x :: y :: L2).getD (L1.length + 1) Po.zero = y := by simp
theorem PBlk.cell {w : World} {g n : Nat} {ps : List Po.P} (h : PBlk w g n ps) (i : Nat) (hi : i < n) : PCell w g (i * 4) (ps.getD i Po.zero) := by
  obtain ⟨cur, hg, ht, hl, hf⟩ := h
  obtain ⟨p0, p1, p2, p3⟩ := pcells_get ps i (by omega)
  rw [← ht] at p0 p1 p2 p3
  have c : ∀ o u, (cur.toList.take (n * 4))[o]? = some u → w.cell? ⟨g, o, none⟩ = some u := by
    intro o u h
    rw [Go.Joins.cell_of_block hg]
    rw [List.getElem?_take] at h
    split at h
    · simpa using h
    · cases h
  refine ⟨⟨c _ _ p0, c _ _ p1, c _ _ p2, c _ _ p3⟩, ?_, ?_, ?_, ?_⟩ <;> exact Go.Joins.unfrozen_of_block hg _

theorem pcells_set (ps : List Po.P) (i : Nat) (hi : i < ps.length) (p : Po.P) :
    ((((pcells ps).set (i * 4) (.int .i64 p.1)).set (i * 4 + 1) (.int .i64 p.2.1)).set (i * 4 + 2) (.int .i64 p.2.2.1)).set (i * 4 + 3) (.int .u32 (p.2.2.2 : Nat)) = pcells (ps.set i p) := by
  obtain ⟨L1, x, L2, rfl, rfl⟩ : ∃ L1 x L2, ps = L1 ++ x :: L2 ∧ i = L1.length := ⟨ps.take i, ps[i], ps.drop (i + 1), by simp, by simp; omega⟩
  have e : ∀ q : Po.P, pcells (L1 ++ q :: L2) = pcells L1 ++ ([.int .i64 q.1, .int .i64 q.2.1, .int .i64 q.2.2.1, .int .u32 (q.2.2.2 : Nat)] ++ pcells L2) := fun q => by rw [pcells_append]; rfl
  have hl : (pcells L1).length = L1.length * 4 := pcells_length L1
  rw [show (L1 ++ x :: L2).set L1.length p = L1 ++ p :: L2 by simp, e, e]
  rw [← hl]
  rw [List.set_append_right _ _ (by omega), List.set_append_right _ _ (by omega), List.set_append_right _ _ (by omega), List.set_append_right _ _ (by omega)]
  congr 1
  simp

/-- a point is stored -/
theorem PBlk.store {w : World} {g n : Nat} {ps : List Po.P} (h : PBlk w g n ps) (i : Nat) (hi : i < n) (p : Po.P) (hp : Po.Fits p) :
    PBlk ((((w.setCell ⟨g, i * 4, none⟩ (.int .i64 p.1)).setCell ⟨g, i * 4 + 1, none⟩ (.int .i64 p.2.1)).setCell ⟨g, i * 4 + 2, none⟩ (.int .i64 p.2.2.1)).setCell ⟨g, i * 4 + 3, none⟩ (.int .u32 (p.2.2.2 : Nat))) g n (ps.set i p) := by
  obtain ⟨cur, hg, ht, hl, hf⟩ := h
  have h1 := Go.Joins.block_setCell (i := i * 4) hg (.int .i64 p.1)
  have h2 := Go.Joins.block_setCell (i := i * 4 + 1) h1 (.int .i64 p.2.1)
  have h3 := Go.Joins.block_setCell (i := i * 4 + 2) h2 (.int .i64 p.2.2.1)
  have h4 := Go.Joins.block_setCell (i := i * 4 + 3) h3 (.int .u32 (p.2.2.2 : Nat))
  refine ⟨_, h4, ?_, by rw [List.length_set]; exact hl, ?_⟩
  · rw [← pcells_set ps i (by omega) p, ← ht]
    simp only [Array.toList_setIfInBounds, List.take_set]
  · intro q hq
    rcases List.mem_or_eq_of_mem_set hq with h | h
    · exact hf q h
    · rw [h]; exact hp

theorem turned_set (w : World) (g o : Nat) (v : Value) : w.grownBy (w.setCell ⟨g, o, none⟩ v) (some g) :=
  ⟨rfl, rfl, rfl, by simp, fun k _ hne => Below.heap_setCell w ⟨g, o, none⟩ v k (fun e => hne (by rw [e]))⟩
theorem turned_four (w : World) (g o0 o1 o2 o3 : Nat) (v0 v1 v2 v3 : Value) : w.grownBy ((((w.setCell ⟨g, o0, none⟩ v0).setCell ⟨g, o1, none⟩ v1).setCell ⟨g, o2, none⟩ v2).setCell ⟨g, o3, none⟩ v3) (some g) :=
  (((turned_set w g o0 v0).trans (turned_set _ g o1 v1)).trans (turned_set _ g o2 v2)).trans (turned_set _ g o3 v3)
theorem turned_below {w w' : World} {g : Nat} (h : Below w.heap.size w w') : w.grownBy w' (some g) := ⟨h.os, h.tape, h.output, h.size, fun k hk _ => h.block k hk⟩
theorem turned_refl (w : World) (g : Nat) : w.grownBy w (some g) := ⟨rfl, rfl, rfl, Nat.le_refl _, fun _ _ _ => rfl⟩
theorem turned_drew (w : World) (g : Nat) : w.grownBy w.drew (some g) := ⟨rfl, rfl, rfl, Nat.le_refl _, fun _ _ _ => rfl⟩
theorem turned_drewN (w : World) (g n : Nat) : w.grownBy (w.drewN n) (some g) := ⟨rfl, rfl, rfl, Nat.le_refl _, fun _ _ _ => rfl⟩
/-- nothing but the row has turned -/
theorem below_turned {a w w' : World} {B g : Nat} (h : Below B a w) (hB : B ≤ w.heap.size) (hg : w.grownBy w' (some g)) (hgB : B ≤ g) : Below B a w' := h.grown hg hB (fun k hk => by cases hk; exact hgB)

theorem set_mid (L1 L2 : List Po.P) (x y : Po.P) (i : Nat) (hi : i = L1.length) : (L1 ++ x :: L2).set i y = L1 ++ y :: L2 := by subst hi; simp
/-- two neighbours change places -/
theorem swap_near (L1 L3 : List Po.P) (x y : Po.P) (i j : Nat) (hi : i = L1.length) (hj : j = L1.length + 1) : ((L1 ++ x :: y :: L3).set i y).set j x = L1 ++ y :: x :: L3 := by subst hi; subst hj; simp
theorem swap_near' (L1 L3 : List Po.P) (x y : Po.P) (i j : Nat) (hi : i = L1.length) (hj : j = L1.length + 1) : ((L1 ++ x :: y :: L3).set j x).set i y = L1 ++ y :: x :: L3 := by subst hi; subst hj; simp
/-- two that stand apart change places -/
theorem swap_far (L1 L2 L3 : List Po.P) (x y : Po.P) (i j : Nat) (hi : i = L1.length) (hj : j = L1.length + 1 + L2.length) : ((L1 ++ x :: (L2 ++ y :: L3)).set i y).set j x = L1 ++ y :: (L2 ++ x :: L3) := by
  subst hi; subst hj
  rw [set_mid _ _ _ _ _ rfl, List.set_append_right _ _ (by omega), show L1.length + 1 + L2.length - L1.length = L2.length + 1 by omega, List.set_cons_succ, set_mid _ _ _ _ _ rfl]
end Go.Proofs.Ytmafbgfldojbbaa
