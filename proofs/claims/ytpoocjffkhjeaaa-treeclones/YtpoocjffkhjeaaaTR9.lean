/- The law TreeOrders, given what is asked of the program. -/
import Derived.Test.YtpoocjffkhjeaaaTR8
namespace Go.Proofs.Ytpoocjffkhjeaaa
open Go.RowKit

theorem TRow.take {α : Type} {s : Nat} {enc : α → List Value} {d : α} {w : World} {a : Option Addr} {n : Nat} {l : List α} (h : TRow s enc d w a n l) (j : Nat) (hj : j ≤ n) : TRow s enc d w a j (l.take j) := by
  obtain ⟨h1, h2, h3⟩ := h
  refine ⟨by rw [List.length_take]; omega, by omega, ?_⟩
  rcases h3 with h0 | ⟨b, off, e, hc⟩
  · exact .inl (by omega)
  · refine .inr ⟨b, off, e, fun i hi => ?_⟩
    have := hc i (by omega)
    rw [show (l.take j).getD i d = l.getD i d by rw [List.getD_eq_getElem?_getD, List.getD_eq_getElem?_getD, List.getElem?_take, if_pos hi]]
    exact this
theorem TRow.drop {α : Type} {s : Nat} {enc : α → List Value} {d : α} {w : World} {b off n : Nat} {l : List α} (h : TRow s enc d w (some ⟨b, off, none⟩) n l) (j : Nat) (hj : j ≤ n) : TRow s enc d w (some ⟨b, off + j * s, none⟩) (n - j) (l.drop j) := by
  obtain ⟨h1, h2, h3⟩ := h
  refine ⟨by rw [List.length_drop]; omega, by omega, ?_⟩
  rcases h3 with h0 | ⟨b', off', e, hc⟩
  · exact .inl (by omega)
  · cases e
    refine .inr ⟨b, off + j * s, rfl, fun i hi => ?_⟩
    have := hc (j + i) (by omega)
    rw [show (l.drop j).getD i d = l.getD (j + i) d by rw [List.getD_eq_getElem?_getD, List.getD_eq_getElem?_getD, List.getElem?_drop]]
    rw [Nat.add_mul, ← Nat.add_assoc] at this
    exact this
theorem Only.refl (S : Nat → Prop) (w : World) : Only S w w := ⟨rfl, rfl, rfl, Nat.le_refl _, fun _ _ _ => rfl⟩
theorem Only.drew {S : Nat → Prop} {w w' : World} (h : Only S w.drew w') : Only S w w' := ⟨h.os, h.tape, h.output, h.size, h.block⟩
/-- a row that lies beside a set's blocks -/
theorem TRow.only {α : Type} {s : Nat} {enc : α → List Value} {d : α} {w W : World} {S : Nat → Prop} {a : Option Addr} {n : Nat} {l : List α} (h : TRow s enc d w a n l) (ho : Only S w W) (ha : ∀ p, a = some p → p.block < w.heap.size ∧ ¬ S p.block) : TRow s enc d W a n l := by
  obtain ⟨h1, h2, h3⟩ := h
  refine ⟨h1, h2, ?_⟩
  rcases h3 with h0 | ⟨b, off, e, hc⟩
  · exact .inl h0
  · obtain ⟨q1, q2⟩ := ha _ e
    refine .inr ⟨b, off, e, fun i hi j v hj => ?_⟩
    exact (World.cell?_of_block (w := w) (a := ⟨b, off + i * s + j, none⟩) (ho.block b q1 q2)).trans (hc i hi j v hj)
theorem ItAll.take {w : World} {hs : List IH} {xs : List It.I} (h : ItAll w hs xs) (j : Nat) : ItAll w (hs.take j) (xs.take j) := by
  refine ⟨by rw [List.length_take, List.length_take, h.1], fun i hi => ?_⟩
  rw [List.length_take] at hi
  have := h.2 i (by omega)
  rw [List.getD_eq_getElem?_getD, List.getD_eq_getElem?_getD, List.getElem?_take, if_pos (by omega), List.getElem?_take, if_pos (by omega), ← List.getD_eq_getElem?_getD, ← List.getD_eq_getElem?_getD]
  exact this
theorem ItAll.drop {w : World} {hs : List IH} {xs : List It.I} (h : ItAll w hs xs) (j : Nat) : ItAll w (hs.drop j) (xs.drop j) := by
  refine ⟨by rw [List.length_drop, List.length_drop, h.1], fun i hi => ?_⟩
  rw [List.length_drop] at hi
  have := h.2 (j + i) (by omega)
  rw [List.getD_eq_getElem?_getD, List.getD_eq_getElem?_getD, List.getElem?_drop, List.getElem?_drop, ← List.getD_eq_getElem?_getD, ← List.getD_eq_getElem?_getD]
  exact this
theorem ItAll.append {w : World} {hs hs' : List IH} {xs ys : List It.I} (h : ItAll w hs xs) (h' : ItAll w hs' ys) : ItAll w (hs ++ hs') (xs ++ ys) := by
  refine ⟨by rw [List.length_append, List.length_append, h.1, h'.1], fun i hi => ?_⟩
  rw [List.length_append] at hi
  rw [List.getD_eq_getElem?_getD, List.getD_eq_getElem?_getD]
  rcases Nat.lt_or_ge i xs.length with h0 | h0
  · rw [List.getElem?_append_left (by rw [h.1]; exact h0), List.getElem?_append_left h0, ← List.getD_eq_getElem?_getD, ← List.getD_eq_getElem?_getD]
    exact h.2 i h0
  · rw [List.getElem?_append_right (by rw [h.1]; exact h0), List.getElem?_append_right h0, ← List.getD_eq_getElem?_getD, ← List.getD_eq_getElem?_getD, h.1]
    exact h'.2 _ (by omega)
theorem It.perm_out {D R L : List It.I} {k : Nat} (h : (D ++ R).Perm L) (hk : k < R.length) : ((D ++ [R.getD k It.zero]) ++ (R.take k ++ R.drop (k + 1))).Perm L := by
  refine List.Perm.trans ?_ h
  rw [List.append_assoc]
  refine List.Perm.append_left D ?_
  have e : R = R.take k ++ (R.getD k It.zero :: R.drop (k + 1)) := by
    rw [← It.getD_drop hk, List.take_append_drop]
  have p : ([R.getD k It.zero] ++ (R.take k ++ R.drop (k + 1))).Perm (R.take k ++ (R.getD k It.zero :: R.drop (k + 1))) := by rw [List.singleton_append]; exact List.perm_middle.symm
  rwa [← e] at p
theorem It.mem_left {D R L : List It.I} {k : Nat} (h : (D ++ R).Perm L) (hk : k < R.length) : R.getD k It.zero ∈ L := by
  refine h.mem_iff.mp (List.mem_append_right _ ?_)
  rw [show R.getD k It.zero = R[k] by simp [hk]]
  exact List.getElem_mem hk
end Go.Proofs.Ytpoocjffkhjeaaa
