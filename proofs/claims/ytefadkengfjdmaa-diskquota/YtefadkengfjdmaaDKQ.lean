/- How a disk grows, act by act; the chapter's example. -/
import Derived.Test.YtefadkengfjdmaaDKP
namespace Go.Proofs.Ytefadkengfjdmaa
open Go.RowKit Go.Shelf

/-- a disk of few files, names and turns -/
structure Dk.Small (D : Dk.D) (b q : Nat) : Prop where
  last : D.last ≤ b
  turns : D.turns.length + D.kept.length ≤ b
  names : D.names.length ≤ b
  quota : D.quota = q
theorem Dk.Small.le {D : Dk.D} {b c q : Nat} (h : Dk.Small D b q) (hc : b ≤ c) : Dk.Small D c q := ⟨Nat.le_trans h.last hc, Nat.le_trans h.turns hc, Nat.le_trans h.names hc, h.quota⟩
theorem Dk.Small.of {D E : Dk.D} {b q : Nat} (h : Dk.Small D b q) (h1 : E.last = D.last) (h2 : E.turns = D.turns) (h3 : E.kept = D.kept) (h4 : E.names = D.names) (h5 : E.quota = D.quota) : Dk.Small E b q := ⟨h1 ▸ h.last, by rw [h2, h3]; exact h.turns, h4 ▸ h.names, h5.trans h.quota⟩
theorem Dk.Small.tick {D : Dk.D} {b q : Nat} (h : Dk.Small D b q) : Dk.Small (Dk.tick D) b q := h.of rfl rfl rfl rfl rfl
theorem Dk.Small.acted {D E : Dk.D} {b q : Nat} (h : Dk.Small D b q) (h' : Dk.Small E (b + 1) q) : Dk.Small (Dk.acted D E).1 (b + 1) q := by
  unfold Dk.acted
  split
  · exact h.tick.le (Nat.le_succ _)
  · exact h'.tick
theorem Dk.turn_length (t : Dk.T) (K : List (ByteArray × Nat)) : (Dk.turn t K).length ≤ K.length + 1 := by
  have := Dk.turns_length [t] K
  simpa [Dk.turns] using this
theorem Dk.Small.turned {D : Dk.D} {b q : Nat} (h : Dk.Small D b q) (t : Dk.T) : Dk.Small (Dk.turned D t) (b + 1) q := by
  have h1 := Dk.turn_length t D.names
  have h2 := h.turns
  have h3 := h.names
  have h4 := h.last
  refine ⟨?_, ?_, ?_, h.quota⟩
  · show D.last ≤ b + 1; omega
  · show (D.turns ++ [t]).length + D.kept.length ≤ b + 1; rw [List.length_append]; simp only [List.length_cons, List.length_nil]; omega
  · show (Dk.turn t D.names).length ≤ b + 1; omega
theorem Dk.Small.settle {D : Dk.D} {b q : Nat} (h : Dk.Small D b q) (n : Nat) : Dk.Small (Dk.settle D n) b q := by
  have h1 := Dk.turns_length (D.turns.take n) D.kept
  have h2 : (D.turns.take n).length ≤ D.turns.length := by rw [List.length_take]; omega
  have h3 := h.turns
  refine ⟨h.last, ?_, ?_, h.quota⟩
  · show ([] : List Dk.T).length + (Dk.turns (D.turns.take n) D.kept).length ≤ b; simp only [List.length_nil]; omega
  · show (Dk.turns (D.turns.take n) D.kept).length ≤ b; omega
theorem Dk.Small.tail1 {st : Dk.D × List Int} {b q : Nat} (h : Dk.Small st.1 b q) (s : ByteArray) : Dk.Small (Dk.tail1 st s).1 b q := by
  unfold Dk.tail1
  split
  · exact h
  · split
    · exact h
    · exact h.of rfl rfl rfl rfl rfl
theorem Dk.Small.tails {b q : Nat} : ∀ (l : List ByteArray) {D : Dk.D} (_ : Dk.Small D b q) (zs : List Int), Dk.Small (Dk.tails D zs l).1 b q
  | [], _, h, _ => h
  | s :: l, D, h, zs => by
    have := Dk.Small.tails l (h.tail1 (st := (D, zs)) s) (Dk.tail1 (D, zs) s).2
    exact this
theorem Dk.Small.crash {D : Dk.D} {b q : Nat} (h : Dk.Small D b q) (kn : Int) (zs : List Int) : Dk.Small (Dk.crash D kn zs) b q :=
  (Dk.Small.tails _ (h.settle _) zs).of rfl rfl rfl rfl rfl
theorem Dk.Small.append {D : Dk.D} {b q : Nat} (h : Dk.Small D b q) (s : ByteArray) (bs : List Nat) : Dk.Small (Dk.append D s bs).1 (b + 1) q := by
  unfold Dk.append
  split
  · exact h.le (Nat.le_succ _)
  · split
    · exact h.le (Nat.le_succ _)
    · split
      · exact h.le (Nat.le_succ _)
      · refine h.acted ?_
        unfold Dk.appended
        split
        · exact (h.le (Nat.le_succ _)).of rfl rfl rfl rfl rfl
        · have h1 : Dk.Small (Dk.created D s) (b + 1) q := by
            have h2 := Dk.turn_length ⟨⟨#[]⟩, s, D.last + 1⟩ D.names
            have h3 := h.turns
            have h4 := h.names
            have h5 := h.last
            refine ⟨?_, ?_, ?_, h.quota⟩
            · show D.last + 1 ≤ b + 1; omega
            · show (D.turns ++ [_]).length + D.kept.length ≤ b + 1; rw [List.length_append]; simp only [List.length_cons, List.length_nil]; omega
            · show (Dk.turn ⟨⟨#[]⟩, s, D.last + 1⟩ D.names).length ≤ b + 1; omega
          exact h1.of rfl rfl rfl rfl rfl
theorem Dk.Small.cut {D : Dk.D} {b q : Nat} (h : Dk.Small D b q) (s : ByteArray) (n : Int) : Dk.Small (Dk.cut D s n).1 (b + 1) q := by
  unfold Dk.cut
  split
  · exact h.le (Nat.le_succ _)
  · split
    · exact h.le (Nat.le_succ _)
    · split
      · exact h.le (Nat.le_succ _)
      · exact h.acted ((h.le (Nat.le_succ _)).of rfl rfl rfl rfl rfl)
theorem Dk.Small.sync {D : Dk.D} {b q : Nat} (h : Dk.Small D b q) (s : ByteArray) : Dk.Small (Dk.sync D s).1 (b + 1) q := by
  unfold Dk.sync
  split
  · exact h.le (Nat.le_succ _)
  · split
    · exact h.le (Nat.le_succ _)
    · exact h.acted ((h.le (Nat.le_succ _)).of rfl rfl rfl rfl rfl)
theorem Dk.Small.syncNames {D : Dk.D} {b q : Nat} (h : Dk.Small D b q) : Dk.Small (Dk.syncNames D).1 (b + 1) q := by
  unfold Dk.syncNames
  split
  · exact h.le (Nat.le_succ _)
  · exact h.acted ((h.settle _).le (Nat.le_succ _))
theorem Dk.Small.rename {D : Dk.D} {b q : Nat} (h : Dk.Small D b q) (old fresh : ByteArray) : Dk.Small (Dk.rename D old fresh).1 (b + 1) q := by
  unfold Dk.rename
  split
  · exact h.le (Nat.le_succ _)
  · split
    · exact h.le (Nat.le_succ _)
    · split
      · exact h.le (Nat.le_succ _)
      · refine h.acted ?_
        unfold Dk.renamed
        split
        · exact h.le (Nat.le_succ _)
        · exact h.turned _
theorem Dk.Small.remove {D : Dk.D} {b q : Nat} (h : Dk.Small D b q) (s : ByteArray) : Dk.Small (Dk.remove D s).1 (b + 1) q := by
  unfold Dk.remove
  split
  · exact h.le (Nat.le_succ _)
  · split
    · exact h.le (Nat.le_succ _)
    · exact h.acted (h.turned _)
theorem Dk.Small.new (q : Nat) : Dk.Small (Dk.new q) 0 q := ⟨Nat.le_refl _, Nat.le_refl _, Nat.le_refl _, rfl⟩

/-- the chapter's example -/
def sa : ByteArray := ⟨#[97]⟩
theorem ex1 : (Dk.append (Dk.new 100) sa [1, 2]).1 = ⟨100, [(1, ⟨[1, 2], 0⟩)], 1, [(sa, 1)], [], [⟨⟨#[]⟩, sa, 1⟩], 0, 0, false⟩ := by rfl
theorem ex2 : (Dk.sync ⟨100, [(1, ⟨[1, 2], 0⟩)], 1, [(sa, 1)], [], [⟨⟨#[]⟩, sa, 1⟩], 0, 0, false⟩ sa).1 = ⟨100, [(1, ⟨[1, 2], 2⟩)], 1, [(sa, 1)], [], [⟨⟨#[]⟩, sa, 1⟩], 0, 0, false⟩ := by rfl
theorem ex3 : (Dk.syncNames ⟨100, [(1, ⟨[1, 2], 2⟩)], 1, [(sa, 1)], [], [⟨⟨#[]⟩, sa, 1⟩], 0, 0, false⟩).1 = ⟨100, [(1, ⟨[1, 2], 2⟩)], 1, [(sa, 1)], [(sa, 1)], [], 0, 0, false⟩ := by rfl
theorem ex4 : (Dk.append ⟨100, [(1, ⟨[1, 2], 2⟩)], 1, [(sa, 1)], [(sa, 1)], [], 0, 0, false⟩ sa [3]).1 = ⟨100, [(1, ⟨[1, 2, 3], 2⟩)], 1, [(sa, 1)], [(sa, 1)], [], 0, 0, false⟩ := by rfl
theorem ex5 : Dk.crash ⟨100, [(1, ⟨[1, 2, 3], 2⟩)], 1, [(sa, 1)], [(sa, 1)], [], 0, 0, false⟩ 0 [] = ⟨100, [(1, ⟨[1, 2], 2⟩)], 1, [(sa, 1)], [(sa, 1)], [], 0, 0, false⟩ := by
  have h1 : Dk.settle ⟨100, [(1, ⟨[1, 2, 3], 2⟩)], 1, [(sa, 1)], [(sa, 1)], [], 0, 0, false⟩ (min (max (0 : Int) 0) ((([] : List Dk.T).length : Nat) : Int)).toNat = ⟨100, [(1, ⟨[1, 2, 3], 2⟩)], 1, [(sa, 1)], [(sa, 1)], [], 0, 0, false⟩ := by rfl
  have h2 : Dk.order ⟨100, [(1, ⟨[1, 2, 3], 2⟩)], 1, [(sa, 1)], [(sa, 1)], [], 0, 0, false⟩ = [sa] := by
    unfold Dk.order
    simp [List.mergeSort_singleton, sa]
  unfold Dk.crash
  rw [h1, h2]
  rfl
theorem ex6 : Dk.find ⟨100, [(1, ⟨[1, 2], 2⟩)], 1, [(sa, 1)], [(sa, 1)], [], 0, 0, false⟩ sa = some (1, ⟨[1, 2], 2⟩) := by rfl
end Go.Proofs.Ytefadkengfjdmaa
