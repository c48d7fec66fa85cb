/- Frames, in the order in which the program asks: its number, its kind, whether the bytes end, the sum. Names no dump. -/
import Derived.Test.YtgmcjalcpgldhaaFrMath
namespace Va

theorem high_or {bs : List Nat} : ∀ m : Nat, (∀ j, j < m → 128 ≤ bs.getD j 0) ∨ ∃ k, k < m ∧ (∀ j, j < k → 128 ≤ bs.getD j 0) ∧ bs.getD k 0 < 128 := by
  intro m
  induction m with
  | zero => left; intro j hj; omega
  | succ m ih =>
    rcases ih with h | ⟨k, h1, h2, h3⟩
    · by_cases hm : bs.getD m 0 < 128
      · exact .inr ⟨m, by omega, h, hm⟩
      · left; intro j hj
        by_cases hjm : j = m
        · subst hjm; omega
        · exact h j (by omega)
    · exact .inr ⟨k, by omega, h2, h3⟩
theorem get_ok {bs : List Nat} (hs : ∀ x ∈ bs, x < 256) (h : (get bs).2 ≠ 0) : bs.take (get bs).2 = one (get bs).1 := by
  by_cases hl : bs.length ≤ 10
  · rcases high_or (bs := bs) bs.length with hh | ⟨k, h1, h2, h3⟩
    · rw [get_end (k := bs.length) hl (Nat.le_refl _) (.inl rfl) hh] at h; simp at h
    · by_cases hk : k ≤ 9
      · have e := get_at hs hk h1 h2 h3
        split at e
        · next he => rw [e]; exact he.symm
        · rw [e] at h; simp at h
      · omega
  · rcases high_or (bs := bs) 10 with hh | ⟨k, h1, h2, h3⟩
    · rw [get_end (k := 10) (Nat.le_refl _) (by omega) (.inr rfl) hh] at h; simp at h
    · have e := get_at hs (by omega : k ≤ 9) (by omega) h2 h3
      split at e
      · next he => rw [e]; exact he.symm
      · rw [e] at h; simp at h
theorem get_len {bs : List Nat} (hs : ∀ x ∈ bs, x < 256) (h : (get bs).2 ≠ 0) : (get bs).2 = (one (get bs).1).length := by
  have h1 := get_ok hs h
  have h2 := get_le (bs := bs)
  rw [← h1, List.length_take]; omega
end Va
namespace Go.Proofs.Ytgmcjalcpgldhaa.Fr

theorem gap_get {bs : List Nat} (h : gapHead bs = true) : Va.get bs = (0, 0) := by
  unfold gapHead at h
  simp only [Bool.and_eq_true, decide_eq_true_eq, List.all_eq_true] at h
  refine Va.get_end (k := bs.length) (by omega) (Nat.le_refl _) (.inl rfl) ?_
  intro j hj
  rw [List.getD_eq_getElem?_getD, List.getElem?_eq_getElem hj]
  exact h.2 _ (List.getElem_mem hj)
/-- the number of four bytes, the lowest first -/
def val4 (bs : List Nat) : Nat := bs.getD 0 0 + 256 * bs.getD 1 0 + 65536 * bs.getD 2 0 + 16777216 * bs.getD 3 0
theorem le4_val {s : Nat} {bs : List Nat} (hs : s < 4294967296) (hb : ∀ x ∈ bs, x < 256) (hl : bs.length = 4) : le4 s = bs ↔ s = val4 bs := by
  match bs, hl with
  | [a, b, c, d], _ =>
    have ha := hb a (by simp)
    have hb' := hb b (by simp)
    have hc := hb c (by simp)
    have hd := hb d (by simp)
    simp only [le4, val4, List.cons.injEq, and_true]
    simp only [List.getD_cons_zero, List.getD_cons_succ]
    omega
/-- what the number tells: how many bytes the body has, the code -/
def bsz (bs : List Nat) : Nat × Nat :=
  if (Va.get bs).2 = 0 then (0, if gapHead bs = true then 5 else 2) else if 1048576 < (Va.get bs).1 then (0, 2) else ((Va.get bs).1, 0)
/-- the frame that bytes begin with, as the program asks -/
theorem first_bad {bs : List Nat} (h : (bsz bs).2 ≠ 0) : first bs = ((0, []), 0, (bsz bs).2) := by
  unfold bsz at h ⊢
  unfold first
  by_cases hg : gapHead bs = true
  · have := gap_get hg
    rw [if_pos hg, this]; simp [hg]
  · rw [if_neg hg]
    by_cases h0 : (Va.get bs).2 = 0
    · rw [if_pos (.inl h0), if_pos h0, if_neg hg]
    · rw [if_neg h0] at h ⊢
      by_cases h1 : 1048576 < (Va.get bs).1
      · rw [if_pos (.inr h1), if_pos h1]
      · rw [if_neg h1] at h; simp at h
theorem bsz_ok {bs : List Nat} (hs : ∀ x ∈ bs, x < 256) (h : (bsz bs).2 = 0) : ∃ u, u ≤ 1048576 ∧ bsz bs = (u, 0) ∧ Va.get bs = (u, (Va.one u).length) ∧ bs.take (Va.one u).length = Va.one u ∧ (Va.one u).length ≤ bs.length ∧ gapHead bs = false := by
  unfold bsz at h ⊢
  by_cases h0 : (Va.get bs).2 = 0
  · rw [if_pos h0] at h
    by_cases hg : gapHead bs = true
    · simp [hg] at h
    · simp [hg] at h
  · rw [if_neg h0] at h ⊢
    by_cases h1 : 1048576 < (Va.get bs).1
    · rw [if_pos h1] at h; simp at h
    · rw [if_neg h1]
      have hl := Va.get_len hs h0
      have ht := Va.get_ok hs h0
      have hle := Va.get_le (bs := bs)
      refine ⟨(Va.get bs).1, by omega, rfl, ?_, by rw [← hl]; exact ht, by rw [← hl]; exact hle, ?_⟩
      · rw [← hl]
      · cases hg : gapHead bs with
        | false => rfl
        | true => rw [gap_get hg] at h0; simp at h0
theorem first_num {bs : List Nat} {u : Nat} (hu : u ≤ 1048576) (hget : Va.get bs = (u, (Va.one u).length)) (hg : gapHead bs = false) :
    first bs = if (Va.one u).length = bs.length then ((0, []), 0, 5)
      else if bs.getD (Va.one u).length 0 < 1 ∨ 250 < bs.getD (Va.one u).length 0 then ((0, []), 0, 2)
      else if bs.length < size u then ((0, []), 0, 5)
      else if put1 (bs.getD (Va.one u).length 0) ((bs.drop ((Va.one u).length + 1)).take u) = bs.take (size u) then ((((bs.getD (Va.one u).length 0 : Nat) : Int), (bs.drop ((Va.one u).length + 1)).take u), size u, 0)
      else ((0, []), 0, 2) := by
  have ho := Va.one_pos u
  unfold first
  rw [hget, hg, if_neg (by simp), if_neg (by show ¬ ((Va.one u).length = 0 ∨ 1048576 < u); omega)]
  rfl
theorem put_iff {bs : List Nat} {u o : Nat} (hs : ∀ x ∈ bs, x < 256) (ht : bs.take o = Va.one u) (hl : o + 1 + u + 4 ≤ bs.length) :
    put1 (bs.getD o 0) ((bs.drop (o + 1)).take u) = bs.take (o + 1 + u + 4) ↔ Crc.more 0 ((bs.drop o).take (u + 1)) = val4 ((bs.drop (o + 1 + u)).take 4) := by
  have hbl : ((bs.drop (o + 1)).take u).length = u := by rw [List.length_take, List.length_drop]; omega
  have hd1 : (bs.drop o).take (u + 1) = bs.getD o 0 :: (bs.drop (o + 1)).take u := by rw [Va.drop_get bs o (by omega), List.take_succ_cons]
  have h4l : ((bs.drop (o + 1 + u)).take 4).length = 4 := by rw [List.length_take, List.length_drop]; omega
  have h4s : ∀ x ∈ (bs.drop (o + 1 + u)).take 4, x < 256 := fun x hx => hs x (List.mem_of_mem_drop (List.mem_of_mem_take hx))
  have hcs : ∀ x ∈ (bs.drop o).take (u + 1), x < 256 := fun x hx => hs x (List.mem_of_mem_drop (List.mem_of_mem_take hx))
  have hcl := Crc.more_lt (s := 0) ((bs.drop o).take (u + 1)) (by omega) hcs
  have hsplit : bs.take (o + 1 + u + 4) = Va.one u ++ ((bs.drop o).take (u + 1) ++ (bs.drop (o + 1 + u)).take 4) := by
    rw [show o + 1 + u + 4 = o + ((u + 1) + 4) by omega, List.take_add, ht, List.take_add (i := u + 1), List.drop_drop, show o + (u + 1) = o + 1 + u by omega]
  rw [hsplit, put1, hbl]
  rw [List.append_cancel_left_eq, ← hd1, ← le4_val hcl h4s h4l]
  rw [show bs.getD o 0 :: ((bs.drop (o + 1)).take u ++ le4 (Crc.more 0 ((bs.drop o).take (u + 1)))) = (bs.drop o).take (u + 1) ++ le4 (Crc.more 0 ((bs.drop o).take (u + 1))) by rw [hd1]; rfl]
  rw [List.append_cancel_left_eq]
end Go.Proofs.Ytgmcjalcpgldhaa.Fr
