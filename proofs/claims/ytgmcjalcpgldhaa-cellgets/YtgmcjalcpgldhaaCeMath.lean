/- The plain mathematics of cells: which may be, their bytes, what is read, which values fit. Names no dump. -/
import Derived.Test.YtgmcjalcpgldhaaPoMath
namespace Go.Proofs.Ytgmcjalcpgldhaa.Ce

/-- Far, Bytes, Point -/
abbrev C := Bool × List Nat × Po.P
def zero : C := (false, [], Po.zero)
def may (c : C) : Bool := if c.1 = true then decide (c.2.1.length = 0) && Po.may c.2.2 else decide (c.2.1.length ≤ 32) && decide (c.2.2 = Po.zero)
def put (c : C) : List Nat := if c.1 = true then 1 :: Po.put c.2.2 else 0 :: (Va.one c.2.1.length ++ c.2.1)
/-- whether a value fits a point -/
def fits (p : Po.P) (v : List Nat) : Bool := decide (p.2.2.1 = (v.length : Int)) && decide (p.2.2.2 = Crc.more 0 v)
/-- the cell that bytes begin with, how many bytes it has; 0: there is none -/
def get (bs : List Nat) : C × Nat :=
  if bs.length = 0 ∨ 1 < bs.getD 0 0 then (zero, 0)
  else if bs.getD 0 0 = 1 then
    if (Po.get (bs.drop 1)).2 = 0 then (zero, 0) else ((true, [], (Po.get (bs.drop 1)).1), (Po.get (bs.drop 1)).2 + 1)
  else if (Va.get (bs.drop 1)).2 = 0 ∨ 32 < (Va.get (bs.drop 1)).1 ∨ bs.length < 1 + (Va.get (bs.drop 1)).2 + (Va.get (bs.drop 1)).1 then (zero, 0)
  else ((false, (bs.drop (1 + (Va.get (bs.drop 1)).2)).take (Va.get (bs.drop 1)).1, Po.zero), 1 + (Va.get (bs.drop 1)).2 + (Va.get (bs.drop 1)).1)

theorem may_far {b : List Nat} {p : Po.P} : may (true, b, p) = true ↔ b = [] ∧ Po.may p = true := by
  simp [may]
theorem may_near {b : List Nat} {p : Po.P} : may (false, b, p) = true ↔ b.length ≤ 32 ∧ p = Po.zero := by
  simp [may]
theorem put_small {c : C} (h : ∀ x ∈ c.2.1, x < 256) : ∀ x ∈ put c, x < 256 := by
  intro x hx
  unfold put at hx
  split at hx
  · rcases List.mem_cons.mp hx with rfl | hx
    · decide
    · exact Po.put_small x hx
  · rcases List.mem_cons.mp hx with rfl | hx
    · decide
    · rcases List.mem_append.mp hx with hx | hx
      · exact Va.one_small _ x hx
      · exact h x hx
theorem one_short {n : Nat} (h : n ≤ 32) : Va.one n = [n] := Va.one_lo (by omega)
theorem put_len {c : C} (h : may c = true) : (put c).length ≤ 35 := by
  obtain ⟨f, b, p⟩ := c
  cases f with
  | true =>
    have := may_far.mp h
    have := Po.put_len this.2
    simp [put]; omega
  | false =>
    have := may_near.mp h
    simp [put, one_short this.1]; omega
theorem put_pos (c : C) : 0 < (put c).length := by unfold put; split <;> simp
theorem get_put {c : C} (h : may c = true) (hb : ∀ x ∈ c.2.1, x < 256) (hs : c.2.2.2.2.2 < 4294967296) (more : List Nat) (hm : ∀ x ∈ more, x < 256) : get (put c ++ more) = (c, (put c).length) := by
  obtain ⟨f, b, p⟩ := c
  cases f with
  | true =>
    obtain ⟨rfl, hp⟩ := may_far.mp h
    have e : put (true, [], p) = 1 :: Po.put p := by simp [put]
    rw [e]
    unfold get
    rw [if_neg (by simp), if_pos (by simp)]
    have : ((1 :: Po.put p) ++ more).drop 1 = Po.put p ++ more := by simp
    rw [this, Po.get_put hp hs more hm]
    have hl : (Po.put p).length ≠ 0 := by rw [Po.put, List.length_append, Fr.le4_len]; omega
    rw [if_neg hl]; simp
  | false =>
    obtain ⟨hl, rfl⟩ := may_near.mp h
    have e : put (false, b, Po.zero) = 0 :: (Va.one b.length ++ b) := by simp [put]
    rw [e]
    unfold get
    rw [if_neg (by simp), if_neg (by simp)]
    have hd : ((0 :: (Va.one b.length ++ b)) ++ more).drop 1 = Va.one b.length ++ (b ++ more) := by simp
    have hg : Va.get (Va.one b.length ++ (b ++ more)) = (b.length, (Va.one b.length).length) := Va.get_one (by omega) _ (by
      intro x hx
      rcases List.mem_append.mp hx with hx | hx
      · exact hb x hx
      · exact hm x hx)
    rw [hd, hg]
    rw [one_short hl] at *
    simp only [List.length_cons, List.length_nil]
    rw [if_neg (by simp; omega)]
    simp
    omega
theorem get_le (bs : List Nat) : (get bs).2 ≤ bs.length := by
  unfold get
  split
  · omega
  · next h =>
    split
    · split
      · omega
      · have := Po.get_le (bs.drop 1)
        rw [List.length_drop] at this
        simp only []; omega
    · split
      · omega
      · next h' => simp only []; omega
theorem get_small {bs : List Nat} (h : ∀ x ∈ bs, x < 256) : (∀ x ∈ (get bs).1.2.1, x < 256) ∧ (get bs).1.2.1.length ≤ 32 ∧ Po.Fits (get bs).1.2.2 := by
  have hz : Po.Fits Po.zero := ⟨by decide, by decide, by decide, by decide⟩
  unfold get
  split
  · exact ⟨by simp [zero], by simp [zero], hz⟩
  · split
    · split
      · exact ⟨by simp [zero], by simp [zero], hz⟩
      · exact ⟨by simp, by simp, Po.get_fits (fun x hx => h x (List.mem_of_mem_drop hx))⟩
    · split
      · exact ⟨by simp [zero], by simp [zero], hz⟩
      · next h' => exact ⟨fun x hx => h x (List.mem_of_mem_drop (List.mem_of_mem_take hx)), by simp only [List.length_take]; omega, hz⟩
end Go.Proofs.Ytgmcjalcpgldhaa.Ce
