/- The counting of the law FrameCuts, and where bodies stand. -/
import Derived.Test.YtjioipkohnlipaaG5
namespace Go.Proofs.Ytjioipkohnlipaa
open Go.RowKit

/-- where the first n frames end -/
def pl (fs : List Fr.F) (n : Nat) : Nat := (Fr.all (fs.take n)).length
theorem pl_zero (fs : List Fr.F) : pl fs 0 = 0 := by simp [pl, Fr.all]
theorem pl_step (fs : List Fr.F) (n : Nat) (h : n < fs.length) : pl fs (n + 1) = pl fs n + Fr.size (fs.getD n (0, [])).2.length := by
  unfold pl; rw [fall_take fs n h, List.length_append, Fr.one_len]
theorem pl_le (fs : List Fr.F) (n : Nat) : pl fs n ≤ (Fr.all fs).length := fall_take_le fs n
theorem pl_cons (f : Fr.F) (fs : List Fr.F) (n : Nat) : pl (f :: fs) (n + 1) = Fr.size f.2.length + pl fs n := by
  unfold pl; rw [List.take_succ_cons, Fr.all_len_cons]
theorem cuts_eq : ∀ (fs : List Fr.F) (k n : Nat), n ≤ fs.length → pl fs n ≤ k → (n = fs.length ∨ k < pl fs (n + 1)) → Fr.cuts fs k = (n, pl fs n) := by
  intro fs
  induction fs with
  | nil => intro k n h1 _ _; obtain rfl : n = 0 := by simpa using h1
           simp [Fr.cuts, pl_zero]
  | cons f fs ih =>
    intro k n h1 h2 h3
    cases n with
    | zero =>
      rcases h3 with h3 | h3
      · simp at h3
      · rw [pl_cons, pl_zero] at h3
        rw [Fr.cuts, if_neg (by omega), pl_zero]
    | succ n =>
      rw [pl_cons] at h2
      have := ih (k - Fr.size f.2.length) n (by simpa using h1) (by omega) (by
        rcases h3 with h3 | h3
        · left; simpa using h3
        · right; rw [pl_cons] at h3; omega)
      rw [Fr.cuts, if_pos (by omega), this, pl_cons]
      simp; omega
/-- where the body of frame i stands -/
def bp (fs : List Fr.F) (i : Nat) : Nat := pl fs i + (Va.one (fs.getD i (0, [])).2.length).length + 1
theorem places_get : ∀ (fs : List Fr.F) (at' i : Nat), i < fs.length → (Fr.places fs at')[i]? = some (at' + bp fs i) := by
  intro fs
  induction fs with
  | nil => intro at' i h; simp at h
  | cons f fs ih =>
    intro at' i h
    cases i with
    | zero => simp [Fr.places, bp, pl_zero]; omega
    | succ i =>
      rw [Fr.places, List.getElem?_cons_succ, ih _ i (by simpa using h)]
      simp only [bp, pl_cons, List.getD_cons_succ, Option.some.injEq]; omega
theorem bp_end (fs : List Fr.F) (i : Nat) (h : i < fs.length) : bp fs i + (fs.getD i (0, [])).2.length + 4 = pl fs (i + 1) := by
  rw [pl_step fs i h]; unfold bp Fr.size; omega
theorem bp_body : ∀ (fs : List Fr.F) (i : Nat), i < fs.length → ((Fr.all fs).drop (bp fs i)).take (fs.getD i (0, [])).2.length = (fs.getD i (0, [])).2 := by
  intro fs
  induction fs with
  | nil => intro i h; simp at h
  | cons f fs ih =>
    intro i h
    cases i with
    | zero =>
      simp only [List.getD_cons_zero]
      have e : bp (f :: fs) 0 = (Va.one f.2.length ++ [f.1.toNat]).length := by simp [bp, pl_zero]
      rw [e, Fr.all_cons, Fr.one, Fr.put1]
      have : Va.one f.2.length ++ (f.1.toNat :: (f.2 ++ Fr.le4 (Crc.more 0 (f.1.toNat :: f.2)))) ++ Fr.all fs = (Va.one f.2.length ++ [f.1.toNat]) ++ (f.2 ++ (Fr.le4 (Crc.more 0 (f.1.toNat :: f.2)) ++ Fr.all fs)) := by simp
      rw [this, List.drop_left, List.take_left]
    | succ i =>
      have e : bp (f :: fs) (i + 1) = (Fr.one f).length + bp fs i := by simp only [bp, pl_cons, List.getD_cons_succ, Fr.one_len]; omega
      rw [e, Fr.all_cons, ← List.drop_drop, List.drop_left, List.getD_cons_succ]
      exact ih i (by simpa using h)
theorem FRow.take {w : World} {a : Option Addr} {n : Nat} {fs : List Fr.F} (h : FRow w a n fs) (j : Nat) (hj : j ≤ n) : FRow w a j (fs.take j) := by
  obtain ⟨h1, h2, h3⟩ := h
  refine ⟨by rw [List.length_take]; omega, by omega, ?_⟩
  rcases Nat.eq_zero_or_pos j with h0 | h0
  · exact .inl h0
  · rcases h3 with h3 | ⟨b, off, e, hc⟩
    · omega
    · refine .inr ⟨b, off, e, fun i hi => ?_⟩
      have := hc i (by omega)
      have e : (fs.take j).getD i (0, []) = fs.getD i (0, []) := by rw [List.getD_eq_getElem?_getD, List.getElem?_take, if_pos hi, ← List.getD_eq_getElem?_getD]
      rw [e]; exact this
end Go.Proofs.Ytjioipkohnlipaa
