/- The plain mathematics of points: which may be, their bytes, what is read, their order. Names no dump. -/
import Derived.Test.YtgmcjalcpgldhaaPMath
namespace Go.Proofs.Ytgmcjalcpgldhaa.Po

/-- Seg, At, Len, Sum -/
abbrev P := Int × Int × Int × Nat
def zero : P := (0, 0, 0, 0)
def may (p : P) : Bool := decide (1 ≤ p.1 ∧ p.1 ≤ 2147483647 ∧ 0 ≤ p.2.1 ∧ p.2.1 ≤ 2147483647 ∧ 0 ≤ p.2.2.1 ∧ p.2.2.1 ≤ 4096)
theorem may_iff (p : P) : may p = true ↔ 1 ≤ p.1 ∧ p.1 ≤ 2147483647 ∧ 0 ≤ p.2.1 ∧ p.2.1 ≤ 2147483647 ∧ 0 ≤ p.2.2.1 ∧ p.2.2.1 ≤ 4096 := by simp [may]
def nums (p : P) : List Nat := [p.1.toNat, p.2.1.toNat, p.2.2.1.toNat]
def put (p : P) : List Nat := Va.put (nums p) ++ Fr.le4 p.2.2.2
theorem nums_small {p : P} (h : may p = true) : ∀ u ∈ nums p, u < 18446744073709551616 := by
  have := (may_iff p).mp h
  intro u hu
  simp only [nums, List.mem_cons, List.not_mem_nil, or_false] at hu
  omega
theorem put_small {p : P} : ∀ x ∈ put p, x < 256 := by
  intro x hx
  rcases List.mem_append.mp hx with h | h
  · exact Va.put_small _ x h
  · exact Fr.le4_small _ x h
theorem put_len {p : P} (h : may p = true) : (put p).length ≤ 34 := by
  have := Va.put_len (nums p) (nums_small h)
  have h3 : (nums p).length = 3 := rfl
  rw [put, List.length_append, Fr.le4_len]
  omega

/-- the point of three numbers and four bytes -/
def ofNums (l bs4 : List Nat) : P := ((l.getD 0 0 : Nat), (l.getD 1 0 : Nat), (l.getD 2 0 : Nat), Fr.val4 bs4)
/-- the point that bytes begin with, how many bytes it has; 0: there is none -/
def get (bs : List Nat) : P × Nat :=
  if (Va.all bs 3).2.2 = 0 ∧ (Va.all bs 3).2.1 + 4 ≤ bs.length ∧ may (ofNums (Va.all bs 3).1 ((bs.drop (Va.all bs 3).2.1).take 4)) = true
  then (ofNums (Va.all bs 3).1 ((bs.drop (Va.all bs 3).2.1).take 4), (Va.all bs 3).2.1 + 4) else (zero, 0)
theorem le4_of_val {s : Nat} (hs : s < 4294967296) : Fr.val4 (Fr.le4 s) = s :=
  ((Fr.le4_val hs (Fr.le4_small s) (Fr.le4_len s)).mp rfl).symm
theorem get_put {p : P} (h : may p = true) (hs : p.2.2.2 < 4294967296) (more : List Nat) (hm : ∀ x ∈ more, x < 256) : get (put p ++ more) = (p, (put p).length) := by
  have hall : Va.all (put p ++ more) 3 = (nums p, (Va.put (nums p)).length, 0) := by
    have := Va.all_put (nums p) (Fr.le4 p.2.2.2 ++ more) (nums_small h) (by
      intro x hx
      rcases List.mem_append.mp hx with h | h
      · exact Fr.le4_small _ x h
      · exact hm x h)
    rw [put, List.append_assoc]; exact this
  have hdrop : ((put p ++ more).drop (Va.put (nums p)).length).take 4 = Fr.le4 p.2.2.2 := by
    rw [put, List.append_assoc, List.drop_left, show (4 : Nat) = (Fr.le4 p.2.2.2).length from rfl, List.take_left]
  have hof : ofNums (nums p) (Fr.le4 p.2.2.2) = p := by
    obtain ⟨a, b, c, d⟩ := p
    have := (may_iff _).mp h
    simp only [] at this hs
    simp only [ofNums, nums, List.getD_cons_zero, List.getD_cons_succ, le4_of_val hs]
    rw [show ((a.toNat : Nat) : Int) = a by omega, show ((b.toNat : Nat) : Int) = b by omega, show ((c.toNat : Nat) : Int) = c by omega]
  unfold get
  rw [hall]
  simp only []
  rw [hdrop, hof, if_pos ⟨by trivial, by rw [put, List.length_append, List.length_append, Fr.le4_len]; omega, h⟩]
  rw [put, List.length_append, Fr.le4_len]
theorem get_le (bs : List Nat) : (get bs).2 ≤ bs.length := by
  unfold get; split
  · next h => exact h.2.1
  · exact Nat.zero_le _
theorem val4_lt {bs : List Nat} (h : ∀ x ∈ bs, x < 256) : Fr.val4 bs < 4294967296 := by
  have g : ∀ i, bs.getD i 0 < 256 := fun i => by
    rcases Nat.lt_or_ge i bs.length with hi | hi
    · rw [List.getD_eq_getElem?_getD, List.getElem?_eq_getElem hi]; exact h _ (List.getElem_mem hi)
    · rw [List.getD_eq_getElem?_getD, List.getElem?_eq_none hi]; decide
  have h0 := g 0
  have h1 := g 1
  have h2 := g 2
  have h3 := g 3
  unfold Fr.val4
  omega
/-- a point that a value of its type can be -/
def Fits (p : P) : Prop := (-9223372036854775808 ≤ p.1 ∧ p.1 ≤ 9223372036854775807) ∧ (-9223372036854775808 ≤ p.2.1 ∧ p.2.1 ≤ 9223372036854775807) ∧ (-9223372036854775808 ≤ p.2.2.1 ∧ p.2.2.1 ≤ 9223372036854775807) ∧ p.2.2.2 < 4294967296
theorem get_fits {bs : List Nat} (h : ∀ x ∈ bs, x < 256) : Fits (get bs).1 := by
  unfold get; split
  · next hc =>
    have := (may_iff _).mp hc.2.2
    simp only []
    refine ⟨by omega, by omega, by omega, ?_⟩
    exact val4_lt (fun x hx => h x (List.mem_of_mem_drop (List.mem_of_mem_take hx)))
  · refine ⟨by decide, by decide, by decide, by decide⟩

/-- of four bytes the upper k, as the reference reads them -/
def hk (bs : List Nat) : Nat → Nat
  | 0 => 0
  | k + 1 => hk bs k * 256 + bs.getD (3 - k) 0
theorem hk4 (bs : List Nat) : hk bs 4 = Fr.val4 bs := by simp [hk, Fr.val4]; omega
theorem al_ok : ∀ (n : Nat) (bs : List Nat) (at' : Nat) (l : List Nat), at' ≤ bs.length → (∀ u ∈ l, u < 18446744073709551616) → (Va.al n bs at' l).2.1 ≤ bs.length ∧ ((Va.al n bs at' l).2.2 = 0 → (Va.al n bs at' l).1.length = l.length + n) ∧ (∀ u ∈ (Va.al n bs at' l).1, u < 18446744073709551616) := by
  intro n
  induction n with
  | zero => intro bs at' l h hl; exact ⟨h, fun _ => rfl, hl⟩
  | succ n ih =>
    intro bs at' l h hl
    by_cases h0 : (Va.get (bs.drop at')).2 = 0
    · rw [Va.al_none h0]; exact ⟨h, fun h => by simp at h, fun u hu => by simp at hu⟩
    · rw [Va.al_some h0]
      have h1 := Va.get_le (bs := bs.drop at')
      rw [List.length_drop] at h1
      have := ih bs (at' + (Va.get (bs.drop at')).2) (l ++ [(Va.get (bs.drop at')).1]) (by omega) (by
        intro u hu
        rcases List.mem_append.mp hu with hu | hu
        · exact hl u hu
        · simp only [List.mem_singleton] at hu; subst hu; exact Va.get_lt _)
      refine ⟨this.1, fun h => ?_, this.2.2⟩
      rw [this.2.1 h, List.length_append]; simp; omega
theorem all_ok (bs : List Nat) (n : Nat) : (Va.all bs n).2.1 ≤ bs.length ∧ ((Va.all bs n).2.2 = 0 → (Va.all bs n).1.length = n) ∧ (∀ u ∈ (Va.all bs n).1, u < 18446744073709551616) := by
  have := al_ok n bs 0 [] (by omega) (by simp)
  simpa [Va.all] using this
theorem get_no {bs : List Nat} (h : ¬ ((Va.all bs 3).2.2 = 0 ∧ (Va.all bs 3).2.1 + 4 ≤ bs.length ∧ may (ofNums (Va.all bs 3).1 ((bs.drop (Va.all bs 3).2.1).take 4)) = true)) : get bs = (zero, 0) := by unfold get; rw [if_neg h]

/-! order -/
def less (a b : P) : Bool := if a.1 = b.1 then decide (a.2.1 < b.2.1) else decide (a.1 < b.1)
/-- behind how many of the first k a point is laid -/
def cut (out : List P) (p : P) : Nat → Nat
  | 0 => 0
  | k + 1 => if less p (out.getD k zero) = true then cut out p k else k + 1
def ins (out : List P) (p : P) : List P := out.take (cut out p out.length) ++ [p] ++ out.drop (cut out p out.length)
def ord (l : List P) : List P := l.foldl ins []
theorem cut_le (out : List P) (p : P) : ∀ k, cut out p k ≤ k := by
  intro k
  induction k with
  | zero => exact Nat.le_refl _
  | succ k ih => unfold cut; split <;> omega
theorem ins_len (out : List P) (p : P) : (ins out p).length = out.length + 1 := by
  have := cut_le out p out.length
  simp only [ins, List.length_append, List.length_take, List.length_drop, List.length_cons, List.length_nil]; omega
theorem ord_snoc (l : List P) (p : P) : ord (l ++ [p]) = ins (ord l) p := by simp [ord, List.foldl_append]
theorem ord_len : ∀ (l : List P), (ord l).length = l.length := by
  have : ∀ (l acc : List P), (l.foldl ins acc).length = acc.length + l.length := by
    intro l
    induction l with
    | nil => intro acc; simp
    | cons p l ih => intro acc; rw [List.foldl_cons, ih, ins_len, List.length_cons]; omega
  intro l; rw [ord, this]; simp
theorem ord_take (l : List P) (k : Nat) (h : k < l.length) : ord (l.take (k + 1)) = ins (ord (l.take k)) (l.getD k zero) := by
  rw [List.take_succ_eq_append_getElem h, ord_snoc]; simp [h]
theorem ins_mem {out : List P} {p q : P} (h : q ∈ ins out p) : q ∈ out ∨ q = p := by
  simp only [ins, List.mem_append, List.mem_singleton] at h
  rcases h with (h | h) | h
  · exact .inl (List.mem_of_mem_take h)
  · exact .inr h
  · exact .inl (List.mem_of_mem_drop h)
theorem ord_mem (l : List P) : ∀ q ∈ ord l, q ∈ l := by
  have : ∀ (l acc : List P), ∀ q ∈ l.foldl ins acc, q ∈ acc ∨ q ∈ l := by
    intro l
    induction l with
    | nil => intro acc q h; exact .inl h
    | cons p l ih =>
      intro acc q h
      rw [List.foldl_cons] at h
      rcases ih _ q h with h | h
      · rcases ins_mem h with h | h
        · exact .inl h
        · exact .inr (by simp [h])
      · exact .inr (by simp [h])
  intro q hq
  rcases this l [] q hq with h | h
  · cases h
  · exact h
end Go.Proofs.Ytgmcjalcpgldhaa.Po
