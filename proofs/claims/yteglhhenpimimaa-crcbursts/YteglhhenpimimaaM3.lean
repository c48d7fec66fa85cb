/- Bits turned within 32 in a row turn the sum. -/
import Derived.Test.YteglhhenpimimaaMath
namespace Go.Proofs.Yteglhhenpimimaa.Crc

/-- bytes with the bit j turned -/
def flip (bs : List Nat) (j : Nat) : List Nat := bs.set (j / 8) (bs.getD (j / 8) 0 ^^^ 2 ^ (j % 8))
/-- bytes with the bits from k on turned where p has a bit, i of them looked at -/
def turned (bs : List Nat) (k p : Nat) : Nat → List Nat
  | 0 => bs
  | i + 1 => if bt p i = 1 then flip (turned bs k p i) (k + i) else turned bs k p i

theorem lins_comp (a b x : Nat) : lins a (lins b x) = lins (a + b) x := by
  induction a with
  | zero => simp [lins]
  | succ a ih => rw [lins, ih, Nat.add_right_comm]; rfl
theorem lins_pow (i : Nat) : lins i (2 ^ i) = 1 := by
  have h : ∀ i j, i ≤ j → lins i (2 ^ j) = 2 ^ (j - i) := by
    intro i j hij
    induction i with
    | zero => rfl
    | succ i ih =>
      rw [lins, ih (by omega)]
      obtain ⟨d, hd⟩ : ∃ d, j - i = d + 1 := ⟨j - i - 1, by omega⟩
      rw [hd, show j - (i + 1) = d by omega]
      unfold lin
      rw [if_neg (by rw [Nat.pow_succ]; omega), Nat.pow_succ]; omega
  simpa using h i i (Nat.le_refl _)
theorem run_diff (A d : Nat) (l : List Nat) : run (A ^^^ d) l = run A l ^^^ lins (8 * l.length) d := by
  induction l generalizing A d with
  | nil => simp [run, lins]
  | cons x l ih =>
    show run (tk (A ^^^ d) x) l = run (tk A x) l ^^^ _
    have e : tk (A ^^^ d) x = tk A x ^^^ lins 8 d := by
      unfold tk
      rw [← lins_add]; congr 1
      rw [Nat.xor_assoc, Nat.xor_comm d x, Nat.xor_assoc]
    rw [e, ih, lins_comp]
    congr 2
theorem flip_cons_lt (x : Nat) (l : List Nat) (j : Nat) (h : j < 8) : flip (x :: l) j = (x ^^^ 2 ^ j) :: l := by
  unfold flip
  rw [Nat.div_eq_of_lt h, Nat.mod_eq_of_lt h]; rfl
theorem flip_cons_ge (x : Nat) (l : List Nat) (j : Nat) (h : 8 ≤ j) : flip (x :: l) j = x :: flip l (j - 8) := by
  unfold flip
  have e1 : j / 8 = (j - 8) / 8 + 1 := by omega
  have e2 : j % 8 = (j - 8) % 8 := by omega
  rw [e1, e2]; rfl
theorem flip_length (bs : List Nat) (j : Nat) : (flip bs j).length = bs.length := by simp [flip]
theorem run_flip (r : Nat) (bs : List Nat) (j : Nat) (h : j < 8 * bs.length) : run r (flip bs j) = run r bs ^^^ lins (8 * bs.length - j) 1 := by
  induction bs generalizing r j with
  | nil => simp at h
  | cons x l ih =>
    by_cases h8 : j < 8
    · rw [flip_cons_lt x l j h8]
      show run (tk r (x ^^^ 2 ^ j)) l = run (tk r x) l ^^^ _
      have e : tk r (x ^^^ 2 ^ j) = tk r x ^^^ lins 8 (2 ^ j) := by
        unfold tk; rw [← lins_add, Nat.xor_assoc]
      rw [e, run_diff, lins_comp]
      congr 1
      rw [← lins_pow j, lins_comp]
      congr 1
      simp only [List.length_cons]; omega
    · rw [flip_cons_ge x l j (by omega)]
      show run (tk r x) (flip l (j - 8)) = run (tk r x) l ^^^ _
      simp only [List.length_cons] at h ⊢
      rw [ih (tk r x) (j - 8) (by omega)]
      congr 2; omega
theorem turned_length (bs : List Nat) (k p i : Nat) : (turned bs k p i).length = bs.length := by
  induction i with
  | zero => rfl
  | succ i ih =>
    unfold turned; split
    · rw [flip_length, ih]
    · exact ih
theorem bt_cases (p i : Nat) : bt p i = 0 ∨ bt p i = 1 := by have := bt_lt p i; omega
theorem mod_pow_succ' (p i : Nat) : p % 2 ^ (i + 1) = p % 2 ^ i + 2 ^ i * bt p i := by
  unfold bt; rw [Nat.pow_succ, Nat.mod_mul]
theorem xor_pow (a i : Nat) (h : a < 2 ^ i) : a ^^^ 2 ^ i = a + 2 ^ i := by
  have e : 2 ^ i + a = 2 ^ i ||| a := by
    have := Nat.two_pow_add_eq_or_of_lt h 1
    simpa using this
  rw [Nat.add_comm, e]
  apply Nat.eq_of_testBit_eq; intro t
  simp only [Nat.testBit_xor, Nat.testBit_or]
  by_cases ht : t = i
  · subst ht; simp [Nat.testBit_lt_two_pow h, Nat.testBit_two_pow_self]
  · have : (2 ^ i).testBit t = false := by rw [Nat.testBit_two_pow]; simp; omega
    simp [this]
theorem run_turned (r : Nat) (bs : List Nat) (k p i : Nat) (h : k + i ≤ 8 * bs.length) :
    run r (turned bs k p i) = run r bs ^^^ lins (8 * bs.length - k) (p % 2 ^ i) := by
  induction i with
  | zero =>
    have : ∀ m, lins m 0 = 0 := by
      intro m; induction m with
      | zero => rfl
      | succ m ih => rw [lins, ih]; rfl
    simp [turned, Nat.mod_one, this]
  | succ i ih =>
    have ih := ih (by omega)
    rw [mod_pow_succ']
    unfold turned
    rcases bt_cases p i with hb | hb
    · rw [hb, if_neg (by omega), ih]; simp
    · rw [hb, if_pos rfl, run_flip _ _ _ (by rw [turned_length]; omega), ih, turned_length, Nat.xor_assoc]
      congr 1
      rw [Nat.mul_one, ← xor_pow _ _ (Nat.mod_lt _ (Nat.two_pow_pos i)), lins_add]
      congr 1
      rw [← lins_pow i, lins_comp]
      congr 1; omega
theorem more_turned (bs : List Nat) (k p i : Nat) (h : k + i ≤ 8 * bs.length) (hi : i ≤ 32) :
    (more 0 bs ≠ more 0 (turned bs k p i)) ↔ p % 2 ^ i ≠ 0 := by
  have hlt : p % 2 ^ i < 4294967296 := Nat.lt_of_lt_of_le (Nat.mod_lt _ (Nat.two_pow_pos i)) (by
    have := Nat.pow_le_pow_right (n := 2) (by omega) hi; omega)
  unfold more
  rw [run_turned _ _ _ _ _ h]
  generalize run (0 ^^^ 4294967295) bs = A
  constructor
  · intro h1 h2
    apply h1
    rw [h2]
    have : ∀ m, lins m 0 = 0 := by
      intro m; induction m with
      | zero => rfl
      | succ m ih => rw [lins, ih]; rfl
    rw [this]; simp
  · intro h1 h2
    apply h1
    apply lins_zero (8 * bs.length - k) hlt
    generalize lins (8 * bs.length - k) (p % 2 ^ i) = D at *
    have h3 : A ^^^ 4294967295 ^^^ 4294967295 = A ^^^ D ^^^ 4294967295 ^^^ 4294967295 := by rw [← h2]
    rw [Nat.xor_assoc, Nat.xor_self, Nat.xor_zero, Nat.xor_assoc (A ^^^ D), Nat.xor_self, Nat.xor_zero] at h3
    have h4 : A ^^^ A = A ^^^ (A ^^^ D) := by rw [← h3]
    rw [Nat.xor_self, ← Nat.xor_assoc, Nat.xor_self, Nat.zero_xor] at h4
    exact h4.symm
theorem flip_small {bs : List Nat} (h : ∀ n ∈ bs, n < 256) (j : Nat) : ∀ n ∈ flip bs j, n < 256 := by
  intro n hn
  unfold flip at hn
  rcases List.mem_or_eq_of_mem_set hn with hn | rfl
  · exact h n hn
  · refine Nat.xor_lt_two_pow (n := 8) ?_ ?_
    · rw [List.getD_eq_getElem?_getD]
      cases e : bs[j / 8]? with
      | none => simp
      | some x => simpa using h x (List.mem_of_getElem? e)
    · exact Nat.pow_lt_pow_right (by omega) (Nat.mod_lt _ (by omega))
theorem turned_small {bs : List Nat} (h : ∀ n ∈ bs, n < 256) (k p i : Nat) : ∀ n ∈ turned bs k p i, n < 256 := by
  induction i with
  | zero => exact h
  | succ i ih =>
    unfold turned; split
    · exact flip_small ih _
    · exact ih
end Go.Proofs.Yteglhhenpimimaa.Crc
