/- The plain mathematics of names: which there are, which file a text names, numbers in order. Names no dump. -/
import Derived.Test.YtpoocjffkhjeaaaMath
namespace Go.Proofs.Ytpoocjffkhjeaaa.Na

/-- Kind, Num -/
abbrev F := Int × Int
/-- k digits of a number, noughts ahead -/
def dig : Nat → Nat → List Nat
  | 0, _ => []
  | k + 1, n => dig k (n / 10) ++ [48 + n % 10]
def roster : List Nat := [114, 111, 115, 116, 101, 114]
def rosterNew : List Nat := [114, 111, 115, 116, 101, 114, 46, 110, 101, 119]
/-- the letter of a kind that has numbers -/
def letter (k : Int) : Nat := if k = 3 then 118 else if k = 4 then 119 else if k = 5 then 116 else if k = 6 then 115 else 109
/-- may a file be? -/
def may (f : F) : Bool := decide (f = (1, 0) ∨ f = (2, 0) ∨ (3 ≤ f.1 ∧ f.1 ≤ 7 ∧ 1 ≤ f.2 ∧ f.2 ≤ 2147483647))
/-- a file's name; empty: there is none -/
def of (f : F) : List Nat :=
  if f = (1, 0) then roster else if f = (2, 0) then rosterNew
  else if 3 ≤ f.1 ∧ f.1 ≤ 7 ∧ 1 ≤ f.2 ∧ f.2 ≤ 2147483647 then letter f.1 :: dig 10 f.2.toNat else []
/-- the number that digits are, m being got already; -1: they are none -/
def num : Nat → List Nat → Int
  | m, [] => (m : Int)
  | m, d :: ds => if d < 48 ∨ 57 < d then -1 else num (10 * m + (d - 48)) ds
/-- the kind of a letter; 0: there is none -/
def kindOf (d : Nat) : Int := if d = 118 then 3 else if d = 119 then 4 else if d = 116 then 5 else if d = 115 then 6 else if d = 109 then 7 else 0
/-- the file whose name a text is; (0, 0): there is none -/
def parse (s : List Nat) : F :=
  if s = roster then (1, 0) else if s = rosterNew then (2, 0)
  else if s.length = 11 ∧ kindOf (s.headD 0) ≠ 0 ∧ 1 ≤ num 0 (s.drop 1) ∧ num 0 (s.drop 1) ≤ 2147483647 then (kindOf (s.headD 0), num 0 (s.drop 1)) else (0, 0)

theorem dig_len : ∀ (k n : Nat), (dig k n).length = k
  | 0, _ => rfl
  | k + 1, n => by simp [dig, dig_len k]
theorem dig_cons : ∀ (j m : Nat), dig (j + 1) m = (48 + m / 10 ^ j % 10) :: dig j m
  | 0, m => by simp [dig]
  | j + 1, m => by
    have h := dig_cons j (m / 10)
    have e : dig (j + 1 + 1) m = dig (j + 1) (m / 10) ++ [48 + m % 10] := rfl
    have e2 : dig (j + 1) m = dig j (m / 10) ++ [48 + m % 10] := rfl
    rw [e, h, e2, List.cons_append, Nat.div_div_eq_div_mul, Nat.pow_succ, Nat.mul_comm 10]
theorem dig_small : ∀ (k n : Nat), ∀ x ∈ dig k n, 48 ≤ x ∧ x ≤ 57
  | 0, _, x, hx => by simp [dig] at hx
  | k + 1, n, x, hx => by
    simp only [dig, List.mem_append, List.mem_singleton] at hx
    rcases hx with hx | rfl
    · exact dig_small k _ x hx
    · omega
theorem num_cons (m d : Nat) (ds : List Nat) : num m (d :: ds) = if d < 48 ∨ 57 < d then -1 else num (10 * m + (d - 48)) ds := rfl
theorem num_nil (m : Nat) : num m [] = (m : Int) := rfl
theorem num_app : ∀ (a b : List Nat) (m v : Nat), num m a = (v : Int) → num m (a ++ b) = num v b
  | [], b, m, v, h => by
    rw [num_nil] at h
    have : m = v := by omega
    subst this; rfl
  | d :: ds, b, m, v, h => by
    rw [num_cons] at h
    rw [List.cons_append, num_cons]
    by_cases hd : d < 48 ∨ 57 < d
    · rw [if_pos hd] at h; omega
    · rw [if_neg hd] at h ⊢; exact num_app ds b _ v h
theorem num_bad : ∀ (a b : List Nat) (m : Nat), num m a = -1 → num m (a ++ b) = -1
  | [], b, m, h => by rw [num_nil] at h; omega
  | d :: ds, b, m, h => by
    rw [num_cons] at h
    rw [List.cons_append, num_cons]
    by_cases hd : d < 48 ∨ 57 < d
    · rw [if_pos hd]
    · rw [if_neg hd] at h ⊢; exact num_bad ds b _ h
theorem num_cases : ∀ (a : List Nat) (m : Nat), num m a = -1 ∨ ∃ u : Nat, num m a = (u : Int)
  | [], m => .inr ⟨m, rfl⟩
  | d :: ds, m => by
    rw [num_cons]
    by_cases hd : d < 48 ∨ 57 < d
    · rw [if_pos hd]; exact .inl rfl
    · rw [if_neg hd]; exact num_cases ds _
theorem num_dig : ∀ (k n m : Nat), num m (dig k n) = ((m * 10 ^ k + n % 10 ^ k : Nat) : Int)
  | 0, n, m => by simp [dig, num, Nat.mod_one]
  | k + 1, n, m => by
    rw [dig, num_app _ _ _ _ (num_dig k (n / 10) m)]
    have h : ¬ (48 + n % 10 < 48 ∨ 57 < 48 + n % 10) := by omega
    simp only [num, if_neg h]
    congr 1
    have e : n % 10 ^ (k + 1) = 10 * (n / 10 % 10 ^ k) + n % 10 := by
      rw [Nat.pow_succ, Nat.mul_comm (10 ^ k) 10, Nat.mod_mul]
      omega
    rw [e, Nat.pow_succ]
    have : 48 + n % 10 - 48 = n % 10 := by omega
    rw [this, Nat.mul_add, ← Nat.mul_assoc, Nat.mul_comm 10 m, Nat.mul_assoc, Nat.mul_comm 10 (10 ^ k)]
    omega
theorem dig_of : ∀ (k : Nat) (ds : List Nat), ds.length = k → ∀ m v : Nat, num m ds = (v : Int) → dig k v = ds ∧ v / 10 ^ k = m
  | 0, ds, hl, m, v, h => by
    obtain rfl := List.length_eq_zero_iff.mp hl
    rw [num_nil] at h
    exact ⟨rfl, by simp; omega⟩
  | k + 1, ds, hl, m, v, h => by
    obtain ⟨a, d, rfl⟩ : ∃ a d, ds = a ++ [d] := by
      have hne : ds ≠ [] := by intro e; rw [e] at hl; simp at hl
      exact ⟨ds.dropLast, ds.getLast hne, (List.dropLast_concat_getLast hne).symm⟩
    have hla : a.length = k := by simpa using hl
    rcases num_cases a m with hb | ⟨u, hu⟩
    · rw [num_bad a [d] m hb] at h; omega
    · rw [num_app a [d] m u hu, num_cons] at h
      by_cases hd : d < 48 ∨ 57 < d
      · rw [if_pos hd] at h; omega
      · rw [if_neg hd, num_nil] at h
        obtain ⟨h1, h2⟩ := dig_of k a hla m u hu
        have e1 : v / 10 = u := by omega
        have e2 : 48 + v % 10 = d := by omega
        refine ⟨by rw [dig, e1, e2, h1], ?_⟩
        rw [Nat.pow_succ, Nat.mul_comm, ← Nat.div_div_eq_div_mul, e1, h2]
theorem kind_letter {k : Int} (h1 : 3 ≤ k) (h2 : k ≤ 7) : kindOf (letter k) = k := by
  have : k = 3 ∨ k = 4 ∨ k = 5 ∨ k = 6 ∨ k = 7 := by omega
  rcases this with rfl | rfl | rfl | rfl | rfl <;> decide
theorem letter_kind {d : Nat} (h : kindOf d ≠ 0) : 3 ≤ kindOf d ∧ kindOf d ≤ 7 ∧ letter (kindOf d) = d := by
  unfold kindOf at h ⊢
  repeat' split
  all_goals first | (subst_vars; decide) | (simp_all)
theorem of_num {k n : Int} (h : 3 ≤ k ∧ k ≤ 7 ∧ 1 ≤ n ∧ n ≤ 2147483647) : of (k, n) = letter k :: dig 10 n.toNat := by
  unfold of
  rw [if_neg (by simp only [Prod.mk.injEq]; omega), if_neg (by simp only [Prod.mk.injEq]; omega), if_pos h]
theorem parse_of {f : F} (h : may f = true) : parse (of f) = f := by
  obtain ⟨k, n⟩ := f
  simp only [may, decide_eq_true_eq] at h
  rcases h with h | h | h
  · rw [h]; decide
  · rw [h]; decide
  · rw [of_num h]
    obtain ⟨m, rfl⟩ : ∃ m : Nat, n = (m : Int) := ⟨n.toNat, by omega⟩
    have hl : (letter k :: dig 10 (m : Int).toNat).length = 11 := by simp [dig_len]
    have hn : num 0 (dig 10 (m : Int).toNat) = (m : Int) := by
      have hm : m < 10 ^ 10 := by omega
      rw [num_dig, Int.toNat_natCast, Nat.mod_eq_of_lt hm, Nat.zero_mul, Nat.zero_add]
    unfold parse
    rw [if_neg (by intro e; rw [e] at hl; simp [roster] at hl), if_neg (by intro e; rw [e] at hl; simp [rosterNew] at hl)]
    simp only [List.headD_cons, List.drop_one, List.tail_cons]
    rw [kind_letter h.1 h.2.1, hn, if_pos ⟨hl, by omega, by omega, by omega⟩]
theorem of_parse {s : List Nat} (h : parse s ≠ (0, 0)) : may (parse s) = true ∧ of (parse s) = s := by
  unfold parse at h ⊢
  by_cases h1 : s = roster
  · rw [if_pos h1, h1]; decide
  · by_cases h2 : s = rosterNew
    · rw [if_neg h1, if_pos h2, h2]; decide
    · rw [if_neg h1, if_neg h2] at h ⊢
      by_cases h3 : s.length = 11 ∧ kindOf (s.headD 0) ≠ 0 ∧ 1 ≤ num 0 (s.drop 1) ∧ num 0 (s.drop 1) ≤ 2147483647
      · rw [if_pos h3]
        obtain ⟨hl, hk, hn1, hn2⟩ := h3
        obtain ⟨k1, k2, k3⟩ := letter_kind hk
        obtain ⟨d, ds, rfl⟩ : ∃ d ds, s = d :: ds := by
          cases s with
          | nil => simp at hl
          | cons d ds => exact ⟨d, ds, rfl⟩
        simp only [List.headD_cons, List.drop_one, List.tail_cons] at *
        obtain ⟨v, hv⟩ : ∃ v : Nat, num 0 ds = (v : Int) := ⟨(num 0 ds).toNat, by omega⟩
        have hd := (dig_of 10 ds (by simpa using hl) 0 v hv).1
        refine ⟨by simp only [may, decide_eq_true_eq]; exact .inr (.inr ⟨k1, k2, hn1, hn2⟩), ?_⟩
        rw [of_num ⟨k1, k2, hn1, hn2⟩, k3, hv, Int.toNat_natCast, hd]
      · rw [if_neg h3] at h; exact absurd rfl h
theorem of_empty {f : F} : of f = [] ↔ may f = false := by
  obtain ⟨k, n⟩ := f
  unfold of may
  by_cases h1 : (k, n) = ((1, 0) : F)
  · rw [if_pos h1]; simp [h1, roster]
  · by_cases h2 : (k, n) = ((2, 0) : F)
    · rw [if_neg h1, if_pos h2]; simp [h2, rosterNew]
    · rw [if_neg h1, if_neg h2]
      by_cases h3 : 3 ≤ k ∧ k ≤ 7 ∧ 1 ≤ n ∧ n ≤ 2147483647
      · rw [if_pos h3]; simp [h3]
      · rw [if_neg h3]
        simp only [decide_eq_false_iff_not, true_iff]
        intro h
        rcases h with h | h | h
        · exact h1 h
        · exact h2 h
        · exact h3 h

/-! order -/
/-- which of two texts is lesser -/
def lt : List Nat → List Nat → Bool
  | _, [] => false
  | [], _ :: _ => true
  | a :: as, b :: bs => decide (a < b) || (decide (a = b) && lt as bs)
theorem lt_app : ∀ (a b : List Nat) (x y : Nat), a.length = b.length → lt (a ++ [x]) (b ++ [y]) = (lt a b || (decide (a = b) && decide (x < y)))
  | [], [], x, y, _ => by simp [lt]
  | [], _ :: _, _, _, h => by simp at h
  | _ :: _, [], _, _, h => by simp at h
  | c :: cs, d :: ds, x, y, h => by
    have hl : cs.length = ds.length := by simpa using h
    rw [List.cons_append, List.cons_append]
    simp only [lt, lt_app cs ds x y hl, List.cons.injEq]
    by_cases h1 : c < d
    · simp [h1]
    · by_cases h2 : c = d
      · subst h2; simp
      · simp [h1, h2]
theorem dig_inj : ∀ (k a b : Nat), a < 10 ^ k → b < 10 ^ k → (dig k a = dig k b ↔ a = b) := by
  intro k a b ha hb
  constructor
  · intro h
    have h1 := num_dig k a 0
    have h2 := num_dig k b 0
    rw [h, h2] at h1
    rw [Nat.mod_eq_of_lt ha, Nat.mod_eq_of_lt hb] at h1
    omega
  · rintro rfl; rfl
theorem dig_lt : ∀ (k a b : Nat), a < 10 ^ k → b < 10 ^ k → lt (dig k a) (dig k b) = decide (a < b)
  | 0, a, b, ha, hb => by
    have : ¬ a < b := by simp at ha hb; omega
    simp [dig, lt, this]
  | k + 1, a, b, ha, hb => by
    rw [Nat.pow_succ] at ha hb
    have ha' : a / 10 < 10 ^ k := by omega
    have hb' : b / 10 < 10 ^ k := by omega
    rw [dig, dig, lt_app _ _ _ _ (by rw [dig_len, dig_len]), dig_lt k _ _ ha' hb']
    have hi := dig_inj k (a / 10) (b / 10) ha' hb'
    by_cases h1 : a / 10 < b / 10
    · have : a < b := by omega
      simp [h1, this]
    · by_cases h2 : a / 10 = b / 10
      · have e : dig k (a / 10) = dig k (b / 10) := hi.mpr h2
        have : (48 + a % 10 < 48 + b % 10) ↔ a < b := by omega
        simp [e, h1, this]
      · have : ¬ a < b := by omega
        have e : ¬ dig k (a / 10) = dig k (b / 10) := fun e => h2 (hi.mp e)
        simp [h1, e, this]
/-- names of one kind that has numbers are in order as their numbers are -/
theorem of_lt {k a b : Int} (h : 3 ≤ k ∧ k ≤ 7) (ha : 1 ≤ a ∧ a ≤ 2147483647) (hb : 1 ≤ b ∧ b ≤ 2147483647) : lt (of (k, a)) (of (k, b)) = decide (a < b) ∧ (of (k, a) = of (k, b) ↔ a = b) := by
  rw [of_num ⟨h.1, h.2, ha⟩, of_num ⟨h.1, h.2, hb⟩]
  obtain ⟨x, rfl⟩ : ∃ m : Nat, a = (m : Int) := ⟨a.toNat, by omega⟩
  obtain ⟨y, rfl⟩ : ∃ m : Nat, b = (m : Int) := ⟨b.toNat, by omega⟩
  simp only [Int.toNat_natCast]
  have hx : x < 10 ^ 10 := by omega
  have hy : y < 10 ^ 10 := by omega
  constructor
  · rw [lt]
    simp [dig_lt 10 x y hx hy]
  · simp only [List.cons.injEq, true_and, dig_inj 10 x y hx hy]
    omega
end Go.Proofs.Ytpoocjffkhjeaaa.Na
