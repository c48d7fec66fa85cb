/- The plain mathematics of names: which there are, which file a text names, numbers in order. Names no dump. -/
import Derived.Test.YtjllglpjghcplaaMath
import Derived.Test.YtjllglpjghcplaaBMa
namespace Go.Proofs.Ytjllglpjghcplaa.Na

/-- Kind, Num -/
abbrev F := Int × Int
/-- k digits of a number, noughts ahead -/
def dig : Nat → Nat → List Nat
  | 0, _ => []
  | k + 1, n => dig k (n / 10) ++ [48 + n % 10]
def roster : List Nat := [114, 111, 115, 116, 101, 114]
def rosterNew : List Nat := [114, 111, 115, 116, 101, 114, 46, 110, 101, 119]
/-- the letter of a kind that has numbers -/
def letter (k : Int) : Nat := if k = 3 then 118 else if k = 4 then 119 else if k = 5 then 116 else if k = 6 then 115 else 109
/-- may a file be? -/
def may (f : F) : Bool := decide (f = (1, 0) ∨ f = (2, 0) ∨ (3 ≤ f.1 ∧ f.1 ≤ 7 ∧ 1 ≤ f.2 ∧ f.2 ≤ 2147483647))
/-- a file's name; empty: there is none -/
def of (f : F) : List Nat :=
  if f = (1, 0) then roster else if f = (2, 0) then rosterNew
  else if 3 ≤ f.1 ∧ f.1 ≤ 7 ∧ 1 ≤ f.2 ∧ f.2 ≤ 2147483647 then letter f.1 :: dig 10 f.2.toNat else []
/-- the number that digits are, m being got already; -1: they are none -/
def num : Nat → List Nat → Int
  | m, [] => (m : Int)
  | m, d :: ds => if d < 48 ∨ 57 < d then -1 else num (10 * m + (d - 48)) ds
/-- the kind of a letter; 0: there is none -/
def kindOf (d : Nat) : Int := if d = 118 then 3 else if d = 119 then 4 else if d = 116 then 5 else if d = 115 then 6 else if d = 109 then 7 else 0
/-- the file whose name a text is; (0, 0): there is none -/
def parse (s : List Nat) : F :=
  if s = roster then (1, 0) else if s = rosterNew then (2, 0)
  else if s.length = 11 ∧ kindOf (s.headD 0) ≠ 0 ∧ 1 ≤ num 0 (s.drop 1) ∧ num 0 (s.drop 1) ≤ 2147483647 then (kindOf (s.headD 0), num 0 (s.drop 1)) else (0, 0)

theorem dig_len : ∀ (k n : Nat), (dig k n).length = k
  | 0, _ => rfl
  | k + 1, n => by simp [dig, dig_len k]
theorem dig_cons : ∀ (j m : Nat), dig (j + 1) m = (48 + m / 10 ^ j % 10) :: dig j m
  | 0, m => by simp [dig]
  | j + 1, m => by
    have h := dig_cons j (m / 10)
    have e : dig (j + 1 + 1) m = dig (j + 1) (m / 10) ++ [48 + m % 10] := rfl
    have e2 : dig (j + 1) m = dig j (m / 10) ++ [48 + m % 10] := rfl
    rw [e, h, e2, List.cons_append, Nat.div_div_eq_div_mul, Nat.pow_succ, Nat.mul_comm 10]
theorem dig_small : ∀ (k n : Nat), ∀ x ∈ dig k n, 48 ≤ x ∧ x ≤ 57
  | 0, _, x, hx => by simp [dig] at hx
  | k + 1, n, x, hx => by
    simp only [dig, List.mem_append, List.mem_singleton] at hx
    rcases hx with hx | rfl
    · exact dig_small k _ x hx
    · omega
theorem num_cons (m d : Nat) (ds : List Nat) : num m (d :: ds) = if d < 48 ∨ 57 < d then -1 else num (10 * m + (d - 48)) ds := rfl
theorem num_nil (m : Nat) : num m [] = (m : Int) := rfl
theorem num_app : ∀ (a b : List Nat) (m v : Nat), num m a = (v : Int) → num m (a ++ b) = num v b
  | [], b, m, v, h => by
    rw [num_nil] at h
    have : m = v := by omega
    subst this; rfl
  | d :: ds, b, m, v, h => by
    rw [num_cons] at h
    rw [List.cons_append, num_cons]
    by_cases hd : d < 48 ∨ 57 < d
    · rw [if_pos hd] at h; omega
    · rw [if_neg hd] at h ⊢; exact num_app ds b _ v h
theorem num_bad : ∀ (a b : List Nat) (m : Nat), num m a = -1 → num m (a ++ b) = -1
  | [], b, m, h => by rw [num_nil] at h; omega
  | d :: ds, b, m, h => by
    rw [num_cons] at h
    rw [List.cons_append, num_cons]
    by_cases hd : d < 48 ∨ 57 < d
    · rw [if_pos hd]
    · rw [if_neg hd] at h ⊢; exact num_bad ds b _ h
theorem num_cases : ∀ (a : List Nat) (m : Nat), num m a = -1 ∨ ∃ u : Nat, num m a = (u : Int)
  | [], m => .inr ⟨m, rfl⟩
  | d :: ds, m => by
    rw [num_cons]
    by_cases hd : d < 48 ∨ 57 < d
    · rw [if_pos hd]; exact .inl rfl
    · rw [if_neg hd]; exact num_cases ds _
theorem num_dig : ∀ (k n m : Nat), num m (dig k n) = ((m * 10 ^ k + n % 10 ^ k : Nat) : Int)
  | 0, n, m => by simp [dig, num, Nat.mod_one]
  | k + 1, n, m => by
    rw [dig, num_app _ _ _ _ (num_dig k (n / 10) m)]
    have h : ¬ (48 + n % 10 < 48 ∨ 57 < 48 + n % 10) := by omega
    simp only [num, if_neg h]
    congr 1
    have e : n % 10 ^ (k + 1) = 10 * (n / 10 % 10 ^ k) + n % 10 := by
      rw [Nat.pow_succ, Nat.mul_comm (10 ^ k) 10, Nat.mod_mul]
      omega
    rw [e, Nat.pow_succ]
    have : 48 + n % 10 - 48 = n % 10 := by omega
    rw [this, Nat.mul_add, ← Nat.mul_assoc, Nat.mul_comm 10 m, Nat.mul_assoc, Nat.mul_comm 10 (10 ^ k)]
    omega
theorem dig_of : ∀ (k : Nat) (ds : List Nat), ds.length = k → ∀ m v : Nat, num m ds = (v : Int) → dig k v = ds ∧ v / 10 ^ k = m
  | 0, ds, hl, m, v, h => by
    obtain rfl := List.length_eq_zero_iff.mp hl
    rw [num_nil] at h
    exact ⟨rfl, by simp; omega⟩
  | k + 1, ds, hl, m, v, h => by
    obtain ⟨a, d, rfl⟩ : ∃ a d, ds = a ++ [d] := by
      have hne : ds ≠ [] := by intro e; rw [e] at hl; simp at hl
      exact ⟨ds.dropLast, ds.getLast hne, (List.dropLast_concat_getLast hne).symm⟩
    have hla : a.length = k := by simpa using hl
    rcases num_cases a m with hb | ⟨u, hu⟩
    · rw [num_bad a [d] m hb] at h; omega
    · rw [num_app a [d] m u hu, num_cons] at h
      by_cases hd : d < 48 ∨ 57 < d
      · rw [if_pos hd] at h; omega
      · rw [if_neg hd, num_nil] at h
        obtain ⟨h1, h2⟩ := dig_of k a hla m u hu
        have e1 : v / 10 = u := by omega
        have e2 : 48 + v % 10 = d := by omega
        refine ⟨by rw [dig, e1, e2, h1], ?_⟩
        rw [Nat.pow_succ, Nat.mul_comm, ← Nat.div_div_eq_div_mul, e1, h2]
theorem kind_letter {k : Int} (h1 : 3 ≤ k) (h2 : k ≤ 7) : kindOf (letter k) = k := by
  have : k = 3 ∨ k = 4 ∨ k = 5 ∨ k = 6 ∨ k = 7 := by omega
  rcases this with rfl | rfl | rfl | rfl | rfl <;> decide
theorem letter_kind {d : Nat} (h : kindOf d ≠ 0) : 3 ≤ kindOf d ∧ kindOf d ≤ 7 ∧ letter (kindOf d) = d := by
  unfold kindOf at h ⊢
  repeat' split
  all_goals first | (subst_vars; decide) | (simp_all)
theorem of_num {k n : Int} (h : 3 ≤ k ∧ k ≤ 7 ∧ 1 ≤ n ∧ n ≤ 2147483647) : of (k, n) = letter k :: dig 10 n.toNat := by
  unfold of
  rw [if_neg (by simp only [Prod.mk.injEq]; omega), if_neg (by simp only [Prod.mk.injEq]; omega), if_pos h]
theorem parse_of {f : F} (h : may f = true) : parse (of f) = f := by
  obtain ⟨k, n⟩ := f
  simp only [may, decide_eq_true_eq] at h
  rcases h with h | h | h
  · rw [h]; decide
  · rw [h]; decide
  · rw [of_num h]
    obtain ⟨m, rfl⟩ : ∃ m : Nat, n = (m : Int) := ⟨n.toNat, by omega⟩
    have hl : (letter k :: dig 10 (m : Int).toNat).length = 11 := by simp [dig_len]
    have hn : num 0 (dig 10 (m : Int).toNat) = (m : Int) := by
      have hm : m < 10 ^ 10 := by omega
      rw [num_dig, Int.toNat_natCast, Nat.mod_eq_of_lt hm, Nat.zero_mul, Nat.zero_add]
    unfold parse
    rw [if_neg (by intro e; rw [e] at hl; simp [roster] at hl), if_neg (by intro e; rw [e] at hl; simp [rosterNew] at hl)]
    simp only [List.headD_cons, List.drop_one, List.tail_cons]
    rw [kind_letter h.1 h.2.1, hn, if_pos ⟨hl, by omega, by omega, by omega⟩]
theorem of_parse {s : List Nat} (h : parse s ≠ (0, 0)) : may (parse s) = true ∧ of (parse s) = s := by
  unfold parse at h ⊢
  by_cases h1 : s = roster
  · rw [if_pos h1, h1]; decide
  · by_cases h2 : s = rosterNew
    · rw [if_neg h1, if_pos h2, h2]; decide
    · rw [if_neg h1, if_neg h2] at h ⊢
      by_cases h3 : s.length = 11 ∧ kindOf (s.headD 0) ≠ 0 ∧ 1 ≤ num 0 (s.drop 1) ∧ num 0 (s.drop 1) ≤ 2147483647
      · rw [if_pos h3]
        obtain ⟨hl, hk, hn1, hn2⟩ := h3
        obtain ⟨k1, k2, k3⟩ := letter_kind hk
        obtain ⟨d, ds, rfl⟩ : ∃ d ds, s = d :: ds := by
          cases s with
          | nil => simp at hl
          | cons d ds => exact ⟨d, ds, rfl⟩
        simp only [List.headD_cons, List.drop_one, List.tail_cons] at *
        obtain ⟨v, hv⟩ : ∃ v : Nat, num 0 ds = (v : Int) := ⟨(num 0 ds).toNat, by omega⟩
        have hd := (dig_of 10 ds (by simpa using hl) 0 v hv).1
        refine ⟨by simp only [may, decide_eq_true_eq]; exact .inr (.inr ⟨k1, k2, hn1, hn2⟩), ?_⟩
        rw [of_num ⟨k1, k2, hn1, hn2⟩, k3, hv, Int.toNat_natCast, hd]
      · rw [if_neg h3] at h; exact absurd rfl h
theorem of_empty {f : F} : of f = [] ↔ may f = false := by
  obtain ⟨k, n⟩ := f
  unfold of may
  by_cases h1 : (k, n) = ((1, 0) : F)
  · rw [if_pos h1]; simp [h1, roster]
  · by_cases h2 : (k, n) = ((2, 0) : F)
    · rw [if_neg h1, if_pos h2]; simp [h2, rosterNew]
    · rw [if_neg h1, if_neg h2]
      by_cases h3 : 3 ≤ k ∧ k ≤ 7 ∧ 1 ≤ n ∧ n ≤ 2147483647
      · rw [if_pos h3]; simp [h3]
      · rw [if_neg h3]
        simp only [decide_eq_false_iff_not, true_iff]
        intro h
        rcases h with h | h | h
        · exact h1 h
        · exact h2 h
        · exact h3 h

/-! order -/
/-- which of two texts is lesser -/
def lt : List Nat → List Nat → Bool
  | _, [] => false
  | [], _ :: _ => true
  | a :: as, b :: bs => decide (a < b) || (decide (a = b) && lt as bs)
theorem lt_app : ∀ (a b : List Nat) (x y : Nat), a.length = b.length → lt (a ++ [x]) (b ++ [y]) = (lt a b || (decide (a = b) && decide (x < y)))
  | [], [], x, y, _ => by simp [lt]
  | [], _ :: _, _, _, h => by simp at h
  | _ :: _, [], _, _, h => by simp at h
  | c :: cs, d :: ds, x, y, h => by
    have hl : cs.length = ds.length := by simpa using h
    rw [List.cons_append, List.cons_append]
    simp only [lt, lt_app cs ds x y hl, List.cons.injEq]
    by_cases h1 : c < d
    · simp [h1]
    · by_cases h2 : c = d
      · subst h2; simp
      · simp [h1, h2]
theorem dig_inj : ∀ (k a b : Nat), a < 10 ^ k → b < 10 ^ k → (dig k a = dig k b ↔ a = b) := by
  intro k a b ha hb
  constructor
  · intro h
    have h1 := num_dig k a 0
    have h2 := num_dig k b 0
    rw [h, h2] at h1
    rw [Nat.mod_eq_of_lt ha, Nat.mod_eq_of_lt hb] at h1
    omega
  · rintro rfl; rfl
theorem dig_lt : ∀ (k a b : Nat), a < 10 ^ k → b < 10 ^ k → lt (dig k a) (dig k b) = decide (a < b)
  | 0, a, b, ha, hb => by
    have : ¬ a < b := by simp at ha hb; omega
    simp [dig, lt, this]
  | k + 1, a, b, ha, hb => by
    rw [Nat.pow_succ] at ha hb
    have ha' : a / 10 < 10 ^ k := by omega
    have hb' : b / 10 < 10 ^ k := by omega
    rw [dig, dig, lt_app _ _ _ _ (by rw [dig_len, dig_len]), dig_lt k _ _ ha' hb']
    have hi := dig_inj k (a / 10) (b / 10) ha' hb'
    by_cases h1 : a / 10 < b / 10
    · have : a < b := by omega
      simp [h1, this]
    · by_cases h2 : a / 10 = b / 10
      · have e : dig k (a / 10) = dig k (b / 10) := hi.mpr h2
        have : (48 + a % 10 < 48 + b % 10) ↔ a < b := by omega
        simp [e, h1, this]
      · have : ¬ a < b := by omega
        have e : ¬ dig k (a / 10) = dig k (b / 10) := fun e => h2 (hi.mp e)
        simp [h1, e, this]
/-- names of one kind that has numbers are in order as their numbers are -/
theorem of_lt {k a b : Int} (h : 3 ≤ k ∧ k ≤ 7) (ha : 1 ≤ a ∧ a ≤ 2147483647) (hb : 1 ≤ b ∧ b ≤ 2147483647) : lt (of (k, a)) (of (k, b)) = decide (a < b) ∧ (of (k, a) = of (k, b) ↔ a = b) := by
  rw [of_num ⟨h.1, h.2, ha⟩, of_num ⟨h.1, h.2, hb⟩]
  obtain ⟨x, rfl⟩ : ∃ m : Nat, a = (m : Int) := ⟨a.toNat, by omega⟩
  obtain ⟨y, rfl⟩ : ∃ m : Nat, b = (m : Int) := ⟨b.toNat, by omega⟩
  simp only [Int.toNat_natCast]
  have hx : x < 10 ^ 10 := by omega
  have hy : y < 10 ^ 10 := by omega
  constructor
  · rw [lt]
    simp [dig_lt 10 x y hx hy]
  · simp only [List.cons.injEq, true_and, dig_inj 10 x y hx hy]
    omega
end Go.Proofs.Ytjllglpjghcplaa.Na

/- The plain mathematics of items in order: which there may be, putting, finding, ranges, what they weigh. Names no dump. -/
namespace Go.Proofs.Ytjllglpjghcplaa.It

/-- Key, Dead, Cell -/
abbrev I := List Nat × Bool × Ce.C
def zero : I := ([], false, Ce.zero)
def may (x : I) : Bool := decide (x.1 ≠ []) && decide (x.1.length ≤ 64) && Ce.may x.2.2 && (!x.2.1 || decide (x.2.2 = Ce.zero))
/-- whether items are alike -/
def one (x y : I) : Bool := decide (x.1 = y.1) && decide (x.2.1 = y.2.1) && decide (x.2.2 = y.2.2)
theorem one_iff (x y : I) : one x y = true ↔ x = y := by
  obtain ⟨x1, x2, x3⟩ := x
  obtain ⟨y1, y2, y3⟩ := y
  simp only [one, Bool.and_eq_true, decide_eq_true_eq, Prod.mk.injEq, and_assoc]
def sameGo : List I → List I → Bool
  | [], [] => true
  | x :: l, y :: m => one x y && sameGo l m
  | _, _ => false
theorem sameGo_iff : ∀ (l m : List I), sameGo l m = true ↔ l = m
  | [], [] => by simp [sameGo]
  | [], _ :: _ => by simp [sameGo]
  | _ :: _, [] => by simp [sameGo]
  | x :: l, y :: m => by rw [sameGo, Bool.and_eq_true, one_iff, sameGo_iff l m, List.cons.injEq]
/-- not below -/
def ge (a b : List Nat) : Bool := !Na.lt a b
def putGo (x : I) : Bool → List I → List I
  | d, [] => if d then [] else [x]
  | d, y :: l => (if d = false ∧ ge y.1 x.1 = true then [x] else []) ++ ((if y.1 = x.1 then [] else [y]) ++ putGo x (d || ge y.1 x.1) l)
/-- items with one more -/
def put (l : List I) (x : I) : List I := putGo x false l
/-- items, put one behind the other, those that may be -/
def all (l : List I) : List I := (l.filter may).foldl put []
def get : List I → List Nat → I
  | [], _ => zero
  | x :: l, k => if x.1 = k then x else get l k
def inside (lo hi : List Nat) (x : I) : Bool := ge x.1 lo && (decide (hi = []) || Na.lt x.1 hi)
def scan (l : List I) (lo hi : List Nat) (most : Int) : List I := (l.filter (inside lo hi)).take most.toNat
def weight (l : List I) : Nat := (l.map fun x => x.1.length + 16 + x.2.2.2.1.length).sum
def after : Option (List Nat) → List Nat → Bool
  | none, _ => true
  | some k, m => Na.lt k m
def sortedGo : Option (List Nat) → List I → Bool
  | _, [] => true
  | p, x :: l => may x && after p x.1 && sortedGo (some x.1) l
def sorted (l : List I) : Bool := sortedGo none l
def prev (l : List I) (k : Nat) : Option (List Nat) := if k = 0 then none else some (l.getD (k - 1) zero).1
theorem sorted_step {l : List I} {k : Nat} (hk : k < l.length) : sortedGo (prev l k) (l.drop k) = (may (l.getD k zero) && after (prev l k) (l.getD k zero).1 && sortedGo (prev l (k + 1)) (l.drop (k + 1))) := by
  rw [List.drop_eq_getElem_cons hk, sortedGo]
  have e : l.getD k zero = l[k] := by simp [hk]
  rw [e]
  congr 1
  unfold prev
  rw [if_neg (by omega), Nat.add_sub_cancel, e]
theorem getD_drop {l : List I} {k : Nat} (hk : k < l.length) : l.drop k = l.getD k zero :: l.drop (k + 1) := by
  rw [List.drop_eq_getElem_cons hk]; simp [hk]
theorem putGo_len (x : I) : ∀ (d : Bool) (l : List I), (putGo x d l).length ≤ l.length + 1
  | d, [] => by rw [putGo]; split <;> simp
  | true, y :: l => by
    have h := putGo_done x l
    rw [putGo, if_neg (by simp), List.nil_append, Bool.true_or, h, List.length_append, List.length_cons]
    have h1 : (if y.1 = x.1 then [] else [y]).length ≤ 1 := by split <;> simp
    have h2 := List.length_filter_le (fun y : I => decide (y.1 ≠ x.1)) l
    omega
  | false, y :: l => by
    have h1 : (if y.1 = x.1 then [] else [y]).length ≤ 1 := by split <;> simp
    rw [putGo, List.length_append, List.length_append, List.length_cons]
    by_cases hg : ge y.1 x.1 = true
    · rw [if_pos ⟨rfl, hg⟩, show (false || ge y.1 x.1) = true by simp [hg], putGo_done]
      have h2 := List.length_filter_le (fun y : I => decide (y.1 ≠ x.1)) l
      simp only [List.length_singleton]
      omega
    · rw [if_neg (fun h => hg h.2), show (false || ge y.1 x.1) = false by simp [hg]]
      have := putGo_len x false l
      simp only [List.length_nil]
      omega
where
  putGo_done (x : I) : ∀ (l : List I), putGo x true l = l.filter (fun y => decide (y.1 ≠ x.1))
  | [] => by simp [putGo]
  | y :: l => by
    rw [putGo, if_neg (by simp), List.nil_append, Bool.true_or, putGo_done x l, List.filter_cons]
    by_cases h : y.1 = x.1 <;> simp [h]
theorem putGo_done (x : I) (l : List I) : putGo x true l = l.filter (fun y => decide (y.1 ≠ x.1)) := putGo_len.putGo_done x l

theorem lt_irrefl : ∀ a : List Nat, Na.lt a a = false
  | [] => rfl
  | x :: a => by simp [Na.lt, lt_irrefl a]
theorem lt_trans : ∀ {a b c : List Nat}, Na.lt a b = true → Na.lt b c = true → Na.lt a c = true
  | _, [], _, h, _ => by cases ‹List Nat› <;> simp [Na.lt] at h
  | _, _ :: _, [], _, h => by simp [Na.lt] at h
  | [], _ :: _, _ :: _, _, _ => by simp [Na.lt]
  | x :: a, y :: b, z :: c, h1, h2 => by
    simp only [Na.lt, Bool.or_eq_true, decide_eq_true_eq, Bool.and_eq_true] at h1 h2 ⊢
    rcases h1 with h1 | ⟨rfl, h1⟩
    · rcases h2 with h2 | ⟨rfl, _⟩
      · exact .inl (by omega)
      · exact .inl h1
    · rcases h2 with h2 | ⟨rfl, h2⟩
      · exact .inl h2
      · exact .inr ⟨rfl, lt_trans h1 h2⟩
theorem lt_total : ∀ (a b : List Nat), Na.lt a b = true ∨ a = b ∨ Na.lt b a = true
  | [], [] => .inr (.inl rfl)
  | [], y :: b => .inl (by simp [Na.lt])
  | x :: a, [] => .inr (.inr (by simp [Na.lt]))
  | x :: a, y :: b => by
    simp only [Na.lt, Bool.or_eq_true, decide_eq_true_eq, Bool.and_eq_true, List.cons.injEq]
    rcases Nat.lt_trichotomy x y with h | h | h
    · exact .inl (.inl h)
    · subst h
      rcases lt_total a b with h | h | h
      · exact .inl (.inr ⟨rfl, h⟩)
      · exact .inr (.inl ⟨rfl, h⟩)
      · exact .inr (.inr (.inr ⟨rfl, h⟩))
    · exact .inr (.inr (.inl h))
/-- keys rise -/
def Up (l : List I) : Prop := l.Pairwise (fun a b => Na.lt a.1 b.1 = true)
def find : List I → List Nat → Option I
  | [], _ => none
  | x :: l, k => if x.1 = k then some x else find l k
theorem find_none : ∀ {l : List I} {k : List Nat}, (∀ x ∈ l, x.1 ≠ k) → find l k = none
  | [], _, _ => rfl
  | x :: l, k, h => by rw [find, if_neg (h x List.mem_cons_self)]; exact find_none (fun y hy => h y (List.mem_cons_of_mem _ hy))
theorem lt_ne {a b : List Nat} (h : Na.lt a b = true) : a ≠ b := fun e => by rw [e, lt_irrefl] at h; cases h
theorem lt_asymm {a b : List Nat} (h : Na.lt a b = true) : Na.lt b a = false := by
  cases h2 : Na.lt b a with
  | false => rfl
  | true => have := lt_trans h h2; rw [lt_irrefl] at this; cases this
theorem ext : ∀ {l m : List I}, Up l → Up m → (∀ k, find l k = find m k) → l = m
  | [], [], _, _, _ => rfl
  | [], y :: m, _, _, h => by have := h y.1; rw [find, find, if_pos rfl] at this; cases this
  | x :: l, [], _, _, h => by have := h x.1; rw [find, find, if_pos rfl] at this; cases this
  | x :: l, y :: m, h1, h2, h => by
    have a := List.pairwise_cons.mp h1
    have b := List.pairwise_cons.mp h2
    have hk : x.1 = y.1 := by
      rcases lt_total x.1 y.1 with hl | he | hg
      · have e := h x.1
        rw [find, if_pos rfl, find, if_neg (fun e => lt_ne hl e.symm), find_none (fun z hz e => by have := lt_trans hl (b.1 z hz); exact lt_ne this e.symm)] at e
        cases e
      · exact he
      · have e := h y.1
        rw [find, if_neg (fun e => lt_ne hg e.symm), find, if_pos rfl, find_none (fun z hz e => by have := lt_trans hg (a.1 z hz); exact lt_ne this e.symm)] at e
        cases e
    have hxy : x = y := by
      have e := h x.1
      rw [find, if_pos rfl, find, if_pos hk.symm] at e
      exact Option.some.inj e
    subst hxy
    congr 1
    refine ext a.2 b.2 (fun k => ?_)
    by_cases hs : x.1 = k
    · subst hs
      rw [find_none (fun z hz e => lt_ne (a.1 z hz) e.symm), find_none (fun z hz e => lt_ne (b.1 z hz) e.symm)]
    · have e := h k
      rw [find, if_neg hs, find, if_neg hs] at e
      exact e
theorem putGo_undone (x : I) : ∀ (l : List I), Up l → putGo x false l = l.filter (fun y => Na.lt y.1 x.1) ++ x :: l.filter (fun y => Na.lt x.1 y.1)
  | [], _ => by simp [putGo]
  | y :: l, h => by
    have a := List.pairwise_cons.mp h
    rw [putGo]
    cases hg : Na.lt y.1 x.1 with
    | true =>
      have g : ge y.1 x.1 = false := by simp [ge, hg]
      rw [g, if_neg (by simp), if_neg (lt_ne hg), Bool.or_false, putGo_undone x l a.2, List.filter_cons, if_pos (by simpa using hg), List.filter_cons, if_neg (by simp [lt_asymm hg])]
      simp
    | false =>
      have g : ge y.1 x.1 = true := by simp [ge, hg]
      have e1 : (y :: l).filter (fun y => Na.lt y.1 x.1) = [] := by
        rw [List.filter_eq_nil_iff]
        intro z hz hc
        rcases List.mem_cons.mp hz with rfl | hz
        · rw [hg] at hc; cases hc
        · have := lt_trans (a.1 z hz) hc; rw [hg] at this; cases this
      have hgt : ∀ z ∈ l, Na.lt x.1 z.1 = true := fun z hz => by
        rcases lt_total x.1 y.1 with h' | h' | h'
        · exact lt_trans h' (a.1 z hz)
        · rw [h']; exact a.1 z hz
        · rw [hg] at h'; cases h'
      have e2 : l.filter (fun y => decide (y.1 ≠ x.1)) = l.filter (fun y => Na.lt x.1 y.1) := by
        apply List.filter_congr
        intro z hz
        rw [hgt z hz, decide_eq_true_eq]
        exact fun e => lt_ne (hgt z hz) e.symm
      rw [g, if_pos ⟨rfl, rfl⟩, Bool.false_or, putGo_done, e1, e2, List.filter_cons, List.nil_append]
      by_cases e : y.1 = x.1
      · rw [if_pos e, e, lt_irrefl]; simp
      · have : Na.lt x.1 y.1 = true := by
          rcases lt_total x.1 y.1 with h' | h' | h'
          · exact h'
          · exact absurd h'.symm e
          · rw [hg] at h'; cases h'
        rw [if_neg e, this]; simp
theorem up_put {l : List I} (h : Up l) (x : I) : Up (put l x) := by
  unfold put
  rw [putGo_undone x l h]
  unfold Up
  rw [List.pairwise_append, List.pairwise_cons]
  refine ⟨h.sublist List.filter_sublist, ⟨fun y hy => (List.mem_filter.mp hy).2, h.sublist List.filter_sublist⟩, fun a ha b hb => ?_⟩
  have h1 := (List.mem_filter.mp ha).2
  rcases List.mem_cons.mp hb with rfl | hb
  · exact h1
  · exact lt_trans h1 (List.mem_filter.mp hb).2
theorem find_append (k : List Nat) : ∀ (l m : List I), find (l ++ m) k = match find l k with | some x => some x | none => find m k
  | [], m => rfl
  | x :: l, m => by
    rw [List.cons_append, find, find]
    by_cases h : x.1 = k
    · rw [if_pos h, if_pos h]
    · rw [if_neg h, if_neg h]; exact find_append k l m
theorem find_filter (f : I → Bool) (k : List Nat) : ∀ (l : List I), (∀ x ∈ l, x.1 = k → f x = true) → find (l.filter f) k = find l k
  | [], _ => rfl
  | x :: l, h => by
    rw [List.filter_cons]
    by_cases hx : f x = true
    · rw [if_pos hx, find, find, find_filter f k l (fun y hy => h y (List.mem_cons_of_mem _ hy))]
    · rw [if_neg hx, find, if_neg (fun e => hx (h x List.mem_cons_self e)), find_filter f k l (fun y hy => h y (List.mem_cons_of_mem _ hy))]
theorem find_put {l : List I} (h : Up l) (x : I) (k : List Nat) : find (put l x) k = if x.1 = k then some x else find l k := by
  unfold put
  rw [putGo_undone x l h, find_append, find]
  by_cases hk : x.1 = k
  · subst hk
    rw [find_none (fun y hy e => by have := (List.mem_filter.mp hy).2; rw [e, lt_irrefl] at this; cases this), if_pos rfl]
    simp
  · rw [if_neg hk, if_neg hk]
    rcases lt_total k x.1 with h' | h' | h'
    · rw [find_filter _ k l (fun y _ e => by rw [e]; exact h')]
      cases hf : find l k with
      | some y => rfl
      | none => exact find_none (fun y hy e => by have := (List.mem_filter.mp hy).2; rw [e, lt_asymm h'] at this; cases this)
    · exact absurd h'.symm hk
    · rw [find_none (fun y hy e => by have := (List.mem_filter.mp hy).2; rw [e, lt_asymm h'] at this; cases this)]
      exact find_filter _ k l (fun y _ e => by rw [e]; exact h')
theorem up_fold : ∀ (p l : List I), Up l → Up (p.foldl put l)
  | [], _, h => h
  | x :: p, _, h => up_fold p _ (up_put h x)
theorem up_all (l : List I) : Up (all l) := up_fold _ _ List.Pairwise.nil
/-- items of unlike keys, put in whatever order -/
theorem find_fold : ∀ (p l : List I), Up l → p.Pairwise (fun a b => a.1 ≠ b.1) → ∀ k, find (p.foldl put l) k = match find p k with | some x => some x | none => find l k
  | [], _, _, _, _ => rfl
  | x :: p, l, h, hp, k => by
    have a := List.pairwise_cons.mp hp
    rw [List.foldl_cons, find_fold p (put l x) (up_put h x) a.2 k, find_put h, find]
    by_cases hk : x.1 = k
    · subst hk
      rw [find_none (fun y hy e => a.1 y hy e.symm), if_pos rfl]
      simp
    · rw [if_neg hk, if_neg hk]
theorem find_mem : ∀ {l : List I} {k : List Nat} {x : I}, find l k = some x → x ∈ l ∧ x.1 = k
  | y :: _, k, _, h => by
    rw [find] at h
    by_cases e : y.1 = k
    · rw [if_pos e] at h
      cases h
      exact ⟨List.mem_cons_self, e⟩
    · rw [if_neg e] at h
      exact ⟨List.mem_cons_of_mem _ (find_mem h).1, (find_mem h).2⟩
theorem find_of_mem : ∀ {l : List I} {x : I}, l.Pairwise (fun a b => a.1 ≠ b.1) → x ∈ l → find l x.1 = some x
  | y :: l, x, h, hx => by
    have a := List.pairwise_cons.mp h
    rw [find]
    rcases List.mem_cons.mp hx with rfl | hx
    · rw [if_pos rfl]
    · rw [if_neg (a.1 x hx)]; exact find_of_mem a.2 hx
/-- in which order items of unlike keys are put does not matter -/
theorem put_any {l p : List I} (hl : Up l) (hp : p.Perm l) : p.foldl put [] = l := by
  have hd : l.Pairwise (fun a b => a.1 ≠ b.1) := hl.imp (fun h => lt_ne h)
  have hpd : p.Pairwise (fun a b => a.1 ≠ b.1) := (hp.pairwise_iff (fun h => Ne.symm h)).mpr hd
  refine ext (up_fold p [] List.Pairwise.nil) hl (fun k => ?_)
  rw [find_fold p [] List.Pairwise.nil hpd k]
  cases h : find p k with
  | some x =>
    obtain ⟨h1, h2⟩ := find_mem h
    subst h2
    exact (find_of_mem hd (hp.mem_iff.mp h1)).symm
  | none =>
    cases h2 : find l k with
    | none => rfl
    | some x =>
      obtain ⟨h3, h4⟩ := find_mem h2
      subst h4
      rw [find_of_mem hpd (hp.mem_iff.mpr h3)] at h
      cases h
end Go.Proofs.Ytjllglpjghcplaa.It

/- Items in order, plainly: which may be, each key behind the one ahead; a search by halves. Names no dump. -/
namespace Go.Proofs.Ytjllglpjghcplaa.It
theorem sortedGo_iff : ∀ (l : List I) (p : Option (List Nat)), sortedGo p l = true ↔ (∀ x ∈ l, may x = true) ∧ l.Pairwise (fun a b => Na.lt a.1 b.1 = true) ∧ (∀ x ∈ l, after p x.1 = true)
  | [], p => by simp [sortedGo]
  | y :: l, p => by
    rw [sortedGo, Bool.and_eq_true, Bool.and_eq_true, sortedGo_iff l (some y.1), List.pairwise_cons]
    constructor
    · rintro ⟨⟨h1, h2⟩, h3, h4, h5⟩
      refine ⟨fun x hx => ?_, ⟨h5, h4⟩, fun x hx => ?_⟩
      · rcases List.mem_cons.mp hx with rfl | hx
        · exact h1
        · exact h3 x hx
      · rcases List.mem_cons.mp hx with rfl | hx
        · exact h2
        · cases p with
          | none => rfl
          | some k => exact lt_trans h2 (h5 x hx)
    · rintro ⟨h1, ⟨h2, h3⟩, h4⟩
      exact ⟨⟨h1 y List.mem_cons_self, h4 y List.mem_cons_self⟩, fun x hx => h1 x (List.mem_cons_of_mem _ hx), h3, h2⟩
theorem sorted_iff (l : List I) : sorted l = true ↔ (∀ x ∈ l, may x = true) ∧ l.Pairwise (fun a b => Na.lt a.1 b.1 = true) := by
  rw [sorted, sortedGo_iff]
  exact ⟨fun h => ⟨h.1, h.2.1⟩, fun h => ⟨h.1, h.2, fun _ _ => rfl⟩⟩
theorem sorted_sub {l m : List I} (h : sorted l = true) (hs : m.Sublist l) : sorted m = true := by
  rw [sorted_iff] at h ⊢
  exact ⟨fun x hx => h.1 x (hs.mem hx), h.2.sublist hs⟩
theorem rise_at {l : List I} (h : l.Pairwise (fun a b => Na.lt a.1 b.1 = true)) {p q : Nat} (hpq : p < q) (hq : q < l.length) : Na.lt (l.getD p zero).1 (l.getD q zero).1 = true := by
  have := (List.pairwise_iff_getElem.mp h) p q (by omega) hq hpq
  simpa [show p < l.length by omega, hq] using this
theorem ge_lt_trans {a b c : List Nat} (h1 : Na.lt b a = false) (h2 : Na.lt b c = true) : Na.lt a c = true := by
  rcases lt_total a b with h | h | h
  · exact lt_trans h h2
  · rw [h]; exact h2
  · rw [h1] at h; cases h
/-- where a search by halves stands -/
def Srch (l : List I) (s : List Nat) (i j : Nat) : Prop := (∀ t, t < i → Na.lt (l.getD t zero).1 s = true) ∧ (∀ t, j ≤ t → t < l.length → Na.lt (l.getD t zero).1 s = false)
theorem srch_up {l : List I} {s : List Nat} {i j h : Nat} (hp : l.Pairwise (fun a b => Na.lt a.1 b.1 = true)) (hs : Srch l s i j) (hh : h < l.length) (hlt : Na.lt (l.getD h zero).1 s = true) : Srch l s (h + 1) j :=
  ⟨fun t ht => by
    rcases Nat.lt_or_ge t h with h1 | h1
    · exact lt_trans (rise_at hp h1 hh) hlt
    · obtain rfl : t = h := by omega
      exact hlt, hs.2⟩
theorem srch_down {l : List I} {s : List Nat} {i j h : Nat} (hp : l.Pairwise (fun a b => Na.lt a.1 b.1 = true)) (hs : Srch l s i j) (hlt : Na.lt (l.getD h zero).1 s = false) : Srch l s i h :=
  ⟨hs.1, fun t h1 h2 => by
    rcases Nat.lt_or_ge h t with h3 | h3
    · have h4 := rise_at hp h3 h2
      cases h5 : Na.lt (l.getD t zero).1 s with
      | false => rfl
      | true => rw [lt_trans h4 h5] at hlt; cases hlt
    · obtain rfl : t = h := by omega
      exact hlt⟩
theorem srch_none {l : List I} {s : List Nat} {i : Nat} (hp : l.Pairwise (fun a b => Na.lt a.1 b.1 = true)) (hs : Srch l s i i) (hn : i < l.length → (l.getD i zero).1 ≠ s) : ∀ x ∈ l, x.1 ≠ s := by
  intro x hx
  obtain ⟨t, ht, rfl⟩ := List.getElem_of_mem hx
  have e : l.getD t zero = l[t] := by simp [ht]
  rw [← e]
  rcases Nat.lt_or_ge t i with h1 | h1
  · exact lt_ne (hs.1 t h1)
  · have h2 := hs.2 i (Nat.le_refl _) (by omega)
    have h3 := hn (by omega)
    rcases Nat.lt_or_ge i t with h4 | h4
    · have h5 := rise_at hp h4 ht
      intro h6
      rw [h6] at h5
      rw [h5] at h2
      cases h2
    · obtain rfl : t = i := by omega
      exact h3
/-- where a key stands -/
def Found (l : List I) (s : List Nat) (n i : Nat) (f : Bool) : Prop := i ≤ n ∧ (f = true → i < n ∧ (l.getD i zero).1 = s) ∧ (f = false → ∀ x ∈ l, x.1 ≠ s)
theorem get_none : ∀ {l : List I} {s : List Nat}, (∀ x ∈ l, x.1 ≠ s) → get l s = zero
  | [], _, _ => rfl
  | x :: l, s, h => by rw [get, if_neg (h x (by simp))]; exact get_none (fun y hy => h y (by simp [hy]))
theorem get_at : ∀ {l : List I} {i : Nat}, l.Pairwise (fun a b => Na.lt a.1 b.1 = true) → i < l.length → get l (l.getD i zero).1 = l.getD i zero
  | [], _, _, h => by simp at h
  | x :: l, 0, _, _ => by simp [get]
  | x :: l, i + 1, hp, h => by
    rw [List.pairwise_cons] at hp
    have hi' : i < l.length := by simpa using h
    have h1 := hp.1 (l.getD i zero) (by rw [show l.getD i zero = l[i] by simp [hi']]; exact List.getElem_mem _)
    rw [List.getD_cons_succ, get, if_neg (lt_ne h1)]
    exact get_at hp.2 hi'
end Go.Proofs.Ytjllglpjghcplaa.It

/- The plain mathematics of trees of items: their list, putting, finding, walking through a range. Names no dump. -/
namespace Go.Proofs.Ytjllglpjghcplaa.Tn
open It

inductive T where
  | e : T
  | n (l : T) (x : I) (r : T) : T
def T.list : T → List I
  | .e => []
  | .n l x r => l.list ++ x :: r.list
def T.hgt : T → Nat
  | .e => 0
  | .n l _ r => 1 + max l.hgt r.hgt
theorem hgt_le : ∀ t : T, t.hgt ≤ t.list.length
  | .e => Nat.le_refl _
  | .n l x r => by
    have h1 := hgt_le l
    have h2 := hgt_le r
    simp only [T.hgt, T.list, List.length_append, List.length_cons]
    omega
theorem up_parts {L R : List I} {y : I} (h : Up (L ++ y :: R)) : Up L ∧ Up R ∧ (∀ z ∈ L, Na.lt z.1 y.1 = true) ∧ (∀ z ∈ R, Na.lt y.1 z.1 = true) := by
  unfold Up at h
  rw [List.pairwise_append, List.pairwise_cons] at h
  exact ⟨h.1, h.2.1.2, fun z hz => h.2.2 z hz y List.mem_cons_self, h.2.1.1⟩
theorem filter_all {f : I → Bool} {l : List I} (h : ∀ z ∈ l, f z = true) : l.filter f = l := List.filter_eq_self.mpr h
theorem filter_none {f : I → Bool} {l : List I} (h : ∀ z ∈ l, f z = false) : l.filter f = [] := List.filter_eq_nil_iff.mpr (fun z hz e => by rw [h z hz] at e; cases e)
theorem put_nil (x : I) : put [] x = [x] := rfl
theorem put_lt {L R : List I} {x y : I} (h : Up (L ++ y :: R)) (hx : Na.lt x.1 y.1 = true) : put (L ++ y :: R) x = put L x ++ y :: R := by
  obtain ⟨h1, h2, h3, h4⟩ := up_parts h
  unfold put
  rw [putGo_undone x _ h, putGo_undone x _ h1, List.filter_append, List.filter_append, List.filter_cons, List.filter_cons, if_neg (by rw [lt_asymm hx]; simp), if_pos hx,
    filter_none (l := R) (fun z hz => lt_asymm (lt_trans hx (h4 z hz))), filter_all (l := R) (fun z hz => lt_trans hx (h4 z hz))]
  simp
theorem put_gt {L R : List I} {x y : I} (h : Up (L ++ y :: R)) (hx : Na.lt y.1 x.1 = true) : put (L ++ y :: R) x = L ++ y :: put R x := by
  obtain ⟨h1, h2, h3, h4⟩ := up_parts h
  unfold put
  rw [putGo_undone x _ h, putGo_undone x _ h2, List.filter_append, List.filter_append, List.filter_cons, List.filter_cons, if_pos hx, if_neg (by rw [lt_asymm hx]; simp),
    filter_all (l := L) (fun z hz => lt_trans (h3 z hz) hx), filter_none (l := L) (fun z hz => lt_asymm (lt_trans (h3 z hz) hx))]
  simp
theorem put_eq {L R : List I} {x y : I} (h : Up (L ++ y :: R)) (hx : x.1 = y.1) : put (L ++ y :: R) x = L ++ x :: R := by
  obtain ⟨h1, h2, h3, h4⟩ := up_parts h
  unfold put
  rw [putGo_undone x _ h, List.filter_append, List.filter_append, List.filter_cons, List.filter_cons, hx, lt_irrefl, if_neg (by simp), if_neg (by simp),
    filter_all (l := L) h3, filter_none (l := L) (fun z hz => lt_asymm (h3 z hz)), filter_none (l := R) (fun z hz => lt_asymm (h4 z hz)), filter_all (l := R) h4]
  simp
theorem find_lt {L R : List I} {k : List Nat} {y : I} (h : Up (L ++ y :: R)) (hx : Na.lt k y.1 = true) : find (L ++ y :: R) k = find L k := by
  obtain ⟨h1, h2, h3, h4⟩ := up_parts h
  rw [find_append]
  cases hf : find L k with
  | some z => rfl
  | none =>
    simp only
    refine find_none (fun z hz => ?_)
    rcases List.mem_cons.mp hz with rfl | hz
    · exact fun e => lt_ne hx e.symm
    · exact fun e => lt_ne (lt_trans hx (h4 z hz)) e.symm
theorem find_gt {L R : List I} {k : List Nat} {y : I} (h : Up (L ++ y :: R)) (hx : Na.lt y.1 k = true) : find (L ++ y :: R) k = find R k := by
  obtain ⟨h1, h2, h3, h4⟩ := up_parts h
  rw [find_append, find_none (fun z hz => lt_ne (lt_trans (h3 z hz) hx)), find, if_neg (lt_ne hx)]
theorem find_eq {L R : List I} {k : List Nat} {y : I} (h : Up (L ++ y :: R)) (hx : y.1 = k) : find (L ++ y :: R) k = some y := by
  obtain ⟨h1, h2, h3, h4⟩ := up_parts h
  subst hx
  rw [find_append, find_none (fun z hz => lt_ne (h3 z hz)), find, if_pos rfl]
theorem get_find : ∀ (l : List I) (k : List Nat), It.get l k = (It.find l k).getD It.zero
  | [], _ => rfl
  | x :: l, k => by
    rw [It.get, It.find]
    by_cases h : x.1 = k
    · rw [if_pos h, if_pos h]; rfl
    · rw [if_neg h, if_neg h]; exact get_find l k
/-- what an item weighs -/
def wt (x : I) : Nat := x.1.length + 16 + x.2.2.2.1.length
theorem weight_append (l m : List I) : weight (l ++ m) = weight l + weight m := by simp [weight]
theorem weight_cons (x : I) (m : List I) : weight (x :: m) = wt x + weight m := by simp [weight, wt]
/-- the length and weight of items with one more -/
theorem put_some {l : List I} (h : Up l) {x y : I} (hf : find l x.1 = some y) : (put l x).length = l.length ∧ weight (put l x) + wt y = weight l + wt x := by
  obtain ⟨hm, hk⟩ := find_mem hf
  obtain ⟨L, R, rfl⟩ := List.append_of_mem hm
  rw [put_eq h hk.symm]
  refine ⟨by simp, ?_⟩
  rw [weight_append, weight_append, weight_cons, weight_cons]
  omega
theorem put_none {l : List I} (h : Up l) {x : I} (hf : find l x.1 = none) : (put l x).length = l.length + 1 ∧ weight (put l x) = weight l + wt x := by
  have key : ∀ z ∈ l, z.1 ≠ x.1 := fun z hz e => by
    rw [← e, find_of_mem (h.imp (fun h => lt_ne h)) hz] at hf
    cases hf
  have hp : (l.filter (fun y => Na.lt y.1 x.1) ++ l.filter (fun y => Na.lt x.1 y.1)).Perm l := by
    have : l.filter (fun y => Na.lt x.1 y.1) = l.filter (fun y => !Na.lt y.1 x.1) := List.filter_congr (fun z hz => by
      rcases lt_total z.1 x.1 with h' | h' | h'
      · rw [h', lt_asymm h']; rfl
      · exact absurd h' (key z hz)
      · rw [h', lt_asymm h']; rfl)
    rw [this]
    exact List.filter_append_perm _ _
  have hl := hp.length_eq
  have hw : weight (l.filter (fun y => Na.lt y.1 x.1) ++ l.filter (fun y => Na.lt x.1 y.1)) = weight l := (hp.map _).sum_nat
  unfold put
  rw [putGo_undone x l h]
  rw [List.length_append] at hl
  rw [weight_append] at hw
  rw [weight_append, weight_cons, List.length_append, List.length_cons]
  omega
theorem put_may {l : List I} (h : Up l) (ha : ∀ z ∈ l, may z = true) {x : I} (hx : may x = true) : ∀ z ∈ put l x, may z = true := by
  intro z hz
  unfold put at hz
  rw [putGo_undone x l h, List.mem_append, List.mem_cons] at hz
  rcases hz with hz | rfl | hz
  · exact ha z (List.mem_filter.mp hz).1
  · exact hx
  · exact ha z (List.mem_filter.mp hz).1
theorem may_small {x : I} (h : may x = true) : x.1 ≠ [] ∧ x.1.length ≤ 64 ∧ x.2.2.2.1.length ≤ 32 := by
  simp only [may, Bool.and_eq_true, decide_eq_true_eq] at h
  refine ⟨h.1.1.1, h.1.1.2, ?_⟩
  have hc := h.1.2
  unfold Ce.may at hc
  revert hc
  cases x.2.2.1 <;> simp <;> intros <;> simp_all
theorem weight_le : ∀ {l : List I}, (∀ z ∈ l, may z = true) → weight l ≤ l.length * 112
  | [], _ => by simp [weight]
  | x :: l, h => by
    have h1 := weight_le (l := l) (fun z hz => h z (List.mem_cons_of_mem _ hz))
    obtain ⟨_, h2, h3⟩ := may_small (h x List.mem_cons_self)
    rw [weight_cons, List.length_cons]
    unfold wt
    omega
/-- what is seen of items, till so many are there; whether more are wanted -/
def feed (most : Int) : List I → List I → List I × Bool
  | acc, [] => (acc, true)
  | acc, x :: l => if most ≤ (acc.length : Int) then (acc, false) else feed most (acc ++ [x]) l
theorem feed_append (most : Int) : ∀ (acc l m : List I), feed most acc (l ++ m) = if (feed most acc l).2 = true then feed most (feed most acc l).1 m else feed most acc l
  | acc, [], m => by simp [feed]
  | acc, x :: l, m => by
    rw [List.cons_append, feed, feed]
    by_cases h : most ≤ (acc.length : Int)
    · simp [h]
    · rw [if_neg h, if_neg h]; exact feed_append most _ l m
theorem feed_take (most : Int) : ∀ (acc l : List I), (feed most acc l).1 = acc ++ l.take (most - acc.length).toNat
  | acc, [] => by simp [feed]
  | acc, x :: l => by
    rw [feed]
    by_cases h : most ≤ (acc.length : Int)
    · rw [if_pos h, show (most - (acc.length : Int)).toNat = 0 by omega]; simp
    · rw [if_neg h, feed_take most (acc ++ [x]) l, show (most - (acc.length : Int)).toNat = (most - ((acc ++ [x]).length : Int)).toNat + 1 by simp; omega, List.take_succ_cons]
      simp
theorem feed_scan (L : List I) (lo hi : List Nat) (most : Int) : (feed most [] (L.filter (inside lo hi))).1 = scan L lo hi most := by
  rw [feed_take]
  simp [scan]
theorem feed_len (most : Int) (acc l : List I) : (feed most acc l).1.length ≤ acc.length + l.length := by
  rw [feed_take, List.length_append, List.length_take]
  omega
theorem ge_trans_lo {lo : List Nat} {y z : I} (hz : Na.lt z.1 y.1 = true) (h : ge y.1 lo = false) : ge z.1 lo = false := by
  unfold ge at h ⊢
  simp only [Bool.not_eq_false'] at h ⊢
  exact lt_trans hz h
/-- none below an item that is below the range -/
theorem inside_low {lo hi : List Nat} {L : List I} {y : I} (h : ∀ z ∈ L, Na.lt z.1 y.1 = true) (hy : ge y.1 lo = false) : L.filter (inside lo hi) = [] :=
  filter_none (fun z hz => by unfold inside; rw [ge_trans_lo (h z hz) hy]; rfl)
def below (hi : List Nat) (y : List Nat) : Bool := decide (hi = []) || Na.lt y hi
/-- none above an item that is above the range -/
theorem inside_high {lo hi : List Nat} {R : List I} {y : I} (h : ∀ z ∈ R, Na.lt y.1 z.1 = true) (hy : below hi y.1 = false) : R.filter (inside lo hi) = [] := by
  unfold below at hy
  rw [Bool.or_eq_false_iff] at hy
  refine filter_none (fun z hz => ?_)
  unfold inside
  rw [hy.1]
  cases hl : Na.lt z.1 hi with
  | false => simp
  | true => have := lt_trans (h z hz) hl; rw [hy.2] at this; cases this
theorem filter_node (lo hi : List Nat) (L R : List I) (y : I) : (L ++ y :: R).filter (inside lo hi) = L.filter (inside lo hi) ++ ((if (ge y.1 lo && below hi y.1) = true then [y] else []) ++ R.filter (inside lo hi)) := by
  rw [List.filter_append, List.filter_cons]
  by_cases h : inside lo hi y = true
  · rw [if_pos h, if_pos (show (ge y.1 lo && below hi y.1) = true from h)]; rfl
  · rw [if_neg h, if_neg (show ¬ (ge y.1 lo && below hi y.1) = true from h)]; rfl
theorem scan_all (L : List I) : scan L [] [] (L.length : Nat) = L := by
  unfold scan
  rw [filter_all (fun z _ => by simp [inside, ge]; cases z.1 <;> rfl)]
  simp
end Go.Proofs.Ytjllglpjghcplaa.Tn
