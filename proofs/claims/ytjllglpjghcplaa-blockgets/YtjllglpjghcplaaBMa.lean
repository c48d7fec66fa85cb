/- The plain mathematics of the sum of bytes (registers as natural numbers): a bit's step, a byte's steps, that they are linear, and that one step of nothing loses nothing. No word of the program. -/
import Derived.WalkKit
import Derived.Test.YtjllglpjghcplaaMath
namespace Go.Proofs.Ytjllglpjghcplaa.Crc

/-- the register, moved on by a bit 0 -/
def lin (r : Nat) : Nat := if r % 2 = 1 then (r / 2) ^^^ 2197175160 else r / 2
/-- the register behind the bit b -/
def stp (r b : Nat) : Nat := if r % 2 ≠ b then (r / 2) ^^^ 2197175160 else r / 2
/-- k times lin -/
def lins : Nat → Nat → Nat
  | 0, r => r
  | k + 1, r => lin (lins k r)
/-- bit i of n -/
def bt (n i : Nat) : Nat := n / 2 ^ i % 2
/-- k bits of x, from the lowest on -/
def stps : Nat → Nat → Nat → Nat
  | 0, r, _ => r
  | k + 1, r, x => stp (stps k r x) (bt x k)
/-- the register behind a byte -/
def tk (r x : Nat) : Nat := lins 8 (r ^^^ x)
/-- the register behind bytes -/
def run (r : Nat) (bs : List Nat) : Nat := bs.foldl tk r
/-- the sum of bytes behind others whose sum is s -/
def more (s : Nat) (bs : List Nat) : Nat := run (s ^^^ 4294967295) bs ^^^ 4294967295

theorem bt_lt (n i : Nat) : bt n i < 2 := Nat.mod_lt _ (by omega)
theorem xor_half (a b : Nat) : (a ^^^ b) / 2 = (a / 2) ^^^ (b / 2) := by
  apply Nat.eq_of_testBit_eq; intro i; simp [Nat.testBit_div_two]
theorem xor_low (a b : Nat) : (a ^^^ b) % 2 = (a + b) % 2 := by
  have h := Nat.testBit_xor a b 0
  simp only [Nat.testBit_zero] at h
  have e : (a + b) % 2 = (a % 2 + b % 2) % 2 := Nat.add_mod a b 2
  rw [e]
  generalize a ^^^ b = c at *
  rcases Nat.mod_two_eq_zero_or_one a with h1 | h1 <;> rcases Nat.mod_two_eq_zero_or_one b with h2 | h2 <;> rcases Nat.mod_two_eq_zero_or_one c with h3 | h3 <;> rw [h1, h2, h3] at h <;> simp [h1, h2, h3] <;> simp at h
theorem lin_lt {r : Nat} (h : r < 4294967296) : lin r < 4294967296 := by
  unfold lin; split
  · exact Nat.xor_lt_two_pow (n := 32) (by omega) (by omega)
  · omega
theorem stp_lt {r : Nat} (b : Nat) (h : r < 4294967296) : stp r b < 4294967296 := by
  unfold stp; split
  · exact Nat.xor_lt_two_pow (n := 32) (by omega) (by omega)
  · omega
theorem xor_lt {a b : Nat} (h : a < 4294967296) (h' : b < 4294967296) : a ^^^ b < 4294967296 :=
  Nat.xor_lt_two_pow (n := 32) (by omega) (by omega)
theorem lins_lt {r : Nat} (k : Nat) (h : r < 4294967296) : lins k r < 4294967296 := by
  induction k with
  | zero => exact h
  | succ k ih => exact lin_lt ih
theorem stps_lt {r : Nat} (k x : Nat) (h : r < 4294967296) : stps k r x < 4294967296 := by
  induction k with
  | zero => exact h
  | succ k ih => exact stp_lt _ ih
theorem tk_lt {r x : Nat} (h : r < 4294967296) (hx : x < 256) : tk r x < 4294967296 :=
  lins_lt 8 (xor_lt h (by omega))
theorem run_lt {r : Nat} (bs : List Nat) (h : r < 4294967296) (hb : ∀ n ∈ bs, n < 256) : run r bs < 4294967296 := by
  induction bs generalizing r with
  | nil => exact h
  | cons x l ih => exact ih (tk_lt h (hb x (by simp))) (fun n hn => hb n (by simp [hn]))
theorem more_lt {s : Nat} (bs : List Nat) (h : s < 4294967296) (hb : ∀ n ∈ bs, n < 256) : more s bs < 4294967296 :=
  xor_lt (run_lt bs (xor_lt h (by omega)) hb) (by omega)
/-- a bit laid on, with others above it -/
theorem lin_xor (s y : Nat) : lin (s ^^^ y) = stp s (y % 2) ^^^ (y / 2) := by
  unfold lin stp
  rw [xor_half, xor_low]
  by_cases h : s % 2 = y % 2
  · rw [if_neg (by omega), if_neg (by omega)]
  · rw [if_pos (by omega), if_pos h]
    rw [Nat.xor_assoc, Nat.xor_assoc, Nat.xor_comm (y / 2)]
theorem div_pow_succ (x k : Nat) : x / 2 ^ k / 2 = x / 2 ^ (k + 1) := by
  rw [Nat.div_div_eq_div_mul, Nat.pow_succ]
/-- all bits laid on at once -/
theorem lins_stps (k r x : Nat) : lins k (r ^^^ x) = stps k r x ^^^ (x / 2 ^ k) := by
  induction k with
  | zero => simp [lins, stps]
  | succ k ih => rw [lins, ih, lin_xor, stps, div_pow_succ]; rfl
theorem tk_stps (r x : Nat) (hx : x < 256) : tk r x = stps 8 r x := by
  unfold tk; rw [lins_stps, Nat.div_eq_of_lt (by omega), Nat.xor_zero]
theorem lin_add (a b : Nat) : lin (a ^^^ b) = lin a ^^^ lin b := by
  rw [lin_xor]
  have e := lin_xor 0 b
  have e2 := lin_xor a 0
  unfold lin stp at *
  by_cases h1 : a % 2 = 1 <;> by_cases h2 : b % 2 = 1
  · rw [if_neg (by omega), if_pos h1, if_pos h2]
    rw [show a / 2 ^^^ 2197175160 ^^^ (b / 2 ^^^ 2197175160) = a / 2 ^^^ b / 2 ^^^ (2197175160 ^^^ 2197175160) by
      rw [Nat.xor_assoc, Nat.xor_assoc, Nat.xor_comm (2197175160) (b / 2 ^^^ 2197175160), Nat.xor_assoc]]
    simp
  · rw [if_pos (by omega), if_pos h1, if_neg h2]
  · rw [if_pos (by omega), if_neg h1, if_pos h2]
    rw [Nat.xor_assoc, Nat.xor_comm 2197175160]
  · rw [if_neg (by omega), if_neg h1, if_neg h2]
theorem lins_add (k a b : Nat) : lins k (a ^^^ b) = lins k a ^^^ lins k b := by
  induction k with
  | zero => rfl
  | succ k ih => rw [lins, ih, lin_add]; rfl
/-- a step of nothing loses nothing -/
theorem lin_zero {r : Nat} (h : r < 4294967296) (hz : lin r = 0) : r = 0 := by
  unfold lin at hz
  split at hz
  · have h2 : r / 2 < 2 ^ 31 := by omega
    have h3 : (r / 2).testBit 31 = false := Nat.testBit_lt_two_pow h2
    have h4 := congrArg (fun n => n.testBit 31) hz
    simp only [Nat.testBit_xor, h3, Nat.zero_testBit] at h4
    exact absurd h4 (by decide)
  · omega
theorem lins_zero {r : Nat} (k : Nat) (h : r < 4294967296) (hz : lins k r = 0) : r = 0 := by
  induction k with
  | zero => exact hz
  | succ k ih => exact ih (lin_zero (lins_lt k h) hz)
theorem run_append (r : Nat) (a b : List Nat) : run r (a ++ b) = run (run r a) b := by simp [run]
theorem more_append (s : Nat) (a b : List Nat) : more (more s a) b = more s (a ++ b) := by
  unfold more; rw [run_append, Nat.xor_assoc, Nat.xor_self, Nat.xor_zero]
theorem run_snoc (r : Nat) (a : List Nat) (x : Nat) : run r (a ++ [x]) = tk (run r a) x := by simp [run]
theorem more_nil (s : Nat) : more s [] = s := by
  show (s ^^^ 4294967295) ^^^ 4294967295 = s
  rw [Nat.xor_assoc, Nat.xor_self, Nat.xor_zero]
theorem known : more 0 [49, 50, 51, 52, 53, 54, 55, 56, 57] = 3808858755 := by decide +kernel
end Go.Proofs.Ytjllglpjghcplaa.Crc

/- The plain mathematics of frames: their bytes, what is read, what is scanned, cuts and joins. Names no dump. -/
namespace Go.Proofs.Ytjllglpjghcplaa.Fr

abbrev F := Int × List Nat
def may (f : F) : Bool := decide (1 ≤ f.1 ∧ f.1 ≤ 250 ∧ f.2.length ≤ 1048576)
theorem may_iff (f : F) : may f = true ↔ 1 ≤ f.1 ∧ f.1 ≤ 250 ∧ f.2.length ≤ 1048576 := by simp [may]
def le4 (s : Nat) : List Nat := [s % 256, s / 256 % 256, s / 65536 % 256, s / 16777216 % 256]
/-- a frame's bytes -/
def put1 (k : Nat) (b : List Nat) : List Nat := Va.one b.length ++ (k :: (b ++ le4 (Crc.more 0 (k :: b))))
def one (f : F) : List Nat := put1 f.1.toNat f.2
def all (l : List F) : List Nat := l.flatMap one
def size (n : Nat) : Nat := (Va.one n).length + 1 + n + 4

theorem le4_len (s : Nat) : (le4 s).length = 4 := rfl
theorem le4_small (s : Nat) : ∀ x ∈ le4 s, x < 256 := by
  intro x hx; simp [le4] at hx; omega
theorem put1_len (k : Nat) (b : List Nat) : (put1 k b).length = size b.length := by
  simp [put1, size, le4_len]; omega
theorem one_len (f : F) : (one f).length = size f.2.length := put1_len _ _
theorem put1_small {k : Nat} {b : List Nat} (hk : k < 256) (hb : ∀ x ∈ b, x < 256) : ∀ x ∈ put1 k b, x < 256 := by
  intro x hx
  simp only [put1, List.mem_append, List.mem_cons] at hx
  rcases hx with h | h | h | h
  · exact Va.one_small _ x h
  · omega
  · exact hb x h
  · exact le4_small _ x h
theorem one3 {n : Nat} (h : n ≤ 1048576) : (Va.one n).length ≤ 3 := Va.one_len 3 n (by omega) (by omega)
theorem size_ge (n : Nat) : 6 ≤ size n := by have := Va.one_pos n; unfold size; omega
theorem size_le {n : Nat} (h : n ≤ 1048576) : size n ≤ n + 8 := by have := one3 h; unfold size; omega

/-- b ends within the number -/
def gapHead (bs : List Nat) : Bool := decide (bs.length < 3) && bs.all (fun x => decide (128 ≤ x))
/-- the frame that bytes begin with, how many bytes it has, the code -/
def first (bs : List Nat) : F × Nat × Nat :=
  if gapHead bs = true then ((0, []), 0, 5)
  else if (Va.get bs).2 = 0 ∨ 1048576 < (Va.get bs).1 then ((0, []), 0, 2)
  else if (Va.get bs).2 = bs.length then ((0, []), 0, 5)
  else if bs.getD (Va.get bs).2 0 < 1 ∨ 250 < bs.getD (Va.get bs).2 0 then ((0, []), 0, 2)
  else if bs.length < (Va.get bs).2 + 1 + (Va.get bs).1 + 4 then ((0, []), 0, 5)
  else if put1 (bs.getD (Va.get bs).2 0) ((bs.drop ((Va.get bs).2 + 1)).take (Va.get bs).1) = bs.take ((Va.get bs).2 + 1 + (Va.get bs).1 + 4)
    then (((bs.getD (Va.get bs).2 0 : Nat), (bs.drop ((Va.get bs).2 + 1)).take (Va.get bs).1), (Va.get bs).2 + 1 + (Va.get bs).1 + 4, 0)
    else ((0, []), 0, 2)

theorem first_put {k : Nat} {b : List Nat} (hk1 : 1 ≤ k) (hk2 : k ≤ 250) (hb : b.length ≤ 1048576) (hbs : ∀ x ∈ b, x < 256) (r : List Nat) (hr : ∀ x ∈ r, x < 256) :
    first (put1 k b ++ r) = (((k : Int), b), size b.length, 0) := by
  have ho := Va.one_pos b.length
  have hlen : (put1 k b ++ r).length = size b.length + r.length := by rw [List.length_append, put1_len]
  have hs6 := size_ge b.length
  have hg : Va.get (put1 k b ++ r) = (b.length, (Va.one b.length).length) := by
    have : put1 k b ++ r = Va.one b.length ++ (k :: (b ++ le4 (Crc.more 0 (k :: b))) ++ r) := by simp [put1]
    rw [this]
    refine Va.get_one (by omega) _ ?_
    intro x hx
    rcases List.mem_append.mp hx with h | h
    · rcases List.mem_cons.mp h with rfl | h
      · omega
      · rcases List.mem_append.mp h with h | h
        · exact hbs x h
        · exact le4_small _ x h
    · exact hr x h
  have hgap : gapHead (put1 k b ++ r) = false := by
    unfold gapHead
    rw [hlen]
    have : decide (size b.length + r.length < 3) = false := by simp; omega
    rw [this]; rfl
  have hat : (put1 k b ++ r).getD (Va.one b.length).length 0 = k := by
    rw [put1, List.append_assoc, List.getD_eq_getElem?_getD, List.getElem?_append_right (Nat.le_refl _)]; simp
  have hdrop : ((put1 k b ++ r).drop ((Va.one b.length).length + 1)).take b.length = b := by
    have : put1 k b ++ r = (Va.one b.length ++ [k]) ++ (b ++ (le4 (Crc.more 0 (k :: b)) ++ r)) := by simp [put1]
    rw [this, show (Va.one b.length).length + 1 = (Va.one b.length ++ [k]).length by simp, List.drop_left, List.take_left]
  have htake : (put1 k b ++ r).take (size b.length) = put1 k b := by rw [← put1_len k b, List.take_left]
  have hsz : (Va.one b.length).length + 1 + b.length + 4 = size b.length := rfl
  unfold first
  rw [hg]
  simp only []
  rw [hgap, if_neg (by simp), if_neg (by omega), if_neg (by rw [hlen]; unfold size; omega), hat, if_neg (by omega), hsz, if_neg (by rw [hlen]; omega), hdrop, htake, if_pos rfl]

theorem first_cut {k : Nat} {b : List Nat} (hk1 : 1 ≤ k) (hk2 : k ≤ 250) (hb : b.length ≤ 1048576) (hbs : ∀ x ∈ b, x < 256) (j : Nat) (hj : j < size b.length) :
    first ((put1 k b).take j) = ((0, []), 0, 5) := by
  have ho := Va.one_pos b.length
  have ho3 := one3 hb
  have hlen : ((put1 k b).take j).length = j := by rw [List.length_take, put1_len]; omega
  by_cases hgap : gapHead ((put1 k b).take j) = true
  · unfold first; rw [if_pos hgap]
  · by_cases hjo : j < (Va.one b.length).length
    · exfalso
      apply hgap
      obtain ⟨a, x, e⟩ : ∃ a x, Va.one b.length = a ++ [x] :=
        ⟨(Va.one b.length).dropLast, (Va.one b.length).getLast (by intro h; rw [h] at ho; simp at ho), (List.dropLast_concat_getLast _).symm⟩
      obtain ⟨_, _, ha⟩ := Va.one_last _ a x e
      have hal : (Va.one b.length).length = a.length + 1 := by rw [e]; simp
      unfold gapHead
      rw [hlen]
      have e2 : (put1 k b).take j = a.take j := by
        rw [put1, e, List.append_assoc, List.take_append_of_le_length (by omega)]
      rw [e2]
      have h1 : decide (j < 3) = true := by simp; omega
      rw [h1, Bool.true_and, List.all_eq_true]
      intro y hy
      simp
      exact ha y (List.mem_of_mem_take hy)
    · have hg : Va.get ((put1 k b).take j) = (b.length, (Va.one b.length).length) := by
        have : (put1 k b).take j = Va.one b.length ++ (k :: (b ++ le4 (Crc.more 0 (k :: b)))).take (j - (Va.one b.length).length) := by
          rw [put1, List.take_append, List.take_of_length_le (by omega)]
        rw [this]
        refine Va.get_one (by omega) _ ?_
        intro x hx
        have hx := List.mem_of_mem_take hx
        rcases List.mem_cons.mp hx with rfl | h
        · omega
        · rcases List.mem_append.mp h with h | h
          · exact hbs x h
          · exact le4_small _ x h
      unfold first
      rw [if_neg hgap, hg]
      simp only []
      rw [if_neg (by omega), hlen]
      by_cases hje : (Va.one b.length).length = j
      · rw [if_pos hje]
      · rw [if_neg hje]
        have hat : ((put1 k b).take j).getD (Va.one b.length).length 0 = k := by
          rw [List.getD_eq_getElem?_getD, List.getElem?_take, if_pos (by omega), put1, List.getElem?_append_right (Nat.le_refl _)]; simp
        rw [hat, if_neg (by omega), if_pos (by unfold size at hj; omega)]

theorem first_le (bs : List Nat) : (first bs).2.1 ≤ bs.length := by
  unfold first
  split
  · simp
  · split
    · simp
    · split
      · simp
      · split
        · simp
        · split
          · simp
          · split
            · simp only []; omega
            · simp
theorem first_ok {bs : List Nat} (h : (first bs).2.2 = 0) : 5 ≤ (first bs).2.1 ∧ (first bs).1.2.length + 5 ≤ (first bs).2.1 ∧ (first bs).1.2 = (bs.drop ((first bs).2.1 - 4 - (first bs).1.2.length)).take (first bs).1.2.length ∧ 1 ≤ (first bs).1.1 ∧ (first bs).1.1 ≤ 250 := by
  revert h
  unfold first
  split
  · intro h; simp at h
  · split
    · intro h; simp at h
    · split
      · intro h; simp at h
      · split
        · intro h; simp at h
        · split
          · intro h; simp at h
          · split
            · intro _
              rename_i h1 h2 h3 h4 h5 h6
              have hl : ((bs.drop ((Va.get bs).2 + 1)).take (Va.get bs).1).length = (Va.get bs).1 := by rw [List.length_take, List.length_drop]; omega
              refine ⟨by simp only []; omega, by simp only []; rw [hl]; omega, ?_, by simp only []; omega, by simp only []; omega⟩
              simp only []
              rw [hl]
              congr 2; omega
            · intro h; simp at h
theorem first_nil : first [] = ((0, []), 0, 5) := by
  unfold first; rw [if_pos (by rfl)]

/-! what is scanned -/
/-- from the place at' on, l and ps being told already -/
def sc : Nat → List Nat → Nat → List F → List Nat → List F × List Nat × Nat
  | 0, _, at', l, ps => (l, ps, at')
  | n + 1, bs, at', l, ps => if (first (bs.drop at')).2.2 = 0 then sc n bs (at' + (first (bs.drop at')).2.1) (l ++ [(first (bs.drop at')).1]) (ps ++ [at' + (first (bs.drop at')).2.1 - 4 - (first (bs.drop at')).1.2.length]) else (l, ps, at')
def scan (bs : List Nat) : List F × List Nat × Nat := sc (bs.length + 1) bs 0 [] []
theorem sc_ok {n : Nat} {bs : List Nat} {at' : Nat} {l : List F} {ps : List Nat} (h : (first (bs.drop at')).2.2 = 0) :
    sc (n + 1) bs at' l ps = sc n bs (at' + (first (bs.drop at')).2.1) (l ++ [(first (bs.drop at')).1]) (ps ++ [at' + (first (bs.drop at')).2.1 - 4 - (first (bs.drop at')).1.2.length]) := by rw [sc, if_pos h]
theorem sc_no {n : Nat} {bs : List Nat} {at' : Nat} {l : List F} {ps : List Nat} (h : ¬ (first (bs.drop at')).2.2 = 0) : sc (n + 1) bs at' l ps = (l, ps, at') := by rw [sc, if_neg h]

/-- of what is put, cut at k: how many frames end within, and where the last of them ends -/
def cuts : List F → Nat → Nat × Nat
  | [], _ => (0, 0)
  | f :: l, k => if size f.2.length ≤ k then ((cuts l (k - size f.2.length)).1 + 1, (cuts l (k - size f.2.length)).2 + size f.2.length) else (0, 0)
/-- the places of their bodies -/
def places : List F → Nat → List Nat
  | [], _ => []
  | f :: l, at' => (at' + (Va.one f.2.length).length + 1) :: places l (at' + size f.2.length)

def Good (l : List F) : Prop := ∀ f ∈ l, may f = true ∧ ∀ x ∈ f.2, x < 256
theorem one_small {f : F} (h : may f = true) (hs : ∀ x ∈ f.2, x < 256) : ∀ x ∈ one f, x < 256 := by
  obtain ⟨h1, h2, _⟩ := (may_iff f).mp h
  exact put1_small (by omega) hs
theorem all_small {l : List F} (h : Good l) : ∀ x ∈ all l, x < 256 := by
  intro x hx
  simp only [all, List.mem_flatMap] at hx
  obtain ⟨f, hf, hx⟩ := hx
  exact one_small (h f hf).1 (h f hf).2 x hx
theorem all_cons (f : F) (l : List F) : all (f :: l) = one f ++ all l := rfl
theorem all_append (a b : List F) : all (a ++ b) = all a ++ all b := by simp [all]
theorem all_len_cons (f : F) (l : List F) : (all (f :: l)).length = size f.2.length + (all l).length := by rw [all_cons, List.length_append, one_len]

theorem sc_cut : ∀ (l2 : List F) (k n : Nat) (A : List Nat) (l : List F) (ps : List Nat), Good l2 → k ≤ (all l2).length → k < n →
    sc n (A ++ (all l2).take k) A.length l ps = (l ++ l2.take (cuts l2 k).1, ps ++ (places l2 A.length).take (cuts l2 k).1, A.length + (cuts l2 k).2) ∧
    (first ((all l2).take k |>.drop (cuts l2 k).2)).2.2 = 5 := by
  intro l2
  induction l2 with
  | nil =>
    intro k n A l ps _ hk hn
    obtain ⟨m, rfl⟩ : ∃ m, n = m + 1 := ⟨n - 1, by omega⟩
    have hd : (A ++ (all []).take k).drop A.length = [] := by rw [List.drop_left]; simp [all]
    refine ⟨?_, ?_⟩
    · rw [sc_no (by rw [hd, first_nil]; simp)]; simp [cuts, places]
    · simp [cuts, all, first_nil]
  | cons f l2 ih =>
    intro k n A l ps hg hk hn
    obtain ⟨m, rfl⟩ : ∃ m, n = m + 1 := ⟨n - 1, by omega⟩
    obtain ⟨hm, hs⟩ := hg f (by simp)
    obtain ⟨h1, h2, h3⟩ := (may_iff f).mp hm
    have hg2 : Good l2 := fun x hx => hg x (by simp [hx])
    have hs6 := size_ge f.2.length
    have hd : (A ++ (all (f :: l2)).take k).drop A.length = (all (f :: l2)).take k := List.drop_left
    have hkf : ((f.1.toNat : Nat) : Int) = f.1 := by omega
    by_cases hc : size f.2.length ≤ k
    · have ht : (all (f :: l2)).take k = one f ++ (all l2).take (k - size f.2.length) := by
        rw [all_cons, List.take_append, one_len, List.take_of_length_le (by rw [one_len]; exact hc)]
      have hf : first ((all (f :: l2)).take k) = (f, size f.2.length, 0) := by
        rw [ht, one, first_put (by omega) (by omega) h3 hs _ (fun x hx => all_small hg2 x (List.mem_of_mem_take hx)), hkf]
      have hcu : cuts (f :: l2) k = ((cuts l2 (k - size f.2.length)).1 + 1, (cuts l2 (k - size f.2.length)).2 + size f.2.length) := by rw [cuts, if_pos hc]
      have hk2 : k - size f.2.length ≤ (all l2).length := by rw [all_len_cons] at hk; omega
      obtain ⟨i1, i2⟩ := ih (k - size f.2.length) m (A ++ one f) (l ++ [f]) (ps ++ [A.length + (Va.one f.2.length).length + 1]) hg2 hk2 (by omega)
      refine ⟨?_, ?_⟩
      · rw [sc_ok (by rw [hd, hf]), hd, hf]
        simp only []
        have e1 : A.length + size f.2.length - 4 - f.2.length = A.length + (Va.one f.2.length).length + 1 := by unfold size; omega
        rw [e1, ht, ← List.append_assoc]
        rw [List.length_append, one_len] at i1
        rw [i1, hcu, places]
        simp only [List.take_succ_cons, List.append_assoc, List.singleton_append]
        congr 2; omega
      · rw [hcu, ht]
        simp only []
        rw [Nat.add_comm, ← List.drop_drop, ← one_len f, List.drop_left, one_len]
        exact i2
    · have hcu : cuts (f :: l2) k = (0, 0) := by rw [cuts, if_neg hc]
      have ht : (all (f :: l2)).take k = (one f).take k := by
        rw [all_cons, List.take_append_of_le_length (by rw [one_len]; omega)]
      have hf : first ((all (f :: l2)).take k) = ((0, []), 0, 5) := by
        rw [ht, one, first_cut (by omega) (by omega) h3 hs k (by omega)]
      refine ⟨?_, ?_⟩
      · rw [sc_no (by rw [hd, hf]; simp), hcu]; simp
      · rw [hcu]; simp only [List.drop_zero]; rw [hf]

theorem scan_cut {l : List F} (hg : Good l) (k : Nat) (hk : k ≤ (all l).length) :
    scan ((all l).take k) = (l.take (cuts l k).1, (places l 0).take (cuts l k).1, (cuts l k).2) ∧ (first (((all l).take k).drop (cuts l k).2)).2.2 = 5 := by
  have := sc_cut l k (((all l).take k).length + 1) [] [] [] hg hk (by rw [List.length_take]; omega)
  simpa [scan] using this
theorem cuts_whole : ∀ (l : List F), cuts l (all l).length = (l.length, (all l).length) := by
  intro l
  induction l with
  | nil => rfl
  | cons f l ih =>
    rw [cuts, if_pos (by rw [all_len_cons]; omega), all_len_cons, show size f.2.length + (all l).length - size f.2.length = (all l).length by omega, ih]
    simp; omega
theorem places_len : ∀ (l : List F) (at' : Nat), (places l at').length = l.length := by
  intro l
  induction l with
  | nil => intro _; rfl
  | cons f l ih => intro at'; simp [places, ih]
theorem scan_all {l : List F} (hg : Good l) : scan (all l) = (l, places l 0, (all l).length) := by
  have h := (scan_cut hg (all l).length (Nat.le_refl _)).1
  rw [List.take_length, cuts_whole] at h
  simp only [List.take_length] at h
  rw [h, List.take_of_length_le (by rw [places_len]; omega)]
end Go.Proofs.Ytjllglpjghcplaa.Fr

/- Frames, in the order in which the program asks: its number, its kind, whether the bytes end, the sum. Names no dump. -/
namespace Va

theorem high_or {bs : List Nat} : ∀ m : Nat, (∀ j, j < m → 128 ≤ bs.getD j 0) ∨ ∃ k, k < m ∧ (∀ j, j < k → 128 ≤ bs.getD j 0) ∧ bs.getD k 0 < 128 := by
  intro m
  induction m with
  | zero => left; intro j hj; omega
  | succ m ih =>
    rcases ih with h | ⟨k, h1, h2, h3⟩
    · by_cases hm : bs.getD m 0 < 128
      · exact .inr ⟨m, by omega, h, hm⟩
      · left; intro j hj
        by_cases hjm : j = m
        · subst hjm; omega
        · exact h j (by omega)
    · exact .inr ⟨k, by omega, h2, h3⟩
theorem get_ok {bs : List Nat} (hs : ∀ x ∈ bs, x < 256) (h : (get bs).2 ≠ 0) : bs.take (get bs).2 = one (get bs).1 := by
  by_cases hl : bs.length ≤ 10
  · rcases high_or (bs := bs) bs.length with hh | ⟨k, h1, h2, h3⟩
    · rw [get_end (k := bs.length) hl (Nat.le_refl _) (.inl rfl) hh] at h; simp at h
    · by_cases hk : k ≤ 9
      · have e := get_at hs hk h1 h2 h3
        split at e
        · next he => rw [e]; exact he.symm
        · rw [e] at h; simp at h
      · omega
  · rcases high_or (bs := bs) 10 with hh | ⟨k, h1, h2, h3⟩
    · rw [get_end (k := 10) (Nat.le_refl _) (by omega) (.inr rfl) hh] at h; simp at h
    · have e := get_at hs (by omega : k ≤ 9) (by omega) h2 h3
      split at e
      · next he => rw [e]; exact he.symm
      · rw [e] at h; simp at h
theorem get_len {bs : List Nat} (hs : ∀ x ∈ bs, x < 256) (h : (get bs).2 ≠ 0) : (get bs).2 = (one (get bs).1).length := by
  have h1 := get_ok hs h
  have h2 := get_le (bs := bs)
  rw [← h1, List.length_take]; omega
end Va
namespace Go.Proofs.Ytjllglpjghcplaa.Fr

theorem gap_get {bs : List Nat} (h : gapHead bs = true) : Va.get bs = (0, 0) := by
  unfold gapHead at h
  simp only [Bool.and_eq_true, decide_eq_true_eq, List.all_eq_true] at h
  refine Va.get_end (k := bs.length) (by omega) (Nat.le_refl _) (.inl rfl) ?_
  intro j hj
  rw [List.getD_eq_getElem?_getD, List.getElem?_eq_getElem hj]
  exact h.2 _ (List.getElem_mem hj)
/-- the number of four bytes, the lowest first -/
def val4 (bs : List Nat) : Nat := bs.getD 0 0 + 256 * bs.getD 1 0 + 65536 * bs.getD 2 0 + 16777216 * bs.getD 3 0
theorem le4_val {s : Nat} {bs : List Nat} (hs : s < 4294967296) (hb : ∀ x ∈ bs, x < 256) (hl : bs.length = 4) : le4 s = bs ↔ s = val4 bs := by
  match bs, hl with
  | [a, b, c, d], _ =>
    have ha := hb a (by simp)
    have hb' := hb b (by simp)
    have hc := hb c (by simp)
    have hd := hb d (by simp)
    simp only [le4, val4, List.cons.injEq, and_true]
    simp only [List.getD_cons_zero, List.getD_cons_succ]
    omega
/-- what the number tells: how many bytes the body has, the code -/
def bsz (bs : List Nat) : Nat × Nat :=
  if (Va.get bs).2 = 0 then (0, if gapHead bs = true then 5 else 2) else if 1048576 < (Va.get bs).1 then (0, 2) else ((Va.get bs).1, 0)
/-- the frame that bytes begin with, as the program asks -/
theorem first_bad {bs : List Nat} (h : (bsz bs).2 ≠ 0) : first bs = ((0, []), 0, (bsz bs).2) := by
  unfold bsz at h ⊢
  unfold first
  by_cases hg : gapHead bs = true
  · have := gap_get hg
    rw [if_pos hg, this]; simp [hg]
  · rw [if_neg hg]
    by_cases h0 : (Va.get bs).2 = 0
    · rw [if_pos (.inl h0), if_pos h0, if_neg hg]
    · rw [if_neg h0] at h ⊢
      by_cases h1 : 1048576 < (Va.get bs).1
      · rw [if_pos (.inr h1), if_pos h1]
      · rw [if_neg h1] at h; simp at h
theorem bsz_ok {bs : List Nat} (hs : ∀ x ∈ bs, x < 256) (h : (bsz bs).2 = 0) : ∃ u, u ≤ 1048576 ∧ bsz bs = (u, 0) ∧ Va.get bs = (u, (Va.one u).length) ∧ bs.take (Va.one u).length = Va.one u ∧ (Va.one u).length ≤ bs.length ∧ gapHead bs = false := by
  unfold bsz at h ⊢
  by_cases h0 : (Va.get bs).2 = 0
  · rw [if_pos h0] at h
    by_cases hg : gapHead bs = true
    · simp [hg] at h
    · simp [hg] at h
  · rw [if_neg h0] at h ⊢
    by_cases h1 : 1048576 < (Va.get bs).1
    · rw [if_pos h1] at h; simp at h
    · rw [if_neg h1]
      have hl := Va.get_len hs h0
      have ht := Va.get_ok hs h0
      have hle := Va.get_le (bs := bs)
      refine ⟨(Va.get bs).1, by omega, rfl, ?_, by rw [← hl]; exact ht, by rw [← hl]; exact hle, ?_⟩
      · rw [← hl]
      · cases hg : gapHead bs with
        | false => rfl
        | true => rw [gap_get hg] at h0; simp at h0
theorem first_num {bs : List Nat} {u : Nat} (hu : u ≤ 1048576) (hget : Va.get bs = (u, (Va.one u).length)) (hg : gapHead bs = false) :
    first bs = if (Va.one u).length = bs.length then ((0, []), 0, 5)
      else if bs.getD (Va.one u).length 0 < 1 ∨ 250 < bs.getD (Va.one u).length 0 then ((0, []), 0, 2)
      else if bs.length < size u then ((0, []), 0, 5)
      else if put1 (bs.getD (Va.one u).length 0) ((bs.drop ((Va.one u).length + 1)).take u) = bs.take (size u) then ((((bs.getD (Va.one u).length 0 : Nat) : Int), (bs.drop ((Va.one u).length + 1)).take u), size u, 0)
      else ((0, []), 0, 2) := by
  have ho := Va.one_pos u
  unfold first
  rw [hget, hg, if_neg (by simp), if_neg (by show ¬ ((Va.one u).length = 0 ∨ 1048576 < u); omega)]
  rfl
theorem put_iff {bs : List Nat} {u o : Nat} (hs : ∀ x ∈ bs, x < 256) (ht : bs.take o = Va.one u) (hl : o + 1 + u + 4 ≤ bs.length) :
    put1 (bs.getD o 0) ((bs.drop (o + 1)).take u) = bs.take (o + 1 + u + 4) ↔ Crc.more 0 ((bs.drop o).take (u + 1)) = val4 ((bs.drop (o + 1 + u)).take 4) := by
  have hbl : ((bs.drop (o + 1)).take u).length = u := by rw [List.length_take, List.length_drop]; omega
  have hd1 : (bs.drop o).take (u + 1) = bs.getD o 0 :: (bs.drop (o + 1)).take u := by rw [Va.drop_get bs o (by omega), List.take_succ_cons]
  have h4l : ((bs.drop (o + 1 + u)).take 4).length = 4 := by rw [List.length_take, List.length_drop]; omega
  have h4s : ∀ x ∈ (bs.drop (o + 1 + u)).take 4, x < 256 := fun x hx => hs x (List.mem_of_mem_drop (List.mem_of_mem_take hx))
  have hcs : ∀ x ∈ (bs.drop o).take (u + 1), x < 256 := fun x hx => hs x (List.mem_of_mem_drop (List.mem_of_mem_take hx))
  have hcl := Crc.more_lt (s := 0) ((bs.drop o).take (u + 1)) (by omega) hcs
  have hsplit : bs.take (o + 1 + u + 4) = Va.one u ++ ((bs.drop o).take (u + 1) ++ (bs.drop (o + 1 + u)).take 4) := by
    rw [show o + 1 + u + 4 = o + ((u + 1) + 4) by omega, List.take_add, ht, List.take_add (i := u + 1), List.drop_drop, show o + (u + 1) = o + 1 + u by omega]
  rw [hsplit, put1, hbl]
  rw [List.append_cancel_left_eq, ← hd1, ← le4_val hcl h4s h4l]
  rw [show bs.getD o 0 :: ((bs.drop (o + 1)).take u ++ le4 (Crc.more 0 ((bs.drop o).take (u + 1)))) = (bs.drop o).take (u + 1) ++ le4 (Crc.more 0 ((bs.drop o).take (u + 1))) by rw [hd1]; rfl]
  rw [List.append_cancel_left_eq]
end Go.Proofs.Ytjllglpjghcplaa.Fr

/- The plain mathematics of points: which may be, their bytes, what is read, their order. Names no dump. -/
namespace Go.Proofs.Ytjllglpjghcplaa.Po

/-- Seg, At, Len, Sum -/
abbrev P := Int × Int × Int × Nat
def zero : P := (0, 0, 0, 0)
def may (p : P) : Bool := decide (1 ≤ p.1 ∧ p.1 ≤ 2147483647 ∧ 0 ≤ p.2.1 ∧ p.2.1 ≤ 2147483647 ∧ 0 ≤ p.2.2.1 ∧ p.2.2.1 ≤ 4096)
theorem may_iff (p : P) : may p = true ↔ 1 ≤ p.1 ∧ p.1 ≤ 2147483647 ∧ 0 ≤ p.2.1 ∧ p.2.1 ≤ 2147483647 ∧ 0 ≤ p.2.2.1 ∧ p.2.2.1 ≤ 4096 := by simp [may]
def nums (p : P) : List Nat := [p.1.toNat, p.2.1.toNat, p.2.2.1.toNat]
def put (p : P) : List Nat := Va.put (nums p) ++ Fr.le4 p.2.2.2
theorem nums_small {p : P} (h : may p = true) : ∀ u ∈ nums p, u < 18446744073709551616 := by
  have := (may_iff p).mp h
  intro u hu
  simp only [nums, List.mem_cons, List.not_mem_nil, or_false] at hu
  omega
theorem put_small {p : P} : ∀ x ∈ put p, x < 256 := by
  intro x hx
  rcases List.mem_append.mp hx with h | h
  · exact Va.put_small _ x h
  · exact Fr.le4_small _ x h
theorem put_len {p : P} (h : may p = true) : (put p).length ≤ 34 := by
  have := Va.put_len (nums p) (nums_small h)
  have h3 : (nums p).length = 3 := rfl
  rw [put, List.length_append, Fr.le4_len]
  omega

/-- the point of three numbers and four bytes -/
def ofNums (l bs4 : List Nat) : P := ((l.getD 0 0 : Nat), (l.getD 1 0 : Nat), (l.getD 2 0 : Nat), Fr.val4 bs4)
/-- the point that bytes begin with, how many bytes it has; 0: there is none -/
def get (bs : List Nat) : P × Nat :=
  if (Va.all bs 3).2.2 = 0 ∧ (Va.all bs 3).2.1 + 4 ≤ bs.length ∧ may (ofNums (Va.all bs 3).1 ((bs.drop (Va.all bs 3).2.1).take 4)) = true
  then (ofNums (Va.all bs 3).1 ((bs.drop (Va.all bs 3).2.1).take 4), (Va.all bs 3).2.1 + 4) else (zero, 0)
theorem le4_of_val {s : Nat} (hs : s < 4294967296) : Fr.val4 (Fr.le4 s) = s :=
  ((Fr.le4_val hs (Fr.le4_small s) (Fr.le4_len s)).mp rfl).symm
theorem get_put {p : P} (h : may p = true) (hs : p.2.2.2 < 4294967296) (more : List Nat) (hm : ∀ x ∈ more, x < 256) : get (put p ++ more) = (p, (put p).length) := by
  have hall : Va.all (put p ++ more) 3 = (nums p, (Va.put (nums p)).length, 0) := by
    have := Va.all_put (nums p) (Fr.le4 p.2.2.2 ++ more) (nums_small h) (by
      intro x hx
      rcases List.mem_append.mp hx with h | h
      · exact Fr.le4_small _ x h
      · exact hm x h)
    rw [put, List.append_assoc]; exact this
  have hdrop : ((put p ++ more).drop (Va.put (nums p)).length).take 4 = Fr.le4 p.2.2.2 := by
    rw [put, List.append_assoc, List.drop_left, show (4 : Nat) = (Fr.le4 p.2.2.2).length from rfl, List.take_left]
  have hof : ofNums (nums p) (Fr.le4 p.2.2.2) = p := by
    obtain ⟨a, b, c, d⟩ := p
    have := (may_iff _).mp h
    simp only [] at this hs
    simp only [ofNums, nums, List.getD_cons_zero, List.getD_cons_succ, le4_of_val hs]
    rw [show ((a.toNat : Nat) : Int) = a by omega, show ((b.toNat : Nat) : Int) = b by omega, show ((c.toNat : Nat) : Int) = c by omega]
  unfold get
  rw [hall]
  simp only []
  rw [hdrop, hof, if_pos ⟨by trivial, by rw [put, List.length_append, List.length_append, Fr.le4_len]; omega, h⟩]
  rw [put, List.length_append, Fr.le4_len]
theorem get_le (bs : List Nat) : (get bs).2 ≤ bs.length := by
  unfold get; split
  · next h => exact h.2.1
  · exact Nat.zero_le _
theorem val4_lt {bs : List Nat} (h : ∀ x ∈ bs, x < 256) : Fr.val4 bs < 4294967296 := by
  have g : ∀ i, bs.getD i 0 < 256 := fun i => by
    rcases Nat.lt_or_ge i bs.length with hi | hi
    · rw [List.getD_eq_getElem?_getD, List.getElem?_eq_getElem hi]; exact h _ (List.getElem_mem hi)
    · rw [List.getD_eq_getElem?_getD, List.getElem?_eq_none hi]; decide
  have h0 := g 0
  have h1 := g 1
  have h2 := g 2
  have h3 := g 3
  unfold Fr.val4
  omega
/-- a point that a value of its type can be -/
def Fits (p : P) : Prop := (-9223372036854775808 ≤ p.1 ∧ p.1 ≤ 9223372036854775807) ∧ (-9223372036854775808 ≤ p.2.1 ∧ p.2.1 ≤ 9223372036854775807) ∧ (-9223372036854775808 ≤ p.2.2.1 ∧ p.2.2.1 ≤ 9223372036854775807) ∧ p.2.2.2 < 4294967296
theorem get_fits {bs : List Nat} (h : ∀ x ∈ bs, x < 256) : Fits (get bs).1 := by
  unfold get; split
  · next hc =>
    have := (may_iff _).mp hc.2.2
    simp only []
    refine ⟨by omega, by omega, by omega, ?_⟩
    exact val4_lt (fun x hx => h x (List.mem_of_mem_drop (List.mem_of_mem_take hx)))
  · refine ⟨by decide, by decide, by decide, by decide⟩

/-- of four bytes the upper k, as the reference reads them -/
def hk (bs : List Nat) : Nat → Nat
  | 0 => 0
  | k + 1 => hk bs k * 256 + bs.getD (3 - k) 0
theorem hk4 (bs : List Nat) : hk bs 4 = Fr.val4 bs := by simp [hk, Fr.val4]; omega
theorem al_ok : ∀ (n : Nat) (bs : List Nat) (at' : Nat) (l : List Nat), at' ≤ bs.length → (∀ u ∈ l, u < 18446744073709551616) → (Va.al n bs at' l).2.1 ≤ bs.length ∧ ((Va.al n bs at' l).2.2 = 0 → (Va.al n bs at' l).1.length = l.length + n) ∧ (∀ u ∈ (Va.al n bs at' l).1, u < 18446744073709551616) := by
  intro n
  induction n with
  | zero => intro bs at' l h hl; exact ⟨h, fun _ => rfl, hl⟩
  | succ n ih =>
    intro bs at' l h hl
    by_cases h0 : (Va.get (bs.drop at')).2 = 0
    · rw [Va.al_none h0]; exact ⟨h, fun h => by simp at h, fun u hu => by simp at hu⟩
    · rw [Va.al_some h0]
      have h1 := Va.get_le (bs := bs.drop at')
      rw [List.length_drop] at h1
      have := ih bs (at' + (Va.get (bs.drop at')).2) (l ++ [(Va.get (bs.drop at')).1]) (by omega) (by
        intro u hu
        rcases List.mem_append.mp hu with hu | hu
        · exact hl u hu
        · simp only [List.mem_singleton] at hu; subst hu; exact Va.get_lt _)
      refine ⟨this.1, fun h => ?_, this.2.2⟩
      rw [this.2.1 h, List.length_append]; simp; omega
theorem all_ok (bs : List Nat) (n : Nat) : (Va.all bs n).2.1 ≤ bs.length ∧ ((Va.all bs n).2.2 = 0 → (Va.all bs n).1.length = n) ∧ (∀ u ∈ (Va.all bs n).1, u < 18446744073709551616) := by
  have := al_ok n bs 0 [] (by omega) (by simp)
  simpa [Va.all] using this
theorem get_no {bs : List Nat} (h : ¬ ((Va.all bs 3).2.2 = 0 ∧ (Va.all bs 3).2.1 + 4 ≤ bs.length ∧ may (ofNums (Va.all bs 3).1 ((bs.drop (Va.all bs 3).2.1).take 4)) = true)) : get bs = (zero, 0) := by unfold get; rw [if_neg h]

/-! order -/
def less (a b : P) : Bool := if a.1 = b.1 then decide (a.2.1 < b.2.1) else decide (a.1 < b.1)
/-- behind how many of the first k a point is laid -/
def cut (out : List P) (p : P) : Nat → Nat
  | 0 => 0
  | k + 1 => if less p (out.getD k zero) = true then cut out p k else k + 1
def ins (out : List P) (p : P) : List P := out.take (cut out p out.length) ++ [p] ++ out.drop (cut out p out.length)
def ord (l : List P) : List P := l.foldl ins []
theorem cut_le (out : List P) (p : P) : ∀ k, cut out p k ≤ k := by
  intro k
  induction k with
  | zero => exact Nat.le_refl _
  | succ k ih => unfold cut; split <;> omega
theorem ins_len (out : List P) (p : P) : (ins out p).length = out.length + 1 := by
  have := cut_le out p out.length
  simp only [ins, List.length_append, List.length_take, List.length_drop, List.length_cons, List.length_nil]; omega
theorem ord_snoc (l : List P) (p : P) : ord (l ++ [p]) = ins (ord l) p := by simp [ord, List.foldl_append]
theorem ord_len : ∀ (l : List P), (ord l).length = l.length := by
  have : ∀ (l acc : List P), (l.foldl ins acc).length = acc.length + l.length := by
    intro l
    induction l with
    | nil => intro acc; simp
    | cons p l ih => intro acc; rw [List.foldl_cons, ih, ins_len, List.length_cons]; omega
  intro l; rw [ord, this]; simp
theorem ord_take (l : List P) (k : Nat) (h : k < l.length) : ord (l.take (k + 1)) = ins (ord (l.take k)) (l.getD k zero) := by
  rw [List.take_succ_eq_append_getElem h, ord_snoc]; simp [h]
theorem ins_mem {out : List P} {p q : P} (h : q ∈ ins out p) : q ∈ out ∨ q = p := by
  simp only [ins, List.mem_append, List.mem_singleton] at h
  rcases h with (h | h) | h
  · exact .inl (List.mem_of_mem_take h)
  · exact .inr h
  · exact .inl (List.mem_of_mem_drop h)
theorem ord_mem (l : List P) : ∀ q ∈ ord l, q ∈ l := by
  have : ∀ (l acc : List P), ∀ q ∈ l.foldl ins acc, q ∈ acc ∨ q ∈ l := by
    intro l
    induction l with
    | nil => intro acc q h; exact .inl h
    | cons p l ih =>
      intro acc q h
      rw [List.foldl_cons] at h
      rcases ih _ q h with h | h
      · rcases ins_mem h with h | h
        · exact .inl h
        · exact .inr (by simp [h])
      · exact .inr (by simp [h])
  intro q hq
  rcases this l [] q hq with h | h
  · cases h
  · exact h
end Go.Proofs.Ytjllglpjghcplaa.Po

/- The plain mathematics of cells: which may be, their bytes, what is read, which values fit. Names no dump. -/
namespace Go.Proofs.Ytjllglpjghcplaa.Ce

/-- Far, Bytes, Point -/
abbrev C := Bool × List Nat × Po.P
def zero : C := (false, [], Po.zero)
def may (c : C) : Bool := if c.1 = true then decide (c.2.1.length = 0) && Po.may c.2.2 else decide (c.2.1.length ≤ 32) && decide (c.2.2 = Po.zero)
def put (c : C) : List Nat := if c.1 = true then 1 :: Po.put c.2.2 else 0 :: (Va.one c.2.1.length ++ c.2.1)
/-- whether a value fits a point -/
def fits (p : Po.P) (v : List Nat) : Bool := decide (p.2.2.1 = (v.length : Int)) && decide (p.2.2.2 = Crc.more 0 v)
/-- the cell that bytes begin with, how many bytes it has; 0: there is none -/
def get (bs : List Nat) : C × Nat :=
  if bs.length = 0 ∨ 1 < bs.getD 0 0 then (zero, 0)
  else if bs.getD 0 0 = 1 then
    if (Po.get (bs.drop 1)).2 = 0 then (zero, 0) else ((true, [], (Po.get (bs.drop 1)).1), (Po.get (bs.drop 1)).2 + 1)
  else if (Va.get (bs.drop 1)).2 = 0 ∨ 32 < (Va.get (bs.drop 1)).1 ∨ bs.length < 1 + (Va.get (bs.drop 1)).2 + (Va.get (bs.drop 1)).1 then (zero, 0)
  else ((false, (bs.drop (1 + (Va.get (bs.drop 1)).2)).take (Va.get (bs.drop 1)).1, Po.zero), 1 + (Va.get (bs.drop 1)).2 + (Va.get (bs.drop 1)).1)

theorem may_far {b : List Nat} {p : Po.P} : may (true, b, p) = true ↔ b = [] ∧ Po.may p = true := by
  simp [may]
theorem may_near {b : List Nat} {p : Po.P} : may (false, b, p) = true ↔ b.length ≤ 32 ∧ p = Po.zero := by
  simp [may]
theorem put_small {c : C} (h : ∀ x ∈ c.2.1, x < 256) : ∀ x ∈ put c, x < 256 := by
  intro x hx
  unfold put at hx
  split at hx
  · rcases List.mem_cons.mp hx with rfl | hx
    · decide
    · exact Po.put_small x hx
  · rcases List.mem_cons.mp hx with rfl | hx
    · decide
    · rcases List.mem_append.mp hx with hx | hx
      · exact Va.one_small _ x hx
      · exact h x hx
theorem one_short {n : Nat} (h : n ≤ 32) : Va.one n = [n] := Va.one_lo (by omega)
theorem put_len {c : C} (h : may c = true) : (put c).length ≤ 35 := by
  obtain ⟨f, b, p⟩ := c
  cases f with
  | true =>
    have := may_far.mp h
    have := Po.put_len this.2
    simp [put]; omega
  | false =>
    have := may_near.mp h
    simp [put, one_short this.1]; omega
theorem put_pos (c : C) : 0 < (put c).length := by unfold put; split <;> simp
theorem get_put {c : C} (h : may c = true) (hb : ∀ x ∈ c.2.1, x < 256) (hs : c.2.2.2.2.2 < 4294967296) (more : List Nat) (hm : ∀ x ∈ more, x < 256) : get (put c ++ more) = (c, (put c).length) := by
  obtain ⟨f, b, p⟩ := c
  cases f with
  | true =>
    obtain ⟨rfl, hp⟩ := may_far.mp h
    have e : put (true, [], p) = 1 :: Po.put p := by simp [put]
    rw [e]
    unfold get
    rw [if_neg (by simp), if_pos (by simp)]
    have : ((1 :: Po.put p) ++ more).drop 1 = Po.put p ++ more := by simp
    rw [this, Po.get_put hp hs more hm]
    have hl : (Po.put p).length ≠ 0 := by rw [Po.put, List.length_append, Fr.le4_len]; omega
    rw [if_neg hl]; simp
  | false =>
    obtain ⟨hl, rfl⟩ := may_near.mp h
    have e : put (false, b, Po.zero) = 0 :: (Va.one b.length ++ b) := by simp [put]
    rw [e]
    unfold get
    rw [if_neg (by simp), if_neg (by simp)]
    have hd : ((0 :: (Va.one b.length ++ b)) ++ more).drop 1 = Va.one b.length ++ (b ++ more) := by simp
    have hg : Va.get (Va.one b.length ++ (b ++ more)) = (b.length, (Va.one b.length).length) := Va.get_one (by omega) _ (by
      intro x hx
      rcases List.mem_append.mp hx with hx | hx
      · exact hb x hx
      · exact hm x hx)
    rw [hd, hg]
    rw [one_short hl] at *
    simp only [List.length_cons, List.length_nil]
    rw [if_neg (by simp; omega)]
    simp
    omega
theorem get_le (bs : List Nat) : (get bs).2 ≤ bs.length := by
  unfold get
  split
  · omega
  · next h =>
    split
    · split
      · omega
      · have := Po.get_le (bs.drop 1)
        rw [List.length_drop] at this
        simp only []; omega
    · split
      · omega
      · next h' => simp only []; omega
theorem get_small {bs : List Nat} (h : ∀ x ∈ bs, x < 256) : (∀ x ∈ (get bs).1.2.1, x < 256) ∧ (get bs).1.2.1.length ≤ 32 ∧ Po.Fits (get bs).1.2.2 := by
  have hz : Po.Fits Po.zero := ⟨by decide, by decide, by decide, by decide⟩
  unfold get
  split
  · exact ⟨by simp [zero], by simp [zero], hz⟩
  · split
    · split
      · exact ⟨by simp [zero], by simp [zero], hz⟩
      · exact ⟨by simp, by simp, Po.get_fits (fun x hx => h x (List.mem_of_mem_drop hx))⟩
    · split
      · exact ⟨by simp [zero], by simp [zero], hz⟩
      · next h' => exact ⟨fun x hx => h x (List.mem_of_mem_drop (List.mem_of_mem_take hx)), by simp only [List.length_take]; omega, hz⟩
end Go.Proofs.Ytjllglpjghcplaa.Ce

/- The plain mathematics of entries: which may be, batches, their bytes, what is read. Names no dump. -/
namespace Go.Proofs.Ytjllglpjghcplaa

/-! what is read of bytes is read of longer ones too -/
theorem Va.lp_ext : ∀ (bs r : List Nat) (i acc : Nat), (Va.lp i acc bs).2 ≠ 0 → Va.lp i acc (bs ++ r) = Va.lp i acc bs := by
  intro bs
  induction bs with
  | nil => intro r i acc h; exact absurd rfl h
  | cons x bs ih =>
    intro r i acc h
    rw [List.cons_append]
    unfold Va.lp at h ⊢
    repeat' split
    all_goals first | rfl | (simp_all)
theorem Va.get_ext {bs : List Nat} (r : List Nat) (h : (Va.get bs).2 ≠ 0) : Va.get (bs ++ r) = Va.get bs := Va.lp_ext bs r 0 0 h
theorem drop_app {bs r : List Nat} {k : Nat} (h : k ≤ bs.length) : (bs ++ r).drop k = bs.drop k ++ r := List.drop_append_of_le_length h
theorem take_app {bs r : List Nat} {k : Nat} (h : k ≤ bs.length) : (bs ++ r).take k = bs.take k := List.take_append_of_le_length h
theorem getD_app {bs r : List Nat} {k : Nat} (h : k < bs.length) : (bs ++ r).getD k 0 = bs.getD k 0 := by
  rw [List.getD_eq_getElem?_getD, List.getD_eq_getElem?_getD, List.getElem?_append_left h]
theorem Va.al_ext (r : List Nat) : ∀ (n : Nat) (bs : List Nat) (at' : Nat) (l : List Nat), at' ≤ bs.length → (Va.al n bs at' l).2.2 = 0 → Va.al n (bs ++ r) at' l = Va.al n bs at' l := by
  intro n
  induction n with
  | zero => intro bs at' l _ _; rfl
  | succ n ih =>
    intro bs at' l ha h
    by_cases h0 : (Va.get (bs.drop at')).2 = 0
    · rw [Va.al_none h0] at h; simp at h
    · rw [Va.al_some h0] at h ⊢
      have hle := Va.get_le (bs := bs.drop at')
      rw [List.length_drop] at hle
      have hg : Va.get ((bs ++ r).drop at') = Va.get (bs.drop at') := by rw [drop_app ha]; exact Va.get_ext r h0
      rw [Va.al_some (by rw [hg]; exact h0), hg]
      exact ih bs _ _ (by omega) h
theorem Po.get_ext {bs : List Nat} (r : List Nat) (h : (Po.get bs).2 ≠ 0) : Po.get (bs ++ r) = Po.get bs := by
  unfold Po.get at h ⊢
  by_cases hc : (Va.all bs 3).2.2 = 0 ∧ (Va.all bs 3).2.1 + 4 ≤ bs.length ∧ Po.may (Po.ofNums (Va.all bs 3).1 ((bs.drop (Va.all bs 3).2.1).take 4)) = true
  · obtain ⟨h1, h2, h3⟩ := hc
    have e : Va.all (bs ++ r) 3 = Va.all bs 3 := Va.al_ext r 3 bs 0 [] (by omega) h1
    rw [e]
    have e2 : ((bs ++ r).drop (Va.all bs 3).2.1).take 4 = (bs.drop (Va.all bs 3).2.1).take 4 := by
      rw [drop_app (by omega), take_app (by rw [List.length_drop]; omega)]
    rw [e2, if_pos ⟨h1, by rw [List.length_append]; omega, h3⟩, if_pos ⟨h1, h2, h3⟩]
  · rw [if_neg hc] at h; exact absurd rfl h
theorem Ce.get_ext {bs : List Nat} (r : List Nat) (h : (Ce.get bs).2 ≠ 0) : Ce.get (bs ++ r) = Ce.get bs := by
  unfold Ce.get at h ⊢
  by_cases c1 : bs.length = 0 ∨ 1 < bs.getD 0 0
  · rw [if_pos c1] at h; exact absurd rfl h
  · rw [if_neg c1] at h ⊢
    have hl : 0 < bs.length := by omega
    have hd : (bs ++ r).drop 1 = bs.drop 1 ++ r := drop_app (by omega)
    have hg : (bs ++ r).getD 0 0 = bs.getD 0 0 := getD_app hl
    rw [hd, hg, if_neg (by rw [List.length_append]; omega)]
    by_cases c2 : bs.getD 0 0 = 1
    · rw [if_pos c2] at h ⊢
      rw [if_pos c2]
      by_cases c3 : (Po.get (bs.drop 1)).2 = 0
      · rw [if_pos c3] at h; exact absurd rfl h
      · rw [Po.get_ext r c3]
    · rw [if_neg c2] at h ⊢
      rw [if_neg c2]
      by_cases c3 : (Va.get (bs.drop 1)).2 = 0 ∨ 32 < (Va.get (bs.drop 1)).1 ∨ bs.length < 1 + (Va.get (bs.drop 1)).2 + (Va.get (bs.drop 1)).1
      · rw [if_pos c3] at h; exact absurd rfl h
      · rw [Va.get_ext r (by omega), if_neg c3, if_neg (by rw [List.length_append]; omega)]
        rw [drop_app (by omega), take_app (by rw [List.length_drop]; omega)]

namespace En
/-- Index, Term, Kind, Key, Cell -/
abbrev E := Int × Int × Int × List Nat × Ce.C
def zero : E := (0, 0, 0, [], Ce.zero)
def may (e : E) : Bool :=
  if e.1 < 1 ∨ 2147483647 < e.1 ∨ e.2.1 < 1 ∨ 2147483647 < e.2.1 ∨ Ce.may e.2.2.2.2 = false ∨ 64 < e.2.2.2.1.length then false
  else if e.2.2.1 = 0 then decide (e.2.2.2.1 = [])
  else if e.2.2.1 = 2 then decide (e.2.2.2.1 ≠ []) && decide (e.2.2.2.2 = Ce.zero)
  else decide (e.2.2.1 = 1) && decide (e.2.2.2.1 ≠ [])
/-- Indexes one behind the other, Terms that do not fall -/
def chain : List E → Bool
  | [] => true
  | [_] => true
  | a :: b :: r => decide (b.1 - 1 = a.1) && decide (a.2.1 ≤ b.2.1) && chain (b :: r)
def batch (l : List E) : Bool := l.all may && chain l && decide (1 ≤ l.length ∧ l.length ≤ 16)
def put1 (e : E) : List Nat := Va.one e.2.1.toNat ++ [e.2.2.1.toNat] ++ Va.one e.2.2.2.1.length ++ e.2.2.2.1 ++ (if e.2.2.1 = 2 then [] else Ce.put e.2.2.2.2)
def put (l : List E) : List Nat := Va.put [l.length, (l.headD zero).1.toNat] ++ l.flatMap put1
def number (bs : List Nat) (most : Nat) : Nat × Nat := if (Va.get bs).2 = 0 ∨ most < (Va.get bs).1 then (0, 0) else Va.get bs
/-- the entry that bytes begin with; how many bytes it has; 0: there is none -/
def one (bs : List Nat) (ix : Int) : E × Nat :=
  if (number bs 2147483647).2 = 0 ∨ (number bs 2147483647).2 = bs.length then (zero, 0)
  else if (number (bs.drop ((number bs 2147483647).2 + 1)) 64).2 = 0 ∨ bs.length < (number bs 2147483647).2 + 1 + (number (bs.drop ((number bs 2147483647).2 + 1)) 64).2 + (number (bs.drop ((number bs 2147483647).2 + 1)) 64).1 then (zero, 0)
  else
    if bs.getD (number bs 2147483647).2 0 = 2 then ((ix, (number bs 2147483647).1, 2, (bs.drop ((number bs 2147483647).2 + 1 + (number (bs.drop ((number bs 2147483647).2 + 1)) 64).2)).take (number (bs.drop ((number bs 2147483647).2 + 1)) 64).1, Ce.zero), (number bs 2147483647).2 + 1 + (number (bs.drop ((number bs 2147483647).2 + 1)) 64).2 + (number (bs.drop ((number bs 2147483647).2 + 1)) 64).1)
    else if (Ce.get (bs.drop ((number bs 2147483647).2 + 1 + (number (bs.drop ((number bs 2147483647).2 + 1)) 64).2 + (number (bs.drop ((number bs 2147483647).2 + 1)) 64).1))).2 = 0 then (zero, 0)
    else ((ix, (number bs 2147483647).1, bs.getD (number bs 2147483647).2 0, (bs.drop ((number bs 2147483647).2 + 1 + (number (bs.drop ((number bs 2147483647).2 + 1)) 64).2)).take (number (bs.drop ((number bs 2147483647).2 + 1)) 64).1, (Ce.get (bs.drop ((number bs 2147483647).2 + 1 + (number (bs.drop ((number bs 2147483647).2 + 1)) 64).2 + (number (bs.drop ((number bs 2147483647).2 + 1)) 64).1))).1), (number bs 2147483647).2 + 1 + (number (bs.drop ((number bs 2147483647).2 + 1)) 64).2 + (number (bs.drop ((number bs 2147483647).2 + 1)) 64).1 + (Ce.get (bs.drop ((number bs 2147483647).2 + 1 + (number (bs.drop ((number bs 2147483647).2 + 1)) 64).2 + (number (bs.drop ((number bs 2147483647).2 + 1)) 64).1))).2)
theorem number_ext {bs : List Nat} (r : List Nat) {most : Nat} (h : (number bs most).2 ≠ 0) : number (bs ++ r) most = number bs most := by
  unfold number at h ⊢
  by_cases c : (Va.get bs).2 = 0 ∨ most < (Va.get bs).1
  · rw [if_pos c] at h; exact absurd rfl h
  · rw [Va.get_ext r (by omega)]
theorem number_le (bs : List Nat) (most : Nat) : (number bs most).2 ≤ bs.length := by
  unfold number; split
  · omega
  · exact Va.get_le
theorem one_ext {bs : List Nat} (r : List Nat) {ix : Int} (h : (one bs ix).2 ≠ 0) : one (bs ++ r) ix = one bs ix := by
  have hle := number_le bs 2147483647
  have hn := number_ext (bs := bs) r (most := 2147483647)
  have hle2 := number_le (bs.drop ((number bs 2147483647).2 + 1)) 64
  have hn2 := number_ext (bs := bs.drop ((number bs 2147483647).2 + 1)) r (most := 64)
  rw [List.length_drop] at hle2
  unfold one at h ⊢
  by_cases c1 : (number bs 2147483647).2 = 0 ∨ (number bs 2147483647).2 = bs.length
  · rw [if_pos c1] at h; exact absurd rfl h
  · have e1 := hn (by omega)
    rw [e1]
    have hd : (bs ++ r).drop ((number bs 2147483647).2 + 1) = bs.drop ((number bs 2147483647).2 + 1) ++ r := drop_app (by omega)
    rw [hd]
    rw [if_neg c1] at h ⊢
    by_cases c2 : (number (bs.drop ((number bs 2147483647).2 + 1)) 64).2 = 0 ∨ bs.length < (number bs 2147483647).2 + 1 + (number (bs.drop ((number bs 2147483647).2 + 1)) 64).2 + (number (bs.drop ((number bs 2147483647).2 + 1)) 64).1
    · rw [if_pos c2] at h; exact absurd rfl h
    · rw [hn2 (by omega)]
      rw [if_neg c2] at h ⊢
      rw [if_neg (by rw [List.length_append]; omega), if_neg (by rw [List.length_append]; omega)]
      generalize (number bs 2147483647).2 = t at *
      generalize number (bs.drop (t + 1)) 64 = g at *
      have hd2 : (bs ++ r).drop (t + 1 + g.2 + g.1) = bs.drop (t + 1 + g.2 + g.1) ++ r := drop_app (by omega)
      have hd3 : ((bs ++ r).drop (t + 1 + g.2)).take g.1 = (bs.drop (t + 1 + g.2)).take g.1 := by rw [drop_app (by omega), take_app (by rw [List.length_drop]; omega)]
      have hd4 : (bs ++ r).getD t 0 = bs.getD t 0 := getD_app (by omega)
      rw [hd2, hd3, hd4]
      by_cases c3 : bs.getD t 0 = 2
      · rw [if_pos c3, if_pos c3]
      · rw [if_neg c3] at h ⊢
        rw [if_neg c3]
        by_cases c4 : (Ce.get (bs.drop (t + 1 + g.2 + g.1))).2 = 0
        · rw [if_pos c4] at h; exact absurd rfl h
        · rw [Ce.get_ext r c4]
theorem one_le (bs : List Nat) (ix : Int) : (one bs ix).2 ≤ bs.length := by
  unfold one
  split
  · omega
  · split
    · omega
    · split
      · simp only []; omega
      · split
        · omega
        · have := Ce.get_le (bs.drop ((number bs 2147483647).2 + 1 + (number (bs.drop ((number bs 2147483647).2 + 1)) 64).2 + (number (bs.drop ((number bs 2147483647).2 + 1)) 64).1))
          rw [List.length_drop] at this
          simp only []; omega
/-- n entries from the place at' on, l being got already; none: there are not so many -/
def sc : Nat → List Nat → Nat → Int → List E → Option (List E × Nat)
  | 0, _, at', _, l => some (l, at')
  | n + 1, bs, at', ix, l => if (one (bs.drop at') ix).2 = 0 then none else sc n bs (at' + (one (bs.drop at') ix).2) (ix + 1) (l ++ [(one (bs.drop at') ix).1])
/-- the entries that bytes begin with, and where they end -/
def scan (bs : List Nat) : Option (List E × Nat) :=
  if (number bs 16).2 = 0 ∨ (number (bs.drop (number bs 16).2) 2147483647).2 = 0 then none
  else sc (number bs 16).1 bs ((number bs 16).2 + (number (bs.drop (number bs 16).2) 2147483647).2) (number (bs.drop (number bs 16).2) 2147483647).1 []
/-- the batch whose bytes they are; none: there is none -/
def get (bs : List Nat) : List E :=
  match scan bs with
  | none => []
  | some (l, at') => if at' = bs.length ∧ batch l = true then l else []
theorem sc_ext (r : List Nat) : ∀ (n : Nat) (bs : List Nat) (at' : Nat) (ix : Int) (l : List E) (x : List E × Nat), at' ≤ bs.length → sc n bs at' ix l = some x → sc n (bs ++ r) at' ix l = some x := by
  intro n
  induction n with
  | zero => intro bs at' ix l x _ h; exact h
  | succ n ih =>
    intro bs at' ix l x ha h
    rw [sc] at h ⊢
    by_cases h0 : (one (bs.drop at') ix).2 = 0
    · rw [if_pos h0] at h; cases h
    · have hle := one_le (bs.drop at') ix
      rw [List.length_drop] at hle
      have e : one ((bs ++ r).drop at') ix = one (bs.drop at') ix := by rw [drop_app ha]; exact one_ext r h0
      rw [if_neg h0] at h
      rw [e, if_neg h0]
      exact ih bs _ _ _ x (by omega) h
theorem scan_ext (r : List Nat) {bs : List Nat} {x : List E × Nat} (h : scan bs = some x) : scan (bs ++ r) = some x := by
  unfold scan at h ⊢
  by_cases c : (number bs 16).2 = 0 ∨ (number (bs.drop (number bs 16).2) 2147483647).2 = 0
  · rw [if_pos c] at h; cases h
  · have hle := number_le bs 16
    have hle2 := number_le (bs.drop (number bs 16).2) 2147483647
    rw [List.length_drop] at hle2
    rw [number_ext r (by omega), drop_app hle, number_ext r (by omega)]
    rw [if_neg c] at h ⊢
    exact sc_ext r _ bs _ _ _ x (by omega) h
/-! what is put is got -/
/-- bytes that are bytes -/
def Small (e : E) : Prop := (∀ x ∈ e.2.2.2.1, x < 256) ∧ (∀ x ∈ e.2.2.2.2.2.1, x < 256) ∧ e.2.2.2.2.2.2.2.2.2 < 4294967296
theorem number_one {u most : Nat} (h : u ≤ most) (hu : u < 18446744073709551616) (R : List Nat) (hR : ∀ x ∈ R, x < 256) : number (Va.one u ++ R) most = (u, (Va.one u).length) := by
  have hp := Va.one_pos u
  unfold number
  rw [Va.get_one hu R hR, if_neg (by simp only []; omega)]
theorem may_parts {e : E} (h : may e = true) : 1 ≤ e.1 ∧ e.1 ≤ 2147483647 ∧ 1 ≤ e.2.1 ∧ e.2.1 ≤ 2147483647 ∧ Ce.may e.2.2.2.2 = true ∧ e.2.2.2.1.length ≤ 64 ∧ (e.2.2.1 = 0 ∨ e.2.2.1 = 1 ∨ e.2.2.1 = 2) ∧ (e.2.2.1 = 2 → e.2.2.2.2 = Ce.zero) := by
  unfold may at h
  split at h
  · cases h
  · next c =>
    have hc : Ce.may e.2.2.2.2 = true := by
      cases hm : Ce.may e.2.2.2.2 with
      | true => rfl
      | false => exact absurd (.inr (.inr (.inr (.inr (.inl hm))))) c
    refine ⟨by omega, by omega, by omega, by omega, hc, by omega, ?_, ?_⟩
    · split at h
      · left; assumption
      · split at h
        · right; right; assumption
        · simp only [Bool.and_eq_true, decide_eq_true_eq] at h
          right; left; exact h.1
    · intro h2
      split at h
      · omega
      · try rw [if_pos h2] at h
        simp only [Bool.and_eq_true, decide_eq_true_eq] at h
        exact h.2
theorem put1_small {e : E} (h : may e = true) (hs : Small e) : ∀ x ∈ put1 e, x < 256 := by
  obtain ⟨_, _, _, _, hc, hk, hkind, _⟩ := may_parts h
  intro x hx
  unfold put1 at hx
  simp only [List.mem_append, List.mem_singleton] at hx
  rcases hx with (((hx | hx) | hx) | hx) | hx
  · exact Va.one_small _ x hx
  · rcases hkind with e | e | e <;> rw [e] at hx <;> subst hx <;> decide
  · exact Va.one_small _ x hx
  · exact hs.1 x hx
  · split at hx
    · cases hx
    · exact Ce.put_small hs.2.1 x hx
theorem one_put {e : E} (h : may e = true) (hs : Small e) (more : List Nat) (hm : ∀ x ∈ more, x < 256) : one (put1 e ++ more) e.1 = (e, (put1 e).length) := by
  obtain ⟨hi1, hi2, ht1, ht2, hc, hk, hkind, hdel⟩ := may_parts h
  obtain ⟨hs1, hs2, hs3⟩ := hs
  obtain ⟨ix, term, kind, key, c⟩ := e
  simp only at *
  obtain ⟨t, rfl⟩ : ∃ t : Nat, term = (t : Int) := ⟨term.toNat, by omega⟩
  obtain ⟨kb, rfl⟩ : ∃ k : Nat, kind = (k : Int) := ⟨kind.toNat, by omega⟩
  have hkb : kb ≤ 2 := by omega
  obtain ⟨R, hR⟩ : ∃ R, R = (if (kb : Int) = 2 then [] else Ce.put c) := ⟨_, rfl⟩
  have hbs : put1 (ix, (t : Int), (kb : Int), key, c) ++ more = Va.one t ++ (kb :: (Va.one key.length ++ (key ++ (R ++ more)))) := by
    rw [hR]; simp [put1]
  have hlen : (put1 (ix, (t : Int), (kb : Int), key, c)).length = (Va.one t).length + 1 + (Va.one key.length).length + key.length + R.length := by
    rw [hR]; simp [put1]; omega
  have hRs : ∀ x ∈ R ++ more, x < 256 := by
    intro x hx
    rcases List.mem_append.mp hx with hx | hx
    · rw [hR] at hx
      split at hx
      · cases hx
      · exact Ce.put_small hs2 x hx
    · exact hm x hx
  have hks : ∀ x ∈ key ++ (R ++ more), x < 256 := by
    intro x hx
    rcases List.mem_append.mp hx with hx | hx
    · exact hs1 x hx
    · exact hRs x hx
  have hr1 : ∀ x ∈ kb :: (Va.one key.length ++ (key ++ (R ++ more))), x < 256 := by
    intro x hx
    rcases List.mem_cons.mp hx with rfl | hx
    · omega
    · rcases List.mem_append.mp hx with hx | hx
      · exact Va.one_small _ x hx
      · exact hks x hx
  have n1 : number (put1 (ix, (t : Int), (kb : Int), key, c) ++ more) 2147483647 = (t, (Va.one t).length) := by
    rw [hbs]; exact number_one (by omega) (by omega) _ hr1
  have d1 : (put1 (ix, (t : Int), (kb : Int), key, c) ++ more).drop ((Va.one t).length + 1) = Va.one key.length ++ (key ++ (R ++ more)) := by
    rw [hbs, List.drop_append, List.drop_of_length_le (by omega), show (Va.one t).length + 1 - (Va.one t).length = 1 by omega]; simp
  have n2 : number (Va.one key.length ++ (key ++ (R ++ more))) 64 = (key.length, (Va.one key.length).length) := number_one (by omega) (by omega) _ hks
  have d2 : (put1 (ix, (t : Int), (kb : Int), key, c) ++ more).drop ((Va.one t).length + 1 + (Va.one key.length).length) = key ++ (R ++ more) := by
    rw [← List.drop_drop, d1, List.drop_left]
  have d3 : (put1 (ix, (t : Int), (kb : Int), key, c) ++ more).drop ((Va.one t).length + 1 + (Va.one key.length).length + key.length) = R ++ more := by
    rw [← List.drop_drop, d2, List.drop_left]
  have g1 : (put1 (ix, (t : Int), (kb : Int), key, c) ++ more).getD (Va.one t).length 0 = kb := by
    rw [hbs]; simp
  have hl : (put1 (ix, (t : Int), (kb : Int), key, c) ++ more).length = (Va.one t).length + 1 + (Va.one key.length).length + key.length + R.length + more.length := by
    rw [List.length_append, hlen]
  have p1 := Va.one_pos t
  have p2 := Va.one_pos key.length
  unfold one
  rw [n1]
  simp only []
  rw [d1, n2]
  simp only []
  rw [d2, d3, g1, hl, if_neg (by omega), if_neg (by omega), List.take_left]
  by_cases hk2 : kb = 2
  · subst hk2
    have hz := hdel rfl
    rw [if_pos rfl, hlen, hR, hz]; simp
  · have e : R = Ce.put c := by rw [hR, if_neg (by omega)]
    rw [if_neg hk2, e, Ce.get_put hc hs2 hs3 more hm]
    have := Ce.put_pos c
    rw [if_neg (by simp only []; omega), hlen, e]
theorem one_pos (e : E) : 0 < (put1 e).length := by
  have := Va.one_pos e.2.1.toNat
  unfold put1; simp only [List.length_append]; omega
theorem chain_ix {a b : E} {r : List E} (h : chain (a :: b :: r) = true) : b.1 = a.1 + 1 ∧ chain (b :: r) = true := by
  simp only [chain, Bool.and_eq_true, decide_eq_true_eq] at h
  exact ⟨by omega, h.2⟩
theorem flat_small {l : List E} (h : ∀ e ∈ l, may e = true ∧ Small e) : ∀ x ∈ l.flatMap put1, x < 256 := by
  intro x hx
  obtain ⟨e, he, hx⟩ := List.mem_flatMap.mp hx
  exact put1_small (h e he).1 (h e he).2 x hx
theorem sc_put (more : List Nat) (hm : ∀ x ∈ more, x < 256) : ∀ (l : List E) (pre : List Nat) (acc : List E) (ix : Int), (∀ e ∈ l, may e = true ∧ Small e) → chain l = true → (l = [] ∨ (l.headD zero).1 = ix) →
    sc l.length (pre ++ (l.flatMap put1 ++ more)) pre.length ix acc = some (acc ++ l, pre.length + (l.flatMap put1).length) := by
  intro l
  induction l with
  | nil => intro pre acc ix _ _ _; simp [sc]
  | cons e l ih =>
    intro pre acc ix hl hc hix
    obtain ⟨hm1, hs1⟩ := hl e (by simp)
    have hix : e.1 = ix := by
      rcases hix with h | h
      · cases h
      · exact h
    subst hix
    have hd : (pre ++ ((e :: l).flatMap put1 ++ more)).drop pre.length = put1 e ++ (l.flatMap put1 ++ more) := by simp
    have ho := one_put hm1 hs1 (l.flatMap put1 ++ more) (by
      intro x hx
      rcases List.mem_append.mp hx with hx | hx
      · exact flat_small (fun e' he' => hl e' (by simp [he'])) x hx
      · exact hm x hx)
    rw [List.length_cons, sc, hd, ho]
    simp only []
    have hp := one_pos e
    rw [if_neg (by omega)]
    have := ih (pre ++ put1 e) (acc ++ [e]) (e.1 + 1) (fun e' he' => hl e' (by simp [he'])) (by
      cases l with
      | nil => rfl
      | cons b r => exact (chain_ix hc).2) (by
      cases l with
      | nil => exact .inl rfl
      | cons b r => exact .inr (chain_ix hc).1)
    rw [List.length_append] at this
    simp only [List.flatMap_cons, List.length_append]
    rw [show pre ++ (put1 e ++ l.flatMap put1 ++ more) = pre ++ put1 e ++ (l.flatMap put1 ++ more) by simp, this]
    simp; omega
theorem batch_parts {l : List E} (h : batch l = true) : (∀ e ∈ l, may e = true) ∧ chain l = true ∧ 1 ≤ l.length ∧ l.length ≤ 16 := by
  simp only [batch, Bool.and_eq_true, List.all_eq_true, decide_eq_true_eq] at h
  exact ⟨h.1.1, h.1.2, h.2⟩
theorem scan_put {l : List E} (h : batch l = true) (hs : ∀ e ∈ l, Small e) (more : List Nat) (hm : ∀ x ∈ more, x < 256) : scan (put l ++ more) = some (l, (put l).length) := by
  obtain ⟨h1, h2, h3, h4⟩ := batch_parts h
  obtain ⟨e, r, rfl⟩ : ∃ e r, l = e :: r := by
    cases l with
    | nil => simp at h3
    | cons e r => exact ⟨e, r, rfl⟩
  obtain ⟨hi1, hi2, _⟩ := may_parts (h1 e (by simp))
  obtain ⟨ix, hix⟩ : ∃ ix : Nat, e.1 = (ix : Int) := ⟨e.1.toNat, by omega⟩
  have hput : put (e :: r) = Va.one (e :: r).length ++ Va.one ix ++ (e :: r).flatMap put1 := by
    unfold put
    rw [show ((e :: r).headD zero).1.toNat = ix by show e.1.toNat = ix; omega]
    simp [Va.put]
  have hfs : ∀ x ∈ (e :: r).flatMap put1 ++ more, x < 256 := by
    intro x hx
    rcases List.mem_append.mp hx with hx | hx
    · exact flat_small (fun e' he' => ⟨h1 e' he', hs e' he'⟩) x hx
    · exact hm x hx
  generalize hl : (e :: r).length = L at *
  have n1 : number (put (e :: r) ++ more) 16 = (L, (Va.one L).length) := by
    rw [hput, List.append_assoc, List.append_assoc]
    refine number_one h4 (by omega) _ ?_
    intro x hx
    rcases List.mem_append.mp hx with hx | hx
    · exact Va.one_small _ x hx
    · exact hfs x hx
  have d1 : (put (e :: r) ++ more).drop (Va.one L).length = Va.one ix ++ ((e :: r).flatMap put1 ++ more) := by
    rw [hput, List.append_assoc, List.append_assoc, List.drop_left]
  have n2 : number (Va.one ix ++ ((e :: r).flatMap put1 ++ more)) 2147483647 = (ix, (Va.one ix).length) := number_one (by omega) (by omega) _ hfs
  have p1 := Va.one_pos L
  have p2 := Va.one_pos ix
  unfold scan
  rw [n1]
  simp only []
  rw [d1, n2]
  simp only []
  rw [if_neg (by omega)]
  have := sc_put more hm (e :: r) (Va.one L ++ Va.one ix) [] ix (fun e' he' => ⟨h1 e' he', hs e' he'⟩) h2 (.inr hix)
  rw [List.length_append, hl, List.nil_append] at this
  rw [show put (e :: r) ++ more = Va.one L ++ Va.one ix ++ ((e :: r).flatMap put1 ++ more) by rw [hput]; simp, this, hput]
  simp [Nat.add_assoc]
theorem get_put {l : List E} (h : batch l = true) (hs : ∀ e ∈ l, Small e) : get (put l) = l := by
  have := scan_put h hs [] (by simp)
  rw [List.append_nil] at this
  unfold get
  rw [this]
  simp [h]
theorem get_more {l : List E} (h : batch l = true) (hs : ∀ e ∈ l, Small e) {more : List Nat} (hm : ∀ x ∈ more, x < 256) (hne : more ≠ []) : get (put l ++ more) = [] := by
  unfold get
  rw [scan_put h hs more hm]
  simp only []
  rw [if_neg]
  rw [List.length_append]
  have : 0 < more.length := List.length_pos_iff.mpr hne
  omega
theorem get_cut {l : List E} (h : batch l = true) (hs : ∀ e ∈ l, Small e) {k : Nat} (hk : k < (put l).length) : get ((put l).take k) = [] := by
  unfold get
  cases hsc : scan ((put l).take k) with
  | none => rfl
  | some x =>
    obtain ⟨l', at'⟩ := x
    have h1 := scan_ext ((put l).drop k) hsc
    rw [List.take_append_drop] at h1
    have h2 := scan_put h hs [] (by simp)
    rw [List.append_nil, h1] at h2
    simp only [Option.some.injEq, Prod.mk.injEq] at h2
    simp only []
    rw [if_neg]
    rw [List.length_take]
    omega
theorem put_pos (l : List E) : 0 < (put l).length := by
  have := Va.one_pos l.length
  unfold put; simp only [List.length_append, Va.put, List.flatMap_cons]; omega
end En
end Go.Proofs.Ytjllglpjghcplaa
