/- The plain mathematics of numbers as few bytes: what is put, what is got, how many bytes, folding. Names no dump. -/
import Derived.Lib.BitFns
import Derived.Laws.BitsAllLaws
import Derived.WalkKit
namespace Va

/-- a number's bytes -/
def one (u : Nat) : List Nat := if h : u < 128 then [u] else (u % 128 + 128) :: one (u / 128)
termination_by u
decreasing_by omega

theorem one_lo {u : Nat} (h : u < 128) : one u = [u] := by rw [one, dif_pos h]
theorem one_hi {u : Nat} (h : ¬ u < 128) : one u = (u % 128 + 128) :: one (u / 128) := by rw [one, dif_neg h]

/-- numbers' bytes -/
def put (l : List Nat) : List Nat := l.flatMap one
theorem put_snoc (l : List Nat) (u : Nat) : put (l ++ [u]) = put l ++ one u := by simp [put]
theorem one_pos (u : Nat) : 0 < (one u).length := by
  by_cases h : u < 128
  · rw [one_lo h]; simp
  · rw [one_hi h]; simp
/-! how many bytes -/
/-- how many bytes a number has, as the program counts -/
def size (u : Nat) : Nat := (Go.Lib.bitLen (u ||| 1) + 6) / 7
/-! the number that groups are -/
def val : List Nat → Nat
  | [] => 0
  | x :: r => x % 128 + 128 * val r
theorem val_append (a b : List Nat) : val (a ++ b) = val a + 128 ^ a.length * val b := by
  induction a with
  | nil => simp [val]
  | cons x a ih => rw [List.cons_append, val, val, ih, List.length_cons, Nat.pow_succ, Nat.mul_add, ← Nat.mul_assoc, Nat.mul_comm (128 ^ _) 128]; omega
theorem val_snoc (a : List Nat) (x : Nat) : val (a ++ [x]) = val a + 128 ^ a.length * (x % 128) := by
  rw [val_append]; simp [val]
theorem val_lt (a : List Nat) : val a < 128 ^ a.length := by
  induction a with
  | nil => simp [val]
  | cons x a ih => rw [val, List.length_cons, Nat.pow_succ]; omega
theorem val_one (u : Nat) : val (one u) = u := by
  induction u using one.induct with
  | case1 u h => rw [one_lo h]; simp [val]; omega
  | case2 u h ih => rw [one_hi h, val, ih]; omega

/-- bytes of which all but the last say that one is behind, the last is not 0 (but alone) -/
theorem one_val : ∀ (a : List Nat) (x : Nat), (∀ y ∈ a, 128 ≤ y ∧ y < 256) → x < 128 → (a = [] ∨ x ≠ 0) → one (val (a ++ [x])) = a ++ [x] := by
  intro a
  induction a with
  | nil => intro x _ hx _; simp [val, Nat.mod_eq_of_lt hx, one_lo hx]
  | cons y a ih =>
    intro x ha hx h0
    have hx0 : x ≠ 0 := by rcases h0 with h | h; · cases h
                           · exact h
    obtain ⟨hy1, hy2⟩ := ha y (by simp)
    have hv : 0 < val (a ++ [x]) := by
      rw [val_snoc, Nat.mod_eq_of_lt hx]
      have := Nat.mul_pos (Nat.pow_pos (n := a.length) (show 0 < 128 by omega)) (Nat.pos_of_ne_zero hx0)
      omega
    rw [List.cons_append, val, one_hi (by omega), show (y % 128 + 128 * val (a ++ [x])) / 128 = val (a ++ [x]) by omega, ih x (fun z hz => ha z (by simp [hz])) hx (.inr hx0)]
    congr 1; omega

theorem one_last : ∀ (u : Nat) (a : List Nat) (x : Nat), one u = a ++ [x] → x < 128 ∧ (a = [] ∨ x ≠ 0) ∧ ∀ y ∈ a, 128 ≤ y := by
  intro u
  induction u using one.induct with
  | case1 u h =>
    intro a x e
    rw [one_lo h] at e
    cases a with
    | nil => simp at e; subst e; exact ⟨h, .inl rfl, by simp⟩
    | cons y a => simp at e
  | case2 u h ih =>
    intro a x e
    rw [one_hi h] at e
    cases a with
    | nil =>
      simp only [List.nil_append, List.cons.injEq] at e
      have := one_pos (u / 128); rw [e.2] at this; simp at this
    | cons y a =>
      simp only [List.cons_append, List.cons.injEq] at e
      obtain ⟨h1, h2, h3⟩ := ih a x e.2
      refine ⟨h1, .inr ?_, ?_⟩
      · rcases h2 with h2 | h2
        · subst h2
          intro h0; subst h0
          have hv := val_one (u / 128)
          rw [e.2] at hv; simp [val] at hv; omega
        · exact h2
      · intro z hz
        rcases List.mem_cons.mp hz with rfl | hz
        · omega
        · exact h3 z hz

/-! what is got -/
/-- from the place i on, acc being the number of the groups ahead -/
def lp (i acc : Nat) : List Nat → Nat × Nat
  | [] => (0, 0)
  | x :: r => if i = 9 ∧ 1 < x then (0, 0) else if 0 < i ∧ x = 0 then (0, 0) else if x < 128 then (acc + 128 ^ i * (x % 128), i + 1) else lp (i + 1) (acc + 128 ^ i * (x % 128)) r
def get (bs : List Nat) : Nat × Nat := lp 0 0 bs

theorem drop_get (bs : List Nat) (k : Nat) (h : k < bs.length) : bs.drop k = bs.getD k 0 :: bs.drop (k + 1) := by
  rw [List.drop_eq_getElem_cons h]; simp [h]
theorem take_snoc (bs : List Nat) (k : Nat) (h : k < bs.length) : bs.take (k + 1) = bs.take k ++ [bs.getD k 0] := by
  rw [List.take_succ_eq_append_getElem h]; simp [h]

theorem lp_high {bs : List Nat} {k : Nat} : k ≤ 9 → k ≤ bs.length → (∀ j, j < k → 128 ≤ bs.getD j 0) → get bs = lp k (val (bs.take k)) (bs.drop k) := by
  induction k with
  | zero => intro _ _ _; simp [get, val]
  | succ k ih =>
    intro hk hl hh
    rw [ih (by omega) (by omega) (fun j hj => hh j (by omega)), drop_get bs k (by omega), lp]
    have := hh k (by omega)
    rw [if_neg (by omega), if_neg (by omega), if_neg (by omega), take_snoc bs k (by omega), val_snoc, List.length_take, Nat.min_eq_left (by omega)]
theorem get_end {bs : List Nat} {k : Nat} (hk : k ≤ 10) (hl : k ≤ bs.length) (he : k = bs.length ∨ k = 10) (hh : ∀ j, j < k → 128 ≤ bs.getD j 0) : get bs = (0, 0) := by
  by_cases h10 : k = 10
  · subst h10
    rw [lp_high (k := 9) (by omega) (by omega) (fun j hj => hh j (by omega)), drop_get bs 9 (by omega), lp]
    have := hh 9 (by omega)
    rw [if_pos (by omega)]
  · have e : k = bs.length := by omega
    rw [lp_high (k := k) (by omega) (by omega) hh, List.drop_of_length_le (by omega), lp]
theorem get_at {bs : List Nat} {k : Nat} (hs : ∀ x ∈ bs, x < 256) (hk : k ≤ 9) (hl : k < bs.length) (hh : ∀ j, j < k → 128 ≤ bs.getD j 0) (hx : bs.getD k 0 < 128) :
    get bs = if one (val (bs.take (k + 1)) % 18446744073709551616) = bs.take (k + 1) then (val (bs.take (k + 1)) % 18446744073709551616, k + 1) else (0, 0) := by
  rw [lp_high (k := k) hk (by omega) hh, drop_get bs k hl, lp]
  have ht : ∀ y ∈ bs.take k, 128 ≤ y ∧ y < 256 := by
    intro y hy
    refine ⟨?_, hs y (List.mem_of_mem_take hy)⟩
    obtain ⟨j, hj, e⟩ := List.mem_iff_getElem.mp hy
    rw [List.length_take] at hj
    have := hh j (by omega)
    rw [List.getD_eq_getElem?_getD, List.getElem?_eq_getElem (by omega)] at this
    rw [List.getElem_take] at e
    rw [← e]; simpa using this
  have hlt : (bs.take k).length = k := by rw [List.length_take]; omega
  have hts := take_snoc bs k hl
  have hval := val_snoc (bs.take k) (bs.getD k 0)
  rw [← hts, hlt] at hval
  generalize bs.getD k 0 = x at *
  by_cases h9 : k = 9 ∧ 1 < x
  · rw [if_pos h9, if_neg]
    intro e
    have hv := val_one (val (bs.take (k + 1)) % 18446744073709551616)
    rw [e] at hv
    have h128 : (128 : Nat) ^ k = 9223372036854775808 := by rw [h9.1]
    rw [hval, h128] at hv
    have := Nat.mod_lt (val (bs.take k) + 9223372036854775808 * (x % 128)) (show 0 < 18446744073709551616 by omega)
    omega
  · rw [if_neg h9]
    by_cases h0 : 0 < k ∧ x = 0
    · rw [if_pos h0, if_neg]
      intro e
      rw [hts] at e
      have := (one_last _ _ _ e).2.1
      rcases this with h | h
      · rw [h] at hlt; simp at hlt; omega
      · exact h h0.2
    · rw [if_neg h0, if_pos hx, ← hval]
      have hc : one (val (bs.take (k + 1))) = bs.take (k + 1) := by
        rw [hts]
        refine one_val _ _ ht hx ?_
        by_cases hk0 : k = 0
        · left; rw [hk0]; rfl
        · right; omega
      have hlt64 : val (bs.take (k + 1)) < 18446744073709551616 := by
        by_cases hk9 : k = 9
        · have h1 := val_lt (bs.take k)
          have h128 : (128 : Nat) ^ k = 9223372036854775808 := by rw [hk9]
          rw [hlt, h128] at h1
          rw [hval, h128]
          have : x % 128 ≤ 1 := by omega
          omega
        · have h1 := val_lt (bs.take (k + 1))
          rw [List.length_take, Nat.min_eq_left (by omega)] at h1
          have : (128 : Nat) ^ (k + 1) ≤ 128 ^ 9 := Nat.pow_le_pow_right (by omega) (by omega)
          have : (128 : Nat) ^ 9 < 18446744073709551616 := by decide
          omega
      rw [Nat.mod_eq_of_lt hlt64, if_pos hc]

theorem get_le {bs : List Nat} : (get bs).2 ≤ bs.length := by
  suffices h : ∀ (r : List Nat) (i acc : Nat), (lp i acc r).2 ≤ i + r.length by simpa [get] using h bs 0 0
  intro r
  induction r with
  | nil => intro i acc; simp [lp]
  | cons x r ih =>
    intro i acc
    rw [lp]
    split
    · simp
    · split
      · simp
      · split
        · simp
        · have := ih (i + 1) (acc + 128 ^ i * (x % 128)); simp at this ⊢; omega

theorem lp_lt : ∀ (r : List Nat) (i acc : Nat), i ≤ 9 → acc < 128 ^ i → (lp i acc r).1 < 18446744073709551616 := by
  intro r
  induction r with
  | nil => intro i acc _ _; simp [lp]
  | cons x r ih =>
    intro i acc hi ha
    rw [lp]
    by_cases h9 : i = 9
    · subst h9
      split
      · simp
      · split
        · simp
        · have hx : x % 128 ≤ 1 := by omega
          rw [if_pos (by omega)]
          have : (128 : Nat) ^ 9 = 9223372036854775808 := by decide
          simp only [this] at *
          omega
    · have h1 : acc + 128 ^ i * (x % 128) < 128 ^ (i + 1) := by
        rw [Nat.pow_succ]
        have : 128 ^ i * (x % 128) ≤ 128 ^ i * 127 := Nat.mul_le_mul_left _ (by omega)
        omega
      have h2 : (128 : Nat) ^ (i + 1) ≤ 128 ^ 9 := Nat.pow_le_pow_right (by omega) (by omega)
      have h3 : (128 : Nat) ^ 9 < 18446744073709551616 := by decide
      split
      · simp
      · split
        · simp
        · split
          · show acc + 128 ^ i * (x % 128) < _; omega
          · exact ih _ _ (by omega) h1
theorem get_lt (bs : List Nat) : (get bs).1 < 18446744073709551616 := lp_lt bs 0 0 (by omega) (by simp)

/-- the first n numbers from the place at' on, l being got already: the numbers, the place, the code -/
def al : Nat → List Nat → Nat → List Nat → List Nat × Nat × Nat
  | 0, _, at', l => (l, at', 0)
  | n + 1, bs, at', l => if (get (bs.drop at')).2 = 0 then ([], at', 2) else al n bs (at' + (get (bs.drop at')).2) (l ++ [(get (bs.drop at')).1])
def all (bs : List Nat) (n : Nat) : List Nat × Nat × Nat := al n bs 0 []
theorem al_none {n : Nat} {bs : List Nat} {at' : Nat} {l : List Nat} (h : (get (bs.drop at')).2 = 0) : al (n + 1) bs at' l = ([], at', 2) := by rw [al, if_pos h]
theorem al_some {n : Nat} {bs : List Nat} {at' : Nat} {l : List Nat} (h : ¬ (get (bs.drop at')).2 = 0) : al (n + 1) bs at' l = al n bs (at' + (get (bs.drop at')).2) (l ++ [(get (bs.drop at')).1]) := by rw [al, if_neg h]
/-! folding -/
def unfold (u : Nat) : Int := if u % 2 = 0 then ((u / 2 : Nat) : Int) else -((u / 2 : Nat) : Int) - 1
end Va

/- The plain mathematics of the sum of bytes (registers as natural numbers): a bit's step, a byte's steps, that they are linear, and that one step of nothing loses nothing. No word of the program. -/
namespace Go.Proofs.YtmodogmjfbcddaaGreat.Crc

/-- the register, moved on by a bit 0 -/
def lin (r : Nat) : Nat := if r % 2 = 1 then (r / 2) ^^^ 2197175160 else r / 2
/-- k times lin -/
def lins : Nat → Nat → Nat
  | 0, r => r
  | k + 1, r => lin (lins k r)
/-- the register behind a byte -/
def tk (r x : Nat) : Nat := lins 8 (r ^^^ x)
/-- the register behind bytes -/
def run (r : Nat) (bs : List Nat) : Nat := bs.foldl tk r
/-- the sum of bytes behind others whose sum is s -/
def more (s : Nat) (bs : List Nat) : Nat := run (s ^^^ 4294967295) bs ^^^ 4294967295

end Go.Proofs.YtmodogmjfbcddaaGreat.Crc

/- The plain mathematics of frames: their bytes, what is read, what is scanned, cuts and joins. Names no dump. -/
namespace Go.Proofs.YtmodogmjfbcddaaGreat.Fr

abbrev F := Int × List Nat
def may (f : F) : Bool := decide (1 ≤ f.1 ∧ f.1 ≤ 250 ∧ f.2.length ≤ 1048576)
theorem may_iff (f : F) : may f = true ↔ 1 ≤ f.1 ∧ f.1 ≤ 250 ∧ f.2.length ≤ 1048576 := by simp [may]
def le4 (s : Nat) : List Nat := [s % 256, s / 256 % 256, s / 65536 % 256, s / 16777216 % 256]
/-- a frame's bytes -/
def put1 (k : Nat) (b : List Nat) : List Nat := Va.one b.length ++ (k :: (b ++ le4 (Crc.more 0 (k :: b))))
def one (f : F) : List Nat := put1 f.1.toNat f.2
def all (l : List F) : List Nat := l.flatMap one
def size (n : Nat) : Nat := (Va.one n).length + 1 + n + 4

/-- b ends within the number -/
def gapHead (bs : List Nat) : Bool := decide (bs.length < 3) && bs.all (fun x => decide (128 ≤ x))
/-- the frame that bytes begin with, how many bytes it has, the code -/
def first (bs : List Nat) : F × Nat × Nat :=
  if gapHead bs = true then ((0, []), 0, 5)
  else if (Va.get bs).2 = 0 ∨ 1048576 < (Va.get bs).1 then ((0, []), 0, 2)
  else if (Va.get bs).2 = bs.length then ((0, []), 0, 5)
  else if bs.getD (Va.get bs).2 0 < 1 ∨ 250 < bs.getD (Va.get bs).2 0 then ((0, []), 0, 2)
  else if bs.length < (Va.get bs).2 + 1 + (Va.get bs).1 + 4 then ((0, []), 0, 5)
  else if put1 (bs.getD (Va.get bs).2 0) ((bs.drop ((Va.get bs).2 + 1)).take (Va.get bs).1) = bs.take ((Va.get bs).2 + 1 + (Va.get bs).1 + 4)
    then (((bs.getD (Va.get bs).2 0 : Nat), (bs.drop ((Va.get bs).2 + 1)).take (Va.get bs).1), (Va.get bs).2 + 1 + (Va.get bs).1 + 4, 0)
    else ((0, []), 0, 2)

theorem first_ok {bs : List Nat} (h : (first bs).2.2 = 0) : 5 ≤ (first bs).2.1 ∧ (first bs).1.2.length + 5 ≤ (first bs).2.1 ∧ (first bs).1.2 = (bs.drop ((first bs).2.1 - 4 - (first bs).1.2.length)).take (first bs).1.2.length ∧ 1 ≤ (first bs).1.1 ∧ (first bs).1.1 ≤ 250 := by
  revert h
  unfold first
  split
  · intro h; simp at h
  · split
    · intro h; simp at h
    · split
      · intro h; simp at h
      · split
        · intro h; simp at h
        · split
          · intro h; simp at h
          · split
            · intro _
              rename_i h1 h2 h3 h4 h5 h6
              have hl : ((bs.drop ((Va.get bs).2 + 1)).take (Va.get bs).1).length = (Va.get bs).1 := by rw [List.length_take, List.length_drop]; omega
              refine ⟨by simp only []; omega, by simp only []; rw [hl]; omega, ?_, by simp only []; omega, by simp only []; omega⟩
              simp only []
              rw [hl]
              congr 2; omega
            · intro h; simp at h
/-! what is scanned -/
/-- from the place at' on, l and ps being told already -/
def sc : Nat → List Nat → Nat → List F → List Nat → List F × List Nat × Nat
  | 0, _, at', l, ps => (l, ps, at')
  | n + 1, bs, at', l, ps => if (first (bs.drop at')).2.2 = 0 then sc n bs (at' + (first (bs.drop at')).2.1) (l ++ [(first (bs.drop at')).1]) (ps ++ [at' + (first (bs.drop at')).2.1 - 4 - (first (bs.drop at')).1.2.length]) else (l, ps, at')
def scan (bs : List Nat) : List F × List Nat × Nat := sc (bs.length + 1) bs 0 [] []
theorem sc_ok {n : Nat} {bs : List Nat} {at' : Nat} {l : List F} {ps : List Nat} (h : (first (bs.drop at')).2.2 = 0) :
    sc (n + 1) bs at' l ps = sc n bs (at' + (first (bs.drop at')).2.1) (l ++ [(first (bs.drop at')).1]) (ps ++ [at' + (first (bs.drop at')).2.1 - 4 - (first (bs.drop at')).1.2.length]) := by rw [sc, if_pos h]
/-- the places of their bodies -/
def places : List F → Nat → List Nat
  | [], _ => []
  | f :: l, at' => (at' + (Va.one f.2.length).length + 1) :: places l (at' + size f.2.length)

def Good (l : List F) : Prop := ∀ f ∈ l, may f = true ∧ ∀ x ∈ f.2, x < 256
theorem all_cons (f : F) (l : List F) : all (f :: l) = one f ++ all l := rfl
end Go.Proofs.YtmodogmjfbcddaaGreat.Fr

/- Frames, in the order in which the program asks: its number, its kind, whether the bytes end, the sum. Names no dump. -/
namespace Va

theorem high_or {bs : List Nat} : ∀ m : Nat, (∀ j, j < m → 128 ≤ bs.getD j 0) ∨ ∃ k, k < m ∧ (∀ j, j < k → 128 ≤ bs.getD j 0) ∧ bs.getD k 0 < 128 := by
  intro m
  induction m with
  | zero => left; intro j hj; omega
  | succ m ih =>
    rcases ih with h | ⟨k, h1, h2, h3⟩
    · by_cases hm : bs.getD m 0 < 128
      · exact .inr ⟨m, by omega, h, hm⟩
      · left; intro j hj
        by_cases hjm : j = m
        · subst hjm; omega
        · exact h j (by omega)
    · exact .inr ⟨k, by omega, h2, h3⟩
theorem get_ok {bs : List Nat} (hs : ∀ x ∈ bs, x < 256) (h : (get bs).2 ≠ 0) : bs.take (get bs).2 = one (get bs).1 := by
  by_cases hl : bs.length ≤ 10
  · rcases high_or (bs := bs) bs.length with hh | ⟨k, h1, h2, h3⟩
    · rw [get_end (k := bs.length) hl (Nat.le_refl _) (.inl rfl) hh] at h; simp at h
    · by_cases hk : k ≤ 9
      · have e := get_at hs hk h1 h2 h3
        split at e
        · next he => rw [e]; exact he.symm
        · rw [e] at h; simp at h
      · omega
  · rcases high_or (bs := bs) 10 with hh | ⟨k, h1, h2, h3⟩
    · rw [get_end (k := 10) (Nat.le_refl _) (by omega) (.inr rfl) hh] at h; simp at h
    · have e := get_at hs (by omega : k ≤ 9) (by omega) h2 h3
      split at e
      · next he => rw [e]; exact he.symm
      · rw [e] at h; simp at h
end Va
namespace Go.Proofs.YtmodogmjfbcddaaGreat.Fr

/-- the number of four bytes, the lowest first -/
def val4 (bs : List Nat) : Nat := bs.getD 0 0 + 256 * bs.getD 1 0 + 65536 * bs.getD 2 0 + 16777216 * bs.getD 3 0
theorem le4_val {s : Nat} {bs : List Nat} (hs : s < 4294967296) (hb : ∀ x ∈ bs, x < 256) (hl : bs.length = 4) : le4 s = bs ↔ s = val4 bs := by
  match bs, hl with
  | [a, b, c, d], _ =>
    have ha := hb a (by simp)
    have hb' := hb b (by simp)
    have hc := hb c (by simp)
    have hd := hb d (by simp)
    simp only [le4, val4, List.cons.injEq, and_true]
    simp only [List.getD_cons_zero, List.getD_cons_succ]
    omega
end Go.Proofs.YtmodogmjfbcddaaGreat.Fr

/- The plain mathematics of points: which may be, their bytes, what is read, their order. Names no dump. -/
namespace Go.Proofs.YtmodogmjfbcddaaGreat.Po

/-- Seg, At, Len, Sum -/
abbrev P := Int × Int × Int × Nat
def zero : P := (0, 0, 0, 0)
def may (p : P) : Bool := decide (1 ≤ p.1 ∧ p.1 ≤ 2147483647 ∧ 0 ≤ p.2.1 ∧ p.2.1 ≤ 2147483647 ∧ 0 ≤ p.2.2.1 ∧ p.2.2.1 ≤ 4096)
theorem may_iff (p : P) : may p = true ↔ 1 ≤ p.1 ∧ p.1 ≤ 2147483647 ∧ 0 ≤ p.2.1 ∧ p.2.1 ≤ 2147483647 ∧ 0 ≤ p.2.2.1 ∧ p.2.2.1 ≤ 4096 := by simp [may]
def nums (p : P) : List Nat := [p.1.toNat, p.2.1.toNat, p.2.2.1.toNat]
def put (p : P) : List Nat := Va.put (nums p) ++ Fr.le4 p.2.2.2
/-- the point of three numbers and four bytes -/
def ofNums (l bs4 : List Nat) : P := ((l.getD 0 0 : Nat), (l.getD 1 0 : Nat), (l.getD 2 0 : Nat), Fr.val4 bs4)
/-- the point that bytes begin with, how many bytes it has; 0: there is none -/
def get (bs : List Nat) : P × Nat :=
  if (Va.all bs 3).2.2 = 0 ∧ (Va.all bs 3).2.1 + 4 ≤ bs.length ∧ may (ofNums (Va.all bs 3).1 ((bs.drop (Va.all bs 3).2.1).take 4)) = true
  then (ofNums (Va.all bs 3).1 ((bs.drop (Va.all bs 3).2.1).take 4), (Va.all bs 3).2.1 + 4) else (zero, 0)
theorem get_le (bs : List Nat) : (get bs).2 ≤ bs.length := by
  unfold get; split
  · next h => exact h.2.1
  · exact Nat.zero_le _
theorem val4_lt {bs : List Nat} (h : ∀ x ∈ bs, x < 256) : Fr.val4 bs < 4294967296 := by
  have g : ∀ i, bs.getD i 0 < 256 := fun i => by
    rcases Nat.lt_or_ge i bs.length with hi | hi
    · rw [List.getD_eq_getElem?_getD, List.getElem?_eq_getElem hi]; exact h _ (List.getElem_mem hi)
    · rw [List.getD_eq_getElem?_getD, List.getElem?_eq_none hi]; decide
  have h0 := g 0
  have h1 := g 1
  have h2 := g 2
  have h3 := g 3
  unfold Fr.val4
  omega
/-- of four bytes the upper k, as the reference reads them -/
def hk (bs : List Nat) : Nat → Nat
  | 0 => 0
  | k + 1 => hk bs k * 256 + bs.getD (3 - k) 0
theorem al_ok : ∀ (n : Nat) (bs : List Nat) (at' : Nat) (l : List Nat), at' ≤ bs.length → (∀ u ∈ l, u < 18446744073709551616) → (Va.al n bs at' l).2.1 ≤ bs.length ∧ ((Va.al n bs at' l).2.2 = 0 → (Va.al n bs at' l).1.length = l.length + n) ∧ (∀ u ∈ (Va.al n bs at' l).1, u < 18446744073709551616) := by
  intro n
  induction n with
  | zero => intro bs at' l h hl; exact ⟨h, fun _ => rfl, hl⟩
  | succ n ih =>
    intro bs at' l h hl
    by_cases h0 : (Va.get (bs.drop at')).2 = 0
    · rw [Va.al_none h0]; exact ⟨h, fun h => by simp at h, fun u hu => by simp at hu⟩
    · rw [Va.al_some h0]
      have h1 := Va.get_le (bs := bs.drop at')
      rw [List.length_drop] at h1
      have := ih bs (at' + (Va.get (bs.drop at')).2) (l ++ [(Va.get (bs.drop at')).1]) (by omega) (by
        intro u hu
        rcases List.mem_append.mp hu with hu | hu
        · exact hl u hu
        · simp only [List.mem_singleton] at hu; subst hu; exact Va.get_lt _)
      refine ⟨this.1, fun h => ?_, this.2.2⟩
      rw [this.2.1 h, List.length_append]; simp; omega
theorem all_ok (bs : List Nat) (n : Nat) : (Va.all bs n).2.1 ≤ bs.length ∧ ((Va.all bs n).2.2 = 0 → (Va.all bs n).1.length = n) ∧ (∀ u ∈ (Va.all bs n).1, u < 18446744073709551616) := by
  have := al_ok n bs 0 [] (by omega) (by simp)
  simpa [Va.all] using this
/-! order -/
def less (a b : P) : Bool := if a.1 = b.1 then decide (a.2.1 < b.2.1) else decide (a.1 < b.1)
/-- behind how many of the first k a point is laid -/
def cut (out : List P) (p : P) : Nat → Nat
  | 0 => 0
  | k + 1 => if less p (out.getD k zero) = true then cut out p k else k + 1
def ins (out : List P) (p : P) : List P := out.take (cut out p out.length) ++ [p] ++ out.drop (cut out p out.length)
end Go.Proofs.YtmodogmjfbcddaaGreat.Po

/- The plain mathematics of cells: which may be, their bytes, what is read, which values fit. Names no dump. -/
namespace Go.Proofs.YtmodogmjfbcddaaGreat.Ce

/-- Far, Bytes, Point -/
abbrev C := Bool × List Nat × Po.P
def zero : C := (false, [], Po.zero)
def may (c : C) : Bool := if c.1 = true then decide (c.2.1.length = 0) && Po.may c.2.2 else decide (c.2.1.length ≤ 32) && decide (c.2.2 = Po.zero)
def put (c : C) : List Nat := if c.1 = true then 1 :: Po.put c.2.2 else 0 :: (Va.one c.2.1.length ++ c.2.1)
/-- the cell that bytes begin with, how many bytes it has; 0: there is none -/
def get (bs : List Nat) : C × Nat :=
  if bs.length = 0 ∨ 1 < bs.getD 0 0 then (zero, 0)
  else if bs.getD 0 0 = 1 then
    if (Po.get (bs.drop 1)).2 = 0 then (zero, 0) else ((true, [], (Po.get (bs.drop 1)).1), (Po.get (bs.drop 1)).2 + 1)
  else if (Va.get (bs.drop 1)).2 = 0 ∨ 32 < (Va.get (bs.drop 1)).1 ∨ bs.length < 1 + (Va.get (bs.drop 1)).2 + (Va.get (bs.drop 1)).1 then (zero, 0)
  else ((false, (bs.drop (1 + (Va.get (bs.drop 1)).2)).take (Va.get (bs.drop 1)).1, Po.zero), 1 + (Va.get (bs.drop 1)).2 + (Va.get (bs.drop 1)).1)

theorem get_le (bs : List Nat) : (get bs).2 ≤ bs.length := by
  unfold get
  split
  · omega
  · next h =>
    split
    · split
      · omega
      · have := Po.get_le (bs.drop 1)
        rw [List.length_drop] at this
        simp only []; omega
    · split
      · omega
      · next h' => simp only []; omega
end Go.Proofs.YtmodogmjfbcddaaGreat.Ce

/- The plain mathematics of entries: which may be, batches, their bytes, what is read. Names no dump. -/
namespace Go.Proofs.YtmodogmjfbcddaaGreat

/-! what is read of bytes is read of longer ones too -/
namespace En
/-- Index, Term, Kind, Key, Cell -/
abbrev E := Int × Int × Int × List Nat × Ce.C
def zero : E := (0, 0, 0, [], Ce.zero)
def may (e : E) : Bool :=
  if e.1 < 1 ∨ 2147483647 < e.1 ∨ e.2.1 < 1 ∨ 2147483647 < e.2.1 ∨ Ce.may e.2.2.2.2 = false ∨ 64 < e.2.2.2.1.length then false
  else if e.2.2.1 = 0 then decide (e.2.2.2.1 = [])
  else if e.2.2.1 = 2 then decide (e.2.2.2.1 ≠ []) && decide (e.2.2.2.2 = Ce.zero)
  else decide (e.2.2.1 = 1) && decide (e.2.2.2.1 ≠ [])
/-- Indexes one behind the other, Terms that do not fall -/
def chain : List E → Bool
  | [] => true
  | [_] => true
  | a :: b :: r => decide (b.1 - 1 = a.1) && decide (a.2.1 ≤ b.2.1) && chain (b :: r)
def batch (l : List E) : Bool := l.all may && chain l && decide (1 ≤ l.length ∧ l.length ≤ 16)
def put1 (e : E) : List Nat := Va.one e.2.1.toNat ++ [e.2.2.1.toNat] ++ Va.one e.2.2.2.1.length ++ e.2.2.2.1 ++ (if e.2.2.1 = 2 then [] else Ce.put e.2.2.2.2)
def put (l : List E) : List Nat := Va.put [l.length, (l.headD zero).1.toNat] ++ l.flatMap put1
def number (bs : List Nat) (most : Nat) : Nat × Nat := if (Va.get bs).2 = 0 ∨ most < (Va.get bs).1 then (0, 0) else Va.get bs
/-- the entry that bytes begin with; how many bytes it has; 0: there is none -/
def one (bs : List Nat) (ix : Int) : E × Nat :=
  if (number bs 2147483647).2 = 0 ∨ (number bs 2147483647).2 = bs.length then (zero, 0)
  else if (number (bs.drop ((number bs 2147483647).2 + 1)) 64).2 = 0 ∨ bs.length < (number bs 2147483647).2 + 1 + (number (bs.drop ((number bs 2147483647).2 + 1)) 64).2 + (number (bs.drop ((number bs 2147483647).2 + 1)) 64).1 then (zero, 0)
  else
    if bs.getD (number bs 2147483647).2 0 = 2 then ((ix, (number bs 2147483647).1, 2, (bs.drop ((number bs 2147483647).2 + 1 + (number (bs.drop ((number bs 2147483647).2 + 1)) 64).2)).take (number (bs.drop ((number bs 2147483647).2 + 1)) 64).1, Ce.zero), (number bs 2147483647).2 + 1 + (number (bs.drop ((number bs 2147483647).2 + 1)) 64).2 + (number (bs.drop ((number bs 2147483647).2 + 1)) 64).1)
    else if (Ce.get (bs.drop ((number bs 2147483647).2 + 1 + (number (bs.drop ((number bs 2147483647).2 + 1)) 64).2 + (number (bs.drop ((number bs 2147483647).2 + 1)) 64).1))).2 = 0 then (zero, 0)
    else ((ix, (number bs 2147483647).1, bs.getD (number bs 2147483647).2 0, (bs.drop ((number bs 2147483647).2 + 1 + (number (bs.drop ((number bs 2147483647).2 + 1)) 64).2)).take (number (bs.drop ((number bs 2147483647).2 + 1)) 64).1, (Ce.get (bs.drop ((number bs 2147483647).2 + 1 + (number (bs.drop ((number bs 2147483647).2 + 1)) 64).2 + (number (bs.drop ((number bs 2147483647).2 + 1)) 64).1))).1), (number bs 2147483647).2 + 1 + (number (bs.drop ((number bs 2147483647).2 + 1)) 64).2 + (number (bs.drop ((number bs 2147483647).2 + 1)) 64).1 + (Ce.get (bs.drop ((number bs 2147483647).2 + 1 + (number (bs.drop ((number bs 2147483647).2 + 1)) 64).2 + (number (bs.drop ((number bs 2147483647).2 + 1)) 64).1))).2)
/-- n entries from the place at' on, l being got already; none: there are not so many -/
def sc : Nat → List Nat → Nat → Int → List E → Option (List E × Nat)
  | 0, _, at', _, l => some (l, at')
  | n + 1, bs, at', ix, l => if (one (bs.drop at') ix).2 = 0 then none else sc n bs (at' + (one (bs.drop at') ix).2) (ix + 1) (l ++ [(one (bs.drop at') ix).1])
/-- the entries that bytes begin with, and where they end -/
def scan (bs : List Nat) : Option (List E × Nat) :=
  if (number bs 16).2 = 0 ∨ (number (bs.drop (number bs 16).2) 2147483647).2 = 0 then none
  else sc (number bs 16).1 bs ((number bs 16).2 + (number (bs.drop (number bs 16).2) 2147483647).2) (number (bs.drop (number bs 16).2) 2147483647).1 []
/-- the batch whose bytes they are; none: there is none -/
def get (bs : List Nat) : List E :=
  match scan bs with
  | none => []
  | some (l, at') => if at' = bs.length ∧ batch l = true then l else []
/-! what is put is got -/
theorem one_pos (e : E) : 0 < (put1 e).length := by
  have := Va.one_pos e.2.1.toNat
  unfold put1; simp only [List.length_append]; omega
end En
end Go.Proofs.YtmodogmjfbcddaaGreat

/- The plain mathematics of names: which there are, which file a text names, numbers in order. Names no dump. -/
namespace Go.Proofs.YtmodogmjfbcddaaGreat.Na

/-- Kind, Num -/
abbrev F := Int × Int
/-- k digits of a number, noughts ahead -/
def dig : Nat → Nat → List Nat
  | 0, _ => []
  | k + 1, n => dig k (n / 10) ++ [48 + n % 10]
def roster : List Nat := [114, 111, 115, 116, 101, 114]
def rosterNew : List Nat := [114, 111, 115, 116, 101, 114, 46, 110, 101, 119]
/-- the letter of a kind that has numbers -/
def letter (k : Int) : Nat := if k = 3 then 118 else if k = 4 then 119 else if k = 5 then 116 else if k = 6 then 115 else 109
/-- may a file be? -/
def may (f : F) : Bool := decide (f = (1, 0) ∨ f = (2, 0) ∨ (3 ≤ f.1 ∧ f.1 ≤ 7 ∧ 1 ≤ f.2 ∧ f.2 ≤ 2147483647))
/-- a file's name; empty: there is none -/
def of (f : F) : List Nat :=
  if f = (1, 0) then roster else if f = (2, 0) then rosterNew
  else if 3 ≤ f.1 ∧ f.1 ≤ 7 ∧ 1 ≤ f.2 ∧ f.2 ≤ 2147483647 then letter f.1 :: dig 10 f.2.toNat else []
/-- the number that digits are, m being got already; -1: they are none -/
def num : Nat → List Nat → Int
  | m, [] => (m : Int)
  | m, d :: ds => if d < 48 ∨ 57 < d then -1 else num (10 * m + (d - 48)) ds
/-! order -/
/-- which of two texts is lesser -/
def lt : List Nat → List Nat → Bool
  | _, [] => false
  | [], _ :: _ => true
  | a :: as, b :: bs => decide (a < b) || (decide (a = b) && lt as bs)
end Go.Proofs.YtmodogmjfbcddaaGreat.Na

/- The plain mathematics of items in order: which there may be, putting, finding, ranges, what they weigh. Names no dump. -/
namespace Go.Proofs.YtmodogmjfbcddaaGreat.It

/-- Key, Dead, Cell -/
abbrev I := List Nat × Bool × Ce.C
def zero : I := ([], false, Ce.zero)
def may (x : I) : Bool := decide (x.1 ≠ []) && decide (x.1.length ≤ 64) && Ce.may x.2.2 && (!x.2.1 || decide (x.2.2 = Ce.zero))
/-- whether items are alike -/
def one (x y : I) : Bool := decide (x.1 = y.1) && decide (x.2.1 = y.2.1) && decide (x.2.2 = y.2.2)
theorem one_iff (x y : I) : one x y = true ↔ x = y := by
  obtain ⟨x1, x2, x3⟩ := x
  obtain ⟨y1, y2, y3⟩ := y
  simp only [one, Bool.and_eq_true, decide_eq_true_eq, Prod.mk.injEq, and_assoc]
/-- not below -/
def ge (a b : List Nat) : Bool := !Na.lt a b
def putGo (x : I) : Bool → List I → List I
  | d, [] => if d then [] else [x]
  | d, y :: l => (if d = false ∧ ge y.1 x.1 = true then [x] else []) ++ ((if y.1 = x.1 then [] else [y]) ++ putGo x (d || ge y.1 x.1) l)
/-- items with one more -/
def put (l : List I) (x : I) : List I := putGo x false l
/-- items, put one behind the other, those that may be -/
def all (l : List I) : List I := (l.filter may).foldl put []
def get : List I → List Nat → I
  | [], _ => zero
  | x :: l, k => if x.1 = k then x else get l k
def inside (lo hi : List Nat) (x : I) : Bool := ge x.1 lo && (decide (hi = []) || Na.lt x.1 hi)
def scan (l : List I) (lo hi : List Nat) (most : Int) : List I := (l.filter (inside lo hi)).take most.toNat
def after : Option (List Nat) → List Nat → Bool
  | none, _ => true
  | some k, m => Na.lt k m
def sortedGo : Option (List Nat) → List I → Bool
  | _, [] => true
  | p, x :: l => may x && after p x.1 && sortedGo (some x.1) l
def sorted (l : List I) : Bool := sortedGo none l
where
  putGo_done (x : I) : ∀ (l : List I), putGo x true l = l.filter (fun y => decide (y.1 ≠ x.1))
  | [] => by simp [putGo]
  | y :: l => by
    rw [putGo, if_neg (by simp), List.nil_append, Bool.true_or, putGo_done x l, List.filter_cons]
    by_cases h : y.1 = x.1 <;> simp [h]
theorem lt_irrefl : ∀ a : List Nat, Na.lt a a = false
  | [] => rfl
  | x :: a => by simp [Na.lt, lt_irrefl a]
theorem lt_trans : ∀ {a b c : List Nat}, Na.lt a b = true → Na.lt b c = true → Na.lt a c = true
  | _, [], _, h, _ => by cases ‹List Nat› <;> simp [Na.lt] at h
  | _, _ :: _, [], _, h => by simp [Na.lt] at h
  | [], _ :: _, _ :: _, _, _ => by simp [Na.lt]
  | x :: a, y :: b, z :: c, h1, h2 => by
    simp only [Na.lt, Bool.or_eq_true, decide_eq_true_eq, Bool.and_eq_true] at h1 h2 ⊢
    rcases h1 with h1 | ⟨rfl, h1⟩
    · rcases h2 with h2 | ⟨rfl, _⟩
      · exact .inl (by omega)
      · exact .inl h1
    · rcases h2 with h2 | ⟨rfl, h2⟩
      · exact .inl h2
      · exact .inr ⟨rfl, lt_trans h1 h2⟩
theorem lt_total : ∀ (a b : List Nat), Na.lt a b = true ∨ a = b ∨ Na.lt b a = true
  | [], [] => .inr (.inl rfl)
  | [], y :: b => .inl (by simp [Na.lt])
  | x :: a, [] => .inr (.inr (by simp [Na.lt]))
  | x :: a, y :: b => by
    simp only [Na.lt, Bool.or_eq_true, decide_eq_true_eq, Bool.and_eq_true, List.cons.injEq]
    rcases Nat.lt_trichotomy x y with h | h | h
    · exact .inl (.inl h)
    · subst h
      rcases lt_total a b with h | h | h
      · exact .inl (.inr ⟨rfl, h⟩)
      · exact .inr (.inl ⟨rfl, h⟩)
      · exact .inr (.inr (.inr ⟨rfl, h⟩))
    · exact .inr (.inr (.inl h))
/-- keys rise -/
def Up (l : List I) : Prop := l.Pairwise (fun a b => Na.lt a.1 b.1 = true)
def find : List I → List Nat → Option I
  | [], _ => none
  | x :: l, k => if x.1 = k then some x else find l k
theorem find_none : ∀ {l : List I} {k : List Nat}, (∀ x ∈ l, x.1 ≠ k) → find l k = none
  | [], _, _ => rfl
  | x :: l, k, h => by rw [find, if_neg (h x List.mem_cons_self)]; exact find_none (fun y hy => h y (List.mem_cons_of_mem _ hy))
theorem lt_ne {a b : List Nat} (h : Na.lt a b = true) : a ≠ b := fun e => by rw [e, lt_irrefl] at h; cases h
theorem lt_asymm {a b : List Nat} (h : Na.lt a b = true) : Na.lt b a = false := by
  cases h2 : Na.lt b a with
  | false => rfl
  | true => have := lt_trans h h2; rw [lt_irrefl] at this; cases this
theorem ext : ∀ {l m : List I}, Up l → Up m → (∀ k, find l k = find m k) → l = m
  | [], [], _, _, _ => rfl
  | [], y :: m, _, _, h => by have := h y.1; rw [find, find, if_pos rfl] at this; cases this
  | x :: l, [], _, _, h => by have := h x.1; rw [find, find, if_pos rfl] at this; cases this
  | x :: l, y :: m, h1, h2, h => by
    have a := List.pairwise_cons.mp h1
    have b := List.pairwise_cons.mp h2
    have hk : x.1 = y.1 := by
      rcases lt_total x.1 y.1 with hl | he | hg
      · have e := h x.1
        rw [find, if_pos rfl, find, if_neg (fun e => lt_ne hl e.symm), find_none (fun z hz e => by have := lt_trans hl (b.1 z hz); exact lt_ne this e.symm)] at e
        cases e
      · exact he
      · have e := h y.1
        rw [find, if_neg (fun e => lt_ne hg e.symm), find, if_pos rfl, find_none (fun z hz e => by have := lt_trans hg (a.1 z hz); exact lt_ne this e.symm)] at e
        cases e
    have hxy : x = y := by
      have e := h x.1
      rw [find, if_pos rfl, find, if_pos hk.symm] at e
      exact Option.some.inj e
    subst hxy
    congr 1
    refine ext a.2 b.2 (fun k => ?_)
    by_cases hs : x.1 = k
    · subst hs
      rw [find_none (fun z hz e => lt_ne (a.1 z hz) e.symm), find_none (fun z hz e => lt_ne (b.1 z hz) e.symm)]
    · have e := h k
      rw [find, if_neg hs, find, if_neg hs] at e
      exact e
end Go.Proofs.YtmodogmjfbcddaaGreat.It

/- Items in order, plainly: which may be, each key behind the one ahead; a search by halves. Names no dump. -/
namespace Go.Proofs.YtmodogmjfbcddaaGreat.It
theorem rise_at {l : List I} (h : l.Pairwise (fun a b => Na.lt a.1 b.1 = true)) {p q : Nat} (hpq : p < q) (hq : q < l.length) : Na.lt (l.getD p zero).1 (l.getD q zero).1 = true := by
  have := (List.pairwise_iff_getElem.mp h) p q (by omega) hq hpq
  simpa [show p < l.length by omega, hq] using this
/-- where a search by halves stands -/
def Srch (l : List I) (s : List Nat) (i j : Nat) : Prop := (∀ t, t < i → Na.lt (l.getD t zero).1 s = true) ∧ (∀ t, j ≤ t → t < l.length → Na.lt (l.getD t zero).1 s = false)
theorem srch_up {l : List I} {s : List Nat} {i j h : Nat} (hp : l.Pairwise (fun a b => Na.lt a.1 b.1 = true)) (hs : Srch l s i j) (hh : h < l.length) (hlt : Na.lt (l.getD h zero).1 s = true) : Srch l s (h + 1) j :=
  ⟨fun t ht => by
    rcases Nat.lt_or_ge t h with h1 | h1
    · exact lt_trans (rise_at hp h1 hh) hlt
    · obtain rfl : t = h := by omega
      exact hlt, hs.2⟩
theorem srch_down {l : List I} {s : List Nat} {i j h : Nat} (hp : l.Pairwise (fun a b => Na.lt a.1 b.1 = true)) (hs : Srch l s i j) (hlt : Na.lt (l.getD h zero).1 s = false) : Srch l s i h :=
  ⟨hs.1, fun t h1 h2 => by
    rcases Nat.lt_or_ge h t with h3 | h3
    · have h4 := rise_at hp h3 h2
      cases h5 : Na.lt (l.getD t zero).1 s with
      | false => rfl
      | true => rw [lt_trans h4 h5] at hlt; cases hlt
    · obtain rfl : t = h := by omega
      exact hlt⟩
theorem get_at : ∀ {l : List I} {i : Nat}, l.Pairwise (fun a b => Na.lt a.1 b.1 = true) → i < l.length → get l (l.getD i zero).1 = l.getD i zero
  | [], _, _, h => by simp at h
  | x :: l, 0, _, _ => by simp [get]
  | x :: l, i + 1, hp, h => by
    rw [List.pairwise_cons] at hp
    have hi' : i < l.length := by simpa using h
    have h1 := hp.1 (l.getD i zero) (by rw [show l.getD i zero = l[i] by simp [hi']]; exact List.getElem_mem _)
    rw [List.getD_cons_succ, get, if_neg (lt_ne h1)]
    exact get_at hp.2 hi'
end Go.Proofs.YtmodogmjfbcddaaGreat.It

/- The plain mathematics of trees of items: their list, putting, finding, walking through a range. Names no dump. -/
namespace Go.Proofs.YtmodogmjfbcddaaGreat.Tn
open It

inductive T where
  | e : T
  | n (l : T) (x : I) (r : T) : T
def T.list : T → List I
  | .e => []
  | .n l x r => l.list ++ x :: r.list
def below (hi : List Nat) (y : List Nat) : Bool := decide (hi = []) || Na.lt y hi
end Go.Proofs.YtmodogmjfbcddaaGreat.Tn

/- The plain mathematics of blocks: items in order as bytes, each key told by what it has alike with the one ahead. Names no dump. -/
namespace Go.Proofs.YtmodogmjfbcddaaGreat.Bl

/-- how many bytes two keys have alike -/
def alike : List Nat → List Nat → Nat
  | a :: as, b :: bs => if a = b then alike as bs + 1 else 0
  | [], _ => 0
  | _ :: _, [] => 0
def may (l : List It.I) : Bool := decide (1 ≤ l.length ∧ l.length ≤ 256) && It.sorted l
def tail1 (x : It.I) : List Nat := if x.2.1 = true then [1] else 0 :: Ce.put x.2.2
def put1 (last : List Nat) (x : It.I) : List Nat := Va.one (alike last x.1) ++ (Va.one (x.1.length - alike last x.1) ++ (x.1.drop (alike last x.1) ++ tail1 x))
def putGo : List Nat → List It.I → List Nat
  | _, [] => []
  | last, x :: l => put1 last x ++ putGo x.1 l
def put (l : List It.I) : List Nat := Va.one l.length ++ putGo [] l
/-- what stands behind the numbers: an item and how many bytes it has -/
def one (last bs : List Nat) : Option (It.I × Nat) :=
  let k := (Va.get bs).2
  let m := (Va.get (bs.drop k)).2
  let u := (Va.get bs).1
  let v := (Va.get (bs.drop k)).1
  if k = 0 ∨ m = 0 ∨ last.length < u ∨ 64 < v then none
  else if bs.length ≤ k + m + v then none
  else
    let key := last.take u ++ (bs.drop (k + m)).take v
    if bs.getD (k + m + v) 0 = 1 then some ((key, true, Ce.zero), k + m + v + 1)
    else
      let c := Ce.get (bs.drop (k + m + v + 1))
      if c.2 = 0 then none else some ((key, false, c.1), k + m + v + 1 + c.2)
def sc : Nat → List Nat → Nat → List Nat → List It.I → Option (List It.I × Nat)
  | 0, _, at', _, l => some (l, at')
  | n + 1, bs, at', last, l => match one last (bs.drop at') with | none => none | some (x, k) => sc n bs (at' + k) x.1 (l ++ [x])
def get (bs : List Nat) : List It.I :=
  if (Va.get bs).2 = 0 ∨ 256 < (Va.get bs).1 then []
  else match sc (Va.get bs).1 bs (Va.get bs).2 [] [] with
    | none => []
    | some (l, e) => if e = bs.length ∧ may l = true ∧ put l = bs then l else []

/-- what is got is just what was put -/
theorem get_ok {bs : List Nat} (h : get bs ≠ []) : may (get bs) = true ∧ put (get bs) = bs := by
  unfold get at h ⊢
  split
  · rename_i h0; rw [if_pos h0] at h; exact absurd rfl h
  · rename_i h0
    rw [if_neg h0] at h
    split
    · rename_i h1; rw [h1] at h; exact absurd rfl h
    · rename_i l e h1
      rw [h1] at h
      simp only [] at h ⊢
      split
      · rename_i h2; exact h2.2
      · rename_i h2; rw [if_neg h2] at h; exact absurd rfl h
end Go.Proofs.YtmodogmjfbcddaaGreat.Bl

/- The plain mathematics of blocks as the program reads them: each item held against its own bytes at once. Names no dump. -/
namespace Va
theorem take_add' (bs : List Nat) (a b : Nat) : bs.take (a + b) = bs.take a ++ (bs.drop a).take b := by
  rw [List.take_add]
theorem al_take : ∀ (n : Nat) (bs : List Nat) (at' : Nat) (l : List Nat), (∀ x ∈ bs, x < 256) → bs.take at' = put l → (al n bs at' l).2.2 = 0 → bs.take (al n bs at' l).2.1 = put (al n bs at' l).1
  | 0, bs, at', l, _, h, _ => h
  | n + 1, bs, at', l, hs, h, h0 => by
    by_cases hg : (get (bs.drop at')).2 = 0
    · rw [al_none hg] at h0; simp at h0
    · rw [al_some hg] at h0 ⊢
      refine al_take n bs _ _ hs ?_ h0
      rw [take_add', h, get_ok (fun x hx => hs x (List.mem_of_mem_drop hx)) hg, put_snoc]
theorem all_take {bs : List Nat} {n : Nat} (hs : ∀ x ∈ bs, x < 256) (h0 : (all bs n).2.2 = 0) : bs.take (all bs n).2.1 = put (all bs n).1 := al_take n bs 0 [] hs (by simp [put]) h0
end Va
namespace Go.Proofs.YtmodogmjfbcddaaGreat
theorem Po.get_ok {bs : List Nat} (hs : ∀ x ∈ bs, x < 256) (h : (Po.get bs).2 ≠ 0) : bs.take (Po.get bs).2 = Po.put (Po.get bs).1 := by
  unfold Po.get at h ⊢
  split
  · rename_i hc
    obtain ⟨h0, h1, h2⟩ := hc
    have ht := Va.all_take hs h0
    have hl := (Po.all_ok bs 3).2.1 h0
    simp only []
    rw [Va.take_add', ht]
    have h4s : ∀ x ∈ (bs.drop (Va.all bs 3).2.1).take 4, x < 256 := fun x hx => hs x (List.mem_of_mem_drop (List.mem_of_mem_take hx))
    have h4l : ((bs.drop (Va.all bs 3).2.1).take 4).length = 4 := by rw [List.length_take, List.length_drop]; omega
    have hle := (Fr.le4_val (Po.val4_lt h4s) h4s h4l).mpr rfl
    unfold Po.put Po.ofNums Po.nums
    simp only [Int.toNat_natCast]
    rw [hle]
    congr 1
    obtain ⟨l, hl2⟩ : ∃ l, l = (Va.all bs 3).1 := ⟨_, rfl⟩
    rw [← hl2] at hl ⊢
    match l, hl with
    | [x, y, z], _ => rfl
  · rename_i hc; rw [if_neg hc] at h; exact absurd rfl h
theorem Ce.get_ok {bs : List Nat} (hs : ∀ x ∈ bs, x < 256) (h : (Ce.get bs).2 ≠ 0) : bs.take (Ce.get bs).2 = Ce.put (Ce.get bs).1 := by
  have hd : ∀ x ∈ bs.drop 1, x < 256 := fun x hx => hs x (List.mem_of_mem_drop hx)
  unfold Ce.get at h ⊢
  split
  · rename_i hc; rw [if_pos hc] at h; exact absurd rfl h
  · rename_i hc
    rw [if_neg hc] at h
    have hl : 0 < bs.length := by omega
    have hb1 : bs.take 1 = [bs.getD 0 0] := by
      cases bs with
      | nil => simp at hl
      | cons x l => simp
    split
    · rename_i h1
      rw [if_pos h1] at h
      split
      · rename_i h2; rw [if_pos h2] at h; exact absurd rfl h
      · rename_i h2
        simp only []
        rw [Nat.add_comm, Va.take_add', hb1, h1, Po.get_ok hd h2]
        rfl
    · rename_i h1
      rw [if_neg h1] at h
      have h0 : bs.getD 0 0 = 0 := by omega
      split
      · rename_i h2; rw [if_pos h2] at h; exact absurd rfl h
      · rename_i h2
        have h3 : ¬ (Va.get (bs.drop 1)).2 = 0 := fun e => h2 (.inl e)
        have hlen : ((bs.drop (1 + (Va.get (bs.drop 1)).2)).take (Va.get (bs.drop 1)).1).length = (Va.get (bs.drop 1)).1 := by rw [List.length_take, List.length_drop]; omega
        simp only []
        rw [Va.take_add', Va.take_add', hb1, h0, Va.get_ok hd h3]
        unfold Ce.put
        simp only [Bool.false_eq_true, if_false, hlen]
        rfl

namespace Bl
end Bl
end Go.Proofs.YtmodogmjfbcddaaGreat

/- The plain mathematics of sieves: a key's bits, the sieve of keys, whether a key is in it. Names no dump. -/
namespace Go.Proofs.YtmodogmjfbcddaaGreat.Sv

def odd (e : Nat) : Nat := if e % 2 = 0 then e + 1 else e
def turnd (h : Nat) : Nat := odd (h * 131072 % 4294967296 + h / 32768)
def bit (n h i : Nat) : Nat := (h + i * turnd h) % 4294967296 % (8 * n)
def sum (key : List Nat) : Nat := Crc.more 0 key
/-- a key's bits in a sieve of n bytes -/
def bits (n : Nat) (key : List Nat) : List Nat := (List.range 6).map (bit n (sum key))
/-- whether a bit is set in the sieve of keys -/
def set (keys : List (List Nat)) (n b : Nat) : Bool := keys.any fun k => decide (b ∈ bits n k)
def byteGo (f : Nat → Bool) : Nat → Nat → Nat
  | 0, v => v
  | k + 1, v => byteGo f k (v * 2 + if f k = true then 1 else 0)
def byte (keys : List (List Nat)) (n i : Nat) : Nat := byteGo (fun k => set keys n (8 * i + k)) 8 0
def size (m : Nat) : Nat := m + m / 10 + 1
/-- the sieve of keys -/
def of (keys : List (List Nat)) : List Nat := (List.range (size keys.length)).map (byte keys (size keys.length))
def isSet (b : List Nat) (j : Nat) : Bool := decide (b.getD (j / 8) 0 / 2 ^ (j % 8) % 2 = 1)
/-- whether bytes have a key -/
def has (b : List Nat) (key : List Nat) : Bool := if b.length = 0 ∨ 1048576 < b.length then true else (bits b.length key).all (isSet b)

end Go.Proofs.YtmodogmjfbcddaaGreat.Sv

/- The plain mathematics of tables: items in order, parted, as frames; what is made is opened. Names no dump. -/
namespace Go.Proofs.YtmodogmjfbcddaaGreat.Tb

def joined (ps : List (List It.I)) : List It.I := ps.flatten
/-- a part's frame -/
def frame (p : List It.I) : Fr.F := (1, Bl.put p)
def firstKey (p : List It.I) : List Nat := (p.getD 0 It.zero).1
/-- where the parts begin -/
def ix : Nat → List (List It.I) → List Nat
  | _, [] => []
  | at', p :: ps => Va.one (firstKey p).length ++ (firstKey p ++ (Va.one (at' + (Fr.one (frame p)).length - 4 - (Bl.put p).length) ++ ix (at' + (Fr.one (frame p)).length) ps))
def tail (ps : List (List It.I)) : List Fr.F := [(2, ix 0 ps), (3, Sv.of ((joined ps).map (fun x => x.1))), (4, Va.one (joined ps).length)]
def frames (ps : List (List It.I)) : List Fr.F := ps.map frame ++ tail ps
/-- a table's bytes -/
def put (ps : List (List It.I)) : List Nat := Fr.all (frames ps)
/-- the parts of the first frames -/
def lead : List Fr.F → List (List It.I) → Option (List (List It.I))
  | [], acc => some acc
  | f :: fs, acc => if f.1 = 1 then (if Bl.get f.2 = [] then none else lead fs (acc ++ [Bl.get f.2])) else some acc
def get (bs : List Nat) : List It.I := match lead (Fr.scan bs).1 [] with
  | none => []
  | some ps => if (joined ps).length < 1 ∨ 16384 < (joined ps).length ∨ It.sorted (joined ps) = false ∨ put ps ≠ bs then [] else joined ps

end Go.Proofs.YtmodogmjfbcddaaGreat.Tb
