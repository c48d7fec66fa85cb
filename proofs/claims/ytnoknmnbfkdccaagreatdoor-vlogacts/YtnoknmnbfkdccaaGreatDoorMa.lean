/- The plain mathematics of numbers as few bytes: what is put, what is got, how many bytes, folding. Names no dump. -/
import Derived.Lib.BitFns
import Derived.Laws.BitsAllLaws
import Derived.WalkKit
namespace Va

/-- a number's bytes -/
def one (u : Nat) : List Nat := if h : u < 128 then [u] else (u % 128 + 128) :: one (u / 128)
termination_by u
decreasing_by omega

theorem one_lo {u : Nat} (h : u < 128) : one u = [u] := by rw [one, dif_pos h]
theorem one_hi {u : Nat} (h : ¬ u < 128) : one u = (u % 128 + 128) :: one (u / 128) := by rw [one, dif_neg h]

/-- numbers' bytes -/
def put (l : List Nat) : List Nat := l.flatMap one
theorem put_snoc (l : List Nat) (u : Nat) : put (l ++ [u]) = put l ++ one u := by simp [put]
theorem put_one (u : Nat) : put [u] = one u := by simp [put]

theorem one_small (u : Nat) : ∀ x ∈ one u, x < 256 := by
  induction u using one.induct with
  | case1 u h => rw [one_lo h]; intro x hx; simp at hx; omega
  | case2 u h ih =>
    rw [one_hi h]; intro x hx
    rcases List.mem_cons.mp hx with rfl | hx
    · omega
    · exact ih x hx
theorem put_small (l : List Nat) : ∀ x ∈ put l, x < 256 := by
  intro x hx
  simp only [put, List.mem_flatMap] at hx
  obtain ⟨u, _, hu⟩ := hx
  exact one_small u x hu
theorem one_pos (u : Nat) : 0 < (one u).length := by
  by_cases h : u < 128
  · rw [one_lo h]; simp
  · rw [one_hi h]; simp
theorem one_len : ∀ (k u : Nat), u < 128 ^ k → 0 < k → (one u).length ≤ k := by
  intro k
  induction k with
  | zero => intro u _ h; omega
  | succ k ih =>
    intro u hu _
    by_cases h : u < 128
    · rw [one_lo h]; simp
    · rw [one_hi h, List.length_cons]
      have hk : 0 < k := by
        rcases Nat.eq_zero_or_pos k with rfl | h'
        · simp at hu; omega
        · exact h'
      have : u / 128 < 128 ^ k := by rw [Nat.pow_succ] at hu; omega
      have := ih _ this hk
      omega
theorem one_len10 {u : Nat} (h : u < 18446744073709551616) : (one u).length ≤ 10 := one_len 10 u (by omega) (by omega)
theorem put_len : ∀ (l : List Nat), (∀ u ∈ l, u < 18446744073709551616) → (put l).length ≤ 10 * l.length := by
  intro l
  induction l with
  | nil => intro _; simp [put]
  | cons u l ih =>
    intro h
    have h1 := one_len10 (h u (by simp))
    have h2 := ih (fun x hx => h x (by simp [hx]))
    simp only [put, List.flatMap_cons, List.length_append, List.length_cons] at *
    omega

/-! how many bytes -/
theorem or_one (x : Nat) : x ||| 1 = x + (1 - x % 2) := by
  have h2 : (x / 2 * 2) ||| 1 = x / 2 * 2 + 1 := Go.nat_join 1 _ _ (by omega) (by decide)
  rcases Nat.mod_two_eq_zero_or_one x with h | h
  · have e : x / 2 * 2 = x := by omega
    rw [e] at h2; omega
  · have e : x = x / 2 * 2 + 1 := by omega
    have h3 : x ||| 1 = (x / 2 * 2 ||| 1) ||| 1 := by rw [h2, ← e]
    rw [h3, Nat.or_assoc, Nat.or_self, h2]; omega
theorem bitLen_or {x : Nat} (h0 : 0 < x) (h : x < 2 ^ 64) : Go.Lib.bitLen (x ||| 1) = Go.Lib.bitLen x := by
  have hb : x ||| 1 < 2 ^ 64 := Nat.or_lt_two_pow h (by decide)
  rw [Go.Lib.bitLen_half _ (by rw [or_one]; omega) hb, Go.Lib.bitLen_half x (by omega) h]
  rw [or_one]
  congr 2; omega
theorem bitLen_small : ∀ n : Fin 128, Go.Lib.bitLen (n.val ||| 1) ≤ 7 ∧ 1 ≤ Go.Lib.bitLen (n.val ||| 1) := by decide +kernel
/-- how many bytes a number has, as the program counts -/
def size (u : Nat) : Nat := (Go.Lib.bitLen (u ||| 1) + 6) / 7
theorem size_one (u : Nat) (h : u < 2 ^ 64) : size u = (one u).length := by
  induction u using one.induct with
  | case1 u h' =>
    rw [one_lo h']
    have := bitLen_small ⟨u, h'⟩
    unfold size; simp at this ⊢; omega
  | case2 u h' ih =>
    rw [one_hi h', List.length_cons, ← ih (by omega)]
    unfold size
    rw [bitLen_or (by omega) h, Go.Lib.bitLen_shift 7 u (by omega) h, bitLen_or (by omega) (by omega)]
    show (7 + Go.Lib.bitLen (u / 128) + 6) / 7 = _
    omega
theorem bitLen_le {u : Nat} (h : u < 2 ^ 64) : Go.Lib.bitLen (u ||| 1) ≤ 70 := by
  have h1 := size_one u h
  have h2 := one_len10 (u := u) (by omega)
  unfold size at h1
  omega

/-! the number that groups are -/
def val : List Nat → Nat
  | [] => 0
  | x :: r => x % 128 + 128 * val r
theorem val_append (a b : List Nat) : val (a ++ b) = val a + 128 ^ a.length * val b := by
  induction a with
  | nil => simp [val]
  | cons x a ih => rw [List.cons_append, val, val, ih, List.length_cons, Nat.pow_succ, Nat.mul_add, ← Nat.mul_assoc, Nat.mul_comm (128 ^ _) 128]; omega
theorem val_snoc (a : List Nat) (x : Nat) : val (a ++ [x]) = val a + 128 ^ a.length * (x % 128) := by
  rw [val_append]; simp [val]
theorem val_lt (a : List Nat) : val a < 128 ^ a.length := by
  induction a with
  | nil => simp [val]
  | cons x a ih => rw [val, List.length_cons, Nat.pow_succ]; omega
theorem val_one (u : Nat) : val (one u) = u := by
  induction u using one.induct with
  | case1 u h => rw [one_lo h]; simp [val]; omega
  | case2 u h ih => rw [one_hi h, val, ih]; omega

/-- bytes of which all but the last say that one is behind, the last is not 0 (but alone) -/
theorem one_val : ∀ (a : List Nat) (x : Nat), (∀ y ∈ a, 128 ≤ y ∧ y < 256) → x < 128 → (a = [] ∨ x ≠ 0) → one (val (a ++ [x])) = a ++ [x] := by
  intro a
  induction a with
  | nil => intro x _ hx _; simp [val, Nat.mod_eq_of_lt hx, one_lo hx]
  | cons y a ih =>
    intro x ha hx h0
    have hx0 : x ≠ 0 := by rcases h0 with h | h; · cases h
                           · exact h
    obtain ⟨hy1, hy2⟩ := ha y (by simp)
    have hv : 0 < val (a ++ [x]) := by
      rw [val_snoc, Nat.mod_eq_of_lt hx]
      have := Nat.mul_pos (Nat.pow_pos (n := a.length) (show 0 < 128 by omega)) (Nat.pos_of_ne_zero hx0)
      omega
    rw [List.cons_append, val, one_hi (by omega), show (y % 128 + 128 * val (a ++ [x])) / 128 = val (a ++ [x]) by omega, ih x (fun z hz => ha z (by simp [hz])) hx (.inr hx0)]
    congr 1; omega

theorem one_last : ∀ (u : Nat) (a : List Nat) (x : Nat), one u = a ++ [x] → x < 128 ∧ (a = [] ∨ x ≠ 0) ∧ ∀ y ∈ a, 128 ≤ y := by
  intro u
  induction u using one.induct with
  | case1 u h =>
    intro a x e
    rw [one_lo h] at e
    cases a with
    | nil => simp at e; subst e; exact ⟨h, .inl rfl, by simp⟩
    | cons y a => simp at e
  | case2 u h ih =>
    intro a x e
    rw [one_hi h] at e
    cases a with
    | nil =>
      simp only [List.nil_append, List.cons.injEq] at e
      have := one_pos (u / 128); rw [e.2] at this; simp at this
    | cons y a =>
      simp only [List.cons_append, List.cons.injEq] at e
      obtain ⟨h1, h2, h3⟩ := ih a x e.2
      refine ⟨h1, .inr ?_, ?_⟩
      · rcases h2 with h2 | h2
        · subst h2
          intro h0; subst h0
          have hv := val_one (u / 128)
          rw [e.2] at hv; simp [val] at hv; omega
        · exact h2
      · intro z hz
        rcases List.mem_cons.mp hz with rfl | hz
        · omega
        · exact h3 z hz

/-! what is got -/
/-- from the place i on, acc being the number of the groups ahead -/
def lp (i acc : Nat) : List Nat → Nat × Nat
  | [] => (0, 0)
  | x :: r => if i = 9 ∧ 1 < x then (0, 0) else if 0 < i ∧ x = 0 then (0, 0) else if x < 128 then (acc + 128 ^ i * (x % 128), i + 1) else lp (i + 1) (acc + 128 ^ i * (x % 128)) r
def get (bs : List Nat) : Nat × Nat := lp 0 0 bs

theorem drop_get (bs : List Nat) (k : Nat) (h : k < bs.length) : bs.drop k = bs.getD k 0 :: bs.drop (k + 1) := by
  rw [List.drop_eq_getElem_cons h]; simp [h]
theorem take_snoc (bs : List Nat) (k : Nat) (h : k < bs.length) : bs.take (k + 1) = bs.take k ++ [bs.getD k 0] := by
  rw [List.take_succ_eq_append_getElem h]; simp [h]

theorem lp_high {bs : List Nat} {k : Nat} : k ≤ 9 → k ≤ bs.length → (∀ j, j < k → 128 ≤ bs.getD j 0) → get bs = lp k (val (bs.take k)) (bs.drop k) := by
  induction k with
  | zero => intro _ _ _; simp [get, val]
  | succ k ih =>
    intro hk hl hh
    rw [ih (by omega) (by omega) (fun j hj => hh j (by omega)), drop_get bs k (by omega), lp]
    have := hh k (by omega)
    rw [if_neg (by omega), if_neg (by omega), if_neg (by omega), take_snoc bs k (by omega), val_snoc, List.length_take, Nat.min_eq_left (by omega)]
theorem get_end {bs : List Nat} {k : Nat} (hk : k ≤ 10) (hl : k ≤ bs.length) (he : k = bs.length ∨ k = 10) (hh : ∀ j, j < k → 128 ≤ bs.getD j 0) : get bs = (0, 0) := by
  by_cases h10 : k = 10
  · subst h10
    rw [lp_high (k := 9) (by omega) (by omega) (fun j hj => hh j (by omega)), drop_get bs 9 (by omega), lp]
    have := hh 9 (by omega)
    rw [if_pos (by omega)]
  · have e : k = bs.length := by omega
    rw [lp_high (k := k) (by omega) (by omega) hh, List.drop_of_length_le (by omega), lp]
theorem get_at {bs : List Nat} {k : Nat} (hs : ∀ x ∈ bs, x < 256) (hk : k ≤ 9) (hl : k < bs.length) (hh : ∀ j, j < k → 128 ≤ bs.getD j 0) (hx : bs.getD k 0 < 128) :
    get bs = if one (val (bs.take (k + 1)) % 18446744073709551616) = bs.take (k + 1) then (val (bs.take (k + 1)) % 18446744073709551616, k + 1) else (0, 0) := by
  rw [lp_high (k := k) hk (by omega) hh, drop_get bs k hl, lp]
  have ht : ∀ y ∈ bs.take k, 128 ≤ y ∧ y < 256 := by
    intro y hy
    refine ⟨?_, hs y (List.mem_of_mem_take hy)⟩
    obtain ⟨j, hj, e⟩ := List.mem_iff_getElem.mp hy
    rw [List.length_take] at hj
    have := hh j (by omega)
    rw [List.getD_eq_getElem?_getD, List.getElem?_eq_getElem (by omega)] at this
    rw [List.getElem_take] at e
    rw [← e]; simpa using this
  have hlt : (bs.take k).length = k := by rw [List.length_take]; omega
  have hts := take_snoc bs k hl
  have hval := val_snoc (bs.take k) (bs.getD k 0)
  rw [← hts, hlt] at hval
  generalize bs.getD k 0 = x at *
  by_cases h9 : k = 9 ∧ 1 < x
  · rw [if_pos h9, if_neg]
    intro e
    have hv := val_one (val (bs.take (k + 1)) % 18446744073709551616)
    rw [e] at hv
    have h128 : (128 : Nat) ^ k = 9223372036854775808 := by rw [h9.1]
    rw [hval, h128] at hv
    have := Nat.mod_lt (val (bs.take k) + 9223372036854775808 * (x % 128)) (show 0 < 18446744073709551616 by omega)
    omega
  · rw [if_neg h9]
    by_cases h0 : 0 < k ∧ x = 0
    · rw [if_pos h0, if_neg]
      intro e
      rw [hts] at e
      have := (one_last _ _ _ e).2.1
      rcases this with h | h
      · rw [h] at hlt; simp at hlt; omega
      · exact h h0.2
    · rw [if_neg h0, if_pos hx, ← hval]
      have hc : one (val (bs.take (k + 1))) = bs.take (k + 1) := by
        rw [hts]
        refine one_val _ _ ht hx ?_
        by_cases hk0 : k = 0
        · left; rw [hk0]; rfl
        · right; omega
      have hlt64 : val (bs.take (k + 1)) < 18446744073709551616 := by
        by_cases hk9 : k = 9
        · have h1 := val_lt (bs.take k)
          have h128 : (128 : Nat) ^ k = 9223372036854775808 := by rw [hk9]
          rw [hlt, h128] at h1
          rw [hval, h128]
          have : x % 128 ≤ 1 := by omega
          omega
        · have h1 := val_lt (bs.take (k + 1))
          rw [List.length_take, Nat.min_eq_left (by omega)] at h1
          have : (128 : Nat) ^ (k + 1) ≤ 128 ^ 9 := Nat.pow_le_pow_right (by omega) (by omega)
          have : (128 : Nat) ^ 9 < 18446744073709551616 := by decide
          omega
      rw [Nat.mod_eq_of_lt hlt64, if_pos hc]

theorem get_le {bs : List Nat} : (get bs).2 ≤ bs.length := by
  suffices h : ∀ (r : List Nat) (i acc : Nat), (lp i acc r).2 ≤ i + r.length by simpa [get] using h bs 0 0
  intro r
  induction r with
  | nil => intro i acc; simp [lp]
  | cons x r ih =>
    intro i acc
    rw [lp]
    split
    · simp
    · split
      · simp
      · split
        · simp
        · have := ih (i + 1) (acc + 128 ^ i * (x % 128)); simp at this ⊢; omega

theorem get_one {u : Nat} (h : u < 18446744073709551616) (r : List Nat) (hr : ∀ x ∈ r, x < 256) : get (one u ++ r) = (u, (one u).length) := by
  obtain ⟨a, x, e⟩ : ∃ a x, one u = a ++ [x] := by
    have := one_pos u
    exact ⟨(one u).dropLast, (one u).getLast (by intro h; rw [h] at this; simp at this), (List.dropLast_concat_getLast _).symm⟩
  obtain ⟨hx, _, ha⟩ := one_last u a x e
  have hlen : (one u).length = a.length + 1 := by rw [e]; simp
  have h10 := one_len10 h
  have hsm : ∀ y ∈ one u ++ r, y < 256 := by
    intro y hy
    rcases List.mem_append.mp hy with h | h
    · exact one_small u y h
    · exact hr y h
  have hg : ∀ j, j < a.length → 128 ≤ (one u ++ r).getD j 0 := by
    intro j hj
    have : (one u ++ r).getD j 0 = a[j] := by
      rw [e, List.append_assoc, List.getD_eq_getElem?_getD, List.getElem?_append_left hj, List.getElem?_eq_getElem hj]; rfl
    rw [this]; exact ha _ (List.getElem_mem hj)
  have hgx : (one u ++ r).getD a.length 0 = x := by
    rw [e, List.append_assoc, List.getD_eq_getElem?_getD, List.getElem?_append_right (Nat.le_refl _)]; simp
  have ht : (one u ++ r).take (a.length + 1) = one u := by rw [← hlen, List.take_left]
  have := get_at (k := a.length) hsm (by omega) (by rw [List.length_append]; omega) hg (by rw [hgx]; exact hx)
  rw [this, ht, val_one, Nat.mod_eq_of_lt h, if_pos rfl, hlen]

theorem lp_lt : ∀ (r : List Nat) (i acc : Nat), i ≤ 9 → acc < 128 ^ i → (lp i acc r).1 < 18446744073709551616 := by
  intro r
  induction r with
  | nil => intro i acc _ _; simp [lp]
  | cons x r ih =>
    intro i acc hi ha
    rw [lp]
    by_cases h9 : i = 9
    · subst h9
      split
      · simp
      · split
        · simp
        · have hx : x % 128 ≤ 1 := by omega
          rw [if_pos (by omega)]
          have : (128 : Nat) ^ 9 = 9223372036854775808 := by decide
          simp only [this] at *
          omega
    · have h1 : acc + 128 ^ i * (x % 128) < 128 ^ (i + 1) := by
        rw [Nat.pow_succ]
        have : 128 ^ i * (x % 128) ≤ 128 ^ i * 127 := Nat.mul_le_mul_left _ (by omega)
        omega
      have h2 : (128 : Nat) ^ (i + 1) ≤ 128 ^ 9 := Nat.pow_le_pow_right (by omega) (by omega)
      have h3 : (128 : Nat) ^ 9 < 18446744073709551616 := by decide
      split
      · simp
      · split
        · simp
        · split
          · show acc + 128 ^ i * (x % 128) < _; omega
          · exact ih _ _ (by omega) h1
theorem get_lt (bs : List Nat) : (get bs).1 < 18446744073709551616 := lp_lt bs 0 0 (by omega) (by simp)

/-- the first n numbers from the place at' on, l being got already: the numbers, the place, the code -/
def al : Nat → List Nat → Nat → List Nat → List Nat × Nat × Nat
  | 0, _, at', l => (l, at', 0)
  | n + 1, bs, at', l => if (get (bs.drop at')).2 = 0 then ([], at', 2) else al n bs (at' + (get (bs.drop at')).2) (l ++ [(get (bs.drop at')).1])
def all (bs : List Nat) (n : Nat) : List Nat × Nat × Nat := al n bs 0 []
theorem al_none {n : Nat} {bs : List Nat} {at' : Nat} {l : List Nat} (h : (get (bs.drop at')).2 = 0) : al (n + 1) bs at' l = ([], at', 2) := by rw [al, if_pos h]
theorem al_some {n : Nat} {bs : List Nat} {at' : Nat} {l : List Nat} (h : ¬ (get (bs.drop at')).2 = 0) : al (n + 1) bs at' l = al n bs (at' + (get (bs.drop at')).2) (l ++ [(get (bs.drop at')).1]) := by rw [al, if_neg h]
/-! folding -/
def unfold (u : Nat) : Int := if u % 2 = 0 then ((u / 2 : Nat) : Int) else -((u / 2 : Nat) : Int) - 1
end Va

/- The plain mathematics of the sum of bytes (registers as natural numbers): a bit's step, a byte's steps, that they are linear, and that one step of nothing loses nothing. No word of the program. -/
namespace Go.Proofs.YtnoknmnbfkdccaaGreatDoor.Crc

/-- the register, moved on by a bit 0 -/
def lin (r : Nat) : Nat := if r % 2 = 1 then (r / 2) ^^^ 2197175160 else r / 2
/-- the register behind the bit b -/
def stp (r b : Nat) : Nat := if r % 2 ≠ b then (r / 2) ^^^ 2197175160 else r / 2
/-- k times lin -/
def lins : Nat → Nat → Nat
  | 0, r => r
  | k + 1, r => lin (lins k r)
/-- bit i of n -/
def bt (n i : Nat) : Nat := n / 2 ^ i % 2
/-- k bits of x, from the lowest on -/
def stps : Nat → Nat → Nat → Nat
  | 0, r, _ => r
  | k + 1, r, x => stp (stps k r x) (bt x k)
/-- the register behind a byte -/
def tk (r x : Nat) : Nat := lins 8 (r ^^^ x)
/-- the register behind bytes -/
def run (r : Nat) (bs : List Nat) : Nat := bs.foldl tk r
/-- the sum of bytes behind others whose sum is s -/
def more (s : Nat) (bs : List Nat) : Nat := run (s ^^^ 4294967295) bs ^^^ 4294967295

theorem bt_lt (n i : Nat) : bt n i < 2 := Nat.mod_lt _ (by omega)
theorem xor_half (a b : Nat) : (a ^^^ b) / 2 = (a / 2) ^^^ (b / 2) := by
  apply Nat.eq_of_testBit_eq; intro i; simp [Nat.testBit_div_two]
theorem xor_low (a b : Nat) : (a ^^^ b) % 2 = (a + b) % 2 := by
  have h := Nat.testBit_xor a b 0
  simp only [Nat.testBit_zero] at h
  have e : (a + b) % 2 = (a % 2 + b % 2) % 2 := Nat.add_mod a b 2
  rw [e]
  generalize a ^^^ b = c at *
  rcases Nat.mod_two_eq_zero_or_one a with h1 | h1 <;> rcases Nat.mod_two_eq_zero_or_one b with h2 | h2 <;> rcases Nat.mod_two_eq_zero_or_one c with h3 | h3 <;> rw [h1, h2, h3] at h <;> simp [h1, h2, h3] <;> simp at h
theorem lin_lt {r : Nat} (h : r < 4294967296) : lin r < 4294967296 := by
  unfold lin; split
  · exact Nat.xor_lt_two_pow (n := 32) (by omega) (by omega)
  · omega
theorem stp_lt {r : Nat} (b : Nat) (h : r < 4294967296) : stp r b < 4294967296 := by
  unfold stp; split
  · exact Nat.xor_lt_two_pow (n := 32) (by omega) (by omega)
  · omega
theorem xor_lt {a b : Nat} (h : a < 4294967296) (h' : b < 4294967296) : a ^^^ b < 4294967296 :=
  Nat.xor_lt_two_pow (n := 32) (by omega) (by omega)
theorem lins_lt {r : Nat} (k : Nat) (h : r < 4294967296) : lins k r < 4294967296 := by
  induction k with
  | zero => exact h
  | succ k ih => exact lin_lt ih
theorem stps_lt {r : Nat} (k x : Nat) (h : r < 4294967296) : stps k r x < 4294967296 := by
  induction k with
  | zero => exact h
  | succ k ih => exact stp_lt _ ih
theorem tk_lt {r x : Nat} (h : r < 4294967296) (hx : x < 256) : tk r x < 4294967296 :=
  lins_lt 8 (xor_lt h (by omega))
theorem run_lt {r : Nat} (bs : List Nat) (h : r < 4294967296) (hb : ∀ n ∈ bs, n < 256) : run r bs < 4294967296 := by
  induction bs generalizing r with
  | nil => exact h
  | cons x l ih => exact ih (tk_lt h (hb x (by simp))) (fun n hn => hb n (by simp [hn]))
theorem more_lt {s : Nat} (bs : List Nat) (h : s < 4294967296) (hb : ∀ n ∈ bs, n < 256) : more s bs < 4294967296 :=
  xor_lt (run_lt bs (xor_lt h (by omega)) hb) (by omega)
/-- a bit laid on, with others above it -/
theorem lin_xor (s y : Nat) : lin (s ^^^ y) = stp s (y % 2) ^^^ (y / 2) := by
  unfold lin stp
  rw [xor_half, xor_low]
  by_cases h : s % 2 = y % 2
  · rw [if_neg (by omega), if_neg (by omega)]
  · rw [if_pos (by omega), if_pos h]
    rw [Nat.xor_assoc, Nat.xor_assoc, Nat.xor_comm (y / 2)]
theorem div_pow_succ (x k : Nat) : x / 2 ^ k / 2 = x / 2 ^ (k + 1) := by
  rw [Nat.div_div_eq_div_mul, Nat.pow_succ]
/-- all bits laid on at once -/
theorem lins_stps (k r x : Nat) : lins k (r ^^^ x) = stps k r x ^^^ (x / 2 ^ k) := by
  induction k with
  | zero => simp [lins, stps]
  | succ k ih => rw [lins, ih, lin_xor, stps, div_pow_succ]; rfl
theorem tk_stps (r x : Nat) (hx : x < 256) : tk r x = stps 8 r x := by
  unfold tk; rw [lins_stps, Nat.div_eq_of_lt (by omega), Nat.xor_zero]
theorem run_snoc (r : Nat) (a : List Nat) (x : Nat) : run r (a ++ [x]) = tk (run r a) x := by simp [run]
theorem known : more 0 [49, 50, 51, 52, 53, 54, 55, 56, 57] = 3808858755 := by decide +kernel
end Go.Proofs.YtnoknmnbfkdccaaGreatDoor.Crc

/- The plain mathematics of frames: their bytes, what is read, what is scanned, cuts and joins. Names no dump. -/
namespace Go.Proofs.YtnoknmnbfkdccaaGreatDoor.Fr

abbrev F := Int × List Nat
def may (f : F) : Bool := decide (1 ≤ f.1 ∧ f.1 ≤ 250 ∧ f.2.length ≤ 1048576)
theorem may_iff (f : F) : may f = true ↔ 1 ≤ f.1 ∧ f.1 ≤ 250 ∧ f.2.length ≤ 1048576 := by simp [may]
def le4 (s : Nat) : List Nat := [s % 256, s / 256 % 256, s / 65536 % 256, s / 16777216 % 256]
/-- a frame's bytes -/
def put1 (k : Nat) (b : List Nat) : List Nat := Va.one b.length ++ (k :: (b ++ le4 (Crc.more 0 (k :: b))))
def one (f : F) : List Nat := put1 f.1.toNat f.2
def all (l : List F) : List Nat := l.flatMap one
def size (n : Nat) : Nat := (Va.one n).length + 1 + n + 4

theorem le4_len (s : Nat) : (le4 s).length = 4 := rfl
theorem le4_small (s : Nat) : ∀ x ∈ le4 s, x < 256 := by
  intro x hx; simp [le4] at hx; omega
theorem put1_len (k : Nat) (b : List Nat) : (put1 k b).length = size b.length := by
  simp [put1, size, le4_len]; omega
theorem one_len (f : F) : (one f).length = size f.2.length := put1_len _ _
theorem put1_small {k : Nat} {b : List Nat} (hk : k < 256) (hb : ∀ x ∈ b, x < 256) : ∀ x ∈ put1 k b, x < 256 := by
  intro x hx
  simp only [put1, List.mem_append, List.mem_cons] at hx
  rcases hx with h | h | h | h
  · exact Va.one_small _ x h
  · omega
  · exact hb x h
  · exact le4_small _ x h
theorem one3 {n : Nat} (h : n ≤ 1048576) : (Va.one n).length ≤ 3 := Va.one_len 3 n (by omega) (by omega)
theorem size_ge (n : Nat) : 6 ≤ size n := by have := Va.one_pos n; unfold size; omega
theorem size_le {n : Nat} (h : n ≤ 1048576) : size n ≤ n + 8 := by have := one3 h; unfold size; omega

/-- b ends within the number -/
def gapHead (bs : List Nat) : Bool := decide (bs.length < 3) && bs.all (fun x => decide (128 ≤ x))
/-- the frame that bytes begin with, how many bytes it has, the code -/
def first (bs : List Nat) : F × Nat × Nat :=
  if gapHead bs = true then ((0, []), 0, 5)
  else if (Va.get bs).2 = 0 ∨ 1048576 < (Va.get bs).1 then ((0, []), 0, 2)
  else if (Va.get bs).2 = bs.length then ((0, []), 0, 5)
  else if bs.getD (Va.get bs).2 0 < 1 ∨ 250 < bs.getD (Va.get bs).2 0 then ((0, []), 0, 2)
  else if bs.length < (Va.get bs).2 + 1 + (Va.get bs).1 + 4 then ((0, []), 0, 5)
  else if put1 (bs.getD (Va.get bs).2 0) ((bs.drop ((Va.get bs).2 + 1)).take (Va.get bs).1) = bs.take ((Va.get bs).2 + 1 + (Va.get bs).1 + 4)
    then (((bs.getD (Va.get bs).2 0 : Nat), (bs.drop ((Va.get bs).2 + 1)).take (Va.get bs).1), (Va.get bs).2 + 1 + (Va.get bs).1 + 4, 0)
    else ((0, []), 0, 2)

theorem first_put {k : Nat} {b : List Nat} (hk1 : 1 ≤ k) (hk2 : k ≤ 250) (hb : b.length ≤ 1048576) (hbs : ∀ x ∈ b, x < 256) (r : List Nat) (hr : ∀ x ∈ r, x < 256) :
    first (put1 k b ++ r) = (((k : Int), b), size b.length, 0) := by
  have ho := Va.one_pos b.length
  have hlen : (put1 k b ++ r).length = size b.length + r.length := by rw [List.length_append, put1_len]
  have hs6 := size_ge b.length
  have hg : Va.get (put1 k b ++ r) = (b.length, (Va.one b.length).length) := by
    have : put1 k b ++ r = Va.one b.length ++ (k :: (b ++ le4 (Crc.more 0 (k :: b))) ++ r) := by simp [put1]
    rw [this]
    refine Va.get_one (by omega) _ ?_
    intro x hx
    rcases List.mem_append.mp hx with h | h
    · rcases List.mem_cons.mp h with rfl | h
      · omega
      · rcases List.mem_append.mp h with h | h
        · exact hbs x h
        · exact le4_small _ x h
    · exact hr x h
  have hgap : gapHead (put1 k b ++ r) = false := by
    unfold gapHead
    rw [hlen]
    have : decide (size b.length + r.length < 3) = false := by simp; omega
    rw [this]; rfl
  have hat : (put1 k b ++ r).getD (Va.one b.length).length 0 = k := by
    rw [put1, List.append_assoc, List.getD_eq_getElem?_getD, List.getElem?_append_right (Nat.le_refl _)]; simp
  have hdrop : ((put1 k b ++ r).drop ((Va.one b.length).length + 1)).take b.length = b := by
    have : put1 k b ++ r = (Va.one b.length ++ [k]) ++ (b ++ (le4 (Crc.more 0 (k :: b)) ++ r)) := by simp [put1]
    rw [this, show (Va.one b.length).length + 1 = (Va.one b.length ++ [k]).length by simp, List.drop_left, List.take_left]
  have htake : (put1 k b ++ r).take (size b.length) = put1 k b := by rw [← put1_len k b, List.take_left]
  have hsz : (Va.one b.length).length + 1 + b.length + 4 = size b.length := rfl
  unfold first
  rw [hg]
  simp only []
  rw [hgap, if_neg (by simp), if_neg (by omega), if_neg (by rw [hlen]; unfold size; omega), hat, if_neg (by omega), hsz, if_neg (by rw [hlen]; omega), hdrop, htake, if_pos rfl]

theorem first_cut {k : Nat} {b : List Nat} (hk1 : 1 ≤ k) (hk2 : k ≤ 250) (hb : b.length ≤ 1048576) (hbs : ∀ x ∈ b, x < 256) (j : Nat) (hj : j < size b.length) :
    first ((put1 k b).take j) = ((0, []), 0, 5) := by
  have ho := Va.one_pos b.length
  have ho3 := one3 hb
  have hlen : ((put1 k b).take j).length = j := by rw [List.length_take, put1_len]; omega
  by_cases hgap : gapHead ((put1 k b).take j) = true
  · unfold first; rw [if_pos hgap]
  · by_cases hjo : j < (Va.one b.length).length
    · exfalso
      apply hgap
      obtain ⟨a, x, e⟩ : ∃ a x, Va.one b.length = a ++ [x] :=
        ⟨(Va.one b.length).dropLast, (Va.one b.length).getLast (by intro h; rw [h] at ho; simp at ho), (List.dropLast_concat_getLast _).symm⟩
      obtain ⟨_, _, ha⟩ := Va.one_last _ a x e
      have hal : (Va.one b.length).length = a.length + 1 := by rw [e]; simp
      unfold gapHead
      rw [hlen]
      have e2 : (put1 k b).take j = a.take j := by
        rw [put1, e, List.append_assoc, List.take_append_of_le_length (by omega)]
      rw [e2]
      have h1 : decide (j < 3) = true := by simp; omega
      rw [h1, Bool.true_and, List.all_eq_true]
      intro y hy
      simp
      exact ha y (List.mem_of_mem_take hy)
    · have hg : Va.get ((put1 k b).take j) = (b.length, (Va.one b.length).length) := by
        have : (put1 k b).take j = Va.one b.length ++ (k :: (b ++ le4 (Crc.more 0 (k :: b)))).take (j - (Va.one b.length).length) := by
          rw [put1, List.take_append, List.take_of_length_le (by omega)]
        rw [this]
        refine Va.get_one (by omega) _ ?_
        intro x hx
        have hx := List.mem_of_mem_take hx
        rcases List.mem_cons.mp hx with rfl | h
        · omega
        · rcases List.mem_append.mp h with h | h
          · exact hbs x h
          · exact le4_small _ x h
      unfold first
      rw [if_neg hgap, hg]
      simp only []
      rw [if_neg (by omega), hlen]
      by_cases hje : (Va.one b.length).length = j
      · rw [if_pos hje]
      · rw [if_neg hje]
        have hat : ((put1 k b).take j).getD (Va.one b.length).length 0 = k := by
          rw [List.getD_eq_getElem?_getD, List.getElem?_take, if_pos (by omega), put1, List.getElem?_append_right (Nat.le_refl _)]; simp
        rw [hat, if_neg (by omega), if_pos (by unfold size at hj; omega)]

theorem first_le (bs : List Nat) : (first bs).2.1 ≤ bs.length := by
  unfold first
  split
  · simp
  · split
    · simp
    · split
      · simp
      · split
        · simp
        · split
          · simp
          · split
            · simp only []; omega
            · simp
theorem first_ok {bs : List Nat} (h : (first bs).2.2 = 0) : 5 ≤ (first bs).2.1 ∧ (first bs).1.2.length + 5 ≤ (first bs).2.1 ∧ (first bs).1.2 = (bs.drop ((first bs).2.1 - 4 - (first bs).1.2.length)).take (first bs).1.2.length ∧ 1 ≤ (first bs).1.1 ∧ (first bs).1.1 ≤ 250 := by
  revert h
  unfold first
  split
  · intro h; simp at h
  · split
    · intro h; simp at h
    · split
      · intro h; simp at h
      · split
        · intro h; simp at h
        · split
          · intro h; simp at h
          · split
            · intro _
              rename_i h1 h2 h3 h4 h5 h6
              have hl : ((bs.drop ((Va.get bs).2 + 1)).take (Va.get bs).1).length = (Va.get bs).1 := by rw [List.length_take, List.length_drop]; omega
              refine ⟨by simp only []; omega, by simp only []; rw [hl]; omega, ?_, by simp only []; omega, by simp only []; omega⟩
              simp only []
              rw [hl]
              congr 2; omega
            · intro h; simp at h
theorem first_nil : first [] = ((0, []), 0, 5) := by
  unfold first; rw [if_pos (by rfl)]

/-! what is scanned -/
/-- from the place at' on, l and ps being told already -/
def sc : Nat → List Nat → Nat → List F → List Nat → List F × List Nat × Nat
  | 0, _, at', l, ps => (l, ps, at')
  | n + 1, bs, at', l, ps => if (first (bs.drop at')).2.2 = 0 then sc n bs (at' + (first (bs.drop at')).2.1) (l ++ [(first (bs.drop at')).1]) (ps ++ [at' + (first (bs.drop at')).2.1 - 4 - (first (bs.drop at')).1.2.length]) else (l, ps, at')
def scan (bs : List Nat) : List F × List Nat × Nat := sc (bs.length + 1) bs 0 [] []
theorem sc_ok {n : Nat} {bs : List Nat} {at' : Nat} {l : List F} {ps : List Nat} (h : (first (bs.drop at')).2.2 = 0) :
    sc (n + 1) bs at' l ps = sc n bs (at' + (first (bs.drop at')).2.1) (l ++ [(first (bs.drop at')).1]) (ps ++ [at' + (first (bs.drop at')).2.1 - 4 - (first (bs.drop at')).1.2.length]) := by rw [sc, if_pos h]
theorem sc_no {n : Nat} {bs : List Nat} {at' : Nat} {l : List F} {ps : List Nat} (h : ¬ (first (bs.drop at')).2.2 = 0) : sc (n + 1) bs at' l ps = (l, ps, at') := by rw [sc, if_neg h]

/-- of what is put, cut at k: how many frames end within, and where the last of them ends -/
def cuts : List F → Nat → Nat × Nat
  | [], _ => (0, 0)
  | f :: l, k => if size f.2.length ≤ k then ((cuts l (k - size f.2.length)).1 + 1, (cuts l (k - size f.2.length)).2 + size f.2.length) else (0, 0)
/-- the places of their bodies -/
def places : List F → Nat → List Nat
  | [], _ => []
  | f :: l, at' => (at' + (Va.one f.2.length).length + 1) :: places l (at' + size f.2.length)

def Good (l : List F) : Prop := ∀ f ∈ l, may f = true ∧ ∀ x ∈ f.2, x < 256
theorem one_small {f : F} (h : may f = true) (hs : ∀ x ∈ f.2, x < 256) : ∀ x ∈ one f, x < 256 := by
  obtain ⟨h1, h2, _⟩ := (may_iff f).mp h
  exact put1_small (by omega) hs
theorem all_small {l : List F} (h : Good l) : ∀ x ∈ all l, x < 256 := by
  intro x hx
  simp only [all, List.mem_flatMap] at hx
  obtain ⟨f, hf, hx⟩ := hx
  exact one_small (h f hf).1 (h f hf).2 x hx
theorem all_cons (f : F) (l : List F) : all (f :: l) = one f ++ all l := rfl
theorem all_append (a b : List F) : all (a ++ b) = all a ++ all b := by simp [all]
theorem all_len_cons (f : F) (l : List F) : (all (f :: l)).length = size f.2.length + (all l).length := by rw [all_cons, List.length_append, one_len]

theorem sc_cut : ∀ (l2 : List F) (k n : Nat) (A : List Nat) (l : List F) (ps : List Nat), Good l2 → k ≤ (all l2).length → k < n →
    sc n (A ++ (all l2).take k) A.length l ps = (l ++ l2.take (cuts l2 k).1, ps ++ (places l2 A.length).take (cuts l2 k).1, A.length + (cuts l2 k).2) ∧
    (first ((all l2).take k |>.drop (cuts l2 k).2)).2.2 = 5 := by
  intro l2
  induction l2 with
  | nil =>
    intro k n A l ps _ hk hn
    obtain ⟨m, rfl⟩ : ∃ m, n = m + 1 := ⟨n - 1, by omega⟩
    have hd : (A ++ (all []).take k).drop A.length = [] := by rw [List.drop_left]; simp [all]
    refine ⟨?_, ?_⟩
    · rw [sc_no (by rw [hd, first_nil]; simp)]; simp [cuts, places]
    · simp [cuts, all, first_nil]
  | cons f l2 ih =>
    intro k n A l ps hg hk hn
    obtain ⟨m, rfl⟩ : ∃ m, n = m + 1 := ⟨n - 1, by omega⟩
    obtain ⟨hm, hs⟩ := hg f (by simp)
    obtain ⟨h1, h2, h3⟩ := (may_iff f).mp hm
    have hg2 : Good l2 := fun x hx => hg x (by simp [hx])
    have hs6 := size_ge f.2.length
    have hd : (A ++ (all (f :: l2)).take k).drop A.length = (all (f :: l2)).take k := List.drop_left
    have hkf : ((f.1.toNat : Nat) : Int) = f.1 := by omega
    by_cases hc : size f.2.length ≤ k
    · have ht : (all (f :: l2)).take k = one f ++ (all l2).take (k - size f.2.length) := by
        rw [all_cons, List.take_append, one_len, List.take_of_length_le (by rw [one_len]; exact hc)]
      have hf : first ((all (f :: l2)).take k) = (f, size f.2.length, 0) := by
        rw [ht, one, first_put (by omega) (by omega) h3 hs _ (fun x hx => all_small hg2 x (List.mem_of_mem_take hx)), hkf]
      have hcu : cuts (f :: l2) k = ((cuts l2 (k - size f.2.length)).1 + 1, (cuts l2 (k - size f.2.length)).2 + size f.2.length) := by rw [cuts, if_pos hc]
      have hk2 : k - size f.2.length ≤ (all l2).length := by rw [all_len_cons] at hk; omega
      obtain ⟨i1, i2⟩ := ih (k - size f.2.length) m (A ++ one f) (l ++ [f]) (ps ++ [A.length + (Va.one f.2.length).length + 1]) hg2 hk2 (by omega)
      refine ⟨?_, ?_⟩
      · rw [sc_ok (by rw [hd, hf]), hd, hf]
        simp only []
        have e1 : A.length + size f.2.length - 4 - f.2.length = A.length + (Va.one f.2.length).length + 1 := by unfold size; omega
        rw [e1, ht, ← List.append_assoc]
        rw [List.length_append, one_len] at i1
        rw [i1, hcu, places]
        simp only [List.take_succ_cons, List.append_assoc, List.singleton_append]
        congr 2; omega
      · rw [hcu, ht]
        simp only []
        rw [Nat.add_comm, ← List.drop_drop, ← one_len f, List.drop_left, one_len]
        exact i2
    · have hcu : cuts (f :: l2) k = (0, 0) := by rw [cuts, if_neg hc]
      have ht : (all (f :: l2)).take k = (one f).take k := by
        rw [all_cons, List.take_append_of_le_length (by rw [one_len]; omega)]
      have hf : first ((all (f :: l2)).take k) = ((0, []), 0, 5) := by
        rw [ht, one, first_cut (by omega) (by omega) h3 hs k (by omega)]
      refine ⟨?_, ?_⟩
      · rw [sc_no (by rw [hd, hf]; simp), hcu]; simp
      · rw [hcu]; simp only [List.drop_zero]; rw [hf]

theorem scan_cut {l : List F} (hg : Good l) (k : Nat) (hk : k ≤ (all l).length) :
    scan ((all l).take k) = (l.take (cuts l k).1, (places l 0).take (cuts l k).1, (cuts l k).2) ∧ (first (((all l).take k).drop (cuts l k).2)).2.2 = 5 := by
  have := sc_cut l k (((all l).take k).length + 1) [] [] [] hg hk (by rw [List.length_take]; omega)
  simpa [scan] using this
theorem cuts_whole : ∀ (l : List F), cuts l (all l).length = (l.length, (all l).length) := by
  intro l
  induction l with
  | nil => rfl
  | cons f l ih =>
    rw [cuts, if_pos (by rw [all_len_cons]; omega), all_len_cons, show size f.2.length + (all l).length - size f.2.length = (all l).length by omega, ih]
    simp; omega
theorem places_len : ∀ (l : List F) (at' : Nat), (places l at').length = l.length := by
  intro l
  induction l with
  | nil => intro _; rfl
  | cons f l ih => intro at'; simp [places, ih]
theorem scan_all {l : List F} (hg : Good l) : scan (all l) = (l, places l 0, (all l).length) := by
  have h := (scan_cut hg (all l).length (Nat.le_refl _)).1
  rw [List.take_length, cuts_whole] at h
  simp only [List.take_length] at h
  rw [h, List.take_of_length_le (by rw [places_len]; omega)]
end Go.Proofs.YtnoknmnbfkdccaaGreatDoor.Fr

/- Frames, in the order in which the program asks: its number, its kind, whether the bytes end, the sum. Names no dump. -/
namespace Va

theorem high_or {bs : List Nat} : ∀ m : Nat, (∀ j, j < m → 128 ≤ bs.getD j 0) ∨ ∃ k, k < m ∧ (∀ j, j < k → 128 ≤ bs.getD j 0) ∧ bs.getD k 0 < 128 := by
  intro m
  induction m with
  | zero => left; intro j hj; omega
  | succ m ih =>
    rcases ih with h | ⟨k, h1, h2, h3⟩
    · by_cases hm : bs.getD m 0 < 128
      · exact .inr ⟨m, by omega, h, hm⟩
      · left; intro j hj
        by_cases hjm : j = m
        · subst hjm; omega
        · exact h j (by omega)
    · exact .inr ⟨k, by omega, h2, h3⟩
theorem get_ok {bs : List Nat} (hs : ∀ x ∈ bs, x < 256) (h : (get bs).2 ≠ 0) : bs.take (get bs).2 = one (get bs).1 := by
  by_cases hl : bs.length ≤ 10
  · rcases high_or (bs := bs) bs.length with hh | ⟨k, h1, h2, h3⟩
    · rw [get_end (k := bs.length) hl (Nat.le_refl _) (.inl rfl) hh] at h; simp at h
    · by_cases hk : k ≤ 9
      · have e := get_at hs hk h1 h2 h3
        split at e
        · next he => rw [e]; exact he.symm
        · rw [e] at h; simp at h
      · omega
  · rcases high_or (bs := bs) 10 with hh | ⟨k, h1, h2, h3⟩
    · rw [get_end (k := 10) (Nat.le_refl _) (by omega) (.inr rfl) hh] at h; simp at h
    · have e := get_at hs (by omega : k ≤ 9) (by omega) h2 h3
      split at e
      · next he => rw [e]; exact he.symm
      · rw [e] at h; simp at h
theorem get_len {bs : List Nat} (hs : ∀ x ∈ bs, x < 256) (h : (get bs).2 ≠ 0) : (get bs).2 = (one (get bs).1).length := by
  have h1 := get_ok hs h
  have h2 := get_le (bs := bs)
  rw [← h1, List.length_take]; omega
end Va
namespace Go.Proofs.YtnoknmnbfkdccaaGreatDoor.Fr

theorem gap_get {bs : List Nat} (h : gapHead bs = true) : Va.get bs = (0, 0) := by
  unfold gapHead at h
  simp only [Bool.and_eq_true, decide_eq_true_eq, List.all_eq_true] at h
  refine Va.get_end (k := bs.length) (by omega) (Nat.le_refl _) (.inl rfl) ?_
  intro j hj
  rw [List.getD_eq_getElem?_getD, List.getElem?_eq_getElem hj]
  exact h.2 _ (List.getElem_mem hj)
/-- the number of four bytes, the lowest first -/
def val4 (bs : List Nat) : Nat := bs.getD 0 0 + 256 * bs.getD 1 0 + 65536 * bs.getD 2 0 + 16777216 * bs.getD 3 0
theorem le4_val {s : Nat} {bs : List Nat} (hs : s < 4294967296) (hb : ∀ x ∈ bs, x < 256) (hl : bs.length = 4) : le4 s = bs ↔ s = val4 bs := by
  match bs, hl with
  | [a, b, c, d], _ =>
    have ha := hb a (by simp)
    have hb' := hb b (by simp)
    have hc := hb c (by simp)
    have hd := hb d (by simp)
    simp only [le4, val4, List.cons.injEq, and_true]
    simp only [List.getD_cons_zero, List.getD_cons_succ]
    omega
/-- what the number tells: how many bytes the body has, the code -/
def bsz (bs : List Nat) : Nat × Nat :=
  if (Va.get bs).2 = 0 then (0, if gapHead bs = true then 5 else 2) else if 1048576 < (Va.get bs).1 then (0, 2) else ((Va.get bs).1, 0)
/-- the frame that bytes begin with, as the program asks -/
theorem first_bad {bs : List Nat} (h : (bsz bs).2 ≠ 0) : first bs = ((0, []), 0, (bsz bs).2) := by
  unfold bsz at h ⊢
  unfold first
  by_cases hg : gapHead bs = true
  · have := gap_get hg
    rw [if_pos hg, this]; simp [hg]
  · rw [if_neg hg]
    by_cases h0 : (Va.get bs).2 = 0
    · rw [if_pos (.inl h0), if_pos h0, if_neg hg]
    · rw [if_neg h0] at h ⊢
      by_cases h1 : 1048576 < (Va.get bs).1
      · rw [if_pos (.inr h1), if_pos h1]
      · rw [if_neg h1] at h; simp at h
theorem bsz_ok {bs : List Nat} (hs : ∀ x ∈ bs, x < 256) (h : (bsz bs).2 = 0) : ∃ u, u ≤ 1048576 ∧ bsz bs = (u, 0) ∧ Va.get bs = (u, (Va.one u).length) ∧ bs.take (Va.one u).length = Va.one u ∧ (Va.one u).length ≤ bs.length ∧ gapHead bs = false := by
  unfold bsz at h ⊢
  by_cases h0 : (Va.get bs).2 = 0
  · rw [if_pos h0] at h
    by_cases hg : gapHead bs = true
    · simp [hg] at h
    · simp [hg] at h
  · rw [if_neg h0] at h ⊢
    by_cases h1 : 1048576 < (Va.get bs).1
    · rw [if_pos h1] at h; simp at h
    · rw [if_neg h1]
      have hl := Va.get_len hs h0
      have ht := Va.get_ok hs h0
      have hle := Va.get_le (bs := bs)
      refine ⟨(Va.get bs).1, by omega, rfl, ?_, by rw [← hl]; exact ht, by rw [← hl]; exact hle, ?_⟩
      · rw [← hl]
      · cases hg : gapHead bs with
        | false => rfl
        | true => rw [gap_get hg] at h0; simp at h0
theorem first_num {bs : List Nat} {u : Nat} (hu : u ≤ 1048576) (hget : Va.get bs = (u, (Va.one u).length)) (hg : gapHead bs = false) :
    first bs = if (Va.one u).length = bs.length then ((0, []), 0, 5)
      else if bs.getD (Va.one u).length 0 < 1 ∨ 250 < bs.getD (Va.one u).length 0 then ((0, []), 0, 2)
      else if bs.length < size u then ((0, []), 0, 5)
      else if put1 (bs.getD (Va.one u).length 0) ((bs.drop ((Va.one u).length + 1)).take u) = bs.take (size u) then ((((bs.getD (Va.one u).length 0 : Nat) : Int), (bs.drop ((Va.one u).length + 1)).take u), size u, 0)
      else ((0, []), 0, 2) := by
  have ho := Va.one_pos u
  unfold first
  rw [hget, hg, if_neg (by simp), if_neg (by show ¬ ((Va.one u).length = 0 ∨ 1048576 < u); omega)]
  rfl
theorem put_iff {bs : List Nat} {u o : Nat} (hs : ∀ x ∈ bs, x < 256) (ht : bs.take o = Va.one u) (hl : o + 1 + u + 4 ≤ bs.length) :
    put1 (bs.getD o 0) ((bs.drop (o + 1)).take u) = bs.take (o + 1 + u + 4) ↔ Crc.more 0 ((bs.drop o).take (u + 1)) = val4 ((bs.drop (o + 1 + u)).take 4) := by
  have hbl : ((bs.drop (o + 1)).take u).length = u := by rw [List.length_take, List.length_drop]; omega
  have hd1 : (bs.drop o).take (u + 1) = bs.getD o 0 :: (bs.drop (o + 1)).take u := by rw [Va.drop_get bs o (by omega), List.take_succ_cons]
  have h4l : ((bs.drop (o + 1 + u)).take 4).length = 4 := by rw [List.length_take, List.length_drop]; omega
  have h4s : ∀ x ∈ (bs.drop (o + 1 + u)).take 4, x < 256 := fun x hx => hs x (List.mem_of_mem_drop (List.mem_of_mem_take hx))
  have hcs : ∀ x ∈ (bs.drop o).take (u + 1), x < 256 := fun x hx => hs x (List.mem_of_mem_drop (List.mem_of_mem_take hx))
  have hcl := Crc.more_lt (s := 0) ((bs.drop o).take (u + 1)) (by omega) hcs
  have hsplit : bs.take (o + 1 + u + 4) = Va.one u ++ ((bs.drop o).take (u + 1) ++ (bs.drop (o + 1 + u)).take 4) := by
    rw [show o + 1 + u + 4 = o + ((u + 1) + 4) by omega, List.take_add, ht, List.take_add (i := u + 1), List.drop_drop, show o + (u + 1) = o + 1 + u by omega]
  rw [hsplit, put1, hbl]
  rw [List.append_cancel_left_eq, ← hd1, ← le4_val hcl h4s h4l]
  rw [show bs.getD o 0 :: ((bs.drop (o + 1)).take u ++ le4 (Crc.more 0 ((bs.drop o).take (u + 1)))) = (bs.drop o).take (u + 1) ++ le4 (Crc.more 0 ((bs.drop o).take (u + 1))) by rw [hd1]; rfl]
  rw [List.append_cancel_left_eq]
end Go.Proofs.YtnoknmnbfkdccaaGreatDoor.Fr

/- The plain mathematics of points: which may be, their bytes, what is read, their order. Names no dump. -/
namespace Go.Proofs.YtnoknmnbfkdccaaGreatDoor.Po

/-- Seg, At, Len, Sum -/
abbrev P := Int × Int × Int × Nat
def zero : P := (0, 0, 0, 0)
def may (p : P) : Bool := decide (1 ≤ p.1 ∧ p.1 ≤ 2147483647 ∧ 0 ≤ p.2.1 ∧ p.2.1 ≤ 2147483647 ∧ 0 ≤ p.2.2.1 ∧ p.2.2.1 ≤ 4096)
theorem may_iff (p : P) : may p = true ↔ 1 ≤ p.1 ∧ p.1 ≤ 2147483647 ∧ 0 ≤ p.2.1 ∧ p.2.1 ≤ 2147483647 ∧ 0 ≤ p.2.2.1 ∧ p.2.2.1 ≤ 4096 := by simp [may]
def nums (p : P) : List Nat := [p.1.toNat, p.2.1.toNat, p.2.2.1.toNat]
def put (p : P) : List Nat := Va.put (nums p) ++ Fr.le4 p.2.2.2
theorem nums_small {p : P} (h : may p = true) : ∀ u ∈ nums p, u < 18446744073709551616 := by
  have := (may_iff p).mp h
  intro u hu
  simp only [nums, List.mem_cons, List.not_mem_nil, or_false] at hu
  omega
theorem put_small {p : P} : ∀ x ∈ put p, x < 256 := by
  intro x hx
  rcases List.mem_append.mp hx with h | h
  · exact Va.put_small _ x h
  · exact Fr.le4_small _ x h
theorem put_len {p : P} (h : may p = true) : (put p).length ≤ 34 := by
  have := Va.put_len (nums p) (nums_small h)
  have h3 : (nums p).length = 3 := rfl
  rw [put, List.length_append, Fr.le4_len]
  omega

/-- the point of three numbers and four bytes -/
def ofNums (l bs4 : List Nat) : P := ((l.getD 0 0 : Nat), (l.getD 1 0 : Nat), (l.getD 2 0 : Nat), Fr.val4 bs4)
/-- the point that bytes begin with, how many bytes it has; 0: there is none -/
def get (bs : List Nat) : P × Nat :=
  if (Va.all bs 3).2.2 = 0 ∧ (Va.all bs 3).2.1 + 4 ≤ bs.length ∧ may (ofNums (Va.all bs 3).1 ((bs.drop (Va.all bs 3).2.1).take 4)) = true
  then (ofNums (Va.all bs 3).1 ((bs.drop (Va.all bs 3).2.1).take 4), (Va.all bs 3).2.1 + 4) else (zero, 0)
theorem get_le (bs : List Nat) : (get bs).2 ≤ bs.length := by
  unfold get; split
  · next h => exact h.2.1
  · exact Nat.zero_le _
theorem val4_lt {bs : List Nat} (h : ∀ x ∈ bs, x < 256) : Fr.val4 bs < 4294967296 := by
  have g : ∀ i, bs.getD i 0 < 256 := fun i => by
    rcases Nat.lt_or_ge i bs.length with hi | hi
    · rw [List.getD_eq_getElem?_getD, List.getElem?_eq_getElem hi]; exact h _ (List.getElem_mem hi)
    · rw [List.getD_eq_getElem?_getD, List.getElem?_eq_none hi]; decide
  have h0 := g 0
  have h1 := g 1
  have h2 := g 2
  have h3 := g 3
  unfold Fr.val4
  omega
/-- a point that a value of its type can be -/
def Fits (p : P) : Prop := (-9223372036854775808 ≤ p.1 ∧ p.1 ≤ 9223372036854775807) ∧ (-9223372036854775808 ≤ p.2.1 ∧ p.2.1 ≤ 9223372036854775807) ∧ (-9223372036854775808 ≤ p.2.2.1 ∧ p.2.2.1 ≤ 9223372036854775807) ∧ p.2.2.2 < 4294967296
/-- of four bytes the upper k, as the reference reads them -/
def hk (bs : List Nat) : Nat → Nat
  | 0 => 0
  | k + 1 => hk bs k * 256 + bs.getD (3 - k) 0
theorem hk4 (bs : List Nat) : hk bs 4 = Fr.val4 bs := by simp [hk, Fr.val4]; omega
theorem al_ok : ∀ (n : Nat) (bs : List Nat) (at' : Nat) (l : List Nat), at' ≤ bs.length → (∀ u ∈ l, u < 18446744073709551616) → (Va.al n bs at' l).2.1 ≤ bs.length ∧ ((Va.al n bs at' l).2.2 = 0 → (Va.al n bs at' l).1.length = l.length + n) ∧ (∀ u ∈ (Va.al n bs at' l).1, u < 18446744073709551616) := by
  intro n
  induction n with
  | zero => intro bs at' l h hl; exact ⟨h, fun _ => rfl, hl⟩
  | succ n ih =>
    intro bs at' l h hl
    by_cases h0 : (Va.get (bs.drop at')).2 = 0
    · rw [Va.al_none h0]; exact ⟨h, fun h => by simp at h, fun u hu => by simp at hu⟩
    · rw [Va.al_some h0]
      have h1 := Va.get_le (bs := bs.drop at')
      rw [List.length_drop] at h1
      have := ih bs (at' + (Va.get (bs.drop at')).2) (l ++ [(Va.get (bs.drop at')).1]) (by omega) (by
        intro u hu
        rcases List.mem_append.mp hu with hu | hu
        · exact hl u hu
        · simp only [List.mem_singleton] at hu; subst hu; exact Va.get_lt _)
      refine ⟨this.1, fun h => ?_, this.2.2⟩
      rw [this.2.1 h, List.length_append]; simp; omega
theorem all_ok (bs : List Nat) (n : Nat) : (Va.all bs n).2.1 ≤ bs.length ∧ ((Va.all bs n).2.2 = 0 → (Va.all bs n).1.length = n) ∧ (∀ u ∈ (Va.all bs n).1, u < 18446744073709551616) := by
  have := al_ok n bs 0 [] (by omega) (by simp)
  simpa [Va.all] using this
/-! order -/
def less (a b : P) : Bool := if a.1 = b.1 then decide (a.2.1 < b.2.1) else decide (a.1 < b.1)
/-- behind how many of the first k a point is laid -/
def cut (out : List P) (p : P) : Nat → Nat
  | 0 => 0
  | k + 1 => if less p (out.getD k zero) = true then cut out p k else k + 1
end Go.Proofs.YtnoknmnbfkdccaaGreatDoor.Po

/- The plain mathematics of cells: which may be, their bytes, what is read, which values fit. Names no dump. -/
namespace Go.Proofs.YtnoknmnbfkdccaaGreatDoor.Ce

/-- Far, Bytes, Point -/
abbrev C := Bool × List Nat × Po.P
def zero : C := (false, [], Po.zero)
def may (c : C) : Bool := if c.1 = true then decide (c.2.1.length = 0) && Po.may c.2.2 else decide (c.2.1.length ≤ 32) && decide (c.2.2 = Po.zero)
def put (c : C) : List Nat := if c.1 = true then 1 :: Po.put c.2.2 else 0 :: (Va.one c.2.1.length ++ c.2.1)
/-- whether a value fits a point -/
def fits (p : Po.P) (v : List Nat) : Bool := decide (p.2.2.1 = (v.length : Int)) && decide (p.2.2.2 = Crc.more 0 v)
/-- the cell that bytes begin with, how many bytes it has; 0: there is none -/
def get (bs : List Nat) : C × Nat :=
  if bs.length = 0 ∨ 1 < bs.getD 0 0 then (zero, 0)
  else if bs.getD 0 0 = 1 then
    if (Po.get (bs.drop 1)).2 = 0 then (zero, 0) else ((true, [], (Po.get (bs.drop 1)).1), (Po.get (bs.drop 1)).2 + 1)
  else if (Va.get (bs.drop 1)).2 = 0 ∨ 32 < (Va.get (bs.drop 1)).1 ∨ bs.length < 1 + (Va.get (bs.drop 1)).2 + (Va.get (bs.drop 1)).1 then (zero, 0)
  else ((false, (bs.drop (1 + (Va.get (bs.drop 1)).2)).take (Va.get (bs.drop 1)).1, Po.zero), 1 + (Va.get (bs.drop 1)).2 + (Va.get (bs.drop 1)).1)

theorem may_far {b : List Nat} {p : Po.P} : may (true, b, p) = true ↔ b = [] ∧ Po.may p = true := by
  simp [may]
theorem may_near {b : List Nat} {p : Po.P} : may (false, b, p) = true ↔ b.length ≤ 32 ∧ p = Po.zero := by
  simp [may]
theorem put_small {c : C} (h : ∀ x ∈ c.2.1, x < 256) : ∀ x ∈ put c, x < 256 := by
  intro x hx
  unfold put at hx
  split at hx
  · rcases List.mem_cons.mp hx with rfl | hx
    · decide
    · exact Po.put_small x hx
  · rcases List.mem_cons.mp hx with rfl | hx
    · decide
    · rcases List.mem_append.mp hx with hx | hx
      · exact Va.one_small _ x hx
      · exact h x hx
theorem one_short {n : Nat} (h : n ≤ 32) : Va.one n = [n] := Va.one_lo (by omega)
theorem put_len {c : C} (h : may c = true) : (put c).length ≤ 35 := by
  obtain ⟨f, b, p⟩ := c
  cases f with
  | true =>
    have := may_far.mp h
    have := Po.put_len this.2
    simp [put]; omega
  | false =>
    have := may_near.mp h
    simp [put, one_short this.1]; omega
theorem get_le (bs : List Nat) : (get bs).2 ≤ bs.length := by
  unfold get
  split
  · omega
  · next h =>
    split
    · split
      · omega
      · have := Po.get_le (bs.drop 1)
        rw [List.length_drop] at this
        simp only []; omega
    · split
      · omega
      · next h' => simp only []; omega
end Go.Proofs.YtnoknmnbfkdccaaGreatDoor.Ce

/- The plain mathematics of entries: which may be, batches, their bytes, what is read. Names no dump. -/
namespace Go.Proofs.YtnoknmnbfkdccaaGreatDoor

/-! what is read of bytes is read of longer ones too -/
namespace En
/-- Index, Term, Kind, Key, Cell -/
abbrev E := Int × Int × Int × List Nat × Ce.C
def zero : E := (0, 0, 0, [], Ce.zero)
def may (e : E) : Bool :=
  if e.1 < 1 ∨ 2147483647 < e.1 ∨ e.2.1 < 1 ∨ 2147483647 < e.2.1 ∨ Ce.may e.2.2.2.2 = false ∨ 64 < e.2.2.2.1.length then false
  else if e.2.2.1 = 0 then decide (e.2.2.2.1 = [])
  else if e.2.2.1 = 2 then decide (e.2.2.2.1 ≠ []) && decide (e.2.2.2.2 = Ce.zero)
  else decide (e.2.2.1 = 1) && decide (e.2.2.2.1 ≠ [])
/-- Indexes one behind the other, Terms that do not fall -/
def chain : List E → Bool
  | [] => true
  | [_] => true
  | a :: b :: r => decide (b.1 - 1 = a.1) && decide (a.2.1 ≤ b.2.1) && chain (b :: r)
def batch (l : List E) : Bool := l.all may && chain l && decide (1 ≤ l.length ∧ l.length ≤ 16)
def put1 (e : E) : List Nat := Va.one e.2.1.toNat ++ [e.2.2.1.toNat] ++ Va.one e.2.2.2.1.length ++ e.2.2.2.1 ++ (if e.2.2.1 = 2 then [] else Ce.put e.2.2.2.2)
def put (l : List E) : List Nat := Va.put [l.length, (l.headD zero).1.toNat] ++ l.flatMap put1
def number (bs : List Nat) (most : Nat) : Nat × Nat := if (Va.get bs).2 = 0 ∨ most < (Va.get bs).1 then (0, 0) else Va.get bs
/-- the entry that bytes begin with; how many bytes it has; 0: there is none -/
def one (bs : List Nat) (ix : Int) : E × Nat :=
  if (number bs 2147483647).2 = 0 ∨ (number bs 2147483647).2 = bs.length then (zero, 0)
  else if (number (bs.drop ((number bs 2147483647).2 + 1)) 64).2 = 0 ∨ bs.length < (number bs 2147483647).2 + 1 + (number (bs.drop ((number bs 2147483647).2 + 1)) 64).2 + (number (bs.drop ((number bs 2147483647).2 + 1)) 64).1 then (zero, 0)
  else
    if bs.getD (number bs 2147483647).2 0 = 2 then ((ix, (number bs 2147483647).1, 2, (bs.drop ((number bs 2147483647).2 + 1 + (number (bs.drop ((number bs 2147483647).2 + 1)) 64).2)).take (number (bs.drop ((number bs 2147483647).2 + 1)) 64).1, Ce.zero), (number bs 2147483647).2 + 1 + (number (bs.drop ((number bs 2147483647).2 + 1)) 64).2 + (number (bs.drop ((number bs 2147483647).2 + 1)) 64).1)
    else if (Ce.get (bs.drop ((number bs 2147483647).2 + 1 + (number (bs.drop ((number bs 2147483647).2 + 1)) 64).2 + (number (bs.drop ((number bs 2147483647).2 + 1)) 64).1))).2 = 0 then (zero, 0)
    else ((ix, (number bs 2147483647).1, bs.getD (number bs 2147483647).2 0, (bs.drop ((number bs 2147483647).2 + 1 + (number (bs.drop ((number bs 2147483647).2 + 1)) 64).2)).take (number (bs.drop ((number bs 2147483647).2 + 1)) 64).1, (Ce.get (bs.drop ((number bs 2147483647).2 + 1 + (number (bs.drop ((number bs 2147483647).2 + 1)) 64).2 + (number (bs.drop ((number bs 2147483647).2 + 1)) 64).1))).1), (number bs 2147483647).2 + 1 + (number (bs.drop ((number bs 2147483647).2 + 1)) 64).2 + (number (bs.drop ((number bs 2147483647).2 + 1)) 64).1 + (Ce.get (bs.drop ((number bs 2147483647).2 + 1 + (number (bs.drop ((number bs 2147483647).2 + 1)) 64).2 + (number (bs.drop ((number bs 2147483647).2 + 1)) 64).1))).2)
/-- n entries from the place at' on, l being got already; none: there are not so many -/
def sc : Nat → List Nat → Nat → Int → List E → Option (List E × Nat)
  | 0, _, at', _, l => some (l, at')
  | n + 1, bs, at', ix, l => if (one (bs.drop at') ix).2 = 0 then none else sc n bs (at' + (one (bs.drop at') ix).2) (ix + 1) (l ++ [(one (bs.drop at') ix).1])
/-- the entries that bytes begin with, and where they end -/
def scan (bs : List Nat) : Option (List E × Nat) :=
  if (number bs 16).2 = 0 ∨ (number (bs.drop (number bs 16).2) 2147483647).2 = 0 then none
  else sc (number bs 16).1 bs ((number bs 16).2 + (number (bs.drop (number bs 16).2) 2147483647).2) (number (bs.drop (number bs 16).2) 2147483647).1 []
/-- the batch whose bytes they are; none: there is none -/
def get (bs : List Nat) : List E :=
  match scan bs with
  | none => []
  | some (l, at') => if at' = bs.length ∧ batch l = true then l else []
/-! what is put is got -/
/-- bytes that are bytes -/
def Small (e : E) : Prop := (∀ x ∈ e.2.2.2.1, x < 256) ∧ (∀ x ∈ e.2.2.2.2.2.1, x < 256) ∧ e.2.2.2.2.2.2.2.2.2 < 4294967296
theorem may_parts {e : E} (h : may e = true) : 1 ≤ e.1 ∧ e.1 ≤ 2147483647 ∧ 1 ≤ e.2.1 ∧ e.2.1 ≤ 2147483647 ∧ Ce.may e.2.2.2.2 = true ∧ e.2.2.2.1.length ≤ 64 ∧ (e.2.2.1 = 0 ∨ e.2.2.1 = 1 ∨ e.2.2.1 = 2) ∧ (e.2.2.1 = 2 → e.2.2.2.2 = Ce.zero) := by
  unfold may at h
  split at h
  · cases h
  · next c =>
    have hc : Ce.may e.2.2.2.2 = true := by
      cases hm : Ce.may e.2.2.2.2 with
      | true => rfl
      | false => exact absurd (.inr (.inr (.inr (.inr (.inl hm))))) c
    refine ⟨by omega, by omega, by omega, by omega, hc, by omega, ?_, ?_⟩
    · split at h
      · left; assumption
      · split at h
        · right; right; assumption
        · simp only [Bool.and_eq_true, decide_eq_true_eq] at h
          right; left; exact h.1
    · intro h2
      split at h
      · omega
      · try rw [if_pos h2] at h
        simp only [Bool.and_eq_true, decide_eq_true_eq] at h
        exact h.2
theorem put1_small {e : E} (h : may e = true) (hs : Small e) : ∀ x ∈ put1 e, x < 256 := by
  obtain ⟨_, _, _, _, hc, hk, hkind, _⟩ := may_parts h
  intro x hx
  unfold put1 at hx
  simp only [List.mem_append, List.mem_singleton] at hx
  rcases hx with (((hx | hx) | hx) | hx) | hx
  · exact Va.one_small _ x hx
  · rcases hkind with e | e | e <;> rw [e] at hx <;> subst hx <;> decide
  · exact Va.one_small _ x hx
  · exact hs.1 x hx
  · split at hx
    · cases hx
    · exact Ce.put_small hs.2.1 x hx
theorem one_pos (e : E) : 0 < (put1 e).length := by
  have := Va.one_pos e.2.1.toNat
  unfold put1; simp only [List.length_append]; omega
end En
end Go.Proofs.YtnoknmnbfkdccaaGreatDoor

/- The plain mathematics of names: which there are, which file a text names, numbers in order. Names no dump. -/
namespace Go.Proofs.YtnoknmnbfkdccaaGreatDoor.Na

/-- Kind, Num -/
abbrev F := Int × Int
/-- k digits of a number, noughts ahead -/
def dig : Nat → Nat → List Nat
  | 0, _ => []
  | k + 1, n => dig k (n / 10) ++ [48 + n % 10]
def roster : List Nat := [114, 111, 115, 116, 101, 114]
def rosterNew : List Nat := [114, 111, 115, 116, 101, 114, 46, 110, 101, 119]
/-- the letter of a kind that has numbers -/
def letter (k : Int) : Nat := if k = 3 then 118 else if k = 4 then 119 else if k = 5 then 116 else if k = 6 then 115 else 109
/-- may a file be? -/
def may (f : F) : Bool := decide (f = (1, 0) ∨ f = (2, 0) ∨ (3 ≤ f.1 ∧ f.1 ≤ 7 ∧ 1 ≤ f.2 ∧ f.2 ≤ 2147483647))
/-- a file's name; empty: there is none -/
def of (f : F) : List Nat :=
  if f = (1, 0) then roster else if f = (2, 0) then rosterNew
  else if 3 ≤ f.1 ∧ f.1 ≤ 7 ∧ 1 ≤ f.2 ∧ f.2 ≤ 2147483647 then letter f.1 :: dig 10 f.2.toNat else []
/-- the number that digits are, m being got already; -1: they are none -/
def num : Nat → List Nat → Int
  | m, [] => (m : Int)
  | m, d :: ds => if d < 48 ∨ 57 < d then -1 else num (10 * m + (d - 48)) ds
theorem dig_len : ∀ (k n : Nat), (dig k n).length = k
  | 0, _ => rfl
  | k + 1, n => by simp [dig, dig_len k]
theorem dig_small : ∀ (k n : Nat), ∀ x ∈ dig k n, 48 ≤ x ∧ x ≤ 57
  | 0, _, x, hx => by simp [dig] at hx
  | k + 1, n, x, hx => by
    simp only [dig, List.mem_append, List.mem_singleton] at hx
    rcases hx with hx | rfl
    · exact dig_small k _ x hx
    · omega
theorem num_cons (m d : Nat) (ds : List Nat) : num m (d :: ds) = if d < 48 ∨ 57 < d then -1 else num (10 * m + (d - 48)) ds := rfl
theorem num_nil (m : Nat) : num m [] = (m : Int) := rfl
theorem num_app : ∀ (a b : List Nat) (m v : Nat), num m a = (v : Int) → num m (a ++ b) = num v b
  | [], b, m, v, h => by
    rw [num_nil] at h
    have : m = v := by omega
    subst this; rfl
  | d :: ds, b, m, v, h => by
    rw [num_cons] at h
    rw [List.cons_append, num_cons]
    by_cases hd : d < 48 ∨ 57 < d
    · rw [if_pos hd] at h; omega
    · rw [if_neg hd] at h ⊢; exact num_app ds b _ v h
theorem num_dig : ∀ (k n m : Nat), num m (dig k n) = ((m * 10 ^ k + n % 10 ^ k : Nat) : Int)
  | 0, n, m => by simp [dig, num, Nat.mod_one]
  | k + 1, n, m => by
    rw [dig, num_app _ _ _ _ (num_dig k (n / 10) m)]
    have h : ¬ (48 + n % 10 < 48 ∨ 57 < 48 + n % 10) := by omega
    simp only [num, if_neg h]
    congr 1
    have e : n % 10 ^ (k + 1) = 10 * (n / 10 % 10 ^ k) + n % 10 := by
      rw [Nat.pow_succ, Nat.mul_comm (10 ^ k) 10, Nat.mod_mul]
      omega
    rw [e, Nat.pow_succ]
    have : 48 + n % 10 - 48 = n % 10 := by omega
    rw [this, Nat.mul_add, ← Nat.mul_assoc, Nat.mul_comm 10 m, Nat.mul_assoc, Nat.mul_comm 10 (10 ^ k)]
    omega
theorem of_num {k n : Int} (h : 3 ≤ k ∧ k ≤ 7 ∧ 1 ≤ n ∧ n ≤ 2147483647) : of (k, n) = letter k :: dig 10 n.toNat := by
  unfold of
  rw [if_neg (by simp only [Prod.mk.injEq]; omega), if_neg (by simp only [Prod.mk.injEq]; omega), if_pos h]
theorem of_empty {f : F} : of f = [] ↔ may f = false := by
  obtain ⟨k, n⟩ := f
  unfold of may
  by_cases h1 : (k, n) = ((1, 0) : F)
  · rw [if_pos h1]; simp [h1, roster]
  · by_cases h2 : (k, n) = ((2, 0) : F)
    · rw [if_neg h1, if_pos h2]; simp [h2, rosterNew]
    · rw [if_neg h1, if_neg h2]
      by_cases h3 : 3 ≤ k ∧ k ≤ 7 ∧ 1 ≤ n ∧ n ≤ 2147483647
      · rw [if_pos h3]; simp [h3]
      · rw [if_neg h3]
        simp only [decide_eq_false_iff_not, true_iff]
        intro h
        rcases h with h | h | h
        · exact h1 h
        · exact h2 h
        · exact h3 h

/-! order -/
/-- which of two texts is lesser -/
def lt : List Nat → List Nat → Bool
  | _, [] => false
  | [], _ :: _ => true
  | a :: as, b :: bs => decide (a < b) || (decide (a = b) && lt as bs)
theorem lt_app : ∀ (a b : List Nat) (x y : Nat), a.length = b.length → lt (a ++ [x]) (b ++ [y]) = (lt a b || (decide (a = b) && decide (x < y)))
  | [], [], x, y, _ => by simp [lt]
  | [], _ :: _, _, _, h => by simp at h
  | _ :: _, [], _, _, h => by simp at h
  | c :: cs, d :: ds, x, y, h => by
    have hl : cs.length = ds.length := by simpa using h
    rw [List.cons_append, List.cons_append]
    simp only [lt, lt_app cs ds x y hl, List.cons.injEq]
    by_cases h1 : c < d
    · simp [h1]
    · by_cases h2 : c = d
      · subst h2; simp
      · simp [h1, h2]
theorem dig_inj : ∀ (k a b : Nat), a < 10 ^ k → b < 10 ^ k → (dig k a = dig k b ↔ a = b) := by
  intro k a b ha hb
  constructor
  · intro h
    have h1 := num_dig k a 0
    have h2 := num_dig k b 0
    rw [h, h2] at h1
    rw [Nat.mod_eq_of_lt ha, Nat.mod_eq_of_lt hb] at h1
    omega
  · rintro rfl; rfl
theorem dig_lt : ∀ (k a b : Nat), a < 10 ^ k → b < 10 ^ k → lt (dig k a) (dig k b) = decide (a < b)
  | 0, a, b, ha, hb => by
    have : ¬ a < b := by simp at ha hb; omega
    simp [dig, lt, this]
  | k + 1, a, b, ha, hb => by
    rw [Nat.pow_succ] at ha hb
    have ha' : a / 10 < 10 ^ k := by omega
    have hb' : b / 10 < 10 ^ k := by omega
    rw [dig, dig, lt_app _ _ _ _ (by rw [dig_len, dig_len]), dig_lt k _ _ ha' hb']
    have hi := dig_inj k (a / 10) (b / 10) ha' hb'
    by_cases h1 : a / 10 < b / 10
    · have : a < b := by omega
      simp [h1, this]
    · by_cases h2 : a / 10 = b / 10
      · have e : dig k (a / 10) = dig k (b / 10) := hi.mpr h2
        have : (48 + a % 10 < 48 + b % 10) ↔ a < b := by omega
        simp [e, h1, this]
      · have : ¬ a < b := by omega
        have e : ¬ dig k (a / 10) = dig k (b / 10) := fun e => h2 (hi.mp e)
        simp [h1, e, this]
/-- names of one kind that has numbers are in order as their numbers are -/
theorem of_lt {k a b : Int} (h : 3 ≤ k ∧ k ≤ 7) (ha : 1 ≤ a ∧ a ≤ 2147483647) (hb : 1 ≤ b ∧ b ≤ 2147483647) : lt (of (k, a)) (of (k, b)) = decide (a < b) ∧ (of (k, a) = of (k, b) ↔ a = b) := by
  rw [of_num ⟨h.1, h.2, ha⟩, of_num ⟨h.1, h.2, hb⟩]
  obtain ⟨x, rfl⟩ : ∃ m : Nat, a = (m : Int) := ⟨a.toNat, by omega⟩
  obtain ⟨y, rfl⟩ : ∃ m : Nat, b = (m : Int) := ⟨b.toNat, by omega⟩
  simp only [Int.toNat_natCast]
  have hx : x < 10 ^ 10 := by omega
  have hy : y < 10 ^ 10 := by omega
  constructor
  · rw [lt]
    simp [dig_lt 10 x y hx hy]
  · simp only [List.cons.injEq, true_and, dig_inj 10 x y hx hy]
    omega
end Go.Proofs.YtnoknmnbfkdccaaGreatDoor.Na

/- The plain mathematics of items in order: which there may be, putting, finding, ranges, what they weigh. Names no dump. -/
namespace Go.Proofs.YtnoknmnbfkdccaaGreatDoor.It

/-- Key, Dead, Cell -/
abbrev I := List Nat × Bool × Ce.C
def zero : I := ([], false, Ce.zero)
def may (x : I) : Bool := decide (x.1 ≠ []) && decide (x.1.length ≤ 64) && Ce.may x.2.2 && (!x.2.1 || decide (x.2.2 = Ce.zero))
/-- whether items are alike -/
def one (x y : I) : Bool := decide (x.1 = y.1) && decide (x.2.1 = y.2.1) && decide (x.2.2 = y.2.2)
/-- not below -/
def ge (a b : List Nat) : Bool := !Na.lt a b
def putGo (x : I) : Bool → List I → List I
  | d, [] => if d then [] else [x]
  | d, y :: l => (if d = false ∧ ge y.1 x.1 = true then [x] else []) ++ ((if y.1 = x.1 then [] else [y]) ++ putGo x (d || ge y.1 x.1) l)
/-- items with one more -/
def put (l : List I) (x : I) : List I := putGo x false l
/-- items, put one behind the other, those that may be -/
def all (l : List I) : List I := (l.filter may).foldl put []
def get : List I → List Nat → I
  | [], _ => zero
  | x :: l, k => if x.1 = k then x else get l k
def inside (lo hi : List Nat) (x : I) : Bool := ge x.1 lo && (decide (hi = []) || Na.lt x.1 hi)
def scan (l : List I) (lo hi : List Nat) (most : Int) : List I := (l.filter (inside lo hi)).take most.toNat
def after : Option (List Nat) → List Nat → Bool
  | none, _ => true
  | some k, m => Na.lt k m
def sortedGo : Option (List Nat) → List I → Bool
  | _, [] => true
  | p, x :: l => may x && after p x.1 && sortedGo (some x.1) l
def sorted (l : List I) : Bool := sortedGo none l
def prev (l : List I) (k : Nat) : Option (List Nat) := if k = 0 then none else some (l.getD (k - 1) zero).1
theorem putGo_len (x : I) : ∀ (d : Bool) (l : List I), (putGo x d l).length ≤ l.length + 1
  | d, [] => by rw [putGo]; split <;> simp
  | true, y :: l => by
    have h := putGo_done x l
    rw [putGo, if_neg (by simp), List.nil_append, Bool.true_or, h, List.length_append, List.length_cons]
    have h1 : (if y.1 = x.1 then [] else [y]).length ≤ 1 := by split <;> simp
    have h2 := List.length_filter_le (fun y : I => decide (y.1 ≠ x.1)) l
    omega
  | false, y :: l => by
    have h1 : (if y.1 = x.1 then [] else [y]).length ≤ 1 := by split <;> simp
    rw [putGo, List.length_append, List.length_append, List.length_cons]
    by_cases hg : ge y.1 x.1 = true
    · rw [if_pos ⟨rfl, hg⟩, show (false || ge y.1 x.1) = true by simp [hg], putGo_done]
      have h2 := List.length_filter_le (fun y : I => decide (y.1 ≠ x.1)) l
      simp only [List.length_singleton]
      omega
    · rw [if_neg (fun h => hg h.2), show (false || ge y.1 x.1) = false by simp [hg]]
      have := putGo_len x false l
      simp only [List.length_nil]
      omega
where
  putGo_done (x : I) : ∀ (l : List I), putGo x true l = l.filter (fun y => decide (y.1 ≠ x.1))
  | [] => by simp [putGo]
  | y :: l => by
    rw [putGo, if_neg (by simp), List.nil_append, Bool.true_or, putGo_done x l, List.filter_cons]
    by_cases h : y.1 = x.1 <;> simp [h]
theorem putGo_done (x : I) (l : List I) : putGo x true l = l.filter (fun y => decide (y.1 ≠ x.1)) := putGo_len.putGo_done x l

theorem lt_irrefl : ∀ a : List Nat, Na.lt a a = false
  | [] => rfl
  | x :: a => by simp [Na.lt, lt_irrefl a]
theorem lt_trans : ∀ {a b c : List Nat}, Na.lt a b = true → Na.lt b c = true → Na.lt a c = true
  | _, [], _, h, _ => by cases ‹List Nat› <;> simp [Na.lt] at h
  | _, _ :: _, [], _, h => by simp [Na.lt] at h
  | [], _ :: _, _ :: _, _, _ => by simp [Na.lt]
  | x :: a, y :: b, z :: c, h1, h2 => by
    simp only [Na.lt, Bool.or_eq_true, decide_eq_true_eq, Bool.and_eq_true] at h1 h2 ⊢
    rcases h1 with h1 | ⟨rfl, h1⟩
    · rcases h2 with h2 | ⟨rfl, _⟩
      · exact .inl (by omega)
      · exact .inl h1
    · rcases h2 with h2 | ⟨rfl, h2⟩
      · exact .inl h2
      · exact .inr ⟨rfl, lt_trans h1 h2⟩
theorem lt_total : ∀ (a b : List Nat), Na.lt a b = true ∨ a = b ∨ Na.lt b a = true
  | [], [] => .inr (.inl rfl)
  | [], y :: b => .inl (by simp [Na.lt])
  | x :: a, [] => .inr (.inr (by simp [Na.lt]))
  | x :: a, y :: b => by
    simp only [Na.lt, Bool.or_eq_true, decide_eq_true_eq, Bool.and_eq_true, List.cons.injEq]
    rcases Nat.lt_trichotomy x y with h | h | h
    · exact .inl (.inl h)
    · subst h
      rcases lt_total a b with h | h | h
      · exact .inl (.inr ⟨rfl, h⟩)
      · exact .inr (.inl ⟨rfl, h⟩)
      · exact .inr (.inr (.inr ⟨rfl, h⟩))
    · exact .inr (.inr (.inl h))
/-- keys rise -/
def Up (l : List I) : Prop := l.Pairwise (fun a b => Na.lt a.1 b.1 = true)
def find : List I → List Nat → Option I
  | [], _ => none
  | x :: l, k => if x.1 = k then some x else find l k
theorem find_none : ∀ {l : List I} {k : List Nat}, (∀ x ∈ l, x.1 ≠ k) → find l k = none
  | [], _, _ => rfl
  | x :: l, k, h => by rw [find, if_neg (h x List.mem_cons_self)]; exact find_none (fun y hy => h y (List.mem_cons_of_mem _ hy))
theorem lt_ne {a b : List Nat} (h : Na.lt a b = true) : a ≠ b := fun e => by rw [e, lt_irrefl] at h; cases h
theorem lt_asymm {a b : List Nat} (h : Na.lt a b = true) : Na.lt b a = false := by
  cases h2 : Na.lt b a with
  | false => rfl
  | true => have := lt_trans h h2; rw [lt_irrefl] at this; cases this
theorem ext : ∀ {l m : List I}, Up l → Up m → (∀ k, find l k = find m k) → l = m
  | [], [], _, _, _ => rfl
  | [], y :: m, _, _, h => by have := h y.1; rw [find, find, if_pos rfl] at this; cases this
  | x :: l, [], _, _, h => by have := h x.1; rw [find, find, if_pos rfl] at this; cases this
  | x :: l, y :: m, h1, h2, h => by
    have a := List.pairwise_cons.mp h1
    have b := List.pairwise_cons.mp h2
    have hk : x.1 = y.1 := by
      rcases lt_total x.1 y.1 with hl | he | hg
      · have e := h x.1
        rw [find, if_pos rfl, find, if_neg (fun e => lt_ne hl e.symm), find_none (fun z hz e => by have := lt_trans hl (b.1 z hz); exact lt_ne this e.symm)] at e
        cases e
      · exact he
      · have e := h y.1
        rw [find, if_neg (fun e => lt_ne hg e.symm), find, if_pos rfl, find_none (fun z hz e => by have := lt_trans hg (a.1 z hz); exact lt_ne this e.symm)] at e
        cases e
    have hxy : x = y := by
      have e := h x.1
      rw [find, if_pos rfl, find, if_pos hk.symm] at e
      exact Option.some.inj e
    subst hxy
    congr 1
    refine ext a.2 b.2 (fun k => ?_)
    by_cases hs : x.1 = k
    · subst hs
      rw [find_none (fun z hz e => lt_ne (a.1 z hz) e.symm), find_none (fun z hz e => lt_ne (b.1 z hz) e.symm)]
    · have e := h k
      rw [find, if_neg hs, find, if_neg hs] at e
      exact e
theorem putGo_undone (x : I) : ∀ (l : List I), Up l → putGo x false l = l.filter (fun y => Na.lt y.1 x.1) ++ x :: l.filter (fun y => Na.lt x.1 y.1)
  | [], _ => by simp [putGo]
  | y :: l, h => by
    have a := List.pairwise_cons.mp h
    rw [putGo]
    cases hg : Na.lt y.1 x.1 with
    | true =>
      have g : ge y.1 x.1 = false := by simp [ge, hg]
      rw [g, if_neg (by simp), if_neg (lt_ne hg), Bool.or_false, putGo_undone x l a.2, List.filter_cons, if_pos (by simpa using hg), List.filter_cons, if_neg (by simp [lt_asymm hg])]
      simp
    | false =>
      have g : ge y.1 x.1 = true := by simp [ge, hg]
      have e1 : (y :: l).filter (fun y => Na.lt y.1 x.1) = [] := by
        rw [List.filter_eq_nil_iff]
        intro z hz hc
        rcases List.mem_cons.mp hz with rfl | hz
        · rw [hg] at hc; cases hc
        · have := lt_trans (a.1 z hz) hc; rw [hg] at this; cases this
      have hgt : ∀ z ∈ l, Na.lt x.1 z.1 = true := fun z hz => by
        rcases lt_total x.1 y.1 with h' | h' | h'
        · exact lt_trans h' (a.1 z hz)
        · rw [h']; exact a.1 z hz
        · rw [hg] at h'; cases h'
      have e2 : l.filter (fun y => decide (y.1 ≠ x.1)) = l.filter (fun y => Na.lt x.1 y.1) := by
        apply List.filter_congr
        intro z hz
        rw [hgt z hz, decide_eq_true_eq]
        exact fun e => lt_ne (hgt z hz) e.symm
      rw [g, if_pos ⟨rfl, rfl⟩, Bool.false_or, putGo_done, e1, e2, List.filter_cons, List.nil_append]
      by_cases e : y.1 = x.1
      · rw [if_pos e, e, lt_irrefl]; simp
      · have : Na.lt x.1 y.1 = true := by
          rcases lt_total x.1 y.1 with h' | h' | h'
          · exact h'
          · exact absurd h'.symm e
          · rw [hg] at h'; cases h'
        rw [if_neg e, this]; simp
theorem up_put {l : List I} (h : Up l) (x : I) : Up (put l x) := by
  unfold put
  rw [putGo_undone x l h]
  unfold Up
  rw [List.pairwise_append, List.pairwise_cons]
  refine ⟨h.sublist List.filter_sublist, ⟨fun y hy => (List.mem_filter.mp hy).2, h.sublist List.filter_sublist⟩, fun a ha b hb => ?_⟩
  have h1 := (List.mem_filter.mp ha).2
  rcases List.mem_cons.mp hb with rfl | hb
  · exact h1
  · exact lt_trans h1 (List.mem_filter.mp hb).2
theorem find_append (k : List Nat) : ∀ (l m : List I), find (l ++ m) k = match find l k with | some x => some x | none => find m k
  | [], m => rfl
  | x :: l, m => by
    rw [List.cons_append, find, find]
    by_cases h : x.1 = k
    · rw [if_pos h, if_pos h]
    · rw [if_neg h, if_neg h]; exact find_append k l m
theorem find_filter (f : I → Bool) (k : List Nat) : ∀ (l : List I), (∀ x ∈ l, x.1 = k → f x = true) → find (l.filter f) k = find l k
  | [], _ => rfl
  | x :: l, h => by
    rw [List.filter_cons]
    by_cases hx : f x = true
    · rw [if_pos hx, find, find, find_filter f k l (fun y hy => h y (List.mem_cons_of_mem _ hy))]
    · rw [if_neg hx, find, if_neg (fun e => hx (h x List.mem_cons_self e)), find_filter f k l (fun y hy => h y (List.mem_cons_of_mem _ hy))]
theorem find_put {l : List I} (h : Up l) (x : I) (k : List Nat) : find (put l x) k = if x.1 = k then some x else find l k := by
  unfold put
  rw [putGo_undone x l h, find_append, find]
  by_cases hk : x.1 = k
  · subst hk
    rw [find_none (fun y hy e => by have := (List.mem_filter.mp hy).2; rw [e, lt_irrefl] at this; cases this), if_pos rfl]
    simp
  · rw [if_neg hk, if_neg hk]
    rcases lt_total k x.1 with h' | h' | h'
    · rw [find_filter _ k l (fun y _ e => by rw [e]; exact h')]
      cases hf : find l k with
      | some y => rfl
      | none => exact find_none (fun y hy e => by have := (List.mem_filter.mp hy).2; rw [e, lt_asymm h'] at this; cases this)
    · exact absurd h'.symm hk
    · rw [find_none (fun y hy e => by have := (List.mem_filter.mp hy).2; rw [e, lt_asymm h'] at this; cases this)]
      exact find_filter _ k l (fun y _ e => by rw [e]; exact h')
theorem up_fold : ∀ (p l : List I), Up l → Up (p.foldl put l)
  | [], _, h => h
  | x :: p, _, h => up_fold p _ (up_put h x)
/-- items of unlike keys, put in whatever order -/
theorem find_fold : ∀ (p l : List I), Up l → p.Pairwise (fun a b => a.1 ≠ b.1) → ∀ k, find (p.foldl put l) k = match find p k with | some x => some x | none => find l k
  | [], _, _, _, _ => rfl
  | x :: p, l, h, hp, k => by
    have a := List.pairwise_cons.mp hp
    rw [List.foldl_cons, find_fold p (put l x) (up_put h x) a.2 k, find_put h, find]
    by_cases hk : x.1 = k
    · subst hk
      rw [find_none (fun y hy e => a.1 y hy e.symm), if_pos rfl]
      simp
    · rw [if_neg hk, if_neg hk]
theorem find_mem : ∀ {l : List I} {k : List Nat} {x : I}, find l k = some x → x ∈ l ∧ x.1 = k
  | y :: _, k, _, h => by
    rw [find] at h
    by_cases e : y.1 = k
    · rw [if_pos e] at h
      cases h
      exact ⟨List.mem_cons_self, e⟩
    · rw [if_neg e] at h
      exact ⟨List.mem_cons_of_mem _ (find_mem h).1, (find_mem h).2⟩
theorem find_of_mem : ∀ {l : List I} {x : I}, l.Pairwise (fun a b => a.1 ≠ b.1) → x ∈ l → find l x.1 = some x
  | y :: l, x, h, hx => by
    have a := List.pairwise_cons.mp h
    rw [find]
    rcases List.mem_cons.mp hx with rfl | hx
    · rw [if_pos rfl]
    · rw [if_neg (a.1 x hx)]; exact find_of_mem a.2 hx
/-- in which order items of unlike keys are put does not matter -/
theorem put_any {l p : List I} (hl : Up l) (hp : p.Perm l) : p.foldl put [] = l := by
  have hd : l.Pairwise (fun a b => a.1 ≠ b.1) := hl.imp (fun h => lt_ne h)
  have hpd : p.Pairwise (fun a b => a.1 ≠ b.1) := (hp.pairwise_iff (fun h => Ne.symm h)).mpr hd
  refine ext (up_fold p [] List.Pairwise.nil) hl (fun k => ?_)
  rw [find_fold p [] List.Pairwise.nil hpd k]
  cases h : find p k with
  | some x =>
    obtain ⟨h1, h2⟩ := find_mem h
    subst h2
    exact (find_of_mem hd (hp.mem_iff.mp h1)).symm
  | none =>
    cases h2 : find l k with
    | none => rfl
    | some x =>
      obtain ⟨h3, h4⟩ := find_mem h2
      subst h4
      rw [find_of_mem hpd (hp.mem_iff.mpr h3)] at h
      cases h
end Go.Proofs.YtnoknmnbfkdccaaGreatDoor.It

/- Items in order, plainly: which may be, each key behind the one ahead; a search by halves. Names no dump. -/
namespace Go.Proofs.YtnoknmnbfkdccaaGreatDoor.It
theorem sortedGo_iff : ∀ (l : List I) (p : Option (List Nat)), sortedGo p l = true ↔ (∀ x ∈ l, may x = true) ∧ l.Pairwise (fun a b => Na.lt a.1 b.1 = true) ∧ (∀ x ∈ l, after p x.1 = true)
  | [], p => by simp [sortedGo]
  | y :: l, p => by
    rw [sortedGo, Bool.and_eq_true, Bool.and_eq_true, sortedGo_iff l (some y.1), List.pairwise_cons]
    constructor
    · rintro ⟨⟨h1, h2⟩, h3, h4, h5⟩
      refine ⟨fun x hx => ?_, ⟨h5, h4⟩, fun x hx => ?_⟩
      · rcases List.mem_cons.mp hx with rfl | hx
        · exact h1
        · exact h3 x hx
      · rcases List.mem_cons.mp hx with rfl | hx
        · exact h2
        · cases p with
          | none => rfl
          | some k => exact lt_trans h2 (h5 x hx)
    · rintro ⟨h1, ⟨h2, h3⟩, h4⟩
      exact ⟨⟨h1 y List.mem_cons_self, h4 y List.mem_cons_self⟩, fun x hx => h1 x (List.mem_cons_of_mem _ hx), h3, h2⟩
theorem sorted_iff (l : List I) : sorted l = true ↔ (∀ x ∈ l, may x = true) ∧ l.Pairwise (fun a b => Na.lt a.1 b.1 = true) := by
  rw [sorted, sortedGo_iff]
  exact ⟨fun h => ⟨h.1, h.2.1⟩, fun h => ⟨h.1, h.2, fun _ _ => rfl⟩⟩
theorem rise_at {l : List I} (h : l.Pairwise (fun a b => Na.lt a.1 b.1 = true)) {p q : Nat} (hpq : p < q) (hq : q < l.length) : Na.lt (l.getD p zero).1 (l.getD q zero).1 = true := by
  have := (List.pairwise_iff_getElem.mp h) p q (by omega) hq hpq
  simpa [show p < l.length by omega, hq] using this
theorem ge_lt_trans {a b c : List Nat} (h1 : Na.lt b a = false) (h2 : Na.lt b c = true) : Na.lt a c = true := by
  rcases lt_total a b with h | h | h
  · exact lt_trans h h2
  · rw [h]; exact h2
  · rw [h1] at h; cases h
theorem get_none : ∀ {l : List I} {s : List Nat}, (∀ x ∈ l, x.1 ≠ s) → get l s = zero
  | [], _, _ => rfl
  | x :: l, s, h => by rw [get, if_neg (h x (by simp))]; exact get_none (fun y hy => h y (by simp [hy]))
theorem get_at : ∀ {l : List I} {i : Nat}, l.Pairwise (fun a b => Na.lt a.1 b.1 = true) → i < l.length → get l (l.getD i zero).1 = l.getD i zero
  | [], _, _, h => by simp at h
  | x :: l, 0, _, _ => by simp [get]
  | x :: l, i + 1, hp, h => by
    rw [List.pairwise_cons] at hp
    have hi' : i < l.length := by simpa using h
    have h1 := hp.1 (l.getD i zero) (by rw [show l.getD i zero = l[i] by simp [hi']]; exact List.getElem_mem _)
    rw [List.getD_cons_succ, get, if_neg (lt_ne h1)]
    exact get_at hp.2 hi'
end Go.Proofs.YtnoknmnbfkdccaaGreatDoor.It

/- The plain mathematics of trees of items: their list, putting, finding, walking through a range. Names no dump. -/
namespace Go.Proofs.YtnoknmnbfkdccaaGreatDoor.Tn
open It

inductive T where
  | e : T
  | n (l : T) (x : I) (r : T) : T
def T.hgt : T → Nat
  | .e => 0
  | .n l _ r => 1 + max l.hgt r.hgt
theorem filter_all {f : I → Bool} {l : List I} (h : ∀ z ∈ l, f z = true) : l.filter f = l := List.filter_eq_self.mpr h
def below (hi : List Nat) (y : List Nat) : Bool := decide (hi = []) || Na.lt y hi
theorem scan_all (L : List I) : scan L [] [] (L.length : Nat) = L := by
  unfold scan
  rw [filter_all (fun z _ => by simp [inside, ge]; cases z.1 <;> rfl)]
  simp
end Go.Proofs.YtnoknmnbfkdccaaGreatDoor.Tn

/- The plain mathematics of blocks: items in order as bytes, each key told by what it has alike with the one ahead. Names no dump. -/
namespace Go.Proofs.YtnoknmnbfkdccaaGreatDoor.Bl

/-- how many bytes two keys have alike -/
def alike : List Nat → List Nat → Nat
  | a :: as, b :: bs => if a = b then alike as bs + 1 else 0
  | [], _ => 0
  | _ :: _, [] => 0
theorem alike_le : ∀ (a b : List Nat), alike a b ≤ a.length ∧ alike a b ≤ b.length
  | [], b => by cases b <;> simp [alike]
  | _ :: _, [] => by simp [alike]
  | x :: a, y :: b => by
    have := alike_le a b
    simp only [alike]
    split
    · simp only [List.length_cons]; omega
    · simp
def may (l : List It.I) : Bool := decide (1 ≤ l.length ∧ l.length ≤ 256) && It.sorted l
def tail1 (x : It.I) : List Nat := if x.2.1 = true then [1] else 0 :: Ce.put x.2.2
def put1 (last : List Nat) (x : It.I) : List Nat := Va.one (alike last x.1) ++ (Va.one (x.1.length - alike last x.1) ++ (x.1.drop (alike last x.1) ++ tail1 x))
def putGo : List Nat → List It.I → List Nat
  | _, [] => []
  | last, x :: l => put1 last x ++ putGo x.1 l
def put (l : List It.I) : List Nat := Va.one l.length ++ putGo [] l
/-- what stands behind the numbers: an item and how many bytes it has -/
def one (last bs : List Nat) : Option (It.I × Nat) :=
  let k := (Va.get bs).2
  let m := (Va.get (bs.drop k)).2
  let u := (Va.get bs).1
  let v := (Va.get (bs.drop k)).1
  if k = 0 ∨ m = 0 ∨ last.length < u ∨ 64 < v then none
  else if bs.length ≤ k + m + v then none
  else
    let key := last.take u ++ (bs.drop (k + m)).take v
    if bs.getD (k + m + v) 0 = 1 then some ((key, true, Ce.zero), k + m + v + 1)
    else
      let c := Ce.get (bs.drop (k + m + v + 1))
      if c.2 = 0 then none else some ((key, false, c.1), k + m + v + 1 + c.2)
def sc : Nat → List Nat → Nat → List Nat → List It.I → Option (List It.I × Nat)
  | 0, _, at', _, l => some (l, at')
  | n + 1, bs, at', last, l => match one last (bs.drop at') with | none => none | some (x, k) => sc n bs (at' + k) x.1 (l ++ [x])
def get (bs : List Nat) : List It.I :=
  if (Va.get bs).2 = 0 ∨ 256 < (Va.get bs).1 then []
  else match sc (Va.get bs).1 bs (Va.get bs).2 [] [] with
    | none => []
    | some (l, e) => if e = bs.length ∧ may l = true ∧ put l = bs then l else []

/-- what is got is just what was put -/
theorem get_ok {bs : List Nat} (h : get bs ≠ []) : may (get bs) = true ∧ put (get bs) = bs := by
  unfold get at h ⊢
  split
  · rename_i h0; rw [if_pos h0] at h; exact absurd rfl h
  · rename_i h0
    rw [if_neg h0] at h
    split
    · rename_i h1; rw [h1] at h; exact absurd rfl h
    · rename_i l e h1
      rw [h1] at h
      simp only [] at h ⊢
      split
      · rename_i h2; exact h2.2
      · rename_i h2; rw [if_neg h2] at h; exact absurd rfl h
def Small (x : It.I) : Prop := (∀ b ∈ x.1, b < 256) ∧ (∀ b ∈ x.2.2.2.1, b < 256) ∧ x.2.2.2.2.2.2.2 < 4294967296
theorem it_parts {x : It.I} (h : It.may x = true) : x.1 ≠ [] ∧ x.1.length ≤ 64 ∧ Ce.may x.2.2 = true ∧ (x.2.1 = true → x.2.2 = Ce.zero) := by
  simp only [It.may, Bool.and_eq_true, decide_eq_true_eq, Bool.or_eq_true, Bool.not_eq_true'] at h
  refine ⟨h.1.1.1, h.1.1.2, h.1.2, fun hd => ?_⟩
  rcases h.2 with h2 | h2
  · rw [hd] at h2; cases h2
  · exact h2
theorem tail1_small {x : It.I} (hs : Small x) : ∀ b ∈ tail1 x, b < 256 := by
  unfold tail1
  split
  · intro b hb; simp at hb; omega
  · intro b hb
    rcases List.mem_cons.mp hb with rfl | hb
    · omega
    · exact Ce.put_small hs.2.1 b hb
theorem put1_small {last : List Nat} {x : It.I} (hs : Small x) : ∀ b ∈ put1 last x, b < 256 := by
  intro b hb
  simp only [put1, List.mem_append] at hb
  rcases hb with hb | hb | hb | hb
  · exact Va.one_small _ b hb
  · exact Va.one_small _ b hb
  · exact hs.1 b (List.mem_of_mem_drop hb)
  · exact tail1_small hs b hb
theorem putGo_small : ∀ {l : List It.I} {last : List Nat}, (∀ x ∈ l, Small x) → ∀ b ∈ putGo last l, b < 256
  | [], _, _, b, hb => by simp [putGo] at hb
  | x :: l, last, h, b, hb => by
    rcases List.mem_append.mp hb with hb | hb
    · exact put1_small (h x (by simp)) b hb
    · exact putGo_small (fun y hy => h y (by simp [hy])) b hb
theorem sorted_may : ∀ {l : List It.I} {p : Option (List Nat)}, It.sortedGo p l = true → ∀ x ∈ l, It.may x = true
  | [], _, _, x, hx => by cases hx
  | y :: l, p, h, x, hx => by
    simp only [It.sortedGo, Bool.and_eq_true] at h
    rcases List.mem_cons.mp hx with rfl | hx
    · exact h.1.1
    · exact sorted_may h.2 x hx
theorem put1_len {last : List Nat} {x : It.I} (h : It.may x = true) : (put1 last x).length ≤ 130 := by
  obtain ⟨_, p2, p3, _⟩ := it_parts h
  have a2 := (alike_le last x.1).2
  have l1 := Va.one_len10 (u := alike last x.1) (by omega)
  have l2 := Va.one_len10 (u := x.1.length - alike last x.1) (by omega)
  have l3 := Ce.put_len p3
  unfold put1 tail1
  simp only [List.length_append, List.length_drop]
  split
  · simp; omega
  · simp only [List.length_cons]; omega
theorem putGo_len : ∀ {l : List It.I} {last : List Nat}, (∀ x ∈ l, It.may x = true) → (putGo last l).length ≤ 130 * l.length
  | [], _, _ => by simp [putGo]
  | x :: l, last, h => by
    have h1 := put1_len (last := last) (h x (by simp))
    have h2 := putGo_len (l := l) (last := x.1) (fun y hy => h y (by simp [hy]))
    simp only [putGo, List.length_append, List.length_cons]
    omega
theorem put_len {l : List It.I} (hl : l.length ≤ 256) (h : may l = true) : (put l).length ≤ 1000000 := by
  simp only [may, Bool.and_eq_true] at h
  have h1 := putGo_len (l := l) (last := []) (sorted_may h.2)
  have h2 := Va.one_len10 (u := l.length) (by omega)
  unfold put
  rw [List.length_append]
  omega
theorem put_small {l : List It.I} (h : ∀ x ∈ l, Small x) : ∀ b ∈ put l, b < 256 := by
  intro b hb
  rcases List.mem_append.mp hb with hb | hb
  · exact Va.one_small _ b hb
  · exact putGo_small h b hb
end Go.Proofs.YtnoknmnbfkdccaaGreatDoor.Bl

/- The plain mathematics of blocks as the program reads them: each item held against its own bytes at once. Names no dump. -/
namespace Va
theorem take_add' (bs : List Nat) (a b : Nat) : bs.take (a + b) = bs.take a ++ (bs.drop a).take b := by
  rw [List.take_add]
theorem al_take : ∀ (n : Nat) (bs : List Nat) (at' : Nat) (l : List Nat), (∀ x ∈ bs, x < 256) → bs.take at' = put l → (al n bs at' l).2.2 = 0 → bs.take (al n bs at' l).2.1 = put (al n bs at' l).1
  | 0, bs, at', l, _, h, _ => h
  | n + 1, bs, at', l, hs, h, h0 => by
    by_cases hg : (get (bs.drop at')).2 = 0
    · rw [al_none hg] at h0; simp at h0
    · rw [al_some hg] at h0 ⊢
      refine al_take n bs _ _ hs ?_ h0
      rw [take_add', h, get_ok (fun x hx => hs x (List.mem_of_mem_drop hx)) hg, put_snoc]
theorem all_take {bs : List Nat} {n : Nat} (hs : ∀ x ∈ bs, x < 256) (h0 : (all bs n).2.2 = 0) : bs.take (all bs n).2.1 = put (all bs n).1 := al_take n bs 0 [] hs (by simp [put]) h0
end Va
namespace Go.Proofs.YtnoknmnbfkdccaaGreatDoor
theorem Po.get_ok {bs : List Nat} (hs : ∀ x ∈ bs, x < 256) (h : (Po.get bs).2 ≠ 0) : bs.take (Po.get bs).2 = Po.put (Po.get bs).1 := by
  unfold Po.get at h ⊢
  split
  · rename_i hc
    obtain ⟨h0, h1, h2⟩ := hc
    have ht := Va.all_take hs h0
    have hl := (Po.all_ok bs 3).2.1 h0
    simp only []
    rw [Va.take_add', ht]
    have h4s : ∀ x ∈ (bs.drop (Va.all bs 3).2.1).take 4, x < 256 := fun x hx => hs x (List.mem_of_mem_drop (List.mem_of_mem_take hx))
    have h4l : ((bs.drop (Va.all bs 3).2.1).take 4).length = 4 := by rw [List.length_take, List.length_drop]; omega
    have hle := (Fr.le4_val (Po.val4_lt h4s) h4s h4l).mpr rfl
    unfold Po.put Po.ofNums Po.nums
    simp only [Int.toNat_natCast]
    rw [hle]
    congr 1
    obtain ⟨l, hl2⟩ : ∃ l, l = (Va.all bs 3).1 := ⟨_, rfl⟩
    rw [← hl2] at hl ⊢
    match l, hl with
    | [x, y, z], _ => rfl
  · rename_i hc; rw [if_neg hc] at h; exact absurd rfl h
theorem Ce.get_ok {bs : List Nat} (hs : ∀ x ∈ bs, x < 256) (h : (Ce.get bs).2 ≠ 0) : bs.take (Ce.get bs).2 = Ce.put (Ce.get bs).1 := by
  have hd : ∀ x ∈ bs.drop 1, x < 256 := fun x hx => hs x (List.mem_of_mem_drop hx)
  unfold Ce.get at h ⊢
  split
  · rename_i hc; rw [if_pos hc] at h; exact absurd rfl h
  · rename_i hc
    rw [if_neg hc] at h
    have hl : 0 < bs.length := by omega
    have hb1 : bs.take 1 = [bs.getD 0 0] := by
      cases bs with
      | nil => simp at hl
      | cons x l => simp
    split
    · rename_i h1
      rw [if_pos h1] at h
      split
      · rename_i h2; rw [if_pos h2] at h; exact absurd rfl h
      · rename_i h2
        simp only []
        rw [Nat.add_comm, Va.take_add', hb1, h1, Po.get_ok hd h2]
        rfl
    · rename_i h1
      rw [if_neg h1] at h
      have h0 : bs.getD 0 0 = 0 := by omega
      split
      · rename_i h2; rw [if_pos h2] at h; exact absurd rfl h
      · rename_i h2
        have h3 : ¬ (Va.get (bs.drop 1)).2 = 0 := fun e => h2 (.inl e)
        have hlen : ((bs.drop (1 + (Va.get (bs.drop 1)).2)).take (Va.get (bs.drop 1)).1).length = (Va.get (bs.drop 1)).1 := by rw [List.length_take, List.length_drop]; omega
        simp only []
        rw [Va.take_add', Va.take_add', hb1, h0, Va.get_ok hd h3]
        unfold Ce.put
        simp only [Bool.false_eq_true, if_false, hlen]
        rfl

namespace Bl
end Bl
end Go.Proofs.YtnoknmnbfkdccaaGreatDoor

/- The plain mathematics of sieves: a key's bits, the sieve of keys, whether a key is in it. Names no dump. -/
namespace Go.Proofs.YtnoknmnbfkdccaaGreatDoor.Sv

def odd (e : Nat) : Nat := if e % 2 = 0 then e + 1 else e
def turnd (h : Nat) : Nat := odd (h * 131072 % 4294967296 + h / 32768)
def bit (n h i : Nat) : Nat := (h + i * turnd h) % 4294967296 % (8 * n)
def sum (key : List Nat) : Nat := Crc.more 0 key
/-- a key's bits in a sieve of n bytes -/
def bits (n : Nat) (key : List Nat) : List Nat := (List.range 6).map (bit n (sum key))
/-- whether a bit is set in the sieve of keys -/
def set (keys : List (List Nat)) (n b : Nat) : Bool := keys.any fun k => decide (b ∈ bits n k)
def byteGo (f : Nat → Bool) : Nat → Nat → Nat
  | 0, v => v
  | k + 1, v => byteGo f k (v * 2 + if f k = true then 1 else 0)
def byte (keys : List (List Nat)) (n i : Nat) : Nat := byteGo (fun k => set keys n (8 * i + k)) 8 0
def size (m : Nat) : Nat := m + m / 10 + 1
/-- the sieve of keys -/
def of (keys : List (List Nat)) : List Nat := (List.range (size keys.length)).map (byte keys (size keys.length))
def isSet (b : List Nat) (j : Nat) : Bool := decide (b.getD (j / 8) 0 / 2 ^ (j % 8) % 2 = 1)
/-- whether bytes have a key -/
def has (b : List Nat) (key : List Nat) : Bool := if b.length = 0 ∨ 1048576 < b.length then true else (bits b.length key).all (isSet b)

end Go.Proofs.YtnoknmnbfkdccaaGreatDoor.Sv

/- The plain mathematics of tables: items in order, parted, as frames; what is made is opened. Names no dump. -/
namespace Go.Proofs.YtnoknmnbfkdccaaGreatDoor.Tb

def joined (ps : List (List It.I)) : List It.I := ps.flatten
theorem part_sub {ps : List (List It.I)} {q : List It.I} (h : q ∈ ps) : q.Sublist (joined ps) := by
  induction ps with
  | nil => cases h
  | cons p ps ih =>
    simp only [joined, List.flatten_cons]
    rcases List.mem_cons.mp h with rfl | h
    · exact List.sublist_append_left _ _
    · exact (ih h).trans (List.sublist_append_right _ _)
/-- a part's frame -/
def frame (p : List It.I) : Fr.F := (1, Bl.put p)
def firstKey (p : List It.I) : List Nat := (p.getD 0 It.zero).1
/-- where the parts begin -/
def ix : Nat → List (List It.I) → List Nat
  | _, [] => []
  | at', p :: ps => Va.one (firstKey p).length ++ (firstKey p ++ (Va.one (at' + (Fr.one (frame p)).length - 4 - (Bl.put p).length) ++ ix (at' + (Fr.one (frame p)).length) ps))
def tail (ps : List (List It.I)) : List Fr.F := [(2, ix 0 ps), (3, Sv.of ((joined ps).map (fun x => x.1))), (4, Va.one (joined ps).length)]
def frames (ps : List (List It.I)) : List Fr.F := ps.map frame ++ tail ps
/-- a table's bytes -/
def put (ps : List (List It.I)) : List Nat := Fr.all (frames ps)
/-- the parts of the first frames -/
def lead : List Fr.F → List (List It.I) → Option (List (List It.I))
  | [], acc => some acc
  | f :: fs, acc => if f.1 = 1 then (if Bl.get f.2 = [] then none else lead fs (acc ++ [Bl.get f.2])) else some acc
def get (bs : List Nat) : List It.I := match lead (Fr.scan bs).1 [] with
  | none => []
  | some ps => if (joined ps).length < 1 ∨ 16384 < (joined ps).length ∨ It.sorted (joined ps) = false ∨ put ps ≠ bs then [] else joined ps

end Go.Proofs.YtnoknmnbfkdccaaGreatDoor.Tb
