/- The plain mathematics of numbers as few bytes: what is put, what is got, how many bytes, folding. Names no dump. -/
import Derived.Lib.BitFns
import Derived.Laws.BitsAllLaws
namespace Va

/-- a number's bytes -/
def one (u : Nat) : List Nat := if h : u < 128 then [u] else (u % 128 + 128) :: one (u / 128)
termination_by u
decreasing_by omega

theorem one_lo {u : Nat} (h : u < 128) : one u = [u] := by rw [one, dif_pos h]
theorem one_hi {u : Nat} (h : ¬ u < 128) : one u = (u % 128 + 128) :: one (u / 128) := by rw [one, dif_neg h]

/-- numbers' bytes -/
def put (l : List Nat) : List Nat := l.flatMap one
theorem put_snoc (l : List Nat) (u : Nat) : put (l ++ [u]) = put l ++ one u := by simp [put]
theorem put_one (u : Nat) : put [u] = one u := by simp [put]

theorem one_small (u : Nat) : ∀ x ∈ one u, x < 256 := by
  induction u using one.induct with
  | case1 u h => rw [one_lo h]; intro x hx; simp at hx; omega
  | case2 u h ih =>
    rw [one_hi h]; intro x hx
    rcases List.mem_cons.mp hx with rfl | hx
    · omega
    · exact ih x hx
theorem put_small (l : List Nat) : ∀ x ∈ put l, x < 256 := by
  intro x hx
  simp only [put, List.mem_flatMap] at hx
  obtain ⟨u, _, hu⟩ := hx
  exact one_small u x hu
theorem one_pos (u : Nat) : 0 < (one u).length := by
  by_cases h : u < 128
  · rw [one_lo h]; simp
  · rw [one_hi h]; simp
theorem one_len : ∀ (k u : Nat), u < 128 ^ k → 0 < k → (one u).length ≤ k := by
  intro k
  induction k with
  | zero => intro u _ h; omega
  | succ k ih =>
    intro u hu _
    by_cases h : u < 128
    · rw [one_lo h]; simp
    · rw [one_hi h, List.length_cons]
      have hk : 0 < k := by
        rcases Nat.eq_zero_or_pos k with rfl | h'
        · simp at hu; omega
        · exact h'
      have : u / 128 < 128 ^ k := by rw [Nat.pow_succ] at hu; omega
      have := ih _ this hk
      omega
theorem one_len10 {u : Nat} (h : u < 18446744073709551616) : (one u).length ≤ 10 := one_len 10 u (by omega) (by omega)
theorem put_len : ∀ (l : List Nat), (∀ u ∈ l, u < 18446744073709551616) → (put l).length ≤ 10 * l.length := by
  intro l
  induction l with
  | nil => intro _; simp [put]
  | cons u l ih =>
    intro h
    have h1 := one_len10 (h u (by simp))
    have h2 := ih (fun x hx => h x (by simp [hx]))
    simp only [put, List.flatMap_cons, List.length_append, List.length_cons] at *
    omega

/-! how many bytes -/
theorem or_one (x : Nat) : x ||| 1 = x + (1 - x % 2) := by
  have h2 : (x / 2 * 2) ||| 1 = x / 2 * 2 + 1 := Go.nat_join 1 _ _ (by omega) (by decide)
  rcases Nat.mod_two_eq_zero_or_one x with h | h
  · have e : x / 2 * 2 = x := by omega
    rw [e] at h2; omega
  · have e : x = x / 2 * 2 + 1 := by omega
    have h3 : x ||| 1 = (x / 2 * 2 ||| 1) ||| 1 := by rw [h2, ← e]
    rw [h3, Nat.or_assoc, Nat.or_self, h2]; omega
theorem bitLen_or {x : Nat} (h0 : 0 < x) (h : x < 2 ^ 64) : Go.Lib.bitLen (x ||| 1) = Go.Lib.bitLen x := by
  have hb : x ||| 1 < 2 ^ 64 := Nat.or_lt_two_pow h (by decide)
  rw [Go.Lib.bitLen_half _ (by rw [or_one]; omega) hb, Go.Lib.bitLen_half x (by omega) h]
  rw [or_one]
  congr 2; omega
theorem bitLen_small : ∀ n : Fin 128, Go.Lib.bitLen (n.val ||| 1) ≤ 7 ∧ 1 ≤ Go.Lib.bitLen (n.val ||| 1) := by decide +kernel
/-- how many bytes a number has, as the program counts -/
def size (u : Nat) : Nat := (Go.Lib.bitLen (u ||| 1) + 6) / 7
theorem size_one (u : Nat) (h : u < 2 ^ 64) : size u = (one u).length := by
  induction u using one.induct with
  | case1 u h' =>
    rw [one_lo h']
    have := bitLen_small ⟨u, h'⟩
    unfold size; simp at this ⊢; omega
  | case2 u h' ih =>
    rw [one_hi h', List.length_cons, ← ih (by omega)]
    unfold size
    rw [bitLen_or (by omega) h, Go.Lib.bitLen_shift 7 u (by omega) h, bitLen_or (by omega) (by omega)]
    show (7 + Go.Lib.bitLen (u / 128) + 6) / 7 = _
    omega
theorem bitLen_le {u : Nat} (h : u < 2 ^ 64) : Go.Lib.bitLen (u ||| 1) ≤ 70 := by
  have h1 := size_one u h
  have h2 := one_len10 (u := u) (by omega)
  unfold size at h1
  omega

/-! the number that groups are -/
def val : List Nat → Nat
  | [] => 0
  | x :: r => x % 128 + 128 * val r
theorem val_append (a b : List Nat) : val (a ++ b) = val a + 128 ^ a.length * val b := by
  induction a with
  | nil => simp [val]
  | cons x a ih => rw [List.cons_append, val, val, ih, List.length_cons, Nat.pow_succ, Nat.mul_add, ← Nat.mul_assoc, Nat.mul_comm (128 ^ _) 128]; omega
theorem val_snoc (a : List Nat) (x : Nat) : val (a ++ [x]) = val a + 128 ^ a.length * (x % 128) := by
  rw [val_append]; simp [val]
theorem val_lt (a : List Nat) : val a < 128 ^ a.length := by
  induction a with
  | nil => simp [val]
  | cons x a ih => rw [val, List.length_cons, Nat.pow_succ]; omega
theorem val_one (u : Nat) : val (one u) = u := by
  induction u using one.induct with
  | case1 u h => rw [one_lo h]; simp [val]; omega
  | case2 u h ih => rw [one_hi h, val, ih]; omega

/-- bytes of which all but the last say that one is behind, the last is not 0 (but alone) -/
theorem one_val : ∀ (a : List Nat) (x : Nat), (∀ y ∈ a, 128 ≤ y ∧ y < 256) → x < 128 → (a = [] ∨ x ≠ 0) → one (val (a ++ [x])) = a ++ [x] := by
  intro a
  induction a with
  | nil => intro x _ hx _; simp [val, Nat.mod_eq_of_lt hx, one_lo hx]
  | cons y a ih =>
    intro x ha hx h0
    have hx0 : x ≠ 0 := by rcases h0 with h | h; · cases h
                           · exact h
    obtain ⟨hy1, hy2⟩ := ha y (by simp)
    have hv : 0 < val (a ++ [x]) := by
      rw [val_snoc, Nat.mod_eq_of_lt hx]
      have := Nat.mul_pos (Nat.pow_pos (n := a.length) (show 0 < 128 by omega)) (Nat.pos_of_ne_zero hx0)
      omega
    rw [List.cons_append, val, one_hi (by omega), show (y % 128 + 128 * val (a ++ [x])) / 128 = val (a ++ [x]) by omega, ih x (fun z hz => ha z (by simp [hz])) hx (.inr hx0)]
    congr 1; omega

theorem one_last : ∀ (u : Nat) (a : List Nat) (x : Nat), one u = a ++ [x] → x < 128 ∧ (a = [] ∨ x ≠ 0) ∧ ∀ y ∈ a, 128 ≤ y := by
  intro u
  induction u using one.induct with
  | case1 u h =>
    intro a x e
    rw [one_lo h] at e
    cases a with
    | nil => simp at e; subst e; exact ⟨h, .inl rfl, by simp⟩
    | cons y a => simp at e
  | case2 u h ih =>
    intro a x e
    rw [one_hi h] at e
    cases a with
    | nil =>
      simp only [List.nil_append, List.cons.injEq] at e
      have := one_pos (u / 128); rw [e.2] at this; simp at this
    | cons y a =>
      simp only [List.cons_append, List.cons.injEq] at e
      obtain ⟨h1, h2, h3⟩ := ih a x e.2
      refine ⟨h1, .inr ?_, ?_⟩
      · rcases h2 with h2 | h2
        · subst h2
          intro h0; subst h0
          have hv := val_one (u / 128)
          rw [e.2] at hv; simp [val] at hv; omega
        · exact h2
      · intro z hz
        rcases List.mem_cons.mp hz with rfl | hz
        · omega
        · exact h3 z hz

/-! what is got -/
/-- from the place i on, acc being the number of the groups ahead -/
def lp (i acc : Nat) : List Nat → Nat × Nat
  | [] => (0, 0)
  | x :: r => if i = 9 ∧ 1 < x then (0, 0) else if 0 < i ∧ x = 0 then (0, 0) else if x < 128 then (acc + 128 ^ i * (x % 128), i + 1) else lp (i + 1) (acc + 128 ^ i * (x % 128)) r
def get (bs : List Nat) : Nat × Nat := lp 0 0 bs

theorem drop_get (bs : List Nat) (k : Nat) (h : k < bs.length) : bs.drop k = bs.getD k 0 :: bs.drop (k + 1) := by
  rw [List.drop_eq_getElem_cons h]; simp [h]
theorem take_snoc (bs : List Nat) (k : Nat) (h : k < bs.length) : bs.take (k + 1) = bs.take k ++ [bs.getD k 0] := by
  rw [List.take_succ_eq_append_getElem h]; simp [h]

theorem lp_high {bs : List Nat} {k : Nat} : k ≤ 9 → k ≤ bs.length → (∀ j, j < k → 128 ≤ bs.getD j 0) → get bs = lp k (val (bs.take k)) (bs.drop k) := by
  induction k with
  | zero => intro _ _ _; simp [get, val]
  | succ k ih =>
    intro hk hl hh
    rw [ih (by omega) (by omega) (fun j hj => hh j (by omega)), drop_get bs k (by omega), lp]
    have := hh k (by omega)
    rw [if_neg (by omega), if_neg (by omega), if_neg (by omega), take_snoc bs k (by omega), val_snoc, List.length_take, Nat.min_eq_left (by omega)]
theorem get_end {bs : List Nat} {k : Nat} (hk : k ≤ 10) (hl : k ≤ bs.length) (he : k = bs.length ∨ k = 10) (hh : ∀ j, j < k → 128 ≤ bs.getD j 0) : get bs = (0, 0) := by
  by_cases h10 : k = 10
  · subst h10
    rw [lp_high (k := 9) (by omega) (by omega) (fun j hj => hh j (by omega)), drop_get bs 9 (by omega), lp]
    have := hh 9 (by omega)
    rw [if_pos (by omega)]
  · have e : k = bs.length := by omega
    rw [lp_high (k := k) (by omega) (by omega) hh, List.drop_of_length_le (by omega), lp]
theorem get_at {bs : List Nat} {k : Nat} (hs : ∀ x ∈ bs, x < 256) (hk : k ≤ 9) (hl : k < bs.length) (hh : ∀ j, j < k → 128 ≤ bs.getD j 0) (hx : bs.getD k 0 < 128) :
    get bs = if one (val (bs.take (k + 1)) % 18446744073709551616) = bs.take (k + 1) then (val (bs.take (k + 1)) % 18446744073709551616, k + 1) else (0, 0) := by
  rw [lp_high (k := k) hk (by omega) hh, drop_get bs k hl, lp]
  have ht : ∀ y ∈ bs.take k, 128 ≤ y ∧ y < 256 := by
    intro y hy
    refine ⟨?_, hs y (List.mem_of_mem_take hy)⟩
    obtain ⟨j, hj, e⟩ := List.mem_iff_getElem.mp hy
    rw [List.length_take] at hj
    have := hh j (by omega)
    rw [List.getD_eq_getElem?_getD, List.getElem?_eq_getElem (by omega)] at this
    rw [List.getElem_take] at e
    rw [← e]; simpa using this
  have hlt : (bs.take k).length = k := by rw [List.length_take]; omega
  have hts := take_snoc bs k hl
  have hval := val_snoc (bs.take k) (bs.getD k 0)
  rw [← hts, hlt] at hval
  generalize bs.getD k 0 = x at *
  by_cases h9 : k = 9 ∧ 1 < x
  · rw [if_pos h9, if_neg]
    intro e
    have hv := val_one (val (bs.take (k + 1)) % 18446744073709551616)
    rw [e] at hv
    have h128 : (128 : Nat) ^ k = 9223372036854775808 := by rw [h9.1]
    rw [hval, h128] at hv
    have := Nat.mod_lt (val (bs.take k) + 9223372036854775808 * (x % 128)) (show 0 < 18446744073709551616 by omega)
    omega
  · rw [if_neg h9]
    by_cases h0 : 0 < k ∧ x = 0
    · rw [if_pos h0, if_neg]
      intro e
      rw [hts] at e
      have := (one_last _ _ _ e).2.1
      rcases this with h | h
      · rw [h] at hlt; simp at hlt; omega
      · exact h h0.2
    · rw [if_neg h0, if_pos hx, ← hval]
      have hc : one (val (bs.take (k + 1))) = bs.take (k + 1) := by
        rw [hts]
        refine one_val _ _ ht hx ?_
        by_cases hk0 : k = 0
        · left; rw [hk0]; rfl
        · right; omega
      have hlt64 : val (bs.take (k + 1)) < 18446744073709551616 := by
        by_cases hk9 : k = 9
        · have h1 := val_lt (bs.take k)
          have h128 : (128 : Nat) ^ k = 9223372036854775808 := by rw [hk9]
          rw [hlt, h128] at h1
          rw [hval, h128]
          have : x % 128 ≤ 1 := by omega
          omega
        · have h1 := val_lt (bs.take (k + 1))
          rw [List.length_take, Nat.min_eq_left (by omega)] at h1
          have : (128 : Nat) ^ (k + 1) ≤ 128 ^ 9 := Nat.pow_le_pow_right (by omega) (by omega)
          have : (128 : Nat) ^ 9 < 18446744073709551616 := by decide
          omega
      rw [Nat.mod_eq_of_lt hlt64, if_pos hc]

theorem get_le {bs : List Nat} : (get bs).2 ≤ bs.length := by
  suffices h : ∀ (r : List Nat) (i acc : Nat), (lp i acc r).2 ≤ i + r.length by simpa [get] using h bs 0 0
  intro r
  induction r with
  | nil => intro i acc; simp [lp]
  | cons x r ih =>
    intro i acc
    rw [lp]
    split
    · simp
    · split
      · simp
      · split
        · simp
        · have := ih (i + 1) (acc + 128 ^ i * (x % 128)); simp at this ⊢; omega

theorem get_one {u : Nat} (h : u < 18446744073709551616) (r : List Nat) (hr : ∀ x ∈ r, x < 256) : get (one u ++ r) = (u, (one u).length) := by
  obtain ⟨a, x, e⟩ : ∃ a x, one u = a ++ [x] := by
    have := one_pos u
    exact ⟨(one u).dropLast, (one u).getLast (by intro h; rw [h] at this; simp at this), (List.dropLast_concat_getLast _).symm⟩
  obtain ⟨hx, _, ha⟩ := one_last u a x e
  have hlen : (one u).length = a.length + 1 := by rw [e]; simp
  have h10 := one_len10 h
  have hsm : ∀ y ∈ one u ++ r, y < 256 := by
    intro y hy
    rcases List.mem_append.mp hy with h | h
    · exact one_small u y h
    · exact hr y h
  have hg : ∀ j, j < a.length → 128 ≤ (one u ++ r).getD j 0 := by
    intro j hj
    have : (one u ++ r).getD j 0 = a[j] := by
      rw [e, List.append_assoc, List.getD_eq_getElem?_getD, List.getElem?_append_left hj, List.getElem?_eq_getElem hj]; rfl
    rw [this]; exact ha _ (List.getElem_mem hj)
  have hgx : (one u ++ r).getD a.length 0 = x := by
    rw [e, List.append_assoc, List.getD_eq_getElem?_getD, List.getElem?_append_right (Nat.le_refl _)]; simp
  have ht : (one u ++ r).take (a.length + 1) = one u := by rw [← hlen, List.take_left]
  have := get_at (k := a.length) hsm (by omega) (by rw [List.length_append]; omega) hg (by rw [hgx]; exact hx)
  rw [this, ht, val_one, Nat.mod_eq_of_lt h, if_pos rfl, hlen]

theorem get_cut {u : Nat} (h : u < 18446744073709551616) (j : Nat) (hj : j < (one u).length) : get ((one u).take j) = (0, 0) := by
  obtain ⟨a, x, e⟩ : ∃ a x, one u = a ++ [x] := by
    have := one_pos u
    exact ⟨(one u).dropLast, (one u).getLast (by intro h; rw [h] at this; simp at this), (List.dropLast_concat_getLast _).symm⟩
  obtain ⟨_, _, ha⟩ := one_last u a x e
  have h10 := one_len10 h
  have hlen : (one u).length = a.length + 1 := by rw [e]; simp
  refine get_end (k := j) (by omega) (by rw [List.length_take]; omega) (.inl (by rw [List.length_take]; omega)) ?_
  intro i hi
  have : ((one u).take j).getD i 0 = a[i]'(by omega) := by
    rw [List.getD_eq_getElem?_getD, List.getElem?_take, if_pos hi, e, List.getElem?_append_left (by omega), List.getElem?_eq_getElem (by omega)]; rfl
  rw [this]; exact ha _ (List.getElem_mem _)

theorem lp_lt : ∀ (r : List Nat) (i acc : Nat), i ≤ 9 → acc < 128 ^ i → (lp i acc r).1 < 18446744073709551616 := by
  intro r
  induction r with
  | nil => intro i acc _ _; simp [lp]
  | cons x r ih =>
    intro i acc hi ha
    rw [lp]
    by_cases h9 : i = 9
    · subst h9
      split
      · simp
      · split
        · simp
        · have hx : x % 128 ≤ 1 := by omega
          rw [if_pos (by omega)]
          have : (128 : Nat) ^ 9 = 9223372036854775808 := by decide
          simp only [this] at *
          omega
    · have h1 : acc + 128 ^ i * (x % 128) < 128 ^ (i + 1) := by
        rw [Nat.pow_succ]
        have : 128 ^ i * (x % 128) ≤ 128 ^ i * 127 := Nat.mul_le_mul_left _ (by omega)
        omega
      have h2 : (128 : Nat) ^ (i + 1) ≤ 128 ^ 9 := Nat.pow_le_pow_right (by omega) (by omega)
      have h3 : (128 : Nat) ^ 9 < 18446744073709551616 := by decide
      split
      · simp
      · split
        · simp
        · split
          · show acc + 128 ^ i * (x % 128) < _; omega
          · exact ih _ _ (by omega) h1
theorem get_lt (bs : List Nat) : (get bs).1 < 18446744073709551616 := lp_lt bs 0 0 (by omega) (by simp)

/-- the first n numbers from the place at' on, l being got already: the numbers, the place, the code -/
def al : Nat → List Nat → Nat → List Nat → List Nat × Nat × Nat
  | 0, _, at', l => (l, at', 0)
  | n + 1, bs, at', l => if (get (bs.drop at')).2 = 0 then ([], at', 2) else al n bs (at' + (get (bs.drop at')).2) (l ++ [(get (bs.drop at')).1])
def all (bs : List Nat) (n : Nat) : List Nat × Nat × Nat := al n bs 0 []
theorem al_none {n : Nat} {bs : List Nat} {at' : Nat} {l : List Nat} (h : (get (bs.drop at')).2 = 0) : al (n + 1) bs at' l = ([], at', 2) := by rw [al, if_pos h]
theorem al_some {n : Nat} {bs : List Nat} {at' : Nat} {l : List Nat} (h : ¬ (get (bs.drop at')).2 = 0) : al (n + 1) bs at' l = al n bs (at' + (get (bs.drop at')).2) (l ++ [(get (bs.drop at')).1]) := by rw [al, if_neg h]
theorem al_put (more : List Nat) (hm : ∀ x ∈ more, x < 256) : ∀ (l2 l1 : List Nat), (∀ u ∈ l2, u < 18446744073709551616) →
    al l2.length (put l1 ++ put l2 ++ more) (put l1).length l1 = (l1 ++ l2, (put (l1 ++ l2)).length, 0) := by
  intro l2
  induction l2 with
  | nil => intro l1 _; simp [al]
  | cons u l2 ih =>
    intro l1 h
    have hd : (put l1 ++ put (u :: l2) ++ more).drop (put l1).length = one u ++ (put l2 ++ more) := by
      rw [List.append_assoc, List.drop_left]; simp [put]
    have hg := get_one (h u (by simp)) (put l2 ++ more) (by
      intro x hx
      rcases List.mem_append.mp hx with h | h
      · exact put_small l2 x h
      · exact hm x h)
    have hp := one_pos u
    rw [List.length_cons, al_some (by rw [hd, hg]; show ¬ (one u).length = 0; omega), hd, hg]
    have := ih (l1 ++ [u]) (fun x hx => h x (by simp [hx]))
    rw [put_snoc, List.length_append] at this
    rw [show put l1 ++ put (u :: l2) ++ more = put l1 ++ one u ++ put l2 ++ more by simp [put]]
    rw [this]
    simp [put]
theorem all_put (l more : List Nat) (hl : ∀ u ∈ l, u < 18446744073709551616) (hm : ∀ x ∈ more, x < 256) : all (put l ++ more) l.length = (l, (put l).length, 0) := by
  have := al_put more hm l [] hl
  simpa [put, all] using this

/-! folding -/
def fold (n : Int) : Nat := if 0 ≤ n then (2 * n).toNat else (-2 * n - 1).toNat
def unfold (u : Nat) : Int := if u % 2 = 0 then ((u / 2 : Nat) : Int) else -((u / 2 : Nat) : Int) - 1
theorem unfold_fold (n : Int) : unfold (fold n) = n := by unfold unfold fold; split <;> split <;> omega
theorem fold_unfold (u : Nat) : fold (unfold u) = u := by unfold unfold fold; split <;> split <;> omega
theorem fold_lt {n : Int} (h1 : -9223372036854775808 ≤ n) (h2 : n ≤ 9223372036854775807) : fold n < 18446744073709551616 := by unfold fold; split <;> omega
theorem unfold_lt {u : Nat} (h : u < 18446744073709551616) : -9223372036854775808 ≤ unfold u ∧ unfold u ≤ 9223372036854775807 := by unfold unfold; split <;> omega
end Va
