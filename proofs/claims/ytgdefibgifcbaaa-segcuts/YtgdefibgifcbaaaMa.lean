/- The plain mathematics of numbers as few bytes: what is put, what is got, how many bytes, folding. Names no dump. -/
import Derived.Lib.BitFns
import Derived.Laws.BitsAllLaws
import Derived.WalkKit
namespace Va

/-- a number's bytes -/
def one (u : Nat) : List Nat := if h : u < 128 then [u] else (u % 128 + 128) :: one (u / 128)
termination_by u
decreasing_by omega

theorem one_lo {u : Nat} (h : u < 128) : one u = [u] := by rw [one, dif_pos h]
theorem one_hi {u : Nat} (h : ¬ u < 128) : one u = (u % 128 + 128) :: one (u / 128) := by rw [one, dif_neg h]

/-- numbers' bytes -/
def put (l : List Nat) : List Nat := l.flatMap one
theorem put_snoc (l : List Nat) (u : Nat) : put (l ++ [u]) = put l ++ one u := by simp [put]
theorem put_one (u : Nat) : put [u] = one u := by simp [put]

theorem one_small (u : Nat) : ∀ x ∈ one u, x < 256 := by
  induction u using one.induct with
  | case1 u h => rw [one_lo h]; intro x hx; simp at hx; omega
  | case2 u h ih =>
    rw [one_hi h]; intro x hx
    rcases List.mem_cons.mp hx with rfl | hx
    · omega
    · exact ih x hx
theorem put_small (l : List Nat) : ∀ x ∈ put l, x < 256 := by
  intro x hx
  simp only [put, List.mem_flatMap] at hx
  obtain ⟨u, _, hu⟩ := hx
  exact one_small u x hu
theorem one_pos (u : Nat) : 0 < (one u).length := by
  by_cases h : u < 128
  · rw [one_lo h]; simp
  · rw [one_hi h]; simp
theorem one_len : ∀ (k u : Nat), u < 128 ^ k → 0 < k → (one u).length ≤ k := by
  intro k
  induction k with
  | zero => intro u _ h; omega
  | succ k ih =>
    intro u hu _
    by_cases h : u < 128
    · rw [one_lo h]; simp
    · rw [one_hi h, List.length_cons]
      have hk : 0 < k := by
        rcases Nat.eq_zero_or_pos k with rfl | h'
        · simp at hu; omega
        · exact h'
      have : u / 128 < 128 ^ k := by rw [Nat.pow_succ] at hu; omega
      have := ih _ this hk
      omega
theorem one_len10 {u : Nat} (h : u < 18446744073709551616) : (one u).length ≤ 10 := one_len 10 u (by omega) (by omega)
theorem put_len : ∀ (l : List Nat), (∀ u ∈ l, u < 18446744073709551616) → (put l).length ≤ 10 * l.length := by
  intro l
  induction l with
  | nil => intro _; simp [put]
  | cons u l ih =>
    intro h
    have h1 := one_len10 (h u (by simp))
    have h2 := ih (fun x hx => h x (by simp [hx]))
    simp only [put, List.flatMap_cons, List.length_append, List.length_cons] at *
    omega

/-! how many bytes -/
theorem or_one (x : Nat) : x ||| 1 = x + (1 - x % 2) := by
  have h2 : (x / 2 * 2) ||| 1 = x / 2 * 2 + 1 := Go.nat_join 1 _ _ (by omega) (by decide)
  rcases Nat.mod_two_eq_zero_or_one x with h | h
  · have e : x / 2 * 2 = x := by omega
    rw [e] at h2; omega
  · have e : x = x / 2 * 2 + 1 := by omega
    have h3 : x ||| 1 = (x / 2 * 2 ||| 1) ||| 1 := by rw [h2, ← e]
    rw [h3, Nat.or_assoc, Nat.or_self, h2]; omega
theorem bitLen_or {x : Nat} (h0 : 0 < x) (h : x < 2 ^ 64) : Go.Lib.bitLen (x ||| 1) = Go.Lib.bitLen x := by
  have hb : x ||| 1 < 2 ^ 64 := Nat.or_lt_two_pow h (by decide)
  rw [Go.Lib.bitLen_half _ (by rw [or_one]; omega) hb, Go.Lib.bitLen_half x (by omega) h]
  rw [or_one]
  congr 2; omega
theorem bitLen_small : ∀ n : Fin 128, Go.Lib.bitLen (n.val ||| 1) ≤ 7 ∧ 1 ≤ Go.Lib.bitLen (n.val ||| 1) := by decide +kernel
/-- how many bytes a number has, as the program counts -/
def size (u : Nat) : Nat := (Go.Lib.bitLen (u ||| 1) + 6) / 7
theorem size_one (u : Nat) (h : u < 2 ^ 64) : size u = (one u).length := by
  induction u using one.induct with
  | case1 u h' =>
    rw [one_lo h']
    have := bitLen_small ⟨u, h'⟩
    unfold size; simp at this ⊢; omega
  | case2 u h' ih =>
    rw [one_hi h', List.length_cons, ← ih (by omega)]
    unfold size
    rw [bitLen_or (by omega) h, Go.Lib.bitLen_shift 7 u (by omega) h, bitLen_or (by omega) (by omega)]
    show (7 + Go.Lib.bitLen (u / 128) + 6) / 7 = _
    omega
theorem bitLen_le {u : Nat} (h : u < 2 ^ 64) : Go.Lib.bitLen (u ||| 1) ≤ 70 := by
  have h1 := size_one u h
  have h2 := one_len10 (u := u) (by omega)
  unfold size at h1
  omega

/-! the number that groups are -/
def val : List Nat → Nat
  | [] => 0
  | x :: r => x % 128 + 128 * val r
theorem val_append (a b : List Nat) : val (a ++ b) = val a + 128 ^ a.length * val b := by
  induction a with
  | nil => simp [val]
  | cons x a ih => rw [List.cons_append, val, val, ih, List.length_cons, Nat.pow_succ, Nat.mul_add, ← Nat.mul_assoc, Nat.mul_comm (128 ^ _) 128]; omega
theorem val_snoc (a : List Nat) (x : Nat) : val (a ++ [x]) = val a + 128 ^ a.length * (x % 128) := by
  rw [val_append]; simp [val]
theorem val_lt (a : List Nat) : val a < 128 ^ a.length := by
  induction a with
  | nil => simp [val]
  | cons x a ih => rw [val, List.length_cons, Nat.pow_succ]; omega
theorem val_one (u : Nat) : val (one u) = u := by
  induction u using one.induct with
  | case1 u h => rw [one_lo h]; simp [val]; omega
  | case2 u h ih => rw [one_hi h, val, ih]; omega

/-- bytes of which all but the last say that one is behind, the last is not 0 (but alone) -/
theorem one_val : ∀ (a : List Nat) (x : Nat), (∀ y ∈ a, 128 ≤ y ∧ y < 256) → x < 128 → (a = [] ∨ x ≠ 0) → one (val (a ++ [x])) = a ++ [x] := by
  intro a
  induction a with
  | nil => intro x _ hx _; simp [val, Nat.mod_eq_of_lt hx, one_lo hx]
  | cons y a ih =>
    intro x ha hx h0
    have hx0 : x ≠ 0 := by rcases h0 with h | h; · cases h
                           · exact h
    obtain ⟨hy1, hy2⟩ := ha y (by simp)
    have hv : 0 < val (a ++ [x]) := by
      rw [val_snoc, Nat.mod_eq_of_lt hx]
      have := Nat.mul_pos (Nat.pow_pos (n := a.length) (show 0 < 128 by omega)) (Nat.pos_of_ne_zero hx0)
      omega
    rw [List.cons_append, val, one_hi (by omega), show (y % 128 + 128 * val (a ++ [x])) / 128 = val (a ++ [x]) by omega, ih x (fun z hz => ha z (by simp [hz])) hx (.inr hx0)]
    congr 1; omega

theorem one_last : ∀ (u : Nat) (a : List Nat) (x : Nat), one u = a ++ [x] → x < 128 ∧ (a = [] ∨ x ≠ 0) ∧ ∀ y ∈ a, 128 ≤ y := by
  intro u
  induction u using one.induct with
  | case1 u h =>
    intro a x e
    rw [one_lo h] at e
    cases a with
    | nil => simp at e; subst e; exact ⟨h, .inl rfl, by simp⟩
    | cons y a => simp at e
  | case2 u h ih =>
    intro a x e
    rw [one_hi h] at e
    cases a with
    | nil =>
      simp only [List.nil_append, List.cons.injEq] at e
      have := one_pos (u / 128); rw [e.2] at this; simp at this
    | cons y a =>
      simp only [List.cons_append, List.cons.injEq] at e
      obtain ⟨h1, h2, h3⟩ := ih a x e.2
      refine ⟨h1, .inr ?_, ?_⟩
      · rcases h2 with h2 | h2
        · subst h2
          intro h0; subst h0
          have hv := val_one (u / 128)
          rw [e.2] at hv; simp [val] at hv; omega
        · exact h2
      · intro z hz
        rcases List.mem_cons.mp hz with rfl | hz
        · omega
        · exact h3 z hz

/-! what is got -/
/-- from the place i on, acc being the number of the groups ahead -/
def lp (i acc : Nat) : List Nat → Nat × Nat
  | [] => (0, 0)
  | x :: r => if i = 9 ∧ 1 < x then (0, 0) else if 0 < i ∧ x = 0 then (0, 0) else if x < 128 then (acc + 128 ^ i * (x % 128), i + 1) else lp (i + 1) (acc + 128 ^ i * (x % 128)) r
def get (bs : List Nat) : Nat × Nat := lp 0 0 bs

theorem drop_get (bs : List Nat) (k : Nat) (h : k < bs.length) : bs.drop k = bs.getD k 0 :: bs.drop (k + 1) := by
  rw [List.drop_eq_getElem_cons h]; simp [h]
theorem take_snoc (bs : List Nat) (k : Nat) (h : k < bs.length) : bs.take (k + 1) = bs.take k ++ [bs.getD k 0] := by
  rw [List.take_succ_eq_append_getElem h]; simp [h]

theorem lp_high {bs : List Nat} {k : Nat} : k ≤ 9 → k ≤ bs.length → (∀ j, j < k → 128 ≤ bs.getD j 0) → get bs = lp k (val (bs.take k)) (bs.drop k) := by
  induction k with
  | zero => intro _ _ _; simp [get, val]
  | succ k ih =>
    intro hk hl hh
    rw [ih (by omega) (by omega) (fun j hj => hh j (by omega)), drop_get bs k (by omega), lp]
    have := hh k (by omega)
    rw [if_neg (by omega), if_neg (by omega), if_neg (by omega), take_snoc bs k (by omega), val_snoc, List.length_take, Nat.min_eq_left (by omega)]
theorem get_end {bs : List Nat} {k : Nat} (hk : k ≤ 10) (hl : k ≤ bs.length) (he : k = bs.length ∨ k = 10) (hh : ∀ j, j < k → 128 ≤ bs.getD j 0) : get bs = (0, 0) := by
  by_cases h10 : k = 10
  · subst h10
    rw [lp_high (k := 9) (by omega) (by omega) (fun j hj => hh j (by omega)), drop_get bs 9 (by omega), lp]
    have := hh 9 (by omega)
    rw [if_pos (by omega)]
  · have e : k = bs.length := by omega
    rw [lp_high (k := k) (by omega) (by omega) hh, List.drop_of_length_le (by omega), lp]
theorem get_at {bs : List Nat} {k : Nat} (hs : ∀ x ∈ bs, x < 256) (hk : k ≤ 9) (hl : k < bs.length) (hh : ∀ j, j < k → 128 ≤ bs.getD j 0) (hx : bs.getD k 0 < 128) :
    get bs = if one (val (bs.take (k + 1)) % 18446744073709551616) = bs.take (k + 1) then (val (bs.take (k + 1)) % 18446744073709551616, k + 1) else (0, 0) := by
  rw [lp_high (k := k) hk (by omega) hh, drop_get bs k hl, lp]
  have ht : ∀ y ∈ bs.take k, 128 ≤ y ∧ y < 256 := by
    intro y hy
    refine ⟨?_, hs y (List.mem_of_mem_take hy)⟩
    obtain ⟨j, hj, e⟩ := List.mem_iff_getElem.mp hy
    rw [List.length_take] at hj
    have := hh j (by omega)
    rw [List.getD_eq_getElem?_getD, List.getElem?_eq_getElem (by omega)] at this
    rw [List.getElem_take] at e
    rw [← e]; simpa using this
  have hlt : (bs.take k).length = k := by rw [List.length_take]; omega
  have hts := take_snoc bs k hl
  have hval := val_snoc (bs.take k) (bs.getD k 0)
  rw [← hts, hlt] at hval
  generalize bs.getD k 0 = x at *
  by_cases h9 : k = 9 ∧ 1 < x
  · rw [if_pos h9, if_neg]
    intro e
    have hv := val_one (val (bs.take (k + 1)) % 18446744073709551616)
    rw [e] at hv
    have h128 : (128 : Nat) ^ k = 9223372036854775808 := by rw [h9.1]
    rw [hval, h128] at hv
    have := Nat.mod_lt (val (bs.take k) + 9223372036854775808 * (x % 128)) (show 0 < 18446744073709551616 by omega)
    omega
  · rw [if_neg h9]
    by_cases h0 : 0 < k ∧ x = 0
    · rw [if_pos h0, if_neg]
      intro e
      rw [hts] at e
      have := (one_last _ _ _ e).2.1
      rcases this with h | h
      · rw [h] at hlt; simp at hlt; omega
      · exact h h0.2
    · rw [if_neg h0, if_pos hx, ← hval]
      have hc : one (val (bs.take (k + 1))) = bs.take (k + 1) := by
        rw [hts]
        refine one_val _ _ ht hx ?_
        by_cases hk0 : k = 0
        · left; rw [hk0]; rfl
        · right; omega
      have hlt64 : val (bs.take (k + 1)) < 18446744073709551616 := by
        by_cases hk9 : k = 9
        · have h1 := val_lt (bs.take k)
          have h128 : (128 : Nat) ^ k = 9223372036854775808 := by rw [hk9]
          rw [hlt, h128] at h1
          rw [hval, h128]
          have : x % 128 ≤ 1 := by omega
          omega
        · have h1 := val_lt (bs.take (k + 1))
          rw [List.length_take, Nat.min_eq_left (by omega)] at h1
          have : (128 : Nat) ^ (k + 1) ≤ 128 ^ 9 := Nat.pow_le_pow_right (by omega) (by omega)
          have : (128 : Nat) ^ 9 < 18446744073709551616 := by decide
          omega
      rw [Nat.mod_eq_of_lt hlt64, if_pos hc]

theorem get_le {bs : List Nat} : (get bs).2 ≤ bs.length := by
  suffices h : ∀ (r : List Nat) (i acc : Nat), (lp i acc r).2 ≤ i + r.length by simpa [get] using h bs 0 0
  intro r
  induction r with
  | nil => intro i acc; simp [lp]
  | cons x r ih =>
    intro i acc
    rw [lp]
    split
    · simp
    · split
      · simp
      · split
        · simp
        · have := ih (i + 1) (acc + 128 ^ i * (x % 128)); simp at this ⊢; omega

theorem get_one {u : Nat} (h : u < 18446744073709551616) (r : List Nat) (hr : ∀ x ∈ r, x < 256) : get (one u ++ r) = (u, (one u).length) := by
  obtain ⟨a, x, e⟩ : ∃ a x, one u = a ++ [x] := by
    have := one_pos u
    exact ⟨(one u).dropLast, (one u).getLast (by intro h; rw [h] at this; simp at this), (List.dropLast_concat_getLast _).symm⟩
  obtain ⟨hx, _, ha⟩ := one_last u a x e
  have hlen : (one u).length = a.length + 1 := by rw [e]; simp
  have h10 := one_len10 h
  have hsm : ∀ y ∈ one u ++ r, y < 256 := by
    intro y hy
    rcases List.mem_append.mp hy with h | h
    · exact one_small u y h
    · exact hr y h
  have hg : ∀ j, j < a.length → 128 ≤ (one u ++ r).getD j 0 := by
    intro j hj
    have : (one u ++ r).getD j 0 = a[j] := by
      rw [e, List.append_assoc, List.getD_eq_getElem?_getD, List.getElem?_append_left hj, List.getElem?_eq_getElem hj]; rfl
    rw [this]; exact ha _ (List.getElem_mem hj)
  have hgx : (one u ++ r).getD a.length 0 = x := by
    rw [e, List.append_assoc, List.getD_eq_getElem?_getD, List.getElem?_append_right (Nat.le_refl _)]; simp
  have ht : (one u ++ r).take (a.length + 1) = one u := by rw [← hlen, List.take_left]
  have := get_at (k := a.length) hsm (by omega) (by rw [List.length_append]; omega) hg (by rw [hgx]; exact hx)
  rw [this, ht, val_one, Nat.mod_eq_of_lt h, if_pos rfl, hlen]

theorem get_cut {u : Nat} (h : u < 18446744073709551616) (j : Nat) (hj : j < (one u).length) : get ((one u).take j) = (0, 0) := by
  obtain ⟨a, x, e⟩ : ∃ a x, one u = a ++ [x] := by
    have := one_pos u
    exact ⟨(one u).dropLast, (one u).getLast (by intro h; rw [h] at this; simp at this), (List.dropLast_concat_getLast _).symm⟩
  obtain ⟨_, _, ha⟩ := one_last u a x e
  have h10 := one_len10 h
  have hlen : (one u).length = a.length + 1 := by rw [e]; simp
  refine get_end (k := j) (by omega) (by rw [List.length_take]; omega) (.inl (by rw [List.length_take]; omega)) ?_
  intro i hi
  have : ((one u).take j).getD i 0 = a[i]'(by omega) := by
    rw [List.getD_eq_getElem?_getD, List.getElem?_take, if_pos hi, e, List.getElem?_append_left (by omega), List.getElem?_eq_getElem (by omega)]; rfl
  rw [this]; exact ha _ (List.getElem_mem _)

theorem lp_lt : ∀ (r : List Nat) (i acc : Nat), i ≤ 9 → acc < 128 ^ i → (lp i acc r).1 < 18446744073709551616 := by
  intro r
  induction r with
  | nil => intro i acc _ _; simp [lp]
  | cons x r ih =>
    intro i acc hi ha
    rw [lp]
    by_cases h9 : i = 9
    · subst h9
      split
      · simp
      · split
        · simp
        · have hx : x % 128 ≤ 1 := by omega
          rw [if_pos (by omega)]
          have : (128 : Nat) ^ 9 = 9223372036854775808 := by decide
          simp only [this] at *
          omega
    · have h1 : acc + 128 ^ i * (x % 128) < 128 ^ (i + 1) := by
        rw [Nat.pow_succ]
        have : 128 ^ i * (x % 128) ≤ 128 ^ i * 127 := Nat.mul_le_mul_left _ (by omega)
        omega
      have h2 : (128 : Nat) ^ (i + 1) ≤ 128 ^ 9 := Nat.pow_le_pow_right (by omega) (by omega)
      have h3 : (128 : Nat) ^ 9 < 18446744073709551616 := by decide
      split
      · simp
      · split
        · simp
        · split
          · show acc + 128 ^ i * (x % 128) < _; omega
          · exact ih _ _ (by omega) h1
theorem get_lt (bs : List Nat) : (get bs).1 < 18446744073709551616 := lp_lt bs 0 0 (by omega) (by simp)

/-- the first n numbers from the place at' on, l being got already: the numbers, the place, the code -/
def al : Nat → List Nat → Nat → List Nat → List Nat × Nat × Nat
  | 0, _, at', l => (l, at', 0)
  | n + 1, bs, at', l => if (get (bs.drop at')).2 = 0 then ([], at', 2) else al n bs (at' + (get (bs.drop at')).2) (l ++ [(get (bs.drop at')).1])
def all (bs : List Nat) (n : Nat) : List Nat × Nat × Nat := al n bs 0 []
theorem al_none {n : Nat} {bs : List Nat} {at' : Nat} {l : List Nat} (h : (get (bs.drop at')).2 = 0) : al (n + 1) bs at' l = ([], at', 2) := by rw [al, if_pos h]
theorem al_some {n : Nat} {bs : List Nat} {at' : Nat} {l : List Nat} (h : ¬ (get (bs.drop at')).2 = 0) : al (n + 1) bs at' l = al n bs (at' + (get (bs.drop at')).2) (l ++ [(get (bs.drop at')).1]) := by rw [al, if_neg h]
theorem al_put (more : List Nat) (hm : ∀ x ∈ more, x < 256) : ∀ (l2 l1 : List Nat), (∀ u ∈ l2, u < 18446744073709551616) →
    al l2.length (put l1 ++ put l2 ++ more) (put l1).length l1 = (l1 ++ l2, (put (l1 ++ l2)).length, 0) := by
  intro l2
  induction l2 with
  | nil => intro l1 _; simp [al]
  | cons u l2 ih =>
    intro l1 h
    have hd : (put l1 ++ put (u :: l2) ++ more).drop (put l1).length = one u ++ (put l2 ++ more) := by
      rw [List.append_assoc, List.drop_left]; simp [put]
    have hg := get_one (h u (by simp)) (put l2 ++ more) (by
      intro x hx
      rcases List.mem_append.mp hx with h | h
      · exact put_small l2 x h
      · exact hm x h)
    have hp := one_pos u
    rw [List.length_cons, al_some (by rw [hd, hg]; show ¬ (one u).length = 0; omega), hd, hg]
    have := ih (l1 ++ [u]) (fun x hx => h x (by simp [hx]))
    rw [put_snoc, List.length_append] at this
    rw [show put l1 ++ put (u :: l2) ++ more = put l1 ++ one u ++ put l2 ++ more by simp [put]]
    rw [this]
    simp [put]
theorem all_put (l more : List Nat) (hl : ∀ u ∈ l, u < 18446744073709551616) (hm : ∀ x ∈ more, x < 256) : all (put l ++ more) l.length = (l, (put l).length, 0) := by
  have := al_put more hm l [] hl
  simpa [put, all] using this

/-! folding -/
def fold (n : Int) : Nat := if 0 ≤ n then (2 * n).toNat else (-2 * n - 1).toNat
def unfold (u : Nat) : Int := if u % 2 = 0 then ((u / 2 : Nat) : Int) else -((u / 2 : Nat) : Int) - 1
theorem unfold_fold (n : Int) : unfold (fold n) = n := by unfold unfold fold; split <;> split <;> omega
theorem fold_unfold (u : Nat) : fold (unfold u) = u := by unfold unfold fold; split <;> split <;> omega
theorem fold_lt {n : Int} (h1 : -9223372036854775808 ≤ n) (h2 : n ≤ 9223372036854775807) : fold n < 18446744073709551616 := by unfold fold; split <;> omega
theorem unfold_lt {u : Nat} (h : u < 18446744073709551616) : -9223372036854775808 ≤ unfold u ∧ unfold u ≤ 9223372036854775807 := by unfold unfold; split <;> omega
end Va

/- The plain mathematics of the sum of bytes (registers as natural numbers): a bit's step, a byte's steps, that they are linear, and that one step of nothing loses nothing. No word of the program. -/
namespace Go.Proofs.Ytgdefibgifcbaaa.Crc

/-- the register, moved on by a bit 0 -/
def lin (r : Nat) : Nat := if r % 2 = 1 then (r / 2) ^^^ 2197175160 else r / 2
/-- the register behind the bit b -/
def stp (r b : Nat) : Nat := if r % 2 ≠ b then (r / 2) ^^^ 2197175160 else r / 2
/-- k times lin -/
def lins : Nat → Nat → Nat
  | 0, r => r
  | k + 1, r => lin (lins k r)
/-- bit i of n -/
def bt (n i : Nat) : Nat := n / 2 ^ i % 2
/-- k bits of x, from the lowest on -/
def stps : Nat → Nat → Nat → Nat
  | 0, r, _ => r
  | k + 1, r, x => stp (stps k r x) (bt x k)
/-- the register behind a byte -/
def tk (r x : Nat) : Nat := lins 8 (r ^^^ x)
/-- the register behind bytes -/
def run (r : Nat) (bs : List Nat) : Nat := bs.foldl tk r
/-- the sum of bytes behind others whose sum is s -/
def more (s : Nat) (bs : List Nat) : Nat := run (s ^^^ 4294967295) bs ^^^ 4294967295

theorem bt_lt (n i : Nat) : bt n i < 2 := Nat.mod_lt _ (by omega)
theorem xor_half (a b : Nat) : (a ^^^ b) / 2 = (a / 2) ^^^ (b / 2) := by
  apply Nat.eq_of_testBit_eq; intro i; simp [Nat.testBit_div_two]
theorem xor_low (a b : Nat) : (a ^^^ b) % 2 = (a + b) % 2 := by
  have h := Nat.testBit_xor a b 0
  simp only [Nat.testBit_zero] at h
  have e : (a + b) % 2 = (a % 2 + b % 2) % 2 := Nat.add_mod a b 2
  rw [e]
  generalize a ^^^ b = c at *
  rcases Nat.mod_two_eq_zero_or_one a with h1 | h1 <;> rcases Nat.mod_two_eq_zero_or_one b with h2 | h2 <;> rcases Nat.mod_two_eq_zero_or_one c with h3 | h3 <;> rw [h1, h2, h3] at h <;> simp [h1, h2, h3] <;> simp at h
theorem lin_lt {r : Nat} (h : r < 4294967296) : lin r < 4294967296 := by
  unfold lin; split
  · exact Nat.xor_lt_two_pow (n := 32) (by omega) (by omega)
  · omega
theorem stp_lt {r : Nat} (b : Nat) (h : r < 4294967296) : stp r b < 4294967296 := by
  unfold stp; split
  · exact Nat.xor_lt_two_pow (n := 32) (by omega) (by omega)
  · omega
theorem xor_lt {a b : Nat} (h : a < 4294967296) (h' : b < 4294967296) : a ^^^ b < 4294967296 :=
  Nat.xor_lt_two_pow (n := 32) (by omega) (by omega)
theorem lins_lt {r : Nat} (k : Nat) (h : r < 4294967296) : lins k r < 4294967296 := by
  induction k with
  | zero => exact h
  | succ k ih => exact lin_lt ih
theorem stps_lt {r : Nat} (k x : Nat) (h : r < 4294967296) : stps k r x < 4294967296 := by
  induction k with
  | zero => exact h
  | succ k ih => exact stp_lt _ ih
theorem tk_lt {r x : Nat} (h : r < 4294967296) (hx : x < 256) : tk r x < 4294967296 :=
  lins_lt 8 (xor_lt h (by omega))
theorem run_lt {r : Nat} (bs : List Nat) (h : r < 4294967296) (hb : ∀ n ∈ bs, n < 256) : run r bs < 4294967296 := by
  induction bs generalizing r with
  | nil => exact h
  | cons x l ih => exact ih (tk_lt h (hb x (by simp))) (fun n hn => hb n (by simp [hn]))
theorem more_lt {s : Nat} (bs : List Nat) (h : s < 4294967296) (hb : ∀ n ∈ bs, n < 256) : more s bs < 4294967296 :=
  xor_lt (run_lt bs (xor_lt h (by omega)) hb) (by omega)
/-- a bit laid on, with others above it -/
theorem lin_xor (s y : Nat) : lin (s ^^^ y) = stp s (y % 2) ^^^ (y / 2) := by
  unfold lin stp
  rw [xor_half, xor_low]
  by_cases h : s % 2 = y % 2
  · rw [if_neg (by omega), if_neg (by omega)]
  · rw [if_pos (by omega), if_pos h]
    rw [Nat.xor_assoc, Nat.xor_assoc, Nat.xor_comm (y / 2)]
theorem div_pow_succ (x k : Nat) : x / 2 ^ k / 2 = x / 2 ^ (k + 1) := by
  rw [Nat.div_div_eq_div_mul, Nat.pow_succ]
/-- all bits laid on at once -/
theorem lins_stps (k r x : Nat) : lins k (r ^^^ x) = stps k r x ^^^ (x / 2 ^ k) := by
  induction k with
  | zero => simp [lins, stps]
  | succ k ih => rw [lins, ih, lin_xor, stps, div_pow_succ]; rfl
theorem tk_stps (r x : Nat) (hx : x < 256) : tk r x = stps 8 r x := by
  unfold tk; rw [lins_stps, Nat.div_eq_of_lt (by omega), Nat.xor_zero]
theorem lin_add (a b : Nat) : lin (a ^^^ b) = lin a ^^^ lin b := by
  rw [lin_xor]
  have e := lin_xor 0 b
  have e2 := lin_xor a 0
  unfold lin stp at *
  by_cases h1 : a % 2 = 1 <;> by_cases h2 : b % 2 = 1
  · rw [if_neg (by omega), if_pos h1, if_pos h2]
    rw [show a / 2 ^^^ 2197175160 ^^^ (b / 2 ^^^ 2197175160) = a / 2 ^^^ b / 2 ^^^ (2197175160 ^^^ 2197175160) by
      rw [Nat.xor_assoc, Nat.xor_assoc, Nat.xor_comm (2197175160) (b / 2 ^^^ 2197175160), Nat.xor_assoc]]
    simp
  · rw [if_pos (by omega), if_pos h1, if_neg h2]
  · rw [if_pos (by omega), if_neg h1, if_pos h2]
    rw [Nat.xor_assoc, Nat.xor_comm 2197175160]
  · rw [if_neg (by omega), if_neg h1, if_neg h2]
theorem lins_add (k a b : Nat) : lins k (a ^^^ b) = lins k a ^^^ lins k b := by
  induction k with
  | zero => rfl
  | succ k ih => rw [lins, ih, lin_add]; rfl
/-- a step of nothing loses nothing -/
theorem lin_zero {r : Nat} (h : r < 4294967296) (hz : lin r = 0) : r = 0 := by
  unfold lin at hz
  split at hz
  · have h2 : r / 2 < 2 ^ 31 := by omega
    have h3 : (r / 2).testBit 31 = false := Nat.testBit_lt_two_pow h2
    have h4 := congrArg (fun n => n.testBit 31) hz
    simp only [Nat.testBit_xor, h3, Nat.zero_testBit] at h4
    exact absurd h4 (by decide)
  · omega
theorem lins_zero {r : Nat} (k : Nat) (h : r < 4294967296) (hz : lins k r = 0) : r = 0 := by
  induction k with
  | zero => exact hz
  | succ k ih => exact ih (lin_zero (lins_lt k h) hz)
theorem run_append (r : Nat) (a b : List Nat) : run r (a ++ b) = run (run r a) b := by simp [run]
theorem more_append (s : Nat) (a b : List Nat) : more (more s a) b = more s (a ++ b) := by
  unfold more; rw [run_append, Nat.xor_assoc, Nat.xor_self, Nat.xor_zero]
theorem run_snoc (r : Nat) (a : List Nat) (x : Nat) : run r (a ++ [x]) = tk (run r a) x := by simp [run]
theorem more_nil (s : Nat) : more s [] = s := by
  show (s ^^^ 4294967295) ^^^ 4294967295 = s
  rw [Nat.xor_assoc, Nat.xor_self, Nat.xor_zero]
theorem known : more 0 [49, 50, 51, 52, 53, 54, 55, 56, 57] = 3808858755 := by decide +kernel
end Go.Proofs.Ytgdefibgifcbaaa.Crc

/- The plain mathematics of frames: their bytes, what is read, what is scanned, cuts and joins. Names no dump. -/
namespace Go.Proofs.Ytgdefibgifcbaaa.Fr

abbrev F := Int × List Nat
def may (f : F) : Bool := decide (1 ≤ f.1 ∧ f.1 ≤ 250 ∧ f.2.length ≤ 1048576)
theorem may_iff (f : F) : may f = true ↔ 1 ≤ f.1 ∧ f.1 ≤ 250 ∧ f.2.length ≤ 1048576 := by simp [may]
def le4 (s : Nat) : List Nat := [s % 256, s / 256 % 256, s / 65536 % 256, s / 16777216 % 256]
/-- a frame's bytes -/
def put1 (k : Nat) (b : List Nat) : List Nat := Va.one b.length ++ (k :: (b ++ le4 (Crc.more 0 (k :: b))))
def one (f : F) : List Nat := put1 f.1.toNat f.2
def all (l : List F) : List Nat := l.flatMap one
def size (n : Nat) : Nat := (Va.one n).length + 1 + n + 4

theorem le4_len (s : Nat) : (le4 s).length = 4 := rfl
theorem le4_small (s : Nat) : ∀ x ∈ le4 s, x < 256 := by
  intro x hx; simp [le4] at hx; omega
theorem put1_len (k : Nat) (b : List Nat) : (put1 k b).length = size b.length := by
  simp [put1, size, le4_len]; omega
theorem one_len (f : F) : (one f).length = size f.2.length := put1_len _ _
theorem put1_small {k : Nat} {b : List Nat} (hk : k < 256) (hb : ∀ x ∈ b, x < 256) : ∀ x ∈ put1 k b, x < 256 := by
  intro x hx
  simp only [put1, List.mem_append, List.mem_cons] at hx
  rcases hx with h | h | h | h
  · exact Va.one_small _ x h
  · omega
  · exact hb x h
  · exact le4_small _ x h
theorem one3 {n : Nat} (h : n ≤ 1048576) : (Va.one n).length ≤ 3 := Va.one_len 3 n (by omega) (by omega)
theorem size_ge (n : Nat) : 6 ≤ size n := by have := Va.one_pos n; unfold size; omega
theorem size_le {n : Nat} (h : n ≤ 1048576) : size n ≤ n + 8 := by have := one3 h; unfold size; omega

/-- b ends within the number -/
def gapHead (bs : List Nat) : Bool := decide (bs.length < 3) && bs.all (fun x => decide (128 ≤ x))
/-- the frame that bytes begin with, how many bytes it has, the code -/
def first (bs : List Nat) : F × Nat × Nat :=
  if gapHead bs = true then ((0, []), 0, 5)
  else if (Va.get bs).2 = 0 ∨ 1048576 < (Va.get bs).1 then ((0, []), 0, 2)
  else if (Va.get bs).2 = bs.length then ((0, []), 0, 5)
  else if bs.getD (Va.get bs).2 0 < 1 ∨ 250 < bs.getD (Va.get bs).2 0 then ((0, []), 0, 2)
  else if bs.length < (Va.get bs).2 + 1 + (Va.get bs).1 + 4 then ((0, []), 0, 5)
  else if put1 (bs.getD (Va.get bs).2 0) ((bs.drop ((Va.get bs).2 + 1)).take (Va.get bs).1) = bs.take ((Va.get bs).2 + 1 + (Va.get bs).1 + 4)
    then (((bs.getD (Va.get bs).2 0 : Nat), (bs.drop ((Va.get bs).2 + 1)).take (Va.get bs).1), (Va.get bs).2 + 1 + (Va.get bs).1 + 4, 0)
    else ((0, []), 0, 2)

theorem first_put {k : Nat} {b : List Nat} (hk1 : 1 ≤ k) (hk2 : k ≤ 250) (hb : b.length ≤ 1048576) (hbs : ∀ x ∈ b, x < 256) (r : List Nat) (hr : ∀ x ∈ r, x < 256) :
    first (put1 k b ++ r) = (((k : Int), b), size b.length, 0) := by
  have ho := Va.one_pos b.length
  have hlen : (put1 k b ++ r).length = size b.length + r.length := by rw [List.length_append, put1_len]
  have hs6 := size_ge b.length
  have hg : Va.get (put1 k b ++ r) = (b.length, (Va.one b.length).length) := by
    have : put1 k b ++ r = Va.one b.length ++ (k :: (b ++ le4 (Crc.more 0 (k :: b))) ++ r) := by simp [put1]
    rw [this]
    refine Va.get_one (by omega) _ ?_
    intro x hx
    rcases List.mem_append.mp hx with h | h
    · rcases List.mem_cons.mp h with rfl | h
      · omega
      · rcases List.mem_append.mp h with h | h
        · exact hbs x h
        · exact le4_small _ x h
    · exact hr x h
  have hgap : gapHead (put1 k b ++ r) = false := by
    unfold gapHead
    rw [hlen]
    have : decide (size b.length + r.length < 3) = false := by simp; omega
    rw [this]; rfl
  have hat : (put1 k b ++ r).getD (Va.one b.length).length 0 = k := by
    rw [put1, List.append_assoc, List.getD_eq_getElem?_getD, List.getElem?_append_right (Nat.le_refl _)]; simp
  have hdrop : ((put1 k b ++ r).drop ((Va.one b.length).length + 1)).take b.length = b := by
    have : put1 k b ++ r = (Va.one b.length ++ [k]) ++ (b ++ (le4 (Crc.more 0 (k :: b)) ++ r)) := by simp [put1]
    rw [this, show (Va.one b.length).length + 1 = (Va.one b.length ++ [k]).length by simp, List.drop_left, List.take_left]
  have htake : (put1 k b ++ r).take (size b.length) = put1 k b := by rw [← put1_len k b, List.take_left]
  have hsz : (Va.one b.length).length + 1 + b.length + 4 = size b.length := rfl
  unfold first
  rw [hg]
  simp only []
  rw [hgap, if_neg (by simp), if_neg (by omega), if_neg (by rw [hlen]; unfold size; omega), hat, if_neg (by omega), hsz, if_neg (by rw [hlen]; omega), hdrop, htake, if_pos rfl]

theorem first_cut {k : Nat} {b : List Nat} (hk1 : 1 ≤ k) (hk2 : k ≤ 250) (hb : b.length ≤ 1048576) (hbs : ∀ x ∈ b, x < 256) (j : Nat) (hj : j < size b.length) :
    first ((put1 k b).take j) = ((0, []), 0, 5) := by
  have ho := Va.one_pos b.length
  have ho3 := one3 hb
  have hlen : ((put1 k b).take j).length = j := by rw [List.length_take, put1_len]; omega
  by_cases hgap : gapHead ((put1 k b).take j) = true
  · unfold first; rw [if_pos hgap]
  · by_cases hjo : j < (Va.one b.length).length
    · exfalso
      apply hgap
      obtain ⟨a, x, e⟩ : ∃ a x, Va.one b.length = a ++ [x] :=
        ⟨(Va.one b.length).dropLast, (Va.one b.length).getLast (by intro h; rw [h] at ho; simp at ho), (List.dropLast_concat_getLast _).symm⟩
      obtain ⟨_, _, ha⟩ := Va.one_last _ a x e
      have hal : (Va.one b.length).length = a.length + 1 := by rw [e]; simp
      unfold gapHead
      rw [hlen]
      have e2 : (put1 k b).take j = a.take j := by
        rw [put1, e, List.append_assoc, List.take_append_of_le_length (by omega)]
      rw [e2]
      have h1 : decide (j < 3) = true := by simp; omega
      rw [h1, Bool.true_and, List.all_eq_true]
      intro y hy
      simp
      exact ha y (List.mem_of_mem_take hy)
    · have hg : Va.get ((put1 k b).take j) = (b.length, (Va.one b.length).length) := by
        have : (put1 k b).take j = Va.one b.length ++ (k :: (b ++ le4 (Crc.more 0 (k :: b)))).take (j - (Va.one b.length).length) := by
          rw [put1, List.take_append, List.take_of_length_le (by omega)]
        rw [this]
        refine Va.get_one (by omega) _ ?_
        intro x hx
        have hx := List.mem_of_mem_take hx
        rcases List.mem_cons.mp hx with rfl | h
        · omega
        · rcases List.mem_append.mp h with h | h
          · exact hbs x h
          · exact le4_small _ x h
      unfold first
      rw [if_neg hgap, hg]
      simp only []
      rw [if_neg (by omega), hlen]
      by_cases hje : (Va.one b.length).length = j
      · rw [if_pos hje]
      · rw [if_neg hje]
        have hat : ((put1 k b).take j).getD (Va.one b.length).length 0 = k := by
          rw [List.getD_eq_getElem?_getD, List.getElem?_take, if_pos (by omega), put1, List.getElem?_append_right (Nat.le_refl _)]; simp
        rw [hat, if_neg (by omega), if_pos (by unfold size at hj; omega)]

theorem first_le (bs : List Nat) : (first bs).2.1 ≤ bs.length := by
  unfold first
  split
  · simp
  · split
    · simp
    · split
      · simp
      · split
        · simp
        · split
          · simp
          · split
            · simp only []; omega
            · simp
theorem first_ok {bs : List Nat} (h : (first bs).2.2 = 0) : 5 ≤ (first bs).2.1 ∧ (first bs).1.2.length + 5 ≤ (first bs).2.1 ∧ (first bs).1.2 = (bs.drop ((first bs).2.1 - 4 - (first bs).1.2.length)).take (first bs).1.2.length ∧ 1 ≤ (first bs).1.1 ∧ (first bs).1.1 ≤ 250 := by
  revert h
  unfold first
  split
  · intro h; simp at h
  · split
    · intro h; simp at h
    · split
      · intro h; simp at h
      · split
        · intro h; simp at h
        · split
          · intro h; simp at h
          · split
            · intro _
              rename_i h1 h2 h3 h4 h5 h6
              have hl : ((bs.drop ((Va.get bs).2 + 1)).take (Va.get bs).1).length = (Va.get bs).1 := by rw [List.length_take, List.length_drop]; omega
              refine ⟨by simp only []; omega, by simp only []; rw [hl]; omega, ?_, by simp only []; omega, by simp only []; omega⟩
              simp only []
              rw [hl]
              congr 2; omega
            · intro h; simp at h
theorem first_nil : first [] = ((0, []), 0, 5) := by
  unfold first; rw [if_pos (by rfl)]

/-! what is scanned -/
/-- from the place at' on, l and ps being told already -/
def sc : Nat → List Nat → Nat → List F → List Nat → List F × List Nat × Nat
  | 0, _, at', l, ps => (l, ps, at')
  | n + 1, bs, at', l, ps => if (first (bs.drop at')).2.2 = 0 then sc n bs (at' + (first (bs.drop at')).2.1) (l ++ [(first (bs.drop at')).1]) (ps ++ [at' + (first (bs.drop at')).2.1 - 4 - (first (bs.drop at')).1.2.length]) else (l, ps, at')
def scan (bs : List Nat) : List F × List Nat × Nat := sc (bs.length + 1) bs 0 [] []
theorem sc_ok {n : Nat} {bs : List Nat} {at' : Nat} {l : List F} {ps : List Nat} (h : (first (bs.drop at')).2.2 = 0) :
    sc (n + 1) bs at' l ps = sc n bs (at' + (first (bs.drop at')).2.1) (l ++ [(first (bs.drop at')).1]) (ps ++ [at' + (first (bs.drop at')).2.1 - 4 - (first (bs.drop at')).1.2.length]) := by rw [sc, if_pos h]
theorem sc_no {n : Nat} {bs : List Nat} {at' : Nat} {l : List F} {ps : List Nat} (h : ¬ (first (bs.drop at')).2.2 = 0) : sc (n + 1) bs at' l ps = (l, ps, at') := by rw [sc, if_neg h]

/-- of what is put, cut at k: how many frames end within, and where the last of them ends -/
def cuts : List F → Nat → Nat × Nat
  | [], _ => (0, 0)
  | f :: l, k => if size f.2.length ≤ k then ((cuts l (k - size f.2.length)).1 + 1, (cuts l (k - size f.2.length)).2 + size f.2.length) else (0, 0)
/-- the places of their bodies -/
def places : List F → Nat → List Nat
  | [], _ => []
  | f :: l, at' => (at' + (Va.one f.2.length).length + 1) :: places l (at' + size f.2.length)

def Good (l : List F) : Prop := ∀ f ∈ l, may f = true ∧ ∀ x ∈ f.2, x < 256
theorem one_small {f : F} (h : may f = true) (hs : ∀ x ∈ f.2, x < 256) : ∀ x ∈ one f, x < 256 := by
  obtain ⟨h1, h2, _⟩ := (may_iff f).mp h
  exact put1_small (by omega) hs
theorem all_small {l : List F} (h : Good l) : ∀ x ∈ all l, x < 256 := by
  intro x hx
  simp only [all, List.mem_flatMap] at hx
  obtain ⟨f, hf, hx⟩ := hx
  exact one_small (h f hf).1 (h f hf).2 x hx
theorem all_cons (f : F) (l : List F) : all (f :: l) = one f ++ all l := rfl
theorem all_append (a b : List F) : all (a ++ b) = all a ++ all b := by simp [all]
theorem all_len_cons (f : F) (l : List F) : (all (f :: l)).length = size f.2.length + (all l).length := by rw [all_cons, List.length_append, one_len]

theorem sc_cut : ∀ (l2 : List F) (k n : Nat) (A : List Nat) (l : List F) (ps : List Nat), Good l2 → k ≤ (all l2).length → k < n →
    sc n (A ++ (all l2).take k) A.length l ps = (l ++ l2.take (cuts l2 k).1, ps ++ (places l2 A.length).take (cuts l2 k).1, A.length + (cuts l2 k).2) ∧
    (first ((all l2).take k |>.drop (cuts l2 k).2)).2.2 = 5 := by
  intro l2
  induction l2 with
  | nil =>
    intro k n A l ps _ hk hn
    obtain ⟨m, rfl⟩ : ∃ m, n = m + 1 := ⟨n - 1, by omega⟩
    have hd : (A ++ (all []).take k).drop A.length = [] := by rw [List.drop_left]; simp [all]
    refine ⟨?_, ?_⟩
    · rw [sc_no (by rw [hd, first_nil]; simp)]; simp [cuts, places]
    · simp [cuts, all, first_nil]
  | cons f l2 ih =>
    intro k n A l ps hg hk hn
    obtain ⟨m, rfl⟩ : ∃ m, n = m + 1 := ⟨n - 1, by omega⟩
    obtain ⟨hm, hs⟩ := hg f (by simp)
    obtain ⟨h1, h2, h3⟩ := (may_iff f).mp hm
    have hg2 : Good l2 := fun x hx => hg x (by simp [hx])
    have hs6 := size_ge f.2.length
    have hd : (A ++ (all (f :: l2)).take k).drop A.length = (all (f :: l2)).take k := List.drop_left
    have hkf : ((f.1.toNat : Nat) : Int) = f.1 := by omega
    by_cases hc : size f.2.length ≤ k
    · have ht : (all (f :: l2)).take k = one f ++ (all l2).take (k - size f.2.length) := by
        rw [all_cons, List.take_append, one_len, List.take_of_length_le (by rw [one_len]; exact hc)]
      have hf : first ((all (f :: l2)).take k) = (f, size f.2.length, 0) := by
        rw [ht, one, first_put (by omega) (by omega) h3 hs _ (fun x hx => all_small hg2 x (List.mem_of_mem_take hx)), hkf]
      have hcu : cuts (f :: l2) k = ((cuts l2 (k - size f.2.length)).1 + 1, (cuts l2 (k - size f.2.length)).2 + size f.2.length) := by rw [cuts, if_pos hc]
      have hk2 : k - size f.2.length ≤ (all l2).length := by rw [all_len_cons] at hk; omega
      obtain ⟨i1, i2⟩ := ih (k - size f.2.length) m (A ++ one f) (l ++ [f]) (ps ++ [A.length + (Va.one f.2.length).length + 1]) hg2 hk2 (by omega)
      refine ⟨?_, ?_⟩
      · rw [sc_ok (by rw [hd, hf]), hd, hf]
        simp only []
        have e1 : A.length + size f.2.length - 4 - f.2.length = A.length + (Va.one f.2.length).length + 1 := by unfold size; omega
        rw [e1, ht, ← List.append_assoc]
        rw [List.length_append, one_len] at i1
        rw [i1, hcu, places]
        simp only [List.take_succ_cons, List.append_assoc, List.singleton_append]
        congr 2; omega
      · rw [hcu, ht]
        simp only []
        rw [Nat.add_comm, ← List.drop_drop, ← one_len f, List.drop_left, one_len]
        exact i2
    · have hcu : cuts (f :: l2) k = (0, 0) := by rw [cuts, if_neg hc]
      have ht : (all (f :: l2)).take k = (one f).take k := by
        rw [all_cons, List.take_append_of_le_length (by rw [one_len]; omega)]
      have hf : first ((all (f :: l2)).take k) = ((0, []), 0, 5) := by
        rw [ht, one, first_cut (by omega) (by omega) h3 hs k (by omega)]
      refine ⟨?_, ?_⟩
      · rw [sc_no (by rw [hd, hf]; simp), hcu]; simp
      · rw [hcu]; simp only [List.drop_zero]; rw [hf]

theorem scan_cut {l : List F} (hg : Good l) (k : Nat) (hk : k ≤ (all l).length) :
    scan ((all l).take k) = (l.take (cuts l k).1, (places l 0).take (cuts l k).1, (cuts l k).2) ∧ (first (((all l).take k).drop (cuts l k).2)).2.2 = 5 := by
  have := sc_cut l k (((all l).take k).length + 1) [] [] [] hg hk (by rw [List.length_take]; omega)
  simpa [scan] using this
theorem cuts_whole : ∀ (l : List F), cuts l (all l).length = (l.length, (all l).length) := by
  intro l
  induction l with
  | nil => rfl
  | cons f l ih =>
    rw [cuts, if_pos (by rw [all_len_cons]; omega), all_len_cons, show size f.2.length + (all l).length - size f.2.length = (all l).length by omega, ih]
    simp; omega
theorem places_len : ∀ (l : List F) (at' : Nat), (places l at').length = l.length := by
  intro l
  induction l with
  | nil => intro _; rfl
  | cons f l ih => intro at'; simp [places, ih]
theorem scan_all {l : List F} (hg : Good l) : scan (all l) = (l, places l 0, (all l).length) := by
  have h := (scan_cut hg (all l).length (Nat.le_refl _)).1
  rw [List.take_length, cuts_whole] at h
  simp only [List.take_length] at h
  rw [h, List.take_of_length_le (by rw [places_len]; omega)]
end Go.Proofs.Ytgdefibgifcbaaa.Fr

/- Frames, in the order in which the program asks: its number, its kind, whether the bytes end, the sum. Names no dump. -/
namespace Va

theorem high_or {bs : List Nat} : ∀ m : Nat, (∀ j, j < m → 128 ≤ bs.getD j 0) ∨ ∃ k, k < m ∧ (∀ j, j < k → 128 ≤ bs.getD j 0) ∧ bs.getD k 0 < 128 := by
  intro m
  induction m with
  | zero => left; intro j hj; omega
  | succ m ih =>
    rcases ih with h | ⟨k, h1, h2, h3⟩
    · by_cases hm : bs.getD m 0 < 128
      · exact .inr ⟨m, by omega, h, hm⟩
      · left; intro j hj
        by_cases hjm : j = m
        · subst hjm; omega
        · exact h j (by omega)
    · exact .inr ⟨k, by omega, h2, h3⟩
theorem get_ok {bs : List Nat} (hs : ∀ x ∈ bs, x < 256) (h : (get bs).2 ≠ 0) : bs.take (get bs).2 = one (get bs).1 := by
  by_cases hl : bs.length ≤ 10
  · rcases high_or (bs := bs) bs.length with hh | ⟨k, h1, h2, h3⟩
    · rw [get_end (k := bs.length) hl (Nat.le_refl _) (.inl rfl) hh] at h; simp at h
    · by_cases hk : k ≤ 9
      · have e := get_at hs hk h1 h2 h3
        split at e
        · next he => rw [e]; exact he.symm
        · rw [e] at h; simp at h
      · omega
  · rcases high_or (bs := bs) 10 with hh | ⟨k, h1, h2, h3⟩
    · rw [get_end (k := 10) (Nat.le_refl _) (by omega) (.inr rfl) hh] at h; simp at h
    · have e := get_at hs (by omega : k ≤ 9) (by omega) h2 h3
      split at e
      · next he => rw [e]; exact he.symm
      · rw [e] at h; simp at h
theorem get_len {bs : List Nat} (hs : ∀ x ∈ bs, x < 256) (h : (get bs).2 ≠ 0) : (get bs).2 = (one (get bs).1).length := by
  have h1 := get_ok hs h
  have h2 := get_le (bs := bs)
  rw [← h1, List.length_take]; omega
end Va
namespace Go.Proofs.Ytgdefibgifcbaaa.Fr

theorem gap_get {bs : List Nat} (h : gapHead bs = true) : Va.get bs = (0, 0) := by
  unfold gapHead at h
  simp only [Bool.and_eq_true, decide_eq_true_eq, List.all_eq_true] at h
  refine Va.get_end (k := bs.length) (by omega) (Nat.le_refl _) (.inl rfl) ?_
  intro j hj
  rw [List.getD_eq_getElem?_getD, List.getElem?_eq_getElem hj]
  exact h.2 _ (List.getElem_mem hj)
/-- the number of four bytes, the lowest first -/
def val4 (bs : List Nat) : Nat := bs.getD 0 0 + 256 * bs.getD 1 0 + 65536 * bs.getD 2 0 + 16777216 * bs.getD 3 0
theorem le4_val {s : Nat} {bs : List Nat} (hs : s < 4294967296) (hb : ∀ x ∈ bs, x < 256) (hl : bs.length = 4) : le4 s = bs ↔ s = val4 bs := by
  match bs, hl with
  | [a, b, c, d], _ =>
    have ha := hb a (by simp)
    have hb' := hb b (by simp)
    have hc := hb c (by simp)
    have hd := hb d (by simp)
    simp only [le4, val4, List.cons.injEq, and_true]
    simp only [List.getD_cons_zero, List.getD_cons_succ]
    omega
/-- what the number tells: how many bytes the body has, the code -/
def bsz (bs : List Nat) : Nat × Nat :=
  if (Va.get bs).2 = 0 then (0, if gapHead bs = true then 5 else 2) else if 1048576 < (Va.get bs).1 then (0, 2) else ((Va.get bs).1, 0)
/-- the frame that bytes begin with, as the program asks -/
theorem first_bad {bs : List Nat} (h : (bsz bs).2 ≠ 0) : first bs = ((0, []), 0, (bsz bs).2) := by
  unfold bsz at h ⊢
  unfold first
  by_cases hg : gapHead bs = true
  · have := gap_get hg
    rw [if_pos hg, this]; simp [hg]
  · rw [if_neg hg]
    by_cases h0 : (Va.get bs).2 = 0
    · rw [if_pos (.inl h0), if_pos h0, if_neg hg]
    · rw [if_neg h0] at h ⊢
      by_cases h1 : 1048576 < (Va.get bs).1
      · rw [if_pos (.inr h1), if_pos h1]
      · rw [if_neg h1] at h; simp at h
theorem bsz_ok {bs : List Nat} (hs : ∀ x ∈ bs, x < 256) (h : (bsz bs).2 = 0) : ∃ u, u ≤ 1048576 ∧ bsz bs = (u, 0) ∧ Va.get bs = (u, (Va.one u).length) ∧ bs.take (Va.one u).length = Va.one u ∧ (Va.one u).length ≤ bs.length ∧ gapHead bs = false := by
  unfold bsz at h ⊢
  by_cases h0 : (Va.get bs).2 = 0
  · rw [if_pos h0] at h
    by_cases hg : gapHead bs = true
    · simp [hg] at h
    · simp [hg] at h
  · rw [if_neg h0] at h ⊢
    by_cases h1 : 1048576 < (Va.get bs).1
    · rw [if_pos h1] at h; simp at h
    · rw [if_neg h1]
      have hl := Va.get_len hs h0
      have ht := Va.get_ok hs h0
      have hle := Va.get_le (bs := bs)
      refine ⟨(Va.get bs).1, by omega, rfl, ?_, by rw [← hl]; exact ht, by rw [← hl]; exact hle, ?_⟩
      · rw [← hl]
      · cases hg : gapHead bs with
        | false => rfl
        | true => rw [gap_get hg] at h0; simp at h0
theorem first_num {bs : List Nat} {u : Nat} (hu : u ≤ 1048576) (hget : Va.get bs = (u, (Va.one u).length)) (hg : gapHead bs = false) :
    first bs = if (Va.one u).length = bs.length then ((0, []), 0, 5)
      else if bs.getD (Va.one u).length 0 < 1 ∨ 250 < bs.getD (Va.one u).length 0 then ((0, []), 0, 2)
      else if bs.length < size u then ((0, []), 0, 5)
      else if put1 (bs.getD (Va.one u).length 0) ((bs.drop ((Va.one u).length + 1)).take u) = bs.take (size u) then ((((bs.getD (Va.one u).length 0 : Nat) : Int), (bs.drop ((Va.one u).length + 1)).take u), size u, 0)
      else ((0, []), 0, 2) := by
  have ho := Va.one_pos u
  unfold first
  rw [hget, hg, if_neg (by simp), if_neg (by show ¬ ((Va.one u).length = 0 ∨ 1048576 < u); omega)]
  rfl
theorem put_iff {bs : List Nat} {u o : Nat} (hs : ∀ x ∈ bs, x < 256) (ht : bs.take o = Va.one u) (hl : o + 1 + u + 4 ≤ bs.length) :
    put1 (bs.getD o 0) ((bs.drop (o + 1)).take u) = bs.take (o + 1 + u + 4) ↔ Crc.more 0 ((bs.drop o).take (u + 1)) = val4 ((bs.drop (o + 1 + u)).take 4) := by
  have hbl : ((bs.drop (o + 1)).take u).length = u := by rw [List.length_take, List.length_drop]; omega
  have hd1 : (bs.drop o).take (u + 1) = bs.getD o 0 :: (bs.drop (o + 1)).take u := by rw [Va.drop_get bs o (by omega), List.take_succ_cons]
  have h4l : ((bs.drop (o + 1 + u)).take 4).length = 4 := by rw [List.length_take, List.length_drop]; omega
  have h4s : ∀ x ∈ (bs.drop (o + 1 + u)).take 4, x < 256 := fun x hx => hs x (List.mem_of_mem_drop (List.mem_of_mem_take hx))
  have hcs : ∀ x ∈ (bs.drop o).take (u + 1), x < 256 := fun x hx => hs x (List.mem_of_mem_drop (List.mem_of_mem_take hx))
  have hcl := Crc.more_lt (s := 0) ((bs.drop o).take (u + 1)) (by omega) hcs
  have hsplit : bs.take (o + 1 + u + 4) = Va.one u ++ ((bs.drop o).take (u + 1) ++ (bs.drop (o + 1 + u)).take 4) := by
    rw [show o + 1 + u + 4 = o + ((u + 1) + 4) by omega, List.take_add, ht, List.take_add (i := u + 1), List.drop_drop, show o + (u + 1) = o + 1 + u by omega]
  rw [hsplit, put1, hbl]
  rw [List.append_cancel_left_eq, ← hd1, ← le4_val hcl h4s h4l]
  rw [show bs.getD o 0 :: ((bs.drop (o + 1)).take u ++ le4 (Crc.more 0 ((bs.drop o).take (u + 1)))) = (bs.drop o).take (u + 1) ++ le4 (Crc.more 0 ((bs.drop o).take (u + 1))) by rw [hd1]; rfl]
  rw [List.append_cancel_left_eq]
end Go.Proofs.Ytgdefibgifcbaaa.Fr

/- The plain mathematics of points: which may be, their bytes, what is read, their order. Names no dump. -/
namespace Go.Proofs.Ytgdefibgifcbaaa.Po

/-- Seg, At, Len, Sum -/
abbrev P := Int × Int × Int × Nat
def zero : P := (0, 0, 0, 0)
def may (p : P) : Bool := decide (1 ≤ p.1 ∧ p.1 ≤ 2147483647 ∧ 0 ≤ p.2.1 ∧ p.2.1 ≤ 2147483647 ∧ 0 ≤ p.2.2.1 ∧ p.2.2.1 ≤ 4096)
theorem may_iff (p : P) : may p = true ↔ 1 ≤ p.1 ∧ p.1 ≤ 2147483647 ∧ 0 ≤ p.2.1 ∧ p.2.1 ≤ 2147483647 ∧ 0 ≤ p.2.2.1 ∧ p.2.2.1 ≤ 4096 := by simp [may]
def nums (p : P) : List Nat := [p.1.toNat, p.2.1.toNat, p.2.2.1.toNat]
def put (p : P) : List Nat := Va.put (nums p) ++ Fr.le4 p.2.2.2
theorem nums_small {p : P} (h : may p = true) : ∀ u ∈ nums p, u < 18446744073709551616 := by
  have := (may_iff p).mp h
  intro u hu
  simp only [nums, List.mem_cons, List.not_mem_nil, or_false] at hu
  omega
theorem put_small {p : P} : ∀ x ∈ put p, x < 256 := by
  intro x hx
  rcases List.mem_append.mp hx with h | h
  · exact Va.put_small _ x h
  · exact Fr.le4_small _ x h
theorem put_len {p : P} (h : may p = true) : (put p).length ≤ 34 := by
  have := Va.put_len (nums p) (nums_small h)
  have h3 : (nums p).length = 3 := rfl
  rw [put, List.length_append, Fr.le4_len]
  omega

/-- the point of three numbers and four bytes -/
def ofNums (l bs4 : List Nat) : P := ((l.getD 0 0 : Nat), (l.getD 1 0 : Nat), (l.getD 2 0 : Nat), Fr.val4 bs4)
/-- the point that bytes begin with, how many bytes it has; 0: there is none -/
def get (bs : List Nat) : P × Nat :=
  if (Va.all bs 3).2.2 = 0 ∧ (Va.all bs 3).2.1 + 4 ≤ bs.length ∧ may (ofNums (Va.all bs 3).1 ((bs.drop (Va.all bs 3).2.1).take 4)) = true
  then (ofNums (Va.all bs 3).1 ((bs.drop (Va.all bs 3).2.1).take 4), (Va.all bs 3).2.1 + 4) else (zero, 0)
theorem le4_of_val {s : Nat} (hs : s < 4294967296) : Fr.val4 (Fr.le4 s) = s :=
  ((Fr.le4_val hs (Fr.le4_small s) (Fr.le4_len s)).mp rfl).symm
theorem get_put {p : P} (h : may p = true) (hs : p.2.2.2 < 4294967296) (more : List Nat) (hm : ∀ x ∈ more, x < 256) : get (put p ++ more) = (p, (put p).length) := by
  have hall : Va.all (put p ++ more) 3 = (nums p, (Va.put (nums p)).length, 0) := by
    have := Va.all_put (nums p) (Fr.le4 p.2.2.2 ++ more) (nums_small h) (by
      intro x hx
      rcases List.mem_append.mp hx with h | h
      · exact Fr.le4_small _ x h
      · exact hm x h)
    rw [put, List.append_assoc]; exact this
  have hdrop : ((put p ++ more).drop (Va.put (nums p)).length).take 4 = Fr.le4 p.2.2.2 := by
    rw [put, List.append_assoc, List.drop_left, show (4 : Nat) = (Fr.le4 p.2.2.2).length from rfl, List.take_left]
  have hof : ofNums (nums p) (Fr.le4 p.2.2.2) = p := by
    obtain ⟨a, b, c, d⟩ := p
    have := (may_iff _).mp h
    simp only [] at this hs
    simp only [ofNums, nums, List.getD_cons_zero, List.getD_cons_succ, le4_of_val hs]
    rw [show ((a.toNat : Nat) : Int) = a by omega, show ((b.toNat : Nat) : Int) = b by omega, show ((c.toNat : Nat) : Int) = c by omega]
  unfold get
  rw [hall]
  simp only []
  rw [hdrop, hof, if_pos ⟨by trivial, by rw [put, List.length_append, List.length_append, Fr.le4_len]; omega, h⟩]
  rw [put, List.length_append, Fr.le4_len]
theorem get_le (bs : List Nat) : (get bs).2 ≤ bs.length := by
  unfold get; split
  · next h => exact h.2.1
  · exact Nat.zero_le _
theorem val4_lt {bs : List Nat} (h : ∀ x ∈ bs, x < 256) : Fr.val4 bs < 4294967296 := by
  have g : ∀ i, bs.getD i 0 < 256 := fun i => by
    rcases Nat.lt_or_ge i bs.length with hi | hi
    · rw [List.getD_eq_getElem?_getD, List.getElem?_eq_getElem hi]; exact h _ (List.getElem_mem hi)
    · rw [List.getD_eq_getElem?_getD, List.getElem?_eq_none hi]; decide
  have h0 := g 0
  have h1 := g 1
  have h2 := g 2
  have h3 := g 3
  unfold Fr.val4
  omega
/-- a point that a value of its type can be -/
def Fits (p : P) : Prop := (-9223372036854775808 ≤ p.1 ∧ p.1 ≤ 9223372036854775807) ∧ (-9223372036854775808 ≤ p.2.1 ∧ p.2.1 ≤ 9223372036854775807) ∧ (-9223372036854775808 ≤ p.2.2.1 ∧ p.2.2.1 ≤ 9223372036854775807) ∧ p.2.2.2 < 4294967296
theorem get_fits {bs : List Nat} (h : ∀ x ∈ bs, x < 256) : Fits (get bs).1 := by
  unfold get; split
  · next hc =>
    have := (may_iff _).mp hc.2.2
    simp only []
    refine ⟨by omega, by omega, by omega, ?_⟩
    exact val4_lt (fun x hx => h x (List.mem_of_mem_drop (List.mem_of_mem_take hx)))
  · refine ⟨by decide, by decide, by decide, by decide⟩

/-- of four bytes the upper k, as the reference reads them -/
def hk (bs : List Nat) : Nat → Nat
  | 0 => 0
  | k + 1 => hk bs k * 256 + bs.getD (3 - k) 0
theorem hk4 (bs : List Nat) : hk bs 4 = Fr.val4 bs := by simp [hk, Fr.val4]; omega
theorem al_ok : ∀ (n : Nat) (bs : List Nat) (at' : Nat) (l : List Nat), at' ≤ bs.length → (∀ u ∈ l, u < 18446744073709551616) → (Va.al n bs at' l).2.1 ≤ bs.length ∧ ((Va.al n bs at' l).2.2 = 0 → (Va.al n bs at' l).1.length = l.length + n) ∧ (∀ u ∈ (Va.al n bs at' l).1, u < 18446744073709551616) := by
  intro n
  induction n with
  | zero => intro bs at' l h hl; exact ⟨h, fun _ => rfl, hl⟩
  | succ n ih =>
    intro bs at' l h hl
    by_cases h0 : (Va.get (bs.drop at')).2 = 0
    · rw [Va.al_none h0]; exact ⟨h, fun h => by simp at h, fun u hu => by simp at hu⟩
    · rw [Va.al_some h0]
      have h1 := Va.get_le (bs := bs.drop at')
      rw [List.length_drop] at h1
      have := ih bs (at' + (Va.get (bs.drop at')).2) (l ++ [(Va.get (bs.drop at')).1]) (by omega) (by
        intro u hu
        rcases List.mem_append.mp hu with hu | hu
        · exact hl u hu
        · simp only [List.mem_singleton] at hu; subst hu; exact Va.get_lt _)
      refine ⟨this.1, fun h => ?_, this.2.2⟩
      rw [this.2.1 h, List.length_append]; simp; omega
theorem all_ok (bs : List Nat) (n : Nat) : (Va.all bs n).2.1 ≤ bs.length ∧ ((Va.all bs n).2.2 = 0 → (Va.all bs n).1.length = n) ∧ (∀ u ∈ (Va.all bs n).1, u < 18446744073709551616) := by
  have := al_ok n bs 0 [] (by omega) (by simp)
  simpa [Va.all] using this
theorem get_no {bs : List Nat} (h : ¬ ((Va.all bs 3).2.2 = 0 ∧ (Va.all bs 3).2.1 + 4 ≤ bs.length ∧ may (ofNums (Va.all bs 3).1 ((bs.drop (Va.all bs 3).2.1).take 4)) = true)) : get bs = (zero, 0) := by unfold get; rw [if_neg h]

/-! order -/
def less (a b : P) : Bool := if a.1 = b.1 then decide (a.2.1 < b.2.1) else decide (a.1 < b.1)
/-- behind how many of the first k a point is laid -/
def cut (out : List P) (p : P) : Nat → Nat
  | 0 => 0
  | k + 1 => if less p (out.getD k zero) = true then cut out p k else k + 1
def ins (out : List P) (p : P) : List P := out.take (cut out p out.length) ++ [p] ++ out.drop (cut out p out.length)
def ord (l : List P) : List P := l.foldl ins []
theorem cut_le (out : List P) (p : P) : ∀ k, cut out p k ≤ k := by
  intro k
  induction k with
  | zero => exact Nat.le_refl _
  | succ k ih => unfold cut; split <;> omega
theorem ins_len (out : List P) (p : P) : (ins out p).length = out.length + 1 := by
  have := cut_le out p out.length
  simp only [ins, List.length_append, List.length_take, List.length_drop, List.length_cons, List.length_nil]; omega
theorem ord_snoc (l : List P) (p : P) : ord (l ++ [p]) = ins (ord l) p := by simp [ord, List.foldl_append]
theorem ord_len : ∀ (l : List P), (ord l).length = l.length := by
  have : ∀ (l acc : List P), (l.foldl ins acc).length = acc.length + l.length := by
    intro l
    induction l with
    | nil => intro acc; simp
    | cons p l ih => intro acc; rw [List.foldl_cons, ih, ins_len, List.length_cons]; omega
  intro l; rw [ord, this]; simp
theorem ord_take (l : List P) (k : Nat) (h : k < l.length) : ord (l.take (k + 1)) = ins (ord (l.take k)) (l.getD k zero) := by
  rw [List.take_succ_eq_append_getElem h, ord_snoc]; simp [h]
theorem ins_mem {out : List P} {p q : P} (h : q ∈ ins out p) : q ∈ out ∨ q = p := by
  simp only [ins, List.mem_append, List.mem_singleton] at h
  rcases h with (h | h) | h
  · exact .inl (List.mem_of_mem_take h)
  · exact .inr h
  · exact .inl (List.mem_of_mem_drop h)
theorem ord_mem (l : List P) : ∀ q ∈ ord l, q ∈ l := by
  have : ∀ (l acc : List P), ∀ q ∈ l.foldl ins acc, q ∈ acc ∨ q ∈ l := by
    intro l
    induction l with
    | nil => intro acc q h; exact .inl h
    | cons p l ih =>
      intro acc q h
      rw [List.foldl_cons] at h
      rcases ih _ q h with h | h
      · rcases ins_mem h with h | h
        · exact .inl h
        · exact .inr (by simp [h])
      · exact .inr (by simp [h])
  intro q hq
  rcases this l [] q hq with h | h
  · cases h
  · exact h
end Go.Proofs.Ytgdefibgifcbaaa.Po

/- The plain mathematics of cells: which may be, their bytes, what is read, which values fit. Names no dump. -/
namespace Go.Proofs.Ytgdefibgifcbaaa.Ce

/-- Far, Bytes, Point -/
abbrev C := Bool × List Nat × Po.P
def zero : C := (false, [], Po.zero)
def may (c : C) : Bool := if c.1 = true then decide (c.2.1.length = 0) && Po.may c.2.2 else decide (c.2.1.length ≤ 32) && decide (c.2.2 = Po.zero)
def put (c : C) : List Nat := if c.1 = true then 1 :: Po.put c.2.2 else 0 :: (Va.one c.2.1.length ++ c.2.1)
/-- whether a value fits a point -/
def fits (p : Po.P) (v : List Nat) : Bool := decide (p.2.2.1 = (v.length : Int)) && decide (p.2.2.2 = Crc.more 0 v)
/-- the cell that bytes begin with, how many bytes it has; 0: there is none -/
def get (bs : List Nat) : C × Nat :=
  if bs.length = 0 ∨ 1 < bs.getD 0 0 then (zero, 0)
  else if bs.getD 0 0 = 1 then
    if (Po.get (bs.drop 1)).2 = 0 then (zero, 0) else ((true, [], (Po.get (bs.drop 1)).1), (Po.get (bs.drop 1)).2 + 1)
  else if (Va.get (bs.drop 1)).2 = 0 ∨ 32 < (Va.get (bs.drop 1)).1 ∨ bs.length < 1 + (Va.get (bs.drop 1)).2 + (Va.get (bs.drop 1)).1 then (zero, 0)
  else ((false, (bs.drop (1 + (Va.get (bs.drop 1)).2)).take (Va.get (bs.drop 1)).1, Po.zero), 1 + (Va.get (bs.drop 1)).2 + (Va.get (bs.drop 1)).1)

theorem may_far {b : List Nat} {p : Po.P} : may (true, b, p) = true ↔ b = [] ∧ Po.may p = true := by
  simp [may]
theorem may_near {b : List Nat} {p : Po.P} : may (false, b, p) = true ↔ b.length ≤ 32 ∧ p = Po.zero := by
  simp [may]
theorem put_small {c : C} (h : ∀ x ∈ c.2.1, x < 256) : ∀ x ∈ put c, x < 256 := by
  intro x hx
  unfold put at hx
  split at hx
  · rcases List.mem_cons.mp hx with rfl | hx
    · decide
    · exact Po.put_small x hx
  · rcases List.mem_cons.mp hx with rfl | hx
    · decide
    · rcases List.mem_append.mp hx with hx | hx
      · exact Va.one_small _ x hx
      · exact h x hx
theorem one_short {n : Nat} (h : n ≤ 32) : Va.one n = [n] := Va.one_lo (by omega)
theorem put_len {c : C} (h : may c = true) : (put c).length ≤ 35 := by
  obtain ⟨f, b, p⟩ := c
  cases f with
  | true =>
    have := may_far.mp h
    have := Po.put_len this.2
    simp [put]; omega
  | false =>
    have := may_near.mp h
    simp [put, one_short this.1]; omega
theorem put_pos (c : C) : 0 < (put c).length := by unfold put; split <;> simp
theorem get_put {c : C} (h : may c = true) (hb : ∀ x ∈ c.2.1, x < 256) (hs : c.2.2.2.2.2 < 4294967296) (more : List Nat) (hm : ∀ x ∈ more, x < 256) : get (put c ++ more) = (c, (put c).length) := by
  obtain ⟨f, b, p⟩ := c
  cases f with
  | true =>
    obtain ⟨rfl, hp⟩ := may_far.mp h
    have e : put (true, [], p) = 1 :: Po.put p := by simp [put]
    rw [e]
    unfold get
    rw [if_neg (by simp), if_pos (by simp)]
    have : ((1 :: Po.put p) ++ more).drop 1 = Po.put p ++ more := by simp
    rw [this, Po.get_put hp hs more hm]
    have hl : (Po.put p).length ≠ 0 := by rw [Po.put, List.length_append, Fr.le4_len]; omega
    rw [if_neg hl]; simp
  | false =>
    obtain ⟨hl, rfl⟩ := may_near.mp h
    have e : put (false, b, Po.zero) = 0 :: (Va.one b.length ++ b) := by simp [put]
    rw [e]
    unfold get
    rw [if_neg (by simp), if_neg (by simp)]
    have hd : ((0 :: (Va.one b.length ++ b)) ++ more).drop 1 = Va.one b.length ++ (b ++ more) := by simp
    have hg : Va.get (Va.one b.length ++ (b ++ more)) = (b.length, (Va.one b.length).length) := Va.get_one (by omega) _ (by
      intro x hx
      rcases List.mem_append.mp hx with hx | hx
      · exact hb x hx
      · exact hm x hx)
    rw [hd, hg]
    rw [one_short hl] at *
    simp only [List.length_cons, List.length_nil]
    rw [if_neg (by simp; omega)]
    simp
    omega
theorem get_le (bs : List Nat) : (get bs).2 ≤ bs.length := by
  unfold get
  split
  · omega
  · next h =>
    split
    · split
      · omega
      · have := Po.get_le (bs.drop 1)
        rw [List.length_drop] at this
        simp only []; omega
    · split
      · omega
      · next h' => simp only []; omega
theorem get_small {bs : List Nat} (h : ∀ x ∈ bs, x < 256) : (∀ x ∈ (get bs).1.2.1, x < 256) ∧ (get bs).1.2.1.length ≤ 32 ∧ Po.Fits (get bs).1.2.2 := by
  have hz : Po.Fits Po.zero := ⟨by decide, by decide, by decide, by decide⟩
  unfold get
  split
  · exact ⟨by simp [zero], by simp [zero], hz⟩
  · split
    · split
      · exact ⟨by simp [zero], by simp [zero], hz⟩
      · exact ⟨by simp, by simp, Po.get_fits (fun x hx => h x (List.mem_of_mem_drop hx))⟩
    · split
      · exact ⟨by simp [zero], by simp [zero], hz⟩
      · next h' => exact ⟨fun x hx => h x (List.mem_of_mem_drop (List.mem_of_mem_take hx)), by simp only [List.length_take]; omega, hz⟩
end Go.Proofs.Ytgdefibgifcbaaa.Ce

/- The plain mathematics of entries: which may be, batches, their bytes, what is read. Names no dump. -/
namespace Go.Proofs.Ytgdefibgifcbaaa

/-! what is read of bytes is read of longer ones too -/
theorem Va.lp_ext : ∀ (bs r : List Nat) (i acc : Nat), (Va.lp i acc bs).2 ≠ 0 → Va.lp i acc (bs ++ r) = Va.lp i acc bs := by
  intro bs
  induction bs with
  | nil => intro r i acc h; exact absurd rfl h
  | cons x bs ih =>
    intro r i acc h
    rw [List.cons_append]
    unfold Va.lp at h ⊢
    repeat' split
    all_goals first | rfl | (simp_all)
theorem Va.get_ext {bs : List Nat} (r : List Nat) (h : (Va.get bs).2 ≠ 0) : Va.get (bs ++ r) = Va.get bs := Va.lp_ext bs r 0 0 h
theorem drop_app {bs r : List Nat} {k : Nat} (h : k ≤ bs.length) : (bs ++ r).drop k = bs.drop k ++ r := List.drop_append_of_le_length h
theorem take_app {bs r : List Nat} {k : Nat} (h : k ≤ bs.length) : (bs ++ r).take k = bs.take k := List.take_append_of_le_length h
theorem getD_app {bs r : List Nat} {k : Nat} (h : k < bs.length) : (bs ++ r).getD k 0 = bs.getD k 0 := by
  rw [List.getD_eq_getElem?_getD, List.getD_eq_getElem?_getD, List.getElem?_append_left h]
theorem Va.al_ext (r : List Nat) : ∀ (n : Nat) (bs : List Nat) (at' : Nat) (l : List Nat), at' ≤ bs.length → (Va.al n bs at' l).2.2 = 0 → Va.al n (bs ++ r) at' l = Va.al n bs at' l := by
  intro n
  induction n with
  | zero => intro bs at' l _ _; rfl
  | succ n ih =>
    intro bs at' l ha h
    by_cases h0 : (Va.get (bs.drop at')).2 = 0
    · rw [Va.al_none h0] at h; simp at h
    · rw [Va.al_some h0] at h ⊢
      have hle := Va.get_le (bs := bs.drop at')
      rw [List.length_drop] at hle
      have hg : Va.get ((bs ++ r).drop at') = Va.get (bs.drop at') := by rw [drop_app ha]; exact Va.get_ext r h0
      rw [Va.al_some (by rw [hg]; exact h0), hg]
      exact ih bs _ _ (by omega) h
theorem Po.get_ext {bs : List Nat} (r : List Nat) (h : (Po.get bs).2 ≠ 0) : Po.get (bs ++ r) = Po.get bs := by
  unfold Po.get at h ⊢
  by_cases hc : (Va.all bs 3).2.2 = 0 ∧ (Va.all bs 3).2.1 + 4 ≤ bs.length ∧ Po.may (Po.ofNums (Va.all bs 3).1 ((bs.drop (Va.all bs 3).2.1).take 4)) = true
  · obtain ⟨h1, h2, h3⟩ := hc
    have e : Va.all (bs ++ r) 3 = Va.all bs 3 := Va.al_ext r 3 bs 0 [] (by omega) h1
    rw [e]
    have e2 : ((bs ++ r).drop (Va.all bs 3).2.1).take 4 = (bs.drop (Va.all bs 3).2.1).take 4 := by
      rw [drop_app (by omega), take_app (by rw [List.length_drop]; omega)]
    rw [e2, if_pos ⟨h1, by rw [List.length_append]; omega, h3⟩, if_pos ⟨h1, h2, h3⟩]
  · rw [if_neg hc] at h; exact absurd rfl h
theorem Ce.get_ext {bs : List Nat} (r : List Nat) (h : (Ce.get bs).2 ≠ 0) : Ce.get (bs ++ r) = Ce.get bs := by
  unfold Ce.get at h ⊢
  by_cases c1 : bs.length = 0 ∨ 1 < bs.getD 0 0
  · rw [if_pos c1] at h; exact absurd rfl h
  · rw [if_neg c1] at h ⊢
    have hl : 0 < bs.length := by omega
    have hd : (bs ++ r).drop 1 = bs.drop 1 ++ r := drop_app (by omega)
    have hg : (bs ++ r).getD 0 0 = bs.getD 0 0 := getD_app hl
    rw [hd, hg, if_neg (by rw [List.length_append]; omega)]
    by_cases c2 : bs.getD 0 0 = 1
    · rw [if_pos c2] at h ⊢
      rw [if_pos c2]
      by_cases c3 : (Po.get (bs.drop 1)).2 = 0
      · rw [if_pos c3] at h; exact absurd rfl h
      · rw [Po.get_ext r c3]
    · rw [if_neg c2] at h ⊢
      rw [if_neg c2]
      by_cases c3 : (Va.get (bs.drop 1)).2 = 0 ∨ 32 < (Va.get (bs.drop 1)).1 ∨ bs.length < 1 + (Va.get (bs.drop 1)).2 + (Va.get (bs.drop 1)).1
      · rw [if_pos c3] at h; exact absurd rfl h
      · rw [Va.get_ext r (by omega), if_neg c3, if_neg (by rw [List.length_append]; omega)]
        rw [drop_app (by omega), take_app (by rw [List.length_drop]; omega)]

namespace En
/-- Index, Term, Kind, Key, Cell -/
abbrev E := Int × Int × Int × List Nat × Ce.C
def zero : E := (0, 0, 0, [], Ce.zero)
def may (e : E) : Bool :=
  if e.1 < 1 ∨ 2147483647 < e.1 ∨ e.2.1 < 1 ∨ 2147483647 < e.2.1 ∨ Ce.may e.2.2.2.2 = false ∨ 64 < e.2.2.2.1.length then false
  else if e.2.2.1 = 0 then decide (e.2.2.2.1 = [])
  else if e.2.2.1 = 2 then decide (e.2.2.2.1 ≠ []) && decide (e.2.2.2.2 = Ce.zero)
  else decide (e.2.2.1 = 1) && decide (e.2.2.2.1 ≠ [])
/-- Indexes one behind the other, Terms that do not fall -/
def chain : List E → Bool
  | [] => true
  | [_] => true
  | a :: b :: r => decide (b.1 - 1 = a.1) && decide (a.2.1 ≤ b.2.1) && chain (b :: r)
def batch (l : List E) : Bool := l.all may && chain l && decide (1 ≤ l.length ∧ l.length ≤ 16)
def put1 (e : E) : List Nat := Va.one e.2.1.toNat ++ [e.2.2.1.toNat] ++ Va.one e.2.2.2.1.length ++ e.2.2.2.1 ++ (if e.2.2.1 = 2 then [] else Ce.put e.2.2.2.2)
def put (l : List E) : List Nat := Va.put [l.length, (l.headD zero).1.toNat] ++ l.flatMap put1
def number (bs : List Nat) (most : Nat) : Nat × Nat := if (Va.get bs).2 = 0 ∨ most < (Va.get bs).1 then (0, 0) else Va.get bs
/-- the entry that bytes begin with; how many bytes it has; 0: there is none -/
def one (bs : List Nat) (ix : Int) : E × Nat :=
  if (number bs 2147483647).2 = 0 ∨ (number bs 2147483647).2 = bs.length then (zero, 0)
  else if (number (bs.drop ((number bs 2147483647).2 + 1)) 64).2 = 0 ∨ bs.length < (number bs 2147483647).2 + 1 + (number (bs.drop ((number bs 2147483647).2 + 1)) 64).2 + (number (bs.drop ((number bs 2147483647).2 + 1)) 64).1 then (zero, 0)
  else
    if bs.getD (number bs 2147483647).2 0 = 2 then ((ix, (number bs 2147483647).1, 2, (bs.drop ((number bs 2147483647).2 + 1 + (number (bs.drop ((number bs 2147483647).2 + 1)) 64).2)).take (number (bs.drop ((number bs 2147483647).2 + 1)) 64).1, Ce.zero), (number bs 2147483647).2 + 1 + (number (bs.drop ((number bs 2147483647).2 + 1)) 64).2 + (number (bs.drop ((number bs 2147483647).2 + 1)) 64).1)
    else if (Ce.get (bs.drop ((number bs 2147483647).2 + 1 + (number (bs.drop ((number bs 2147483647).2 + 1)) 64).2 + (number (bs.drop ((number bs 2147483647).2 + 1)) 64).1))).2 = 0 then (zero, 0)
    else ((ix, (number bs 2147483647).1, bs.getD (number bs 2147483647).2 0, (bs.drop ((number bs 2147483647).2 + 1 + (number (bs.drop ((number bs 2147483647).2 + 1)) 64).2)).take (number (bs.drop ((number bs 2147483647).2 + 1)) 64).1, (Ce.get (bs.drop ((number bs 2147483647).2 + 1 + (number (bs.drop ((number bs 2147483647).2 + 1)) 64).2 + (number (bs.drop ((number bs 2147483647).2 + 1)) 64).1))).1), (number bs 2147483647).2 + 1 + (number (bs.drop ((number bs 2147483647).2 + 1)) 64).2 + (number (bs.drop ((number bs 2147483647).2 + 1)) 64).1 + (Ce.get (bs.drop ((number bs 2147483647).2 + 1 + (number (bs.drop ((number bs 2147483647).2 + 1)) 64).2 + (number (bs.drop ((number bs 2147483647).2 + 1)) 64).1))).2)
theorem number_ext {bs : List Nat} (r : List Nat) {most : Nat} (h : (number bs most).2 ≠ 0) : number (bs ++ r) most = number bs most := by
  unfold number at h ⊢
  by_cases c : (Va.get bs).2 = 0 ∨ most < (Va.get bs).1
  · rw [if_pos c] at h; exact absurd rfl h
  · rw [Va.get_ext r (by omega)]
theorem number_le (bs : List Nat) (most : Nat) : (number bs most).2 ≤ bs.length := by
  unfold number; split
  · omega
  · exact Va.get_le
theorem one_ext {bs : List Nat} (r : List Nat) {ix : Int} (h : (one bs ix).2 ≠ 0) : one (bs ++ r) ix = one bs ix := by
  have hle := number_le bs 2147483647
  have hn := number_ext (bs := bs) r (most := 2147483647)
  have hle2 := number_le (bs.drop ((number bs 2147483647).2 + 1)) 64
  have hn2 := number_ext (bs := bs.drop ((number bs 2147483647).2 + 1)) r (most := 64)
  rw [List.length_drop] at hle2
  unfold one at h ⊢
  by_cases c1 : (number bs 2147483647).2 = 0 ∨ (number bs 2147483647).2 = bs.length
  · rw [if_pos c1] at h; exact absurd rfl h
  · have e1 := hn (by omega)
    rw [e1]
    have hd : (bs ++ r).drop ((number bs 2147483647).2 + 1) = bs.drop ((number bs 2147483647).2 + 1) ++ r := drop_app (by omega)
    rw [hd]
    rw [if_neg c1] at h ⊢
    by_cases c2 : (number (bs.drop ((number bs 2147483647).2 + 1)) 64).2 = 0 ∨ bs.length < (number bs 2147483647).2 + 1 + (number (bs.drop ((number bs 2147483647).2 + 1)) 64).2 + (number (bs.drop ((number bs 2147483647).2 + 1)) 64).1
    · rw [if_pos c2] at h; exact absurd rfl h
    · rw [hn2 (by omega)]
      rw [if_neg c2] at h ⊢
      rw [if_neg (by rw [List.length_append]; omega), if_neg (by rw [List.length_append]; omega)]
      generalize (number bs 2147483647).2 = t at *
      generalize number (bs.drop (t + 1)) 64 = g at *
      have hd2 : (bs ++ r).drop (t + 1 + g.2 + g.1) = bs.drop (t + 1 + g.2 + g.1) ++ r := drop_app (by omega)
      have hd3 : ((bs ++ r).drop (t + 1 + g.2)).take g.1 = (bs.drop (t + 1 + g.2)).take g.1 := by rw [drop_app (by omega), take_app (by rw [List.length_drop]; omega)]
      have hd4 : (bs ++ r).getD t 0 = bs.getD t 0 := getD_app (by omega)
      rw [hd2, hd3, hd4]
      by_cases c3 : bs.getD t 0 = 2
      · rw [if_pos c3, if_pos c3]
      · rw [if_neg c3] at h ⊢
        rw [if_neg c3]
        by_cases c4 : (Ce.get (bs.drop (t + 1 + g.2 + g.1))).2 = 0
        · rw [if_pos c4] at h; exact absurd rfl h
        · rw [Ce.get_ext r c4]
theorem one_le (bs : List Nat) (ix : Int) : (one bs ix).2 ≤ bs.length := by
  unfold one
  split
  · omega
  · split
    · omega
    · split
      · simp only []; omega
      · split
        · omega
        · have := Ce.get_le (bs.drop ((number bs 2147483647).2 + 1 + (number (bs.drop ((number bs 2147483647).2 + 1)) 64).2 + (number (bs.drop ((number bs 2147483647).2 + 1)) 64).1))
          rw [List.length_drop] at this
          simp only []; omega
/-- n entries from the place at' on, l being got already; none: there are not so many -/
def sc : Nat → List Nat → Nat → Int → List E → Option (List E × Nat)
  | 0, _, at', _, l => some (l, at')
  | n + 1, bs, at', ix, l => if (one (bs.drop at') ix).2 = 0 then none else sc n bs (at' + (one (bs.drop at') ix).2) (ix + 1) (l ++ [(one (bs.drop at') ix).1])
/-- the entries that bytes begin with, and where they end -/
def scan (bs : List Nat) : Option (List E × Nat) :=
  if (number bs 16).2 = 0 ∨ (number (bs.drop (number bs 16).2) 2147483647).2 = 0 then none
  else sc (number bs 16).1 bs ((number bs 16).2 + (number (bs.drop (number bs 16).2) 2147483647).2) (number (bs.drop (number bs 16).2) 2147483647).1 []
/-- the batch whose bytes they are; none: there is none -/
def get (bs : List Nat) : List E :=
  match scan bs with
  | none => []
  | some (l, at') => if at' = bs.length ∧ batch l = true then l else []
theorem sc_ext (r : List Nat) : ∀ (n : Nat) (bs : List Nat) (at' : Nat) (ix : Int) (l : List E) (x : List E × Nat), at' ≤ bs.length → sc n bs at' ix l = some x → sc n (bs ++ r) at' ix l = some x := by
  intro n
  induction n with
  | zero => intro bs at' ix l x _ h; exact h
  | succ n ih =>
    intro bs at' ix l x ha h
    rw [sc] at h ⊢
    by_cases h0 : (one (bs.drop at') ix).2 = 0
    · rw [if_pos h0] at h; cases h
    · have hle := one_le (bs.drop at') ix
      rw [List.length_drop] at hle
      have e : one ((bs ++ r).drop at') ix = one (bs.drop at') ix := by rw [drop_app ha]; exact one_ext r h0
      rw [if_neg h0] at h
      rw [e, if_neg h0]
      exact ih bs _ _ _ x (by omega) h
theorem scan_ext (r : List Nat) {bs : List Nat} {x : List E × Nat} (h : scan bs = some x) : scan (bs ++ r) = some x := by
  unfold scan at h ⊢
  by_cases c : (number bs 16).2 = 0 ∨ (number (bs.drop (number bs 16).2) 2147483647).2 = 0
  · rw [if_pos c] at h; cases h
  · have hle := number_le bs 16
    have hle2 := number_le (bs.drop (number bs 16).2) 2147483647
    rw [List.length_drop] at hle2
    rw [number_ext r (by omega), drop_app hle, number_ext r (by omega)]
    rw [if_neg c] at h ⊢
    exact sc_ext r _ bs _ _ _ x (by omega) h
/-! what is put is got -/
/-- bytes that are bytes -/
def Small (e : E) : Prop := (∀ x ∈ e.2.2.2.1, x < 256) ∧ (∀ x ∈ e.2.2.2.2.2.1, x < 256) ∧ e.2.2.2.2.2.2.2.2.2 < 4294967296
theorem number_one {u most : Nat} (h : u ≤ most) (hu : u < 18446744073709551616) (R : List Nat) (hR : ∀ x ∈ R, x < 256) : number (Va.one u ++ R) most = (u, (Va.one u).length) := by
  have hp := Va.one_pos u
  unfold number
  rw [Va.get_one hu R hR, if_neg (by simp only []; omega)]
theorem may_parts {e : E} (h : may e = true) : 1 ≤ e.1 ∧ e.1 ≤ 2147483647 ∧ 1 ≤ e.2.1 ∧ e.2.1 ≤ 2147483647 ∧ Ce.may e.2.2.2.2 = true ∧ e.2.2.2.1.length ≤ 64 ∧ (e.2.2.1 = 0 ∨ e.2.2.1 = 1 ∨ e.2.2.1 = 2) ∧ (e.2.2.1 = 2 → e.2.2.2.2 = Ce.zero) := by
  unfold may at h
  split at h
  · cases h
  · next c =>
    have hc : Ce.may e.2.2.2.2 = true := by
      cases hm : Ce.may e.2.2.2.2 with
      | true => rfl
      | false => exact absurd (.inr (.inr (.inr (.inr (.inl hm))))) c
    refine ⟨by omega, by omega, by omega, by omega, hc, by omega, ?_, ?_⟩
    · split at h
      · left; assumption
      · split at h
        · right; right; assumption
        · simp only [Bool.and_eq_true, decide_eq_true_eq] at h
          right; left; exact h.1
    · intro h2
      split at h
      · omega
      · try rw [if_pos h2] at h
        simp only [Bool.and_eq_true, decide_eq_true_eq] at h
        exact h.2
theorem put1_small {e : E} (h : may e = true) (hs : Small e) : ∀ x ∈ put1 e, x < 256 := by
  obtain ⟨_, _, _, _, hc, hk, hkind, _⟩ := may_parts h
  intro x hx
  unfold put1 at hx
  simp only [List.mem_append, List.mem_singleton] at hx
  rcases hx with (((hx | hx) | hx) | hx) | hx
  · exact Va.one_small _ x hx
  · rcases hkind with e | e | e <;> rw [e] at hx <;> subst hx <;> decide
  · exact Va.one_small _ x hx
  · exact hs.1 x hx
  · split at hx
    · cases hx
    · exact Ce.put_small hs.2.1 x hx
theorem one_put {e : E} (h : may e = true) (hs : Small e) (more : List Nat) (hm : ∀ x ∈ more, x < 256) : one (put1 e ++ more) e.1 = (e, (put1 e).length) := by
  obtain ⟨hi1, hi2, ht1, ht2, hc, hk, hkind, hdel⟩ := may_parts h
  obtain ⟨hs1, hs2, hs3⟩ := hs
  obtain ⟨ix, term, kind, key, c⟩ := e
  simp only at *
  obtain ⟨t, rfl⟩ : ∃ t : Nat, term = (t : Int) := ⟨term.toNat, by omega⟩
  obtain ⟨kb, rfl⟩ : ∃ k : Nat, kind = (k : Int) := ⟨kind.toNat, by omega⟩
  have hkb : kb ≤ 2 := by omega
  obtain ⟨R, hR⟩ : ∃ R, R = (if (kb : Int) = 2 then [] else Ce.put c) := ⟨_, rfl⟩
  have hbs : put1 (ix, (t : Int), (kb : Int), key, c) ++ more = Va.one t ++ (kb :: (Va.one key.length ++ (key ++ (R ++ more)))) := by
    rw [hR]; simp [put1]
  have hlen : (put1 (ix, (t : Int), (kb : Int), key, c)).length = (Va.one t).length + 1 + (Va.one key.length).length + key.length + R.length := by
    rw [hR]; simp [put1]; omega
  have hRs : ∀ x ∈ R ++ more, x < 256 := by
    intro x hx
    rcases List.mem_append.mp hx with hx | hx
    · rw [hR] at hx
      split at hx
      · cases hx
      · exact Ce.put_small hs2 x hx
    · exact hm x hx
  have hks : ∀ x ∈ key ++ (R ++ more), x < 256 := by
    intro x hx
    rcases List.mem_append.mp hx with hx | hx
    · exact hs1 x hx
    · exact hRs x hx
  have hr1 : ∀ x ∈ kb :: (Va.one key.length ++ (key ++ (R ++ more))), x < 256 := by
    intro x hx
    rcases List.mem_cons.mp hx with rfl | hx
    · omega
    · rcases List.mem_append.mp hx with hx | hx
      · exact Va.one_small _ x hx
      · exact hks x hx
  have n1 : number (put1 (ix, (t : Int), (kb : Int), key, c) ++ more) 2147483647 = (t, (Va.one t).length) := by
    rw [hbs]; exact number_one (by omega) (by omega) _ hr1
  have d1 : (put1 (ix, (t : Int), (kb : Int), key, c) ++ more).drop ((Va.one t).length + 1) = Va.one key.length ++ (key ++ (R ++ more)) := by
    rw [hbs, List.drop_append, List.drop_of_length_le (by omega), show (Va.one t).length + 1 - (Va.one t).length = 1 by omega]; simp
  have n2 : number (Va.one key.length ++ (key ++ (R ++ more))) 64 = (key.length, (Va.one key.length).length) := number_one (by omega) (by omega) _ hks
  have d2 : (put1 (ix, (t : Int), (kb : Int), key, c) ++ more).drop ((Va.one t).length + 1 + (Va.one key.length).length) = key ++ (R ++ more) := by
    rw [← List.drop_drop, d1, List.drop_left]
  have d3 : (put1 (ix, (t : Int), (kb : Int), key, c) ++ more).drop ((Va.one t).length + 1 + (Va.one key.length).length + key.length) = R ++ more := by
    rw [← List.drop_drop, d2, List.drop_left]
  have g1 : (put1 (ix, (t : Int), (kb : Int), key, c) ++ more).getD (Va.one t).length 0 = kb := by
    rw [hbs]; simp
  have hl : (put1 (ix, (t : Int), (kb : Int), key, c) ++ more).length = (Va.one t).length + 1 + (Va.one key.length).length + key.length + R.length + more.length := by
    rw [List.length_append, hlen]
  have p1 := Va.one_pos t
  have p2 := Va.one_pos key.length
  unfold one
  rw [n1]
  simp only []
  rw [d1, n2]
  simp only []
  rw [d2, d3, g1, hl, if_neg (by omega), if_neg (by omega), List.take_left]
  by_cases hk2 : kb = 2
  · subst hk2
    have hz := hdel rfl
    rw [if_pos rfl, hlen, hR, hz]; simp
  · have e : R = Ce.put c := by rw [hR, if_neg (by omega)]
    rw [if_neg hk2, e, Ce.get_put hc hs2 hs3 more hm]
    have := Ce.put_pos c
    rw [if_neg (by simp only []; omega), hlen, e]
theorem one_pos (e : E) : 0 < (put1 e).length := by
  have := Va.one_pos e.2.1.toNat
  unfold put1; simp only [List.length_append]; omega
theorem chain_ix {a b : E} {r : List E} (h : chain (a :: b :: r) = true) : b.1 = a.1 + 1 ∧ chain (b :: r) = true := by
  simp only [chain, Bool.and_eq_true, decide_eq_true_eq] at h
  exact ⟨by omega, h.2⟩
theorem flat_small {l : List E} (h : ∀ e ∈ l, may e = true ∧ Small e) : ∀ x ∈ l.flatMap put1, x < 256 := by
  intro x hx
  obtain ⟨e, he, hx⟩ := List.mem_flatMap.mp hx
  exact put1_small (h e he).1 (h e he).2 x hx
theorem sc_put (more : List Nat) (hm : ∀ x ∈ more, x < 256) : ∀ (l : List E) (pre : List Nat) (acc : List E) (ix : Int), (∀ e ∈ l, may e = true ∧ Small e) → chain l = true → (l = [] ∨ (l.headD zero).1 = ix) →
    sc l.length (pre ++ (l.flatMap put1 ++ more)) pre.length ix acc = some (acc ++ l, pre.length + (l.flatMap put1).length) := by
  intro l
  induction l with
  | nil => intro pre acc ix _ _ _; simp [sc]
  | cons e l ih =>
    intro pre acc ix hl hc hix
    obtain ⟨hm1, hs1⟩ := hl e (by simp)
    have hix : e.1 = ix := by
      rcases hix with h | h
      · cases h
      · exact h
    subst hix
    have hd : (pre ++ ((e :: l).flatMap put1 ++ more)).drop pre.length = put1 e ++ (l.flatMap put1 ++ more) := by simp
    have ho := one_put hm1 hs1 (l.flatMap put1 ++ more) (by
      intro x hx
      rcases List.mem_append.mp hx with hx | hx
      · exact flat_small (fun e' he' => hl e' (by simp [he'])) x hx
      · exact hm x hx)
    rw [List.length_cons, sc, hd, ho]
    simp only []
    have hp := one_pos e
    rw [if_neg (by omega)]
    have := ih (pre ++ put1 e) (acc ++ [e]) (e.1 + 1) (fun e' he' => hl e' (by simp [he'])) (by
      cases l with
      | nil => rfl
      | cons b r => exact (chain_ix hc).2) (by
      cases l with
      | nil => exact .inl rfl
      | cons b r => exact .inr (chain_ix hc).1)
    rw [List.length_append] at this
    simp only [List.flatMap_cons, List.length_append]
    rw [show pre ++ (put1 e ++ l.flatMap put1 ++ more) = pre ++ put1 e ++ (l.flatMap put1 ++ more) by simp, this]
    simp; omega
theorem batch_parts {l : List E} (h : batch l = true) : (∀ e ∈ l, may e = true) ∧ chain l = true ∧ 1 ≤ l.length ∧ l.length ≤ 16 := by
  simp only [batch, Bool.and_eq_true, List.all_eq_true, decide_eq_true_eq] at h
  exact ⟨h.1.1, h.1.2, h.2⟩
theorem scan_put {l : List E} (h : batch l = true) (hs : ∀ e ∈ l, Small e) (more : List Nat) (hm : ∀ x ∈ more, x < 256) : scan (put l ++ more) = some (l, (put l).length) := by
  obtain ⟨h1, h2, h3, h4⟩ := batch_parts h
  obtain ⟨e, r, rfl⟩ : ∃ e r, l = e :: r := by
    cases l with
    | nil => simp at h3
    | cons e r => exact ⟨e, r, rfl⟩
  obtain ⟨hi1, hi2, _⟩ := may_parts (h1 e (by simp))
  obtain ⟨ix, hix⟩ : ∃ ix : Nat, e.1 = (ix : Int) := ⟨e.1.toNat, by omega⟩
  have hput : put (e :: r) = Va.one (e :: r).length ++ Va.one ix ++ (e :: r).flatMap put1 := by
    unfold put
    rw [show ((e :: r).headD zero).1.toNat = ix by show e.1.toNat = ix; omega]
    simp [Va.put]
  have hfs : ∀ x ∈ (e :: r).flatMap put1 ++ more, x < 256 := by
    intro x hx
    rcases List.mem_append.mp hx with hx | hx
    · exact flat_small (fun e' he' => ⟨h1 e' he', hs e' he'⟩) x hx
    · exact hm x hx
  generalize hl : (e :: r).length = L at *
  have n1 : number (put (e :: r) ++ more) 16 = (L, (Va.one L).length) := by
    rw [hput, List.append_assoc, List.append_assoc]
    refine number_one h4 (by omega) _ ?_
    intro x hx
    rcases List.mem_append.mp hx with hx | hx
    · exact Va.one_small _ x hx
    · exact hfs x hx
  have d1 : (put (e :: r) ++ more).drop (Va.one L).length = Va.one ix ++ ((e :: r).flatMap put1 ++ more) := by
    rw [hput, List.append_assoc, List.append_assoc, List.drop_left]
  have n2 : number (Va.one ix ++ ((e :: r).flatMap put1 ++ more)) 2147483647 = (ix, (Va.one ix).length) := number_one (by omega) (by omega) _ hfs
  have p1 := Va.one_pos L
  have p2 := Va.one_pos ix
  unfold scan
  rw [n1]
  simp only []
  rw [d1, n2]
  simp only []
  rw [if_neg (by omega)]
  have := sc_put more hm (e :: r) (Va.one L ++ Va.one ix) [] ix (fun e' he' => ⟨h1 e' he', hs e' he'⟩) h2 (.inr hix)
  rw [List.length_append, hl, List.nil_append] at this
  rw [show put (e :: r) ++ more = Va.one L ++ Va.one ix ++ ((e :: r).flatMap put1 ++ more) by rw [hput]; simp, this, hput]
  simp [Nat.add_assoc]
theorem get_put {l : List E} (h : batch l = true) (hs : ∀ e ∈ l, Small e) : get (put l) = l := by
  have := scan_put h hs [] (by simp)
  rw [List.append_nil] at this
  unfold get
  rw [this]
  simp [h]
theorem get_more {l : List E} (h : batch l = true) (hs : ∀ e ∈ l, Small e) {more : List Nat} (hm : ∀ x ∈ more, x < 256) (hne : more ≠ []) : get (put l ++ more) = [] := by
  unfold get
  rw [scan_put h hs more hm]
  simp only []
  rw [if_neg]
  rw [List.length_append]
  have : 0 < more.length := List.length_pos_iff.mpr hne
  omega
theorem get_cut {l : List E} (h : batch l = true) (hs : ∀ e ∈ l, Small e) {k : Nat} (hk : k < (put l).length) : get ((put l).take k) = [] := by
  unfold get
  cases hsc : scan ((put l).take k) with
  | none => rfl
  | some x =>
    obtain ⟨l', at'⟩ := x
    have h1 := scan_ext ((put l).drop k) hsc
    rw [List.take_append_drop] at h1
    have h2 := scan_put h hs [] (by simp)
    rw [List.append_nil, h1] at h2
    simp only [Option.some.injEq, Prod.mk.injEq] at h2
    simp only []
    rw [if_neg]
    rw [List.length_take]
    omega
theorem put_pos (l : List E) : 0 < (put l).length := by
  have := Va.one_pos l.length
  unfold put; simp only [List.length_append, Va.put, List.flatMap_cons]; omega
end En
end Go.Proofs.Ytgdefibgifcbaaa

/- The plain mathematics of names: which there are, which file a text names, numbers in order. Names no dump. -/
namespace Go.Proofs.Ytgdefibgifcbaaa.Na

/-- Kind, Num -/
abbrev F := Int × Int
/-- k digits of a number, noughts ahead -/
def dig : Nat → Nat → List Nat
  | 0, _ => []
  | k + 1, n => dig k (n / 10) ++ [48 + n % 10]
def roster : List Nat := [114, 111, 115, 116, 101, 114]
def rosterNew : List Nat := [114, 111, 115, 116, 101, 114, 46, 110, 101, 119]
/-- the letter of a kind that has numbers -/
def letter (k : Int) : Nat := if k = 3 then 118 else if k = 4 then 119 else if k = 5 then 116 else if k = 6 then 115 else 109
/-- may a file be? -/
def may (f : F) : Bool := decide (f = (1, 0) ∨ f = (2, 0) ∨ (3 ≤ f.1 ∧ f.1 ≤ 7 ∧ 1 ≤ f.2 ∧ f.2 ≤ 2147483647))
/-- a file's name; empty: there is none -/
def of (f : F) : List Nat :=
  if f = (1, 0) then roster else if f = (2, 0) then rosterNew
  else if 3 ≤ f.1 ∧ f.1 ≤ 7 ∧ 1 ≤ f.2 ∧ f.2 ≤ 2147483647 then letter f.1 :: dig 10 f.2.toNat else []
/-- the number that digits are, m being got already; -1: they are none -/
def num : Nat → List Nat → Int
  | m, [] => (m : Int)
  | m, d :: ds => if d < 48 ∨ 57 < d then -1 else num (10 * m + (d - 48)) ds
/-- the kind of a letter; 0: there is none -/
def kindOf (d : Nat) : Int := if d = 118 then 3 else if d = 119 then 4 else if d = 116 then 5 else if d = 115 then 6 else if d = 109 then 7 else 0
/-- the file whose name a text is; (0, 0): there is none -/
def parse (s : List Nat) : F :=
  if s = roster then (1, 0) else if s = rosterNew then (2, 0)
  else if s.length = 11 ∧ kindOf (s.headD 0) ≠ 0 ∧ 1 ≤ num 0 (s.drop 1) ∧ num 0 (s.drop 1) ≤ 2147483647 then (kindOf (s.headD 0), num 0 (s.drop 1)) else (0, 0)

theorem dig_len : ∀ (k n : Nat), (dig k n).length = k
  | 0, _ => rfl
  | k + 1, n => by simp [dig, dig_len k]
theorem dig_cons : ∀ (j m : Nat), dig (j + 1) m = (48 + m / 10 ^ j % 10) :: dig j m
  | 0, m => by simp [dig]
  | j + 1, m => by
    have h := dig_cons j (m / 10)
    have e : dig (j + 1 + 1) m = dig (j + 1) (m / 10) ++ [48 + m % 10] := rfl
    have e2 : dig (j + 1) m = dig j (m / 10) ++ [48 + m % 10] := rfl
    rw [e, h, e2, List.cons_append, Nat.div_div_eq_div_mul, Nat.pow_succ, Nat.mul_comm 10]
theorem dig_small : ∀ (k n : Nat), ∀ x ∈ dig k n, 48 ≤ x ∧ x ≤ 57
  | 0, _, x, hx => by simp [dig] at hx
  | k + 1, n, x, hx => by
    simp only [dig, List.mem_append, List.mem_singleton] at hx
    rcases hx with hx | rfl
    · exact dig_small k _ x hx
    · omega
theorem num_cons (m d : Nat) (ds : List Nat) : num m (d :: ds) = if d < 48 ∨ 57 < d then -1 else num (10 * m + (d - 48)) ds := rfl
theorem num_nil (m : Nat) : num m [] = (m : Int) := rfl
theorem num_app : ∀ (a b : List Nat) (m v : Nat), num m a = (v : Int) → num m (a ++ b) = num v b
  | [], b, m, v, h => by
    rw [num_nil] at h
    have : m = v := by omega
    subst this; rfl
  | d :: ds, b, m, v, h => by
    rw [num_cons] at h
    rw [List.cons_append, num_cons]
    by_cases hd : d < 48 ∨ 57 < d
    · rw [if_pos hd] at h; omega
    · rw [if_neg hd] at h ⊢; exact num_app ds b _ v h
theorem num_bad : ∀ (a b : List Nat) (m : Nat), num m a = -1 → num m (a ++ b) = -1
  | [], b, m, h => by rw [num_nil] at h; omega
  | d :: ds, b, m, h => by
    rw [num_cons] at h
    rw [List.cons_append, num_cons]
    by_cases hd : d < 48 ∨ 57 < d
    · rw [if_pos hd]
    · rw [if_neg hd] at h ⊢; exact num_bad ds b _ h
theorem num_cases : ∀ (a : List Nat) (m : Nat), num m a = -1 ∨ ∃ u : Nat, num m a = (u : Int)
  | [], m => .inr ⟨m, rfl⟩
  | d :: ds, m => by
    rw [num_cons]
    by_cases hd : d < 48 ∨ 57 < d
    · rw [if_pos hd]; exact .inl rfl
    · rw [if_neg hd]; exact num_cases ds _
theorem num_dig : ∀ (k n m : Nat), num m (dig k n) = ((m * 10 ^ k + n % 10 ^ k : Nat) : Int)
  | 0, n, m => by simp [dig, num, Nat.mod_one]
  | k + 1, n, m => by
    rw [dig, num_app _ _ _ _ (num_dig k (n / 10) m)]
    have h : ¬ (48 + n % 10 < 48 ∨ 57 < 48 + n % 10) := by omega
    simp only [num, if_neg h]
    congr 1
    have e : n % 10 ^ (k + 1) = 10 * (n / 10 % 10 ^ k) + n % 10 := by
      rw [Nat.pow_succ, Nat.mul_comm (10 ^ k) 10, Nat.mod_mul]
      omega
    rw [e, Nat.pow_succ]
    have : 48 + n % 10 - 48 = n % 10 := by omega
    rw [this, Nat.mul_add, ← Nat.mul_assoc, Nat.mul_comm 10 m, Nat.mul_assoc, Nat.mul_comm 10 (10 ^ k)]
    omega
theorem dig_of : ∀ (k : Nat) (ds : List Nat), ds.length = k → ∀ m v : Nat, num m ds = (v : Int) → dig k v = ds ∧ v / 10 ^ k = m
  | 0, ds, hl, m, v, h => by
    obtain rfl := List.length_eq_zero_iff.mp hl
    rw [num_nil] at h
    exact ⟨rfl, by simp; omega⟩
  | k + 1, ds, hl, m, v, h => by
    obtain ⟨a, d, rfl⟩ : ∃ a d, ds = a ++ [d] := by
      have hne : ds ≠ [] := by intro e; rw [e] at hl; simp at hl
      exact ⟨ds.dropLast, ds.getLast hne, (List.dropLast_concat_getLast hne).symm⟩
    have hla : a.length = k := by simpa using hl
    rcases num_cases a m with hb | ⟨u, hu⟩
    · rw [num_bad a [d] m hb] at h; omega
    · rw [num_app a [d] m u hu, num_cons] at h
      by_cases hd : d < 48 ∨ 57 < d
      · rw [if_pos hd] at h; omega
      · rw [if_neg hd, num_nil] at h
        obtain ⟨h1, h2⟩ := dig_of k a hla m u hu
        have e1 : v / 10 = u := by omega
        have e2 : 48 + v % 10 = d := by omega
        refine ⟨by rw [dig, e1, e2, h1], ?_⟩
        rw [Nat.pow_succ, Nat.mul_comm, ← Nat.div_div_eq_div_mul, e1, h2]
theorem kind_letter {k : Int} (h1 : 3 ≤ k) (h2 : k ≤ 7) : kindOf (letter k) = k := by
  have : k = 3 ∨ k = 4 ∨ k = 5 ∨ k = 6 ∨ k = 7 := by omega
  rcases this with rfl | rfl | rfl | rfl | rfl <;> decide
theorem letter_kind {d : Nat} (h : kindOf d ≠ 0) : 3 ≤ kindOf d ∧ kindOf d ≤ 7 ∧ letter (kindOf d) = d := by
  unfold kindOf at h ⊢
  repeat' split
  all_goals first | (subst_vars; decide) | (simp_all)
theorem of_num {k n : Int} (h : 3 ≤ k ∧ k ≤ 7 ∧ 1 ≤ n ∧ n ≤ 2147483647) : of (k, n) = letter k :: dig 10 n.toNat := by
  unfold of
  rw [if_neg (by simp only [Prod.mk.injEq]; omega), if_neg (by simp only [Prod.mk.injEq]; omega), if_pos h]
theorem parse_of {f : F} (h : may f = true) : parse (of f) = f := by
  obtain ⟨k, n⟩ := f
  simp only [may, decide_eq_true_eq] at h
  rcases h with h | h | h
  · rw [h]; decide
  · rw [h]; decide
  · rw [of_num h]
    obtain ⟨m, rfl⟩ : ∃ m : Nat, n = (m : Int) := ⟨n.toNat, by omega⟩
    have hl : (letter k :: dig 10 (m : Int).toNat).length = 11 := by simp [dig_len]
    have hn : num 0 (dig 10 (m : Int).toNat) = (m : Int) := by
      have hm : m < 10 ^ 10 := by omega
      rw [num_dig, Int.toNat_natCast, Nat.mod_eq_of_lt hm, Nat.zero_mul, Nat.zero_add]
    unfold parse
    rw [if_neg (by intro e; rw [e] at hl; simp [roster] at hl), if_neg (by intro e; rw [e] at hl; simp [rosterNew] at hl)]
    simp only [List.headD_cons, List.drop_one, List.tail_cons]
    rw [kind_letter h.1 h.2.1, hn, if_pos ⟨hl, by omega, by omega, by omega⟩]
theorem of_parse {s : List Nat} (h : parse s ≠ (0, 0)) : may (parse s) = true ∧ of (parse s) = s := by
  unfold parse at h ⊢
  by_cases h1 : s = roster
  · rw [if_pos h1, h1]; decide
  · by_cases h2 : s = rosterNew
    · rw [if_neg h1, if_pos h2, h2]; decide
    · rw [if_neg h1, if_neg h2] at h ⊢
      by_cases h3 : s.length = 11 ∧ kindOf (s.headD 0) ≠ 0 ∧ 1 ≤ num 0 (s.drop 1) ∧ num 0 (s.drop 1) ≤ 2147483647
      · rw [if_pos h3]
        obtain ⟨hl, hk, hn1, hn2⟩ := h3
        obtain ⟨k1, k2, k3⟩ := letter_kind hk
        obtain ⟨d, ds, rfl⟩ : ∃ d ds, s = d :: ds := by
          cases s with
          | nil => simp at hl
          | cons d ds => exact ⟨d, ds, rfl⟩
        simp only [List.headD_cons, List.drop_one, List.tail_cons] at *
        obtain ⟨v, hv⟩ : ∃ v : Nat, num 0 ds = (v : Int) := ⟨(num 0 ds).toNat, by omega⟩
        have hd := (dig_of 10 ds (by simpa using hl) 0 v hv).1
        refine ⟨by simp only [may, decide_eq_true_eq]; exact .inr (.inr ⟨k1, k2, hn1, hn2⟩), ?_⟩
        rw [of_num ⟨k1, k2, hn1, hn2⟩, k3, hv, Int.toNat_natCast, hd]
      · rw [if_neg h3] at h; exact absurd rfl h
theorem of_empty {f : F} : of f = [] ↔ may f = false := by
  obtain ⟨k, n⟩ := f
  unfold of may
  by_cases h1 : (k, n) = ((1, 0) : F)
  · rw [if_pos h1]; simp [h1, roster]
  · by_cases h2 : (k, n) = ((2, 0) : F)
    · rw [if_neg h1, if_pos h2]; simp [h2, rosterNew]
    · rw [if_neg h1, if_neg h2]
      by_cases h3 : 3 ≤ k ∧ k ≤ 7 ∧ 1 ≤ n ∧ n ≤ 2147483647
      · rw [if_pos h3]; simp [h3]
      · rw [if_neg h3]
        simp only [decide_eq_false_iff_not, true_iff]
        intro h
        rcases h with h | h | h
        · exact h1 h
        · exact h2 h
        · exact h3 h

/-! order -/
/-- which of two texts is lesser -/
def lt : List Nat → List Nat → Bool
  | _, [] => false
  | [], _ :: _ => true
  | a :: as, b :: bs => decide (a < b) || (decide (a = b) && lt as bs)
theorem lt_app : ∀ (a b : List Nat) (x y : Nat), a.length = b.length → lt (a ++ [x]) (b ++ [y]) = (lt a b || (decide (a = b) && decide (x < y)))
  | [], [], x, y, _ => by simp [lt]
  | [], _ :: _, _, _, h => by simp at h
  | _ :: _, [], _, _, h => by simp at h
  | c :: cs, d :: ds, x, y, h => by
    have hl : cs.length = ds.length := by simpa using h
    rw [List.cons_append, List.cons_append]
    simp only [lt, lt_app cs ds x y hl, List.cons.injEq]
    by_cases h1 : c < d
    · simp [h1]
    · by_cases h2 : c = d
      · subst h2; simp
      · simp [h1, h2]
theorem dig_inj : ∀ (k a b : Nat), a < 10 ^ k → b < 10 ^ k → (dig k a = dig k b ↔ a = b) := by
  intro k a b ha hb
  constructor
  · intro h
    have h1 := num_dig k a 0
    have h2 := num_dig k b 0
    rw [h, h2] at h1
    rw [Nat.mod_eq_of_lt ha, Nat.mod_eq_of_lt hb] at h1
    omega
  · rintro rfl; rfl
theorem dig_lt : ∀ (k a b : Nat), a < 10 ^ k → b < 10 ^ k → lt (dig k a) (dig k b) = decide (a < b)
  | 0, a, b, ha, hb => by
    have : ¬ a < b := by simp at ha hb; omega
    simp [dig, lt, this]
  | k + 1, a, b, ha, hb => by
    rw [Nat.pow_succ] at ha hb
    have ha' : a / 10 < 10 ^ k := by omega
    have hb' : b / 10 < 10 ^ k := by omega
    rw [dig, dig, lt_app _ _ _ _ (by rw [dig_len, dig_len]), dig_lt k _ _ ha' hb']
    have hi := dig_inj k (a / 10) (b / 10) ha' hb'
    by_cases h1 : a / 10 < b / 10
    · have : a < b := by omega
      simp [h1, this]
    · by_cases h2 : a / 10 = b / 10
      · have e : dig k (a / 10) = dig k (b / 10) := hi.mpr h2
        have : (48 + a % 10 < 48 + b % 10) ↔ a < b := by omega
        simp [e, h1, this]
      · have : ¬ a < b := by omega
        have e : ¬ dig k (a / 10) = dig k (b / 10) := fun e => h2 (hi.mp e)
        simp [h1, e, this]
/-- names of one kind that has numbers are in order as their numbers are -/
theorem of_lt {k a b : Int} (h : 3 ≤ k ∧ k ≤ 7) (ha : 1 ≤ a ∧ a ≤ 2147483647) (hb : 1 ≤ b ∧ b ≤ 2147483647) : lt (of (k, a)) (of (k, b)) = decide (a < b) ∧ (of (k, a) = of (k, b) ↔ a = b) := by
  rw [of_num ⟨h.1, h.2, ha⟩, of_num ⟨h.1, h.2, hb⟩]
  obtain ⟨x, rfl⟩ : ∃ m : Nat, a = (m : Int) := ⟨a.toNat, by omega⟩
  obtain ⟨y, rfl⟩ : ∃ m : Nat, b = (m : Int) := ⟨b.toNat, by omega⟩
  simp only [Int.toNat_natCast]
  have hx : x < 10 ^ 10 := by omega
  have hy : y < 10 ^ 10 := by omega
  constructor
  · rw [lt]
    simp [dig_lt 10 x y hx hy]
  · simp only [List.cons.injEq, true_and, dig_inj 10 x y hx hy]
    omega
end Go.Proofs.Ytgdefibgifcbaaa.Na

/- The plain mathematics of items in order: which there may be, putting, finding, ranges, what they weigh. Names no dump. -/
namespace Go.Proofs.Ytgdefibgifcbaaa.It

/-- Key, Dead, Cell -/
abbrev I := List Nat × Bool × Ce.C
def zero : I := ([], false, Ce.zero)
def may (x : I) : Bool := decide (x.1 ≠ []) && decide (x.1.length ≤ 64) && Ce.may x.2.2 && (!x.2.1 || decide (x.2.2 = Ce.zero))
/-- whether items are alike -/
def one (x y : I) : Bool := decide (x.1 = y.1) && decide (x.2.1 = y.2.1) && decide (x.2.2 = y.2.2)
theorem one_iff (x y : I) : one x y = true ↔ x = y := by
  obtain ⟨x1, x2, x3⟩ := x
  obtain ⟨y1, y2, y3⟩ := y
  simp only [one, Bool.and_eq_true, decide_eq_true_eq, Prod.mk.injEq, and_assoc]
def sameGo : List I → List I → Bool
  | [], [] => true
  | x :: l, y :: m => one x y && sameGo l m
  | _, _ => false
theorem sameGo_iff : ∀ (l m : List I), sameGo l m = true ↔ l = m
  | [], [] => by simp [sameGo]
  | [], _ :: _ => by simp [sameGo]
  | _ :: _, [] => by simp [sameGo]
  | x :: l, y :: m => by rw [sameGo, Bool.and_eq_true, one_iff, sameGo_iff l m, List.cons.injEq]
/-- not below -/
def ge (a b : List Nat) : Bool := !Na.lt a b
def putGo (x : I) : Bool → List I → List I
  | d, [] => if d then [] else [x]
  | d, y :: l => (if d = false ∧ ge y.1 x.1 = true then [x] else []) ++ ((if y.1 = x.1 then [] else [y]) ++ putGo x (d || ge y.1 x.1) l)
/-- items with one more -/
def put (l : List I) (x : I) : List I := putGo x false l
/-- items, put one behind the other, those that may be -/
def all (l : List I) : List I := (l.filter may).foldl put []
def get : List I → List Nat → I
  | [], _ => zero
  | x :: l, k => if x.1 = k then x else get l k
def inside (lo hi : List Nat) (x : I) : Bool := ge x.1 lo && (decide (hi = []) || Na.lt x.1 hi)
def scan (l : List I) (lo hi : List Nat) (most : Int) : List I := (l.filter (inside lo hi)).take most.toNat
def weight (l : List I) : Nat := (l.map fun x => x.1.length + 16 + x.2.2.2.1.length).sum
def after : Option (List Nat) → List Nat → Bool
  | none, _ => true
  | some k, m => Na.lt k m
def sortedGo : Option (List Nat) → List I → Bool
  | _, [] => true
  | p, x :: l => may x && after p x.1 && sortedGo (some x.1) l
def sorted (l : List I) : Bool := sortedGo none l
def prev (l : List I) (k : Nat) : Option (List Nat) := if k = 0 then none else some (l.getD (k - 1) zero).1
theorem sorted_step {l : List I} {k : Nat} (hk : k < l.length) : sortedGo (prev l k) (l.drop k) = (may (l.getD k zero) && after (prev l k) (l.getD k zero).1 && sortedGo (prev l (k + 1)) (l.drop (k + 1))) := by
  rw [List.drop_eq_getElem_cons hk, sortedGo]
  have e : l.getD k zero = l[k] := by simp [hk]
  rw [e]
  congr 1
  unfold prev
  rw [if_neg (by omega), Nat.add_sub_cancel, e]
theorem getD_drop {l : List I} {k : Nat} (hk : k < l.length) : l.drop k = l.getD k zero :: l.drop (k + 1) := by
  rw [List.drop_eq_getElem_cons hk]; simp [hk]
theorem putGo_len (x : I) : ∀ (d : Bool) (l : List I), (putGo x d l).length ≤ l.length + 1
  | d, [] => by rw [putGo]; split <;> simp
  | true, y :: l => by
    have h := putGo_done x l
    rw [putGo, if_neg (by simp), List.nil_append, Bool.true_or, h, List.length_append, List.length_cons]
    have h1 : (if y.1 = x.1 then [] else [y]).length ≤ 1 := by split <;> simp
    have h2 := List.length_filter_le (fun y : I => decide (y.1 ≠ x.1)) l
    omega
  | false, y :: l => by
    have h1 : (if y.1 = x.1 then [] else [y]).length ≤ 1 := by split <;> simp
    rw [putGo, List.length_append, List.length_append, List.length_cons]
    by_cases hg : ge y.1 x.1 = true
    · rw [if_pos ⟨rfl, hg⟩, show (false || ge y.1 x.1) = true by simp [hg], putGo_done]
      have h2 := List.length_filter_le (fun y : I => decide (y.1 ≠ x.1)) l
      simp only [List.length_singleton]
      omega
    · rw [if_neg (fun h => hg h.2), show (false || ge y.1 x.1) = false by simp [hg]]
      have := putGo_len x false l
      simp only [List.length_nil]
      omega
where
  putGo_done (x : I) : ∀ (l : List I), putGo x true l = l.filter (fun y => decide (y.1 ≠ x.1))
  | [] => by simp [putGo]
  | y :: l => by
    rw [putGo, if_neg (by simp), List.nil_append, Bool.true_or, putGo_done x l, List.filter_cons]
    by_cases h : y.1 = x.1 <;> simp [h]
theorem putGo_done (x : I) (l : List I) : putGo x true l = l.filter (fun y => decide (y.1 ≠ x.1)) := putGo_len.putGo_done x l

theorem lt_irrefl : ∀ a : List Nat, Na.lt a a = false
  | [] => rfl
  | x :: a => by simp [Na.lt, lt_irrefl a]
theorem lt_trans : ∀ {a b c : List Nat}, Na.lt a b = true → Na.lt b c = true → Na.lt a c = true
  | _, [], _, h, _ => by cases ‹List Nat› <;> simp [Na.lt] at h
  | _, _ :: _, [], _, h => by simp [Na.lt] at h
  | [], _ :: _, _ :: _, _, _ => by simp [Na.lt]
  | x :: a, y :: b, z :: c, h1, h2 => by
    simp only [Na.lt, Bool.or_eq_true, decide_eq_true_eq, Bool.and_eq_true] at h1 h2 ⊢
    rcases h1 with h1 | ⟨rfl, h1⟩
    · rcases h2 with h2 | ⟨rfl, _⟩
      · exact .inl (by omega)
      · exact .inl h1
    · rcases h2 with h2 | ⟨rfl, h2⟩
      · exact .inl h2
      · exact .inr ⟨rfl, lt_trans h1 h2⟩
theorem lt_total : ∀ (a b : List Nat), Na.lt a b = true ∨ a = b ∨ Na.lt b a = true
  | [], [] => .inr (.inl rfl)
  | [], y :: b => .inl (by simp [Na.lt])
  | x :: a, [] => .inr (.inr (by simp [Na.lt]))
  | x :: a, y :: b => by
    simp only [Na.lt, Bool.or_eq_true, decide_eq_true_eq, Bool.and_eq_true, List.cons.injEq]
    rcases Nat.lt_trichotomy x y with h | h | h
    · exact .inl (.inl h)
    · subst h
      rcases lt_total a b with h | h | h
      · exact .inl (.inr ⟨rfl, h⟩)
      · exact .inr (.inl ⟨rfl, h⟩)
      · exact .inr (.inr (.inr ⟨rfl, h⟩))
    · exact .inr (.inr (.inl h))
/-- keys rise -/
def Up (l : List I) : Prop := l.Pairwise (fun a b => Na.lt a.1 b.1 = true)
def find : List I → List Nat → Option I
  | [], _ => none
  | x :: l, k => if x.1 = k then some x else find l k
theorem find_none : ∀ {l : List I} {k : List Nat}, (∀ x ∈ l, x.1 ≠ k) → find l k = none
  | [], _, _ => rfl
  | x :: l, k, h => by rw [find, if_neg (h x List.mem_cons_self)]; exact find_none (fun y hy => h y (List.mem_cons_of_mem _ hy))
theorem lt_ne {a b : List Nat} (h : Na.lt a b = true) : a ≠ b := fun e => by rw [e, lt_irrefl] at h; cases h
theorem lt_asymm {a b : List Nat} (h : Na.lt a b = true) : Na.lt b a = false := by
  cases h2 : Na.lt b a with
  | false => rfl
  | true => have := lt_trans h h2; rw [lt_irrefl] at this; cases this
theorem ext : ∀ {l m : List I}, Up l → Up m → (∀ k, find l k = find m k) → l = m
  | [], [], _, _, _ => rfl
  | [], y :: m, _, _, h => by have := h y.1; rw [find, find, if_pos rfl] at this; cases this
  | x :: l, [], _, _, h => by have := h x.1; rw [find, find, if_pos rfl] at this; cases this
  | x :: l, y :: m, h1, h2, h => by
    have a := List.pairwise_cons.mp h1
    have b := List.pairwise_cons.mp h2
    have hk : x.1 = y.1 := by
      rcases lt_total x.1 y.1 with hl | he | hg
      · have e := h x.1
        rw [find, if_pos rfl, find, if_neg (fun e => lt_ne hl e.symm), find_none (fun z hz e => by have := lt_trans hl (b.1 z hz); exact lt_ne this e.symm)] at e
        cases e
      · exact he
      · have e := h y.1
        rw [find, if_neg (fun e => lt_ne hg e.symm), find, if_pos rfl, find_none (fun z hz e => by have := lt_trans hg (a.1 z hz); exact lt_ne this e.symm)] at e
        cases e
    have hxy : x = y := by
      have e := h x.1
      rw [find, if_pos rfl, find, if_pos hk.symm] at e
      exact Option.some.inj e
    subst hxy
    congr 1
    refine ext a.2 b.2 (fun k => ?_)
    by_cases hs : x.1 = k
    · subst hs
      rw [find_none (fun z hz e => lt_ne (a.1 z hz) e.symm), find_none (fun z hz e => lt_ne (b.1 z hz) e.symm)]
    · have e := h k
      rw [find, if_neg hs, find, if_neg hs] at e
      exact e
theorem putGo_undone (x : I) : ∀ (l : List I), Up l → putGo x false l = l.filter (fun y => Na.lt y.1 x.1) ++ x :: l.filter (fun y => Na.lt x.1 y.1)
  | [], _ => by simp [putGo]
  | y :: l, h => by
    have a := List.pairwise_cons.mp h
    rw [putGo]
    cases hg : Na.lt y.1 x.1 with
    | true =>
      have g : ge y.1 x.1 = false := by simp [ge, hg]
      rw [g, if_neg (by simp), if_neg (lt_ne hg), Bool.or_false, putGo_undone x l a.2, List.filter_cons, if_pos (by simpa using hg), List.filter_cons, if_neg (by simp [lt_asymm hg])]
      simp
    | false =>
      have g : ge y.1 x.1 = true := by simp [ge, hg]
      have e1 : (y :: l).filter (fun y => Na.lt y.1 x.1) = [] := by
        rw [List.filter_eq_nil_iff]
        intro z hz hc
        rcases List.mem_cons.mp hz with rfl | hz
        · rw [hg] at hc; cases hc
        · have := lt_trans (a.1 z hz) hc; rw [hg] at this; cases this
      have hgt : ∀ z ∈ l, Na.lt x.1 z.1 = true := fun z hz => by
        rcases lt_total x.1 y.1 with h' | h' | h'
        · exact lt_trans h' (a.1 z hz)
        · rw [h']; exact a.1 z hz
        · rw [hg] at h'; cases h'
      have e2 : l.filter (fun y => decide (y.1 ≠ x.1)) = l.filter (fun y => Na.lt x.1 y.1) := by
        apply List.filter_congr
        intro z hz
        rw [hgt z hz, decide_eq_true_eq]
        exact fun e => lt_ne (hgt z hz) e.symm
      rw [g, if_pos ⟨rfl, rfl⟩, Bool.false_or, putGo_done, e1, e2, List.filter_cons, List.nil_append]
      by_cases e : y.1 = x.1
      · rw [if_pos e, e, lt_irrefl]; simp
      · have : Na.lt x.1 y.1 = true := by
          rcases lt_total x.1 y.1 with h' | h' | h'
          · exact h'
          · exact absurd h'.symm e
          · rw [hg] at h'; cases h'
        rw [if_neg e, this]; simp
theorem up_put {l : List I} (h : Up l) (x : I) : Up (put l x) := by
  unfold put
  rw [putGo_undone x l h]
  unfold Up
  rw [List.pairwise_append, List.pairwise_cons]
  refine ⟨h.sublist List.filter_sublist, ⟨fun y hy => (List.mem_filter.mp hy).2, h.sublist List.filter_sublist⟩, fun a ha b hb => ?_⟩
  have h1 := (List.mem_filter.mp ha).2
  rcases List.mem_cons.mp hb with rfl | hb
  · exact h1
  · exact lt_trans h1 (List.mem_filter.mp hb).2
theorem find_append (k : List Nat) : ∀ (l m : List I), find (l ++ m) k = match find l k with | some x => some x | none => find m k
  | [], m => rfl
  | x :: l, m => by
    rw [List.cons_append, find, find]
    by_cases h : x.1 = k
    · rw [if_pos h, if_pos h]
    · rw [if_neg h, if_neg h]; exact find_append k l m
theorem find_filter (f : I → Bool) (k : List Nat) : ∀ (l : List I), (∀ x ∈ l, x.1 = k → f x = true) → find (l.filter f) k = find l k
  | [], _ => rfl
  | x :: l, h => by
    rw [List.filter_cons]
    by_cases hx : f x = true
    · rw [if_pos hx, find, find, find_filter f k l (fun y hy => h y (List.mem_cons_of_mem _ hy))]
    · rw [if_neg hx, find, if_neg (fun e => hx (h x List.mem_cons_self e)), find_filter f k l (fun y hy => h y (List.mem_cons_of_mem _ hy))]
theorem find_put {l : List I} (h : Up l) (x : I) (k : List Nat) : find (put l x) k = if x.1 = k then some x else find l k := by
  unfold put
  rw [putGo_undone x l h, find_append, find]
  by_cases hk : x.1 = k
  · subst hk
    rw [find_none (fun y hy e => by have := (List.mem_filter.mp hy).2; rw [e, lt_irrefl] at this; cases this), if_pos rfl]
    simp
  · rw [if_neg hk, if_neg hk]
    rcases lt_total k x.1 with h' | h' | h'
    · rw [find_filter _ k l (fun y _ e => by rw [e]; exact h')]
      cases hf : find l k with
      | some y => rfl
      | none => exact find_none (fun y hy e => by have := (List.mem_filter.mp hy).2; rw [e, lt_asymm h'] at this; cases this)
    · exact absurd h'.symm hk
    · rw [find_none (fun y hy e => by have := (List.mem_filter.mp hy).2; rw [e, lt_asymm h'] at this; cases this)]
      exact find_filter _ k l (fun y _ e => by rw [e]; exact h')
theorem up_fold : ∀ (p l : List I), Up l → Up (p.foldl put l)
  | [], _, h => h
  | x :: p, _, h => up_fold p _ (up_put h x)
theorem up_all (l : List I) : Up (all l) := up_fold _ _ List.Pairwise.nil
/-- items of unlike keys, put in whatever order -/
theorem find_fold : ∀ (p l : List I), Up l → p.Pairwise (fun a b => a.1 ≠ b.1) → ∀ k, find (p.foldl put l) k = match find p k with | some x => some x | none => find l k
  | [], _, _, _, _ => rfl
  | x :: p, l, h, hp, k => by
    have a := List.pairwise_cons.mp hp
    rw [List.foldl_cons, find_fold p (put l x) (up_put h x) a.2 k, find_put h, find]
    by_cases hk : x.1 = k
    · subst hk
      rw [find_none (fun y hy e => a.1 y hy e.symm), if_pos rfl]
      simp
    · rw [if_neg hk, if_neg hk]
theorem find_mem : ∀ {l : List I} {k : List Nat} {x : I}, find l k = some x → x ∈ l ∧ x.1 = k
  | y :: _, k, _, h => by
    rw [find] at h
    by_cases e : y.1 = k
    · rw [if_pos e] at h
      cases h
      exact ⟨List.mem_cons_self, e⟩
    · rw [if_neg e] at h
      exact ⟨List.mem_cons_of_mem _ (find_mem h).1, (find_mem h).2⟩
theorem find_of_mem : ∀ {l : List I} {x : I}, l.Pairwise (fun a b => a.1 ≠ b.1) → x ∈ l → find l x.1 = some x
  | y :: l, x, h, hx => by
    have a := List.pairwise_cons.mp h
    rw [find]
    rcases List.mem_cons.mp hx with rfl | hx
    · rw [if_pos rfl]
    · rw [if_neg (a.1 x hx)]; exact find_of_mem a.2 hx
/-- in which order items of unlike keys are put does not matter -/
theorem put_any {l p : List I} (hl : Up l) (hp : p.Perm l) : p.foldl put [] = l := by
  have hd : l.Pairwise (fun a b => a.1 ≠ b.1) := hl.imp (fun h => lt_ne h)
  have hpd : p.Pairwise (fun a b => a.1 ≠ b.1) := (hp.pairwise_iff (fun h => Ne.symm h)).mpr hd
  refine ext (up_fold p [] List.Pairwise.nil) hl (fun k => ?_)
  rw [find_fold p [] List.Pairwise.nil hpd k]
  cases h : find p k with
  | some x =>
    obtain ⟨h1, h2⟩ := find_mem h
    subst h2
    exact (find_of_mem hd (hp.mem_iff.mp h1)).symm
  | none =>
    cases h2 : find l k with
    | none => rfl
    | some x =>
      obtain ⟨h3, h4⟩ := find_mem h2
      subst h4
      rw [find_of_mem hpd (hp.mem_iff.mpr h3)] at h
      cases h
end Go.Proofs.Ytgdefibgifcbaaa.It

/- Items in order, plainly: which may be, each key behind the one ahead; a search by halves. Names no dump. -/
namespace Go.Proofs.Ytgdefibgifcbaaa.It
theorem sortedGo_iff : ∀ (l : List I) (p : Option (List Nat)), sortedGo p l = true ↔ (∀ x ∈ l, may x = true) ∧ l.Pairwise (fun a b => Na.lt a.1 b.1 = true) ∧ (∀ x ∈ l, after p x.1 = true)
  | [], p => by simp [sortedGo]
  | y :: l, p => by
    rw [sortedGo, Bool.and_eq_true, Bool.and_eq_true, sortedGo_iff l (some y.1), List.pairwise_cons]
    constructor
    · rintro ⟨⟨h1, h2⟩, h3, h4, h5⟩
      refine ⟨fun x hx => ?_, ⟨h5, h4⟩, fun x hx => ?_⟩
      · rcases List.mem_cons.mp hx with rfl | hx
        · exact h1
        · exact h3 x hx
      · rcases List.mem_cons.mp hx with rfl | hx
        · exact h2
        · cases p with
          | none => rfl
          | some k => exact lt_trans h2 (h5 x hx)
    · rintro ⟨h1, ⟨h2, h3⟩, h4⟩
      exact ⟨⟨h1 y List.mem_cons_self, h4 y List.mem_cons_self⟩, fun x hx => h1 x (List.mem_cons_of_mem _ hx), h3, h2⟩
theorem sorted_iff (l : List I) : sorted l = true ↔ (∀ x ∈ l, may x = true) ∧ l.Pairwise (fun a b => Na.lt a.1 b.1 = true) := by
  rw [sorted, sortedGo_iff]
  exact ⟨fun h => ⟨h.1, h.2.1⟩, fun h => ⟨h.1, h.2, fun _ _ => rfl⟩⟩
theorem sorted_sub {l m : List I} (h : sorted l = true) (hs : m.Sublist l) : sorted m = true := by
  rw [sorted_iff] at h ⊢
  exact ⟨fun x hx => h.1 x (hs.mem hx), h.2.sublist hs⟩
theorem rise_at {l : List I} (h : l.Pairwise (fun a b => Na.lt a.1 b.1 = true)) {p q : Nat} (hpq : p < q) (hq : q < l.length) : Na.lt (l.getD p zero).1 (l.getD q zero).1 = true := by
  have := (List.pairwise_iff_getElem.mp h) p q (by omega) hq hpq
  simpa [show p < l.length by omega, hq] using this
theorem ge_lt_trans {a b c : List Nat} (h1 : Na.lt b a = false) (h2 : Na.lt b c = true) : Na.lt a c = true := by
  rcases lt_total a b with h | h | h
  · exact lt_trans h h2
  · rw [h]; exact h2
  · rw [h1] at h; cases h
/-- where a search by halves stands -/
def Srch (l : List I) (s : List Nat) (i j : Nat) : Prop := (∀ t, t < i → Na.lt (l.getD t zero).1 s = true) ∧ (∀ t, j ≤ t → t < l.length → Na.lt (l.getD t zero).1 s = false)
theorem srch_up {l : List I} {s : List Nat} {i j h : Nat} (hp : l.Pairwise (fun a b => Na.lt a.1 b.1 = true)) (hs : Srch l s i j) (hh : h < l.length) (hlt : Na.lt (l.getD h zero).1 s = true) : Srch l s (h + 1) j :=
  ⟨fun t ht => by
    rcases Nat.lt_or_ge t h with h1 | h1
    · exact lt_trans (rise_at hp h1 hh) hlt
    · obtain rfl : t = h := by omega
      exact hlt, hs.2⟩
theorem srch_down {l : List I} {s : List Nat} {i j h : Nat} (hp : l.Pairwise (fun a b => Na.lt a.1 b.1 = true)) (hs : Srch l s i j) (hlt : Na.lt (l.getD h zero).1 s = false) : Srch l s i h :=
  ⟨hs.1, fun t h1 h2 => by
    rcases Nat.lt_or_ge h t with h3 | h3
    · have h4 := rise_at hp h3 h2
      cases h5 : Na.lt (l.getD t zero).1 s with
      | false => rfl
      | true => rw [lt_trans h4 h5] at hlt; cases hlt
    · obtain rfl : t = h := by omega
      exact hlt⟩
theorem srch_none {l : List I} {s : List Nat} {i : Nat} (hp : l.Pairwise (fun a b => Na.lt a.1 b.1 = true)) (hs : Srch l s i i) (hn : i < l.length → (l.getD i zero).1 ≠ s) : ∀ x ∈ l, x.1 ≠ s := by
  intro x hx
  obtain ⟨t, ht, rfl⟩ := List.getElem_of_mem hx
  have e : l.getD t zero = l[t] := by simp [ht]
  rw [← e]
  rcases Nat.lt_or_ge t i with h1 | h1
  · exact lt_ne (hs.1 t h1)
  · have h2 := hs.2 i (Nat.le_refl _) (by omega)
    have h3 := hn (by omega)
    rcases Nat.lt_or_ge i t with h4 | h4
    · have h5 := rise_at hp h4 ht
      intro h6
      rw [h6] at h5
      rw [h5] at h2
      cases h2
    · obtain rfl : t = i := by omega
      exact h3
/-- where a key stands -/
def Found (l : List I) (s : List Nat) (n i : Nat) (f : Bool) : Prop := i ≤ n ∧ (f = true → i < n ∧ (l.getD i zero).1 = s) ∧ (f = false → ∀ x ∈ l, x.1 ≠ s)
theorem get_none : ∀ {l : List I} {s : List Nat}, (∀ x ∈ l, x.1 ≠ s) → get l s = zero
  | [], _, _ => rfl
  | x :: l, s, h => by rw [get, if_neg (h x (by simp))]; exact get_none (fun y hy => h y (by simp [hy]))
theorem get_at : ∀ {l : List I} {i : Nat}, l.Pairwise (fun a b => Na.lt a.1 b.1 = true) → i < l.length → get l (l.getD i zero).1 = l.getD i zero
  | [], _, _, h => by simp at h
  | x :: l, 0, _, _ => by simp [get]
  | x :: l, i + 1, hp, h => by
    rw [List.pairwise_cons] at hp
    have hi' : i < l.length := by simpa using h
    have h1 := hp.1 (l.getD i zero) (by rw [show l.getD i zero = l[i] by simp [hi']]; exact List.getElem_mem _)
    rw [List.getD_cons_succ, get, if_neg (lt_ne h1)]
    exact get_at hp.2 hi'
end Go.Proofs.Ytgdefibgifcbaaa.It

/- The plain mathematics of trees of items: their list, putting, finding, walking through a range. Names no dump. -/
namespace Go.Proofs.Ytgdefibgifcbaaa.Tn
open It

inductive T where
  | e : T
  | n (l : T) (x : I) (r : T) : T
def T.list : T → List I
  | .e => []
  | .n l x r => l.list ++ x :: r.list
def T.hgt : T → Nat
  | .e => 0
  | .n l _ r => 1 + max l.hgt r.hgt
theorem hgt_le : ∀ t : T, t.hgt ≤ t.list.length
  | .e => Nat.le_refl _
  | .n l x r => by
    have h1 := hgt_le l
    have h2 := hgt_le r
    simp only [T.hgt, T.list, List.length_append, List.length_cons]
    omega
theorem up_parts {L R : List I} {y : I} (h : Up (L ++ y :: R)) : Up L ∧ Up R ∧ (∀ z ∈ L, Na.lt z.1 y.1 = true) ∧ (∀ z ∈ R, Na.lt y.1 z.1 = true) := by
  unfold Up at h
  rw [List.pairwise_append, List.pairwise_cons] at h
  exact ⟨h.1, h.2.1.2, fun z hz => h.2.2 z hz y List.mem_cons_self, h.2.1.1⟩
theorem filter_all {f : I → Bool} {l : List I} (h : ∀ z ∈ l, f z = true) : l.filter f = l := List.filter_eq_self.mpr h
theorem filter_none {f : I → Bool} {l : List I} (h : ∀ z ∈ l, f z = false) : l.filter f = [] := List.filter_eq_nil_iff.mpr (fun z hz e => by rw [h z hz] at e; cases e)
theorem put_nil (x : I) : put [] x = [x] := rfl
theorem put_lt {L R : List I} {x y : I} (h : Up (L ++ y :: R)) (hx : Na.lt x.1 y.1 = true) : put (L ++ y :: R) x = put L x ++ y :: R := by
  obtain ⟨h1, h2, h3, h4⟩ := up_parts h
  unfold put
  rw [putGo_undone x _ h, putGo_undone x _ h1, List.filter_append, List.filter_append, List.filter_cons, List.filter_cons, if_neg (by rw [lt_asymm hx]; simp), if_pos hx,
    filter_none (l := R) (fun z hz => lt_asymm (lt_trans hx (h4 z hz))), filter_all (l := R) (fun z hz => lt_trans hx (h4 z hz))]
  simp
theorem put_gt {L R : List I} {x y : I} (h : Up (L ++ y :: R)) (hx : Na.lt y.1 x.1 = true) : put (L ++ y :: R) x = L ++ y :: put R x := by
  obtain ⟨h1, h2, h3, h4⟩ := up_parts h
  unfold put
  rw [putGo_undone x _ h, putGo_undone x _ h2, List.filter_append, List.filter_append, List.filter_cons, List.filter_cons, if_pos hx, if_neg (by rw [lt_asymm hx]; simp),
    filter_all (l := L) (fun z hz => lt_trans (h3 z hz) hx), filter_none (l := L) (fun z hz => lt_asymm (lt_trans (h3 z hz) hx))]
  simp
theorem put_eq {L R : List I} {x y : I} (h : Up (L ++ y :: R)) (hx : x.1 = y.1) : put (L ++ y :: R) x = L ++ x :: R := by
  obtain ⟨h1, h2, h3, h4⟩ := up_parts h
  unfold put
  rw [putGo_undone x _ h, List.filter_append, List.filter_append, List.filter_cons, List.filter_cons, hx, lt_irrefl, if_neg (by simp), if_neg (by simp),
    filter_all (l := L) h3, filter_none (l := L) (fun z hz => lt_asymm (h3 z hz)), filter_none (l := R) (fun z hz => lt_asymm (h4 z hz)), filter_all (l := R) h4]
  simp
theorem find_lt {L R : List I} {k : List Nat} {y : I} (h : Up (L ++ y :: R)) (hx : Na.lt k y.1 = true) : find (L ++ y :: R) k = find L k := by
  obtain ⟨h1, h2, h3, h4⟩ := up_parts h
  rw [find_append]
  cases hf : find L k with
  | some z => rfl
  | none =>
    simp only
    refine find_none (fun z hz => ?_)
    rcases List.mem_cons.mp hz with rfl | hz
    · exact fun e => lt_ne hx e.symm
    · exact fun e => lt_ne (lt_trans hx (h4 z hz)) e.symm
theorem find_gt {L R : List I} {k : List Nat} {y : I} (h : Up (L ++ y :: R)) (hx : Na.lt y.1 k = true) : find (L ++ y :: R) k = find R k := by
  obtain ⟨h1, h2, h3, h4⟩ := up_parts h
  rw [find_append, find_none (fun z hz => lt_ne (lt_trans (h3 z hz) hx)), find, if_neg (lt_ne hx)]
theorem find_eq {L R : List I} {k : List Nat} {y : I} (h : Up (L ++ y :: R)) (hx : y.1 = k) : find (L ++ y :: R) k = some y := by
  obtain ⟨h1, h2, h3, h4⟩ := up_parts h
  subst hx
  rw [find_append, find_none (fun z hz => lt_ne (h3 z hz)), find, if_pos rfl]
theorem get_find : ∀ (l : List I) (k : List Nat), It.get l k = (It.find l k).getD It.zero
  | [], _ => rfl
  | x :: l, k => by
    rw [It.get, It.find]
    by_cases h : x.1 = k
    · rw [if_pos h, if_pos h]; rfl
    · rw [if_neg h, if_neg h]; exact get_find l k
/-- what an item weighs -/
def wt (x : I) : Nat := x.1.length + 16 + x.2.2.2.1.length
theorem weight_append (l m : List I) : weight (l ++ m) = weight l + weight m := by simp [weight]
theorem weight_cons (x : I) (m : List I) : weight (x :: m) = wt x + weight m := by simp [weight, wt]
/-- the length and weight of items with one more -/
theorem put_some {l : List I} (h : Up l) {x y : I} (hf : find l x.1 = some y) : (put l x).length = l.length ∧ weight (put l x) + wt y = weight l + wt x := by
  obtain ⟨hm, hk⟩ := find_mem hf
  obtain ⟨L, R, rfl⟩ := List.append_of_mem hm
  rw [put_eq h hk.symm]
  refine ⟨by simp, ?_⟩
  rw [weight_append, weight_append, weight_cons, weight_cons]
  omega
theorem put_none {l : List I} (h : Up l) {x : I} (hf : find l x.1 = none) : (put l x).length = l.length + 1 ∧ weight (put l x) = weight l + wt x := by
  have key : ∀ z ∈ l, z.1 ≠ x.1 := fun z hz e => by
    rw [← e, find_of_mem (h.imp (fun h => lt_ne h)) hz] at hf
    cases hf
  have hp : (l.filter (fun y => Na.lt y.1 x.1) ++ l.filter (fun y => Na.lt x.1 y.1)).Perm l := by
    have : l.filter (fun y => Na.lt x.1 y.1) = l.filter (fun y => !Na.lt y.1 x.1) := List.filter_congr (fun z hz => by
      rcases lt_total z.1 x.1 with h' | h' | h'
      · rw [h', lt_asymm h']; rfl
      · exact absurd h' (key z hz)
      · rw [h', lt_asymm h']; rfl)
    rw [this]
    exact List.filter_append_perm _ _
  have hl := hp.length_eq
  have hw : weight (l.filter (fun y => Na.lt y.1 x.1) ++ l.filter (fun y => Na.lt x.1 y.1)) = weight l := (hp.map _).sum_nat
  unfold put
  rw [putGo_undone x l h]
  rw [List.length_append] at hl
  rw [weight_append] at hw
  rw [weight_append, weight_cons, List.length_append, List.length_cons]
  omega
theorem put_may {l : List I} (h : Up l) (ha : ∀ z ∈ l, may z = true) {x : I} (hx : may x = true) : ∀ z ∈ put l x, may z = true := by
  intro z hz
  unfold put at hz
  rw [putGo_undone x l h, List.mem_append, List.mem_cons] at hz
  rcases hz with hz | rfl | hz
  · exact ha z (List.mem_filter.mp hz).1
  · exact hx
  · exact ha z (List.mem_filter.mp hz).1
theorem may_small {x : I} (h : may x = true) : x.1 ≠ [] ∧ x.1.length ≤ 64 ∧ x.2.2.2.1.length ≤ 32 := by
  simp only [may, Bool.and_eq_true, decide_eq_true_eq] at h
  refine ⟨h.1.1.1, h.1.1.2, ?_⟩
  have hc := h.1.2
  unfold Ce.may at hc
  revert hc
  cases x.2.2.1 <;> simp <;> intros <;> simp_all
theorem weight_le : ∀ {l : List I}, (∀ z ∈ l, may z = true) → weight l ≤ l.length * 112
  | [], _ => by simp [weight]
  | x :: l, h => by
    have h1 := weight_le (l := l) (fun z hz => h z (List.mem_cons_of_mem _ hz))
    obtain ⟨_, h2, h3⟩ := may_small (h x List.mem_cons_self)
    rw [weight_cons, List.length_cons]
    unfold wt
    omega
/-- what is seen of items, till so many are there; whether more are wanted -/
def feed (most : Int) : List I → List I → List I × Bool
  | acc, [] => (acc, true)
  | acc, x :: l => if most ≤ (acc.length : Int) then (acc, false) else feed most (acc ++ [x]) l
theorem feed_append (most : Int) : ∀ (acc l m : List I), feed most acc (l ++ m) = if (feed most acc l).2 = true then feed most (feed most acc l).1 m else feed most acc l
  | acc, [], m => by simp [feed]
  | acc, x :: l, m => by
    rw [List.cons_append, feed, feed]
    by_cases h : most ≤ (acc.length : Int)
    · simp [h]
    · rw [if_neg h, if_neg h]; exact feed_append most _ l m
theorem feed_take (most : Int) : ∀ (acc l : List I), (feed most acc l).1 = acc ++ l.take (most - acc.length).toNat
  | acc, [] => by simp [feed]
  | acc, x :: l => by
    rw [feed]
    by_cases h : most ≤ (acc.length : Int)
    · rw [if_pos h, show (most - (acc.length : Int)).toNat = 0 by omega]; simp
    · rw [if_neg h, feed_take most (acc ++ [x]) l, show (most - (acc.length : Int)).toNat = (most - ((acc ++ [x]).length : Int)).toNat + 1 by simp; omega, List.take_succ_cons]
      simp
theorem feed_scan (L : List I) (lo hi : List Nat) (most : Int) : (feed most [] (L.filter (inside lo hi))).1 = scan L lo hi most := by
  rw [feed_take]
  simp [scan]
theorem feed_len (most : Int) (acc l : List I) : (feed most acc l).1.length ≤ acc.length + l.length := by
  rw [feed_take, List.length_append, List.length_take]
  omega
theorem ge_trans_lo {lo : List Nat} {y z : I} (hz : Na.lt z.1 y.1 = true) (h : ge y.1 lo = false) : ge z.1 lo = false := by
  unfold ge at h ⊢
  simp only [Bool.not_eq_false'] at h ⊢
  exact lt_trans hz h
/-- none below an item that is below the range -/
theorem inside_low {lo hi : List Nat} {L : List I} {y : I} (h : ∀ z ∈ L, Na.lt z.1 y.1 = true) (hy : ge y.1 lo = false) : L.filter (inside lo hi) = [] :=
  filter_none (fun z hz => by unfold inside; rw [ge_trans_lo (h z hz) hy]; rfl)
def below (hi : List Nat) (y : List Nat) : Bool := decide (hi = []) || Na.lt y hi
/-- none above an item that is above the range -/
theorem inside_high {lo hi : List Nat} {R : List I} {y : I} (h : ∀ z ∈ R, Na.lt y.1 z.1 = true) (hy : below hi y.1 = false) : R.filter (inside lo hi) = [] := by
  unfold below at hy
  rw [Bool.or_eq_false_iff] at hy
  refine filter_none (fun z hz => ?_)
  unfold inside
  rw [hy.1]
  cases hl : Na.lt z.1 hi with
  | false => simp
  | true => have := lt_trans (h z hz) hl; rw [hy.2] at this; cases this
theorem filter_node (lo hi : List Nat) (L R : List I) (y : I) : (L ++ y :: R).filter (inside lo hi) = L.filter (inside lo hi) ++ ((if (ge y.1 lo && below hi y.1) = true then [y] else []) ++ R.filter (inside lo hi)) := by
  rw [List.filter_append, List.filter_cons]
  by_cases h : inside lo hi y = true
  · rw [if_pos h, if_pos (show (ge y.1 lo && below hi y.1) = true from h)]; rfl
  · rw [if_neg h, if_neg (show ¬ (ge y.1 lo && below hi y.1) = true from h)]; rfl
theorem scan_all (L : List I) : scan L [] [] (L.length : Nat) = L := by
  unfold scan
  rw [filter_all (fun z _ => by simp [inside, ge]; cases z.1 <;> rfl)]
  simp
end Go.Proofs.Ytgdefibgifcbaaa.Tn

/- The plain mathematics of blocks: items in order as bytes, each key told by what it has alike with the one ahead. Names no dump. -/
namespace Go.Proofs.Ytgdefibgifcbaaa.Bl

/-- how many bytes two keys have alike -/
def alike : List Nat → List Nat → Nat
  | a :: as, b :: bs => if a = b then alike as bs + 1 else 0
  | [], _ => 0
  | _ :: _, [] => 0
theorem alike_le : ∀ (a b : List Nat), alike a b ≤ a.length ∧ alike a b ≤ b.length
  | [], b => by cases b <;> simp [alike]
  | _ :: _, [] => by simp [alike]
  | x :: a, y :: b => by
    have := alike_le a b
    simp only [alike]
    split
    · simp only [List.length_cons]; omega
    · simp
theorem alike_take : ∀ (a b : List Nat), a.take (alike a b) = b.take (alike a b)
  | [], b => by cases b <;> simp [alike]
  | _ :: _, [] => by simp [alike]
  | x :: a, y :: b => by
    have := alike_take a b
    simp only [alike]
    split
    · rename_i h; subst h; rw [List.take_succ_cons, List.take_succ_cons, this]
    · simp
/-- how far a walk comes: alike so far, then they part or one ends -/
theorem alike_at : ∀ (a b : List Nat) (k : Nat), k ≤ a.length → k ≤ b.length → (∀ j, j < k → a.getD j 0 = b.getD j 0) → (k = a.length ∨ k = b.length ∨ a.getD k 0 ≠ b.getD k 0) → alike a b = k
  | [], b, k, h1, _, _, _ => by cases b <;> simp [alike] <;> simp at h1 <;> omega
  | _ :: _, [], k, _, h2, _, _ => by simp [alike]; simp at h2; omega
  | x :: a, y :: b, 0, _, _, _, h => by
    simp only [alike]
    rw [if_neg]
    rcases h with h | h | h
    · simp at h
    · simp at h
    · simpa using h
  | x :: a, y :: b, k + 1, h1, h2, h3, h => by
    have h0 : x = y := by simpa using h3 0 (by omega)
    simp only [alike]
    rw [if_pos h0, alike_at a b k (by simpa using h1) (by simpa using h2) (fun j hj => by simpa using h3 (j + 1) (by omega)) (by simpa using h)]

def may (l : List It.I) : Bool := decide (1 ≤ l.length ∧ l.length ≤ 256) && It.sorted l
def tail1 (x : It.I) : List Nat := if x.2.1 = true then [1] else 0 :: Ce.put x.2.2
def put1 (last : List Nat) (x : It.I) : List Nat := Va.one (alike last x.1) ++ (Va.one (x.1.length - alike last x.1) ++ (x.1.drop (alike last x.1) ++ tail1 x))
def putGo : List Nat → List It.I → List Nat
  | _, [] => []
  | last, x :: l => put1 last x ++ putGo x.1 l
def put (l : List It.I) : List Nat := Va.one l.length ++ putGo [] l
/-- what stands behind the numbers: an item and how many bytes it has -/
def one (last bs : List Nat) : Option (It.I × Nat) :=
  let k := (Va.get bs).2
  let m := (Va.get (bs.drop k)).2
  let u := (Va.get bs).1
  let v := (Va.get (bs.drop k)).1
  if k = 0 ∨ m = 0 ∨ last.length < u ∨ 64 < v then none
  else if bs.length ≤ k + m + v then none
  else
    let key := last.take u ++ (bs.drop (k + m)).take v
    if bs.getD (k + m + v) 0 = 1 then some ((key, true, Ce.zero), k + m + v + 1)
    else
      let c := Ce.get (bs.drop (k + m + v + 1))
      if c.2 = 0 then none else some ((key, false, c.1), k + m + v + 1 + c.2)
def sc : Nat → List Nat → Nat → List Nat → List It.I → Option (List It.I × Nat)
  | 0, _, at', _, l => some (l, at')
  | n + 1, bs, at', last, l => match one last (bs.drop at') with | none => none | some (x, k) => sc n bs (at' + k) x.1 (l ++ [x])
def get (bs : List Nat) : List It.I :=
  if (Va.get bs).2 = 0 ∨ 256 < (Va.get bs).1 then []
  else match sc (Va.get bs).1 bs (Va.get bs).2 [] [] with
    | none => []
    | some (l, e) => if e = bs.length ∧ may l = true ∧ put l = bs then l else []

theorem may_pos {l : List It.I} (h : may l = true) : l ≠ [] := by
  rintro rfl
  simp [may] at h
/-- what is got is just what was put -/
theorem get_ok {bs : List Nat} (h : get bs ≠ []) : may (get bs) = true ∧ put (get bs) = bs := by
  unfold get at h ⊢
  split
  · rename_i h0; rw [if_pos h0] at h; exact absurd rfl h
  · rename_i h0
    rw [if_neg h0] at h
    split
    · rename_i h1; rw [h1] at h; exact absurd rfl h
    · rename_i l e h1
      rw [h1] at h
      simp only [] at h ⊢
      split
      · rename_i h2; exact h2.2
      · rename_i h2; rw [if_neg h2] at h; exact absurd rfl h
def Small (x : It.I) : Prop := (∀ b ∈ x.1, b < 256) ∧ (∀ b ∈ x.2.2.2.1, b < 256) ∧ x.2.2.2.2.2.2.2 < 4294967296
theorem it_parts {x : It.I} (h : It.may x = true) : x.1 ≠ [] ∧ x.1.length ≤ 64 ∧ Ce.may x.2.2 = true ∧ (x.2.1 = true → x.2.2 = Ce.zero) := by
  simp only [It.may, Bool.and_eq_true, decide_eq_true_eq, Bool.or_eq_true, Bool.not_eq_true'] at h
  refine ⟨h.1.1.1, h.1.1.2, h.1.2, fun hd => ?_⟩
  rcases h.2 with h2 | h2
  · rw [hd] at h2; cases h2
  · exact h2
theorem tail1_small {x : It.I} (hs : Small x) : ∀ b ∈ tail1 x, b < 256 := by
  unfold tail1
  split
  · intro b hb; simp at hb; omega
  · intro b hb
    rcases List.mem_cons.mp hb with rfl | hb
    · omega
    · exact Ce.put_small hs.2.1 b hb
theorem put1_small {last : List Nat} {x : It.I} (hs : Small x) : ∀ b ∈ put1 last x, b < 256 := by
  intro b hb
  simp only [put1, List.mem_append] at hb
  rcases hb with hb | hb | hb | hb
  · exact Va.one_small _ b hb
  · exact Va.one_small _ b hb
  · exact hs.1 b (List.mem_of_mem_drop hb)
  · exact tail1_small hs b hb
theorem putGo_small : ∀ {l : List It.I} {last : List Nat}, (∀ x ∈ l, Small x) → ∀ b ∈ putGo last l, b < 256
  | [], _, _, b, hb => by simp [putGo] at hb
  | x :: l, last, h, b, hb => by
    rcases List.mem_append.mp hb with hb | hb
    · exact put1_small (h x (by simp)) b hb
    · exact putGo_small (fun y hy => h y (by simp [hy])) b hb
theorem one_put {last : List Nat} {x : It.I} (h : It.may x = true) (hs : Small x) (more : List Nat) (hm : ∀ b ∈ more, b < 256) : one last (put1 last x ++ more) = some (x, (put1 last x).length) := by
  obtain ⟨p1, p2, p3, p4⟩ := it_parts h
  obtain ⟨a1, a2⟩ := alike_le last x.1
  have a3 := alike_take last x.1
  have ht := tail1_small hs
  obtain ⟨key, dead, c⟩ := x
  simp only at p1 p2 p3 p4 a1 a2 a3
  obtain ⟨n, hn⟩ : ∃ n, n = alike last key := ⟨_, rfl⟩
  rw [← hn] at a1 a2 a3
  have hp : put1 last (key, dead, c) = Va.one n ++ (Va.one (key.length - n) ++ (key.drop n ++ tail1 (key, dead, c))) := by rw [hn]; rfl
  obtain ⟨T, hT⟩ : ∃ T, T = tail1 (key, dead, c) ++ more := ⟨_, rfl⟩
  have hTs : ∀ b ∈ T, b < 256 := by
    intro b hb
    rw [hT] at hb
    rcases List.mem_append.mp hb with hb | hb
    · exact ht b hb
    · exact hm b hb
  have hks : ∀ b ∈ key.drop n ++ T, b < 256 := by
    intro b hb
    rcases List.mem_append.mp hb with hb | hb
    · exact hs.1 b (List.mem_of_mem_drop hb)
    · exact hTs b hb
  have e1 : put1 last (key, dead, c) ++ more = Va.one n ++ (Va.one (key.length - n) ++ (key.drop n ++ T)) := by rw [hp, hT]; simp
  have g1 : Va.get (Va.one n ++ (Va.one (key.length - n) ++ (key.drop n ++ T))) = (n, (Va.one n).length) := Va.get_one (by omega) _ (by
    intro b hb
    rcases List.mem_append.mp hb with hb | hb
    · exact Va.one_small _ b hb
    · exact hks b hb)
  have d1 : (Va.one n ++ (Va.one (key.length - n) ++ (key.drop n ++ T))).drop (Va.one n).length = Va.one (key.length - n) ++ (key.drop n ++ T) := by simp
  have g2 : Va.get (Va.one (key.length - n) ++ (key.drop n ++ T)) = (key.length - n, (Va.one (key.length - n)).length) := Va.get_one (by omega) _ hks
  have q1 := Va.one_pos n
  have q2 := Va.one_pos (key.length - n)
  have dl : (key.drop n).length = key.length - n := List.length_drop
  have hTp : 0 < T.length := by rw [hT]; unfold tail1; split <;> simp
  have d2 : (Va.one n ++ (Va.one (key.length - n) ++ (key.drop n ++ T))).drop ((Va.one n).length + (Va.one (key.length - n)).length) = key.drop n ++ T := by
    rw [← List.drop_drop, d1]; simp
  have d3 : (Va.one n ++ (Va.one (key.length - n) ++ (key.drop n ++ T))).drop ((Va.one n).length + (Va.one (key.length - n)).length + (key.length - n)) = T := by
    rw [← List.drop_drop, d2, ← dl]; simp
  have d4 : (Va.one n ++ (Va.one (key.length - n) ++ (key.drop n ++ T))).getD ((Va.one n).length + (Va.one (key.length - n)).length + (key.length - n)) 0 = T.getD 0 0 := by
    have h9 := congrArg (fun l => l.getD 0 0) d3
    simpa only [List.getD_eq_getElem?_getD, List.getElem?_drop, Nat.add_zero] using h9
  have d5 : (Va.one n ++ (Va.one (key.length - n) ++ (key.drop n ++ T))).drop ((Va.one n).length + (Va.one (key.length - n)).length + (key.length - n) + 1) = T.drop 1 := by
    rw [← List.drop_drop, d3]
  have hk : last.take n ++ (key.drop n ++ T).take (key.length - n) = key := by
    rw [a3, ← dl, List.take_left, List.take_append_drop]
  rw [e1]
  unfold one
  simp only [g1, d1, g2]
  rw [if_neg (by omega), if_neg (by simp only [List.length_append]; omega), d4, d5, d2, hk]
  have hlen : (put1 last (key, dead, c)).length = (Va.one n).length + (Va.one (key.length - n)).length + (key.length - n) + (tail1 (key, dead, c)).length := by
    rw [hp]; simp only [List.length_append, dl]; omega
  rw [hlen]
  cases dead with
  | true =>
    have hc := p4 rfl
    have e : T.getD 0 0 = 1 := by rw [hT]; rfl
    rw [if_pos e, hc]
    rfl
  | false =>
    have e : T.getD 0 0 = 0 := by rw [hT]; rfl
    have e2 : T.drop 1 = Ce.put c ++ more := by rw [hT]; rfl
    rw [if_neg (by rw [e]; omega), e2, Ce.get_put p3 hs.2.1 hs.2.2 more hm]
    have q3 := Ce.put_pos c
    simp only []
    rw [if_neg (by omega)]
    have : (tail1 (key, false, c)).length = 1 + (Ce.put c).length := by show (0 :: Ce.put c).length = _; rw [List.length_cons]; omega
    rw [this]
    simp only [Option.some.injEq, Prod.mk.injEq, true_and]
    omega
theorem sc_put (more : List Nat) (hm : ∀ b ∈ more, b < 256) : ∀ (l : List It.I) (pre : List Nat) (acc : List It.I) (last : List Nat), (∀ x ∈ l, It.may x = true ∧ Small x) →
    sc l.length (pre ++ (putGo last l ++ more)) pre.length last acc = some (acc ++ l, pre.length + (putGo last l).length)
  | [], pre, acc, last, _ => by simp [sc, putGo]
  | x :: l, pre, acc, last, hl => by
    obtain ⟨hm1, hs1⟩ := hl x (by simp)
    have hd : (pre ++ (putGo last (x :: l) ++ more)).drop pre.length = put1 last x ++ (putGo x.1 l ++ more) := by simp [putGo]
    have ho := one_put (last := last) hm1 hs1 (putGo x.1 l ++ more) (by
      intro b hb
      rcases List.mem_append.mp hb with hb | hb
      · exact putGo_small (fun y hy => (hl y (by simp [hy])).2) b hb
      · exact hm b hb)
    rw [List.length_cons, sc, hd, ho]
    simp only []
    have := sc_put more hm l (pre ++ put1 last x) (acc ++ [x]) x.1 (fun y hy => hl y (by simp [hy]))
    rw [List.length_append] at this
    simp only [putGo, List.length_append]
    rw [show pre ++ (put1 last x ++ putGo x.1 l ++ more) = pre ++ put1 last x ++ (putGo x.1 l ++ more) by simp, this]
    simp; omega
theorem sorted_may : ∀ {l : List It.I} {p : Option (List Nat)}, It.sortedGo p l = true → ∀ x ∈ l, It.may x = true
  | [], _, _, x, hx => by cases hx
  | y :: l, p, h, x, hx => by
    simp only [It.sortedGo, Bool.and_eq_true] at h
    rcases List.mem_cons.mp hx with rfl | hx
    · exact h.1.1
    · exact sorted_may h.2 x hx
theorem get_put {l : List It.I} (h : may l = true) (hs : ∀ x ∈ l, Small x) : get (put l) = l := by
  have h' := h
  simp only [may, Bool.and_eq_true, decide_eq_true_eq] at h'
  have hall : ∀ x ∈ l, It.may x = true ∧ Small x := fun x hx => ⟨sorted_may h'.2 x hx, hs x hx⟩
  have hg : Va.get (put l) = (l.length, (Va.one l.length).length) := Va.get_one (by omega) _ (putGo_small hs)
  have hsc := sc_put [] (by simp) l (Va.one l.length) [] [] hall
  simp only [List.append_nil, List.nil_append] at hsc
  have q := Va.one_pos l.length
  unfold get
  rw [hg]
  simp only []
  rw [if_neg (by omega), show sc l.length (put l) (Va.one l.length).length [] [] = some (l, (Va.one l.length).length + (putGo [] l).length) from hsc]
  simp only []
  rw [if_pos ⟨by simp [put], h, trivial⟩]
theorem get_only {l : List It.I} {bs : List Nat} (h : may l = true) (hg : get bs = l) : bs = put l := by
  have hne : get bs ≠ [] := by rw [hg]; exact may_pos h
  have := (get_ok hne).2
  rw [hg] at this
  exact this.symm
def lastKey : List Nat → List It.I → List Nat
  | p, [] => p
  | _, y :: l => lastKey y.1 l
theorem lastKey_snoc : ∀ (l : List It.I) (p : List Nat) (y : It.I), lastKey p (l ++ [y]) = y.1
  | [], _, _ => rfl
  | z :: l, _, y => lastKey_snoc l z.1 y
theorem putGo_snoc : ∀ (l : List It.I) (p : List Nat) (x : It.I), putGo p (l ++ [x]) = putGo p l ++ put1 (lastKey p l) x
  | [], p, x => by simp [putGo, lastKey]
  | y :: l, p, x => by simp [putGo, lastKey, putGo_snoc l y.1 x]
def prevKey (xs : List It.I) (k : Nat) : List Nat := if k = 0 then [] else (xs.getD (k - 1) It.zero).1
theorem take_next {xs : List It.I} {k : Nat} (h : k < xs.length) : xs.take (k + 1) = xs.take k ++ [xs.getD k It.zero] := by
  rw [List.take_succ_eq_append_getElem h, show xs.getD k It.zero = xs[k] by simp [h]]
theorem lastKey_take {xs : List It.I} {k : Nat} (h : k ≤ xs.length) : lastKey [] (xs.take k) = prevKey xs k := by
  cases k with
  | zero => simp [lastKey, prevKey]
  | succ k => rw [take_next (by omega), lastKey_snoc]; simp [prevKey]
theorem putGo_next {xs : List It.I} {k : Nat} (h : k < xs.length) : putGo [] (xs.take (k + 1)) = putGo [] (xs.take k) ++ put1 (prevKey xs k) (xs.getD k It.zero) := by
  rw [take_next h, putGo_snoc, lastKey_take (by omega)]
theorem put1_len {last : List Nat} {x : It.I} (h : It.may x = true) : (put1 last x).length ≤ 130 := by
  obtain ⟨_, p2, p3, _⟩ := it_parts h
  have a2 := (alike_le last x.1).2
  have l1 := Va.one_len10 (u := alike last x.1) (by omega)
  have l2 := Va.one_len10 (u := x.1.length - alike last x.1) (by omega)
  have l3 := Ce.put_len p3
  unfold put1 tail1
  simp only [List.length_append, List.length_drop]
  split
  · simp; omega
  · simp only [List.length_cons]; omega
theorem putGo_len : ∀ {l : List It.I} {last : List Nat}, (∀ x ∈ l, It.may x = true) → (putGo last l).length ≤ 130 * l.length
  | [], _, _ => by simp [putGo]
  | x :: l, last, h => by
    have h1 := put1_len (last := last) (h x (by simp))
    have h2 := putGo_len (l := l) (last := x.1) (fun y hy => h y (by simp [hy]))
    simp only [putGo, List.length_append, List.length_cons]
    omega
theorem put_len {l : List It.I} (hl : l.length ≤ 256) (h : may l = true) : (put l).length ≤ 1000000 := by
  simp only [may, Bool.and_eq_true] at h
  have h1 := putGo_len (l := l) (last := []) (sorted_may h.2)
  have h2 := Va.one_len10 (u := l.length) (by omega)
  unfold put
  rw [List.length_append]
  omega
theorem put_small {l : List It.I} (h : ∀ x ∈ l, Small x) : ∀ b ∈ put l, b < 256 := by
  intro b hb
  rcases List.mem_append.mp hb with hb | hb
  · exact Va.one_small _ b hb
  · exact putGo_small h b hb
end Go.Proofs.Ytgdefibgifcbaaa.Bl

/- The plain mathematics of blocks as the program reads them: each item held against its own bytes at once. Names no dump. -/
namespace Va
theorem take_add' (bs : List Nat) (a b : Nat) : bs.take (a + b) = bs.take a ++ (bs.drop a).take b := by
  rw [List.take_add]
theorem al_take : ∀ (n : Nat) (bs : List Nat) (at' : Nat) (l : List Nat), (∀ x ∈ bs, x < 256) → bs.take at' = put l → (al n bs at' l).2.2 = 0 → bs.take (al n bs at' l).2.1 = put (al n bs at' l).1
  | 0, bs, at', l, _, h, _ => h
  | n + 1, bs, at', l, hs, h, h0 => by
    by_cases hg : (get (bs.drop at')).2 = 0
    · rw [al_none hg] at h0; simp at h0
    · rw [al_some hg] at h0 ⊢
      refine al_take n bs _ _ hs ?_ h0
      rw [take_add', h, get_ok (fun x hx => hs x (List.mem_of_mem_drop hx)) hg, put_snoc]
theorem all_take {bs : List Nat} {n : Nat} (hs : ∀ x ∈ bs, x < 256) (h0 : (all bs n).2.2 = 0) : bs.take (all bs n).2.1 = put (all bs n).1 := al_take n bs 0 [] hs (by simp [put]) h0
theorem all_two (bs : List Nat) : all bs 2 = if (get bs).2 = 0 then ([], 0, 2) else if (get (bs.drop (get bs).2)).2 = 0 then ([], (get bs).2, 2) else ([(get bs).1, (get (bs.drop (get bs).2)).1], (get bs).2 + (get (bs.drop (get bs).2)).2, 0) := by
  unfold all
  split
  · rename_i h; rw [al_none (by simpa using h)]
  · rename_i h
    rw [al_some (by simpa using h)]
    simp only [List.drop_zero, Nat.zero_add, List.nil_append]
    split
    · rename_i h2; rw [al_none h2]
    · rename_i h2; rw [al_some h2]; rfl
end Va
namespace Go.Proofs.Ytgdefibgifcbaaa
theorem Po.get_ok {bs : List Nat} (hs : ∀ x ∈ bs, x < 256) (h : (Po.get bs).2 ≠ 0) : bs.take (Po.get bs).2 = Po.put (Po.get bs).1 := by
  unfold Po.get at h ⊢
  split
  · rename_i hc
    obtain ⟨h0, h1, h2⟩ := hc
    have ht := Va.all_take hs h0
    have hl := (Po.all_ok bs 3).2.1 h0
    simp only []
    rw [Va.take_add', ht]
    have h4s : ∀ x ∈ (bs.drop (Va.all bs 3).2.1).take 4, x < 256 := fun x hx => hs x (List.mem_of_mem_drop (List.mem_of_mem_take hx))
    have h4l : ((bs.drop (Va.all bs 3).2.1).take 4).length = 4 := by rw [List.length_take, List.length_drop]; omega
    have hle := (Fr.le4_val (Po.val4_lt h4s) h4s h4l).mpr rfl
    unfold Po.put Po.ofNums Po.nums
    simp only [Int.toNat_natCast]
    rw [hle]
    congr 1
    obtain ⟨l, hl2⟩ : ∃ l, l = (Va.all bs 3).1 := ⟨_, rfl⟩
    rw [← hl2] at hl ⊢
    match l, hl with
    | [x, y, z], _ => rfl
  · rename_i hc; rw [if_neg hc] at h; exact absurd rfl h
theorem Ce.get_ok {bs : List Nat} (hs : ∀ x ∈ bs, x < 256) (h : (Ce.get bs).2 ≠ 0) : bs.take (Ce.get bs).2 = Ce.put (Ce.get bs).1 := by
  have hd : ∀ x ∈ bs.drop 1, x < 256 := fun x hx => hs x (List.mem_of_mem_drop hx)
  unfold Ce.get at h ⊢
  split
  · rename_i hc; rw [if_pos hc] at h; exact absurd rfl h
  · rename_i hc
    rw [if_neg hc] at h
    have hl : 0 < bs.length := by omega
    have hb1 : bs.take 1 = [bs.getD 0 0] := by
      cases bs with
      | nil => simp at hl
      | cons x l => simp
    split
    · rename_i h1
      rw [if_pos h1] at h
      split
      · rename_i h2; rw [if_pos h2] at h; exact absurd rfl h
      · rename_i h2
        simp only []
        rw [Nat.add_comm, Va.take_add', hb1, h1, Po.get_ok hd h2]
        rfl
    · rename_i h1
      rw [if_neg h1] at h
      have h0 : bs.getD 0 0 = 0 := by omega
      split
      · rename_i h2; rw [if_pos h2] at h; exact absurd rfl h
      · rename_i h2
        have h3 : ¬ (Va.get (bs.drop 1)).2 = 0 := fun e => h2 (.inl e)
        have hlen : ((bs.drop (1 + (Va.get (bs.drop 1)).2)).take (Va.get (bs.drop 1)).1).length = (Va.get (bs.drop 1)).1 := by rw [List.length_take, List.length_drop]; omega
        simp only []
        rw [Va.take_add', Va.take_add', hb1, h0, Va.get_ok hd h3]
        unfold Ce.put
        simp only [Bool.false_eq_true, if_false, hlen]
        rfl

namespace Bl
/-- the key that bytes begin with, as the program reads it: the key, how many bytes it and its numbers have -/
def pkey (last bs : List Nat) : Option (List Nat × Nat) :=
  let k := (Va.get bs).2
  let m := (Va.get (bs.drop k)).2
  let u := (Va.get bs).1
  let v := (Va.get (bs.drop k)).1
  if k = 0 ∨ m = 0 ∨ last.length < u ∨ 64 < u + v ∨ bs.length < k + m + v then none
  else if alike last (last.take u ++ (bs.drop (k + m)).take v) = u then some (last.take u ++ (bs.drop (k + m)).take v, k + m + v) else none
/-- the item that bytes begin with, as the program reads it -/
def pone (last bs : List Nat) : Option (It.I × Nat) :=
  match pkey last bs with
  | none => none
  | some (key, at') =>
    if bs.length ≤ at' then none
    else if bs.getD at' 0 = 1 then some ((key, true, Ce.zero), at' + 1)
    else if bs.getD at' 0 = 0 then
      if (Ce.get (bs.drop (at' + 1))).2 = 0 then none else some ((key, false, (Ce.get (bs.drop (at' + 1))).1), at' + 1 + (Ce.get (bs.drop (at' + 1))).2)
    else none
theorem pkey_some {last bs key : List Nat} {at' : Nat} (hs : ∀ x ∈ bs, x < 256) (h : pkey last bs = some (key, at')) :
    at' ≤ bs.length ∧ key.length ≤ 64 ∧ bs.take at' = Va.one (alike last key) ++ (Va.one (key.length - alike last key) ++ key.drop (alike last key)) ∧ (∀ x ∈ key, (∀ y ∈ last, y < 256) → x < 256) := by
  unfold pkey at h
  simp only at h
  split at h
  · cases h
  · rename_i hc
    split at h
    · rename_i ha
      simp only [Option.some.injEq, Prod.mk.injEq] at h
      obtain ⟨rfl, rfl⟩ := h
      have hlt : (last.take (Va.get bs).1).length = (Va.get bs).1 := by rw [List.length_take]; omega
      have hlv : ((bs.drop ((Va.get bs).2 + (Va.get (bs.drop (Va.get bs).2)).2)).take (Va.get (bs.drop (Va.get bs).2)).1).length = (Va.get (bs.drop (Va.get bs).2)).1 := by rw [List.length_take, List.length_drop]; omega
      refine ⟨by omega, by rw [List.length_append, hlt, hlv]; omega, ?_, ?_⟩
      · rw [ha, List.length_append, hlt, hlv, Nat.add_sub_cancel_left, Va.take_add', Va.take_add', Va.get_ok hs (by omega), Va.get_ok (fun x hx => hs x (List.mem_of_mem_drop hx)) (by omega)]
        rw [List.append_assoc]
        congr 2
        generalize (bs.drop ((Va.get bs).2 + (Va.get (bs.drop (Va.get bs).2)).2)).take (Va.get (bs.drop (Va.get bs).2)).1 = Y at *
        generalize hX : last.take (Va.get bs).1 = X at *
        rw [← hlt]
        simp
      · intro x hx hl
        rcases List.mem_append.mp hx with hx | hx
        · exact hl x (List.mem_of_mem_take hx)
        · exact hs x (List.mem_of_mem_drop (List.mem_of_mem_take hx))
    · cases h
theorem pone_some {last bs : List Nat} {x : It.I} {k : Nat} (hs : ∀ y ∈ bs, y < 256) (h : pone last bs = some (x, k)) :
    k ≤ bs.length ∧ 0 < k ∧ x.1.length ≤ 64 ∧ bs.take k = put1 last x ∧ ((∀ y ∈ last, y < 256) → Small x) := by
  unfold pone at h
  split at h
  · cases h
  · rename_i key at' hk
    obtain ⟨h1, h2, h3, h4⟩ := pkey_some hs hk
    have hg : ∀ j, j < bs.length → (bs.drop j).take 1 = [bs.getD j 0] := fun j hj => by
      rw [Va.drop_get bs j hj]; rfl
    split at h
    · cases h
    · rename_i hl
      split at h
      · rename_i hb
        simp only [Option.some.injEq, Prod.mk.injEq] at h
        obtain ⟨rfl, rfl⟩ := h
        refine ⟨by omega, by omega, h2, ?_, fun hlast => ⟨fun y hy => h4 y hy hlast, (fun y hy => by cases hy), (by decide : (0 : Nat) < 4294967296)⟩⟩
        rw [Va.take_add', h3, hg _ (by omega), hb]
        unfold put1 tail1
        simp
      · split at h
        · rename_i hb
          split at h
          · cases h
          · rename_i hc
            simp only [Option.some.injEq, Prod.mk.injEq] at h
            obtain ⟨rfl, rfl⟩ := h
            have hds : ∀ y ∈ bs.drop (at' + 1), y < 256 := fun y hy => hs y (List.mem_of_mem_drop hy)
            have hle := Ce.get_le (bs.drop (at' + 1))
            rw [List.length_drop] at hle
            obtain ⟨s1, s2, s3⟩ := Ce.get_small hds
            refine ⟨by omega, by omega, h2, ?_, fun hlast => ⟨fun y hy => h4 y hy hlast, s1, s3.2.2.2⟩⟩
            rw [Va.take_add', Va.take_add', h3, hg _ (by omega), hb, Ce.get_ok hds hc]
            unfold put1 tail1
            simp
        · cases h
theorem pone_put {last : List Nat} {x : It.I} (h : It.may x = true) (hs : Small x) (more : List Nat) (hm : ∀ b ∈ more, b < 256) : pone last (put1 last x ++ more) = some (x, (put1 last x).length) := by
  have ho := one_put (last := last) h hs more hm
  obtain ⟨p1, p2, p3, p4⟩ := it_parts h
  obtain ⟨a1, a2⟩ := alike_le last x.1
  have a3 := alike_take last x.1
  have ht := tail1_small hs
  obtain ⟨key, dead, c⟩ := x
  simp only at p1 p2 p3 p4 a1 a2 a3
  obtain ⟨n, hn⟩ : ∃ n, n = alike last key := ⟨_, rfl⟩
  rw [← hn] at a1 a2 a3
  have hp : put1 last (key, dead, c) = Va.one n ++ (Va.one (key.length - n) ++ (key.drop n ++ tail1 (key, dead, c))) := by rw [hn]; rfl
  obtain ⟨T, hT⟩ : ∃ T, T = tail1 (key, dead, c) ++ more := ⟨_, rfl⟩
  have hTs : ∀ b ∈ T, b < 256 := by
    intro b hb
    rw [hT] at hb
    rcases List.mem_append.mp hb with hb | hb
    · exact ht b hb
    · exact hm b hb
  have hks : ∀ b ∈ key.drop n ++ T, b < 256 := by
    intro b hb
    rcases List.mem_append.mp hb with hb | hb
    · exact hs.1 b (List.mem_of_mem_drop hb)
    · exact hTs b hb
  have e1 : put1 last (key, dead, c) ++ more = Va.one n ++ (Va.one (key.length - n) ++ (key.drop n ++ T)) := by rw [hp, hT]; simp
  have g1 : Va.get (Va.one n ++ (Va.one (key.length - n) ++ (key.drop n ++ T))) = (n, (Va.one n).length) := Va.get_one (by omega) _ (by
    intro b hb
    rcases List.mem_append.mp hb with hb | hb
    · exact Va.one_small _ b hb
    · exact hks b hb)
  have d1 : (Va.one n ++ (Va.one (key.length - n) ++ (key.drop n ++ T))).drop (Va.one n).length = Va.one (key.length - n) ++ (key.drop n ++ T) := by simp
  have g2 : Va.get (Va.one (key.length - n) ++ (key.drop n ++ T)) = (key.length - n, (Va.one (key.length - n)).length) := Va.get_one (by omega) _ hks
  have q1 := Va.one_pos n
  have q2 := Va.one_pos (key.length - n)
  have dl : (key.drop n).length = key.length - n := List.length_drop
  have hTp : 0 < T.length := by rw [hT]; unfold tail1; split <;> simp
  have d2 : (Va.one n ++ (Va.one (key.length - n) ++ (key.drop n ++ T))).drop ((Va.one n).length + (Va.one (key.length - n)).length) = key.drop n ++ T := by
    rw [← List.drop_drop, d1]; simp
  have d3 : (Va.one n ++ (Va.one (key.length - n) ++ (key.drop n ++ T))).drop ((Va.one n).length + (Va.one (key.length - n)).length + (key.length - n)) = T := by
    rw [← List.drop_drop, d2, ← dl]; simp
  have d4 : (Va.one n ++ (Va.one (key.length - n) ++ (key.drop n ++ T))).getD ((Va.one n).length + (Va.one (key.length - n)).length + (key.length - n)) 0 = T.getD 0 0 := by
    have h9 := congrArg (fun l => l.getD 0 0) d3
    simpa only [List.getD_eq_getElem?_getD, List.getElem?_drop, Nat.add_zero] using h9
  have d5 : (Va.one n ++ (Va.one (key.length - n) ++ (key.drop n ++ T))).drop ((Va.one n).length + (Va.one (key.length - n)).length + (key.length - n) + 1) = T.drop 1 := by
    rw [← List.drop_drop, d3]
  have hk : last.take n ++ (key.drop n ++ T).take (key.length - n) = key := by
    rw [a3, ← dl, List.take_left, List.take_append_drop]
  have hkey : pkey last (Va.one n ++ (Va.one (key.length - n) ++ (key.drop n ++ T))) = some (key, (Va.one n).length + (Va.one (key.length - n)).length + (key.length - n)) := by
    unfold pkey
    simp only [g1, d1, g2]
    rw [if_neg (by simp only [List.length_append]; omega), d2, hk, if_pos hn.symm]
  rw [e1] at ho ⊢
  unfold pone
  rw [hkey]
  simp only []
  rw [if_neg (by simp only [List.length_append]; omega), d4, d5]
  unfold one at ho
  simp only [g1, d1, g2] at ho
  rw [if_neg (by omega), if_neg (by simp only [List.length_append]; omega), d4, d5, d2, hk] at ho
  cases dead with
  | true =>
    have e : T.getD 0 0 = 1 := by rw [hT]; rfl
    rw [if_pos e] at ho ⊢
    exact ho
  | false =>
    have e : T.getD 0 0 = 0 := by rw [hT]; rfl
    rw [if_neg (by rw [e]; omega)] at ho
    rw [if_neg (by rw [e]; omega), if_pos e]
    exact ho
/-- the items from a place on, as the program reads them -/
def psc : Nat → List Nat → Nat → List Nat → List It.I → Option (List It.I × Nat)
  | 0, _, at', _, l => some (l, at')
  | n + 1, bs, at', last, l => match pone last (bs.drop at') with | none => none | some (x, k) => psc n bs (at' + k) x.1 (l ++ [x])
theorem psc_put (more : List Nat) (hm : ∀ b ∈ more, b < 256) : ∀ (l : List It.I) (pre : List Nat) (acc : List It.I) (last : List Nat), (∀ x ∈ l, It.may x = true ∧ Small x) →
    psc l.length (pre ++ (putGo last l ++ more)) pre.length last acc = some (acc ++ l, pre.length + (putGo last l).length)
  | [], pre, acc, last, _ => by simp [psc, putGo]
  | x :: l, pre, acc, last, hl => by
    obtain ⟨hm1, hs1⟩ := hl x (by simp)
    have hd : (pre ++ (putGo last (x :: l) ++ more)).drop pre.length = put1 last x ++ (putGo x.1 l ++ more) := by simp [putGo]
    have ho := pone_put (last := last) hm1 hs1 (putGo x.1 l ++ more) (by
      intro b hb
      rcases List.mem_append.mp hb with hb | hb
      · exact putGo_small (fun y hy => (hl y (by simp [hy])).2) b hb
      · exact hm b hb)
    rw [List.length_cons, psc, hd, ho]
    simp only []
    have := psc_put more hm l (pre ++ put1 last x) (acc ++ [x]) x.1 (fun y hy => hl y (by simp [hy]))
    rw [List.length_append] at this
    simp only [putGo, List.length_append]
    rw [show pre ++ (put1 last x ++ putGo x.1 l ++ more) = pre ++ put1 last x ++ (putGo x.1 l ++ more) by simp, this]
    simp; omega
theorem psc_some : ∀ (n : Nat) (bs : List Nat) (at' : Nat) (last : List Nat) (acc : List It.I) (l : List It.I) (e : Nat), (∀ y ∈ bs, y < 256) → at' ≤ bs.length → (∀ y ∈ last, y < 256) → psc n bs at' last acc = some (l, e) →
    ∃ r, l = acc ++ r ∧ r.length = n ∧ e ≤ bs.length ∧ bs.take e = bs.take at' ++ putGo last r ∧ (∀ x ∈ r, Small x)
  | 0, bs, at', last, acc, l, e, _, ha, _, h => by
    simp only [psc, Option.some.injEq, Prod.mk.injEq] at h
    obtain ⟨rfl, rfl⟩ := h
    exact ⟨[], by simp, rfl, ha, by simp [putGo], by simp⟩
  | n + 1, bs, at', last, acc, l, e, hs, ha, hla, h => by
    simp only [psc] at h
    split at h
    · cases h
    · rename_i x k ho
      obtain ⟨h1, h2, h3, h4, h5⟩ := pone_some (fun y hy => hs y (List.mem_of_mem_drop hy)) ho
      rw [List.length_drop] at h1
      have hx := h5 hla
      obtain ⟨r, rfl, r2, r3, r4, r5⟩ := psc_some n bs (at' + k) x.1 (acc ++ [x]) l e hs (by omega) hx.1 h
      refine ⟨x :: r, by simp, by simp [r2], r3, ?_, ?_⟩
      · rw [r4, Va.take_add', h4]; simp [putGo]
      · intro y hy
        rcases List.mem_cons.mp hy with rfl | hy
        · exact hx
        · exact r5 y hy
theorem one_small' {last bs : List Nat} {x : It.I} {k : Nat} (hs : ∀ y ∈ bs, y < 256) (hl : ∀ y ∈ last, y < 256) (h : one last bs = some (x, k)) : Small x := by
  have hk : ∀ u v m, ∀ y ∈ last.take u ++ (bs.drop m).take v, y < 256 := fun u v m y hy => by
    rcases List.mem_append.mp hy with hy | hy
    · exact hl y (List.mem_of_mem_take hy)
    · exact hs y (List.mem_of_mem_drop (List.mem_of_mem_take hy))
  unfold one at h
  simp only at h
  split at h
  · cases h
  · split at h
    · cases h
    · split at h
      · simp only [Option.some.injEq, Prod.mk.injEq] at h
        obtain ⟨rfl, rfl⟩ := h
        exact ⟨hk _ _ _, (fun y hy => by cases hy), (by decide : (0 : Nat) < 4294967296)⟩
      · split at h
        · cases h
        · simp only [Option.some.injEq, Prod.mk.injEq] at h
          obtain ⟨rfl, rfl⟩ := h
          obtain ⟨s1, s2, s3⟩ := Ce.get_small (bs := bs.drop ((Va.get bs).2 + (Va.get (bs.drop (Va.get bs).2)).2 + (Va.get (bs.drop (Va.get bs).2)).1 + 1)) (fun y hy => hs y (List.mem_of_mem_drop hy))
          exact ⟨hk _ _ _, s1, s3.2.2.2⟩
theorem sc_small : ∀ (n : Nat) (bs : List Nat) (at' : Nat) (last : List Nat) (acc l : List It.I) (e : Nat), (∀ y ∈ bs, y < 256) → (∀ y ∈ last, y < 256) → (∀ x ∈ acc, Small x) → sc n bs at' last acc = some (l, e) → ∀ x ∈ l, Small x
  | 0, bs, at', last, acc, l, e, _, _, ha, h => by
    simp only [sc, Option.some.injEq, Prod.mk.injEq] at h
    obtain ⟨rfl, rfl⟩ := h
    exact ha
  | n + 1, bs, at', last, acc, l, e, hs, hla, ha, h => by
    simp only [sc] at h
    split at h
    · cases h
    · rename_i x k ho
      have hx := one_small' (fun y hy => hs y (List.mem_of_mem_drop hy)) hla ho
      refine sc_small n bs _ x.1 _ l e hs hx.1 (fun y hy => ?_) h
      rcases List.mem_append.mp hy with hy | hy
      · exact ha y hy
      · simp only [List.mem_singleton] at hy; subst hy; exact hx
/-- the program's way -/
def pget (bs : List Nat) : List It.I :=
  if (Va.get bs).2 = 0 ∨ (Va.get bs).1 < 1 ∨ 256 < (Va.get bs).1 then []
  else match psc (Va.get bs).1 bs (Va.get bs).2 [] [] with
    | none => []
    | some (l, e) => if bs.length ≤ e ∧ It.sorted l = true then l else []
theorem pget_get {bs : List Nat} (hs : ∀ y ∈ bs, y < 256) : get bs = pget bs := by
  have hno : pget bs = [] → (∀ l, (∀ x ∈ l, Small x) → may l = true → put l = bs → False) → get bs = [] := by
    intro _ h
    apply Classical.byContradiction
    intro hne
    obtain ⟨h1, h2⟩ := get_ok hne
    have hsm : ∀ x ∈ get bs, Small x := by
      intro x hx
      unfold get at hx
      split at hx
      · cases hx
      · split at hx
        · cases hx
        · rename_i l e hsc
          split at hx
          · exact sc_small _ bs _ [] [] l e hs (by simp) (by simp) hsc x hx
          · cases hx
    exact h _ hsm h1 h2
  by_cases hp : pget bs = []
  · rw [hno hp ?_, hp]
    intro l hsm hmay hput
    have h' := hmay
    simp only [may, Bool.and_eq_true, decide_eq_true_eq] at h'
    have hall : ∀ x ∈ l, It.may x = true ∧ Small x := fun x hx => ⟨sorted_may h'.2 x hx, hsm x hx⟩
    have hg : Va.get bs = (l.length, (Va.one l.length).length) := by rw [← hput]; exact Va.get_one (by omega) _ (putGo_small hsm)
    have hsc := psc_put [] (by simp) l (Va.one l.length) [] [] hall
    simp only [List.append_nil, List.nil_append] at hsc
    have q := Va.one_pos l.length
    unfold pget at hp
    rw [hg] at hp
    simp only [] at hp
    have e : Va.one l.length ++ putGo [] l = bs := hput
    rw [e] at hsc
    rw [if_neg (by omega), hsc] at hp
    simp only [] at hp
    rw [if_pos ⟨by rw [← e, List.length_append]; omega, h'.2⟩] at hp
    rw [hp] at h'
    simp at h'
  · have hp' := hp
    unfold pget at hp'
    split at hp'
    · exact absurd rfl hp'
    · rename_i hc
      split at hp'
      · exact absurd rfl hp'
      · rename_i l e hsc
        split at hp'
        · rename_i hce
          obtain ⟨r, hr, r2, r3, r4, r5⟩ := psc_some _ bs _ [] [] l e hs Va.get_le (by simp) hsc
          rw [List.nil_append] at hr
          subst hr
          have hE : pget bs = l := by
            unfold pget
            rw [if_neg hc, hsc]
            simp only []
            rw [if_pos hce]
          rw [hE]
          have hput : put l = bs := by
            rw [List.take_of_length_le hce.1, Va.get_ok hs (by omega)] at r4
            unfold put
            rw [r2]
            exact r4.symm
          have := get_put (l := l) (by
            simp only [may, Bool.and_eq_true, decide_eq_true_eq]
            exact ⟨by omega, hce.2⟩) r5
          rw [hput] at this
          exact this
        · exact absurd rfl hp'
end Bl
end Go.Proofs.Ytgdefibgifcbaaa

/- The plain mathematics of sieves: a key's bits, the sieve of keys, whether a key is in it. Names no dump. -/
namespace Go.Proofs.Ytgdefibgifcbaaa.Sv

def odd (e : Nat) : Nat := if e % 2 = 0 then e + 1 else e
def turnd (h : Nat) : Nat := odd (h * 131072 % 4294967296 + h / 32768)
def bit (n h i : Nat) : Nat := (h + i * turnd h) % 4294967296 % (8 * n)
def sum (key : List Nat) : Nat := Crc.more 0 key
/-- a key's bits in a sieve of n bytes -/
def bits (n : Nat) (key : List Nat) : List Nat := (List.range 6).map (bit n (sum key))
/-- whether a bit is set in the sieve of keys -/
def set (keys : List (List Nat)) (n b : Nat) : Bool := keys.any fun k => decide (b ∈ bits n k)
def byteGo (f : Nat → Bool) : Nat → Nat → Nat
  | 0, v => v
  | k + 1, v => byteGo f k (v * 2 + if f k = true then 1 else 0)
def byte (keys : List (List Nat)) (n i : Nat) : Nat := byteGo (fun k => set keys n (8 * i + k)) 8 0
def size (m : Nat) : Nat := m + m / 10 + 1
/-- the sieve of keys -/
def of (keys : List (List Nat)) : List Nat := (List.range (size keys.length)).map (byte keys (size keys.length))
def isSet (b : List Nat) (j : Nat) : Bool := decide (b.getD (j / 8) 0 / 2 ^ (j % 8) % 2 = 1)
/-- whether bytes have a key -/
def has (b : List Nat) (key : List Nat) : Bool := if b.length = 0 ∨ 1048576 < b.length then true else (bits b.length key).all (isSet b)

theorem byteGo_top (f : Nat → Bool) : ∀ (m v : Nat), byteGo f m v / 2 ^ m = v
  | 0, v => by simp [byteGo]
  | m + 1, v => by
    rw [byteGo, Nat.pow_succ, ← Nat.div_div_eq_div_mul, byteGo_top f m]
    split <;> omega
theorem byteGo_bit (f : Nat → Bool) : ∀ (m v k : Nat), k < m → byteGo f m v / 2 ^ k % 2 = if f k = true then 1 else 0
  | 0, v, k, h => by omega
  | m + 1, v, k, h => by
    rw [byteGo]
    rcases Nat.lt_or_ge k m with h' | h'
    · exact byteGo_bit f m _ k h'
    · obtain rfl : k = m := by omega
      rw [byteGo_top]
      split <;> omega
theorem byte_lt (keys : List (List Nat)) (n i : Nat) : byte keys n i < 256 := by
  have := byteGo_top (fun k => set keys n (8 * i + k)) 8 0
  unfold byte
  have h : (2 : Nat) ^ 8 = 256 := by decide
  rw [h] at this
  omega
theorem bit_lt {n : Nat} (hn : 0 < n) (key : List Nat) : ∀ j ∈ bits n key, j < 8 * n := by
  intro j hj
  simp only [bits, List.mem_map] at hj
  obtain ⟨i, _, rfl⟩ := hj
  exact Nat.mod_lt _ (by omega)
theorem of_length (keys : List (List Nat)) : (of keys).length = size keys.length := by simp [of]
/-- the sieve of keys has each of them -/
theorem keeps {keys : List (List Nat)} {key : List Nat} (h : key ∈ keys) : has (of keys) key = true := by
  unfold has
  rw [of_length]
  split
  · rfl
  · rw [List.all_eq_true]
    intro j hj
    have hn : 0 < size keys.length := by unfold size; omega
    have hj8 := bit_lt hn key j hj
    unfold isSet
    rw [decide_eq_true_eq]
    have e : (of keys).getD (j / 8) 0 = byte keys (size keys.length) (j / 8) := by
      have : j / 8 < size keys.length := by omega
      simp [of, this]
    rw [e, byte, byteGo_bit _ 8 0 (j % 8) (by omega)]
    have hs : set keys (size keys.length) (8 * (j / 8) + j % 8) = true := by
      rw [show 8 * (j / 8) + j % 8 = j by omega]
      unfold set
      rw [List.any_eq_true]
      exact ⟨key, h, by simpa using hj⟩
    simp only [hs, if_true]
theorem bits_len (n : Nat) (key : List Nat) : (bits n key).length = 6 := by simp [bits]
end Go.Proofs.Ytgdefibgifcbaaa.Sv

/- The plain mathematics of tables: items in order, parted, as frames; what is made is opened. Names no dump. -/
namespace Go.Proofs.Ytgdefibgifcbaaa.Tb

/-- items parted by a size: behind an open part -/
def pgo (size : Int) : List It.I → List It.I → List (List It.I)
  | _, [] => []
  | p, x :: l => if size ≤ (It.weight (p ++ [x]) : Int) ∨ (p ++ [x]).length = 64 ∨ l = [] then (p ++ [x]) :: pgo size [] l else pgo size (p ++ [x]) l
def parted (l : List It.I) (size : Int) : List (List It.I) := pgo size [] l
def joined (ps : List (List It.I)) : List It.I := ps.flatten
theorem pgo_join (size : Int) : ∀ (l p : List It.I), l ≠ [] → joined (pgo size p l) = p ++ l
  | [], _, h => absurd rfl h
  | [x], p, _ => by simp [pgo, joined]
  | x :: y :: l, p, _ => by
    rw [pgo]
    split
    · have := pgo_join size (y :: l) [] (by simp)
      simp only [joined, List.flatten_cons] at this ⊢
      rw [this]; simp
    · rw [pgo_join size (y :: l) (p ++ [x]) (by simp)]; simp
theorem parted_join (l : List It.I) (size : Int) : joined (parted l size) = l := by
  unfold parted
  by_cases h : l = []
  · subst h; rfl
  · rw [pgo_join size l [] h]; rfl
theorem pgo_part (size : Int) : ∀ (l p : List It.I), p.length < 64 → ∀ q ∈ pgo size p l, q ≠ [] ∧ q.length ≤ 64
  | [], _, _, q, hq => by simp [pgo] at hq
  | x :: l, p, hp, q, hq => by
    rw [pgo] at hq
    split at hq
    · rcases List.mem_cons.mp hq with rfl | hq
      · exact ⟨by simp, by simp; omega⟩
      · exact pgo_part size l [] (by simp) q hq
    · next h =>
      refine pgo_part size l (p ++ [x]) ?_ q hq
      have : (p ++ [x]).length ≠ 64 := fun e => h (.inr (.inl e))
      simp only [List.length_append, List.length_cons, List.length_nil] at this ⊢
      omega
theorem parted_part {l : List It.I} {size : Int} : ∀ q ∈ parted l size, q ≠ [] ∧ q.length ≤ 64 := pgo_part size l [] (by simp)
theorem part_sub {ps : List (List It.I)} {q : List It.I} (h : q ∈ ps) : q.Sublist (joined ps) := by
  induction ps with
  | nil => cases h
  | cons p ps ih =>
    simp only [joined, List.flatten_cons]
    rcases List.mem_cons.mp h with rfl | h
    · exact List.sublist_append_left _ _
    · exact (ih h).trans (List.sublist_append_right _ _)
theorem pgo_count (size : Int) : ∀ (l p : List It.I), (pgo size p l).length ≤ l.length
  | [], _ => by simp [pgo]
  | x :: l, p => by
    rw [pgo]
    split
    · have := pgo_count size l []
      simp; omega
    · have := pgo_count size l (p ++ [x])
      simp; omega

/-- a part's frame -/
def frame (p : List It.I) : Fr.F := (1, Bl.put p)
def firstKey (p : List It.I) : List Nat := (p.getD 0 It.zero).1
/-- where the parts begin -/
def ix : Nat → List (List It.I) → List Nat
  | _, [] => []
  | at', p :: ps => Va.one (firstKey p).length ++ (firstKey p ++ (Va.one (at' + (Fr.one (frame p)).length - 4 - (Bl.put p).length) ++ ix (at' + (Fr.one (frame p)).length) ps))
def tail (ps : List (List It.I)) : List Fr.F := [(2, ix 0 ps), (3, Sv.of ((joined ps).map (fun x => x.1))), (4, Va.one (joined ps).length)]
def frames (ps : List (List It.I)) : List Fr.F := ps.map frame ++ tail ps
/-- a table's bytes -/
def put (ps : List (List It.I)) : List Nat := Fr.all (frames ps)
/-- the parts of the first frames -/
def lead : List Fr.F → List (List It.I) → Option (List (List It.I))
  | [], acc => some acc
  | f :: fs, acc => if f.1 = 1 then (if Bl.get f.2 = [] then none else lead fs (acc ++ [Bl.get f.2])) else some acc
def get (bs : List Nat) : List It.I := match lead (Fr.scan bs).1 [] with
  | none => []
  | some ps => if (joined ps).length < 1 ∨ 16384 < (joined ps).length ∨ It.sorted (joined ps) = false ∨ put ps ≠ bs then [] else joined ps

theorem lead_parts (fs : List Fr.F) (hf : ∀ f, fs.head? = some f → f.1 ≠ 1) : ∀ (ps acc : List (List It.I)), (∀ p ∈ ps, p ≠ [] ∧ Bl.get (Bl.put p) = p) → lead (ps.map frame ++ fs) acc = some (acc ++ ps)
  | [], acc, _ => by
    cases fs with
    | nil => simp [lead]
    | cons f fs => rw [List.map_nil, List.nil_append, lead, if_neg (hf f rfl), List.append_nil]
  | p :: ps, acc, h => by
    obtain ⟨h1, h2⟩ := h p List.mem_cons_self
    rw [List.map_cons, List.cons_append, lead, if_pos (show (frame p).1 = 1 from rfl)]
    show (if Bl.get (Bl.put p) = [] then none else lead (ps.map frame ++ fs) (acc ++ [Bl.get (Bl.put p)])) = _
    rw [h2, if_neg h1, lead_parts fs hf ps (acc ++ [p]) (fun q hq => h q (List.mem_cons_of_mem _ hq))]
    simp
theorem get_put {ps : List (List It.I)} (hs : It.sorted (joined ps) = true) (hsm : ∀ x ∈ joined ps, Bl.Small x) (hp : ∀ p ∈ ps, p ≠ [] ∧ p.length ≤ 256) (h1 : 1 ≤ (joined ps).length) (h2 : (joined ps).length ≤ 16384) (hg : Fr.Good (frames ps)) : get (put ps) = joined ps := by
  have hps : ∀ p ∈ ps, p ≠ [] ∧ Bl.get (Bl.put p) = p := fun p hq => by
    obtain ⟨a1, a2⟩ := hp p hq
    have hsub := part_sub hq
    refine ⟨a1, Bl.get_put ?_ (fun x hx => hsm x (hsub.mem hx))⟩
    have := It.sorted_sub hs hsub
    have hpos := List.length_pos_iff.mpr a1
    simp only [Bl.may, Bool.and_eq_true, decide_eq_true_eq]
    exact ⟨by omega, this⟩
  unfold get
  rw [show (Fr.scan (put ps)).1 = frames ps by unfold put; rw [Fr.scan_all hg]]
  rw [show frames ps = ps.map frame ++ tail ps from rfl, lead_parts (tail ps) (fun f hf => by simp only [tail, List.head?_cons, Option.some.injEq] at hf; subst hf; show (2 : Int) ≠ 1; decide) ps [] hps]
  simp only [List.nil_append]
  rw [if_neg]
  rintro (h | h | h | h)
  · omega
  · omega
  · rw [hs] at h; cases h
  · exact h rfl

/-- the frames of a table of few items may be -/
theorem ix_len : ∀ (ps : List (List It.I)) (at' : Nat), (∀ p ∈ ps, (firstKey p).length ≤ 64) → at' + (Fr.all (ps.map frame)).length < 4294967296 → (ix at' ps).length ≤ 84 * ps.length
  | [], _, _, _ => by simp [ix]
  | p :: ps, at', h, hb => by
    have e : Fr.all ((p :: ps).map frame) = Fr.one (frame p) ++ Fr.all (ps.map frame) := rfl
    rw [e, List.length_append] at hb
    have i1 := ix_len ps (at' + (Fr.one (frame p)).length) (fun q hq => h q (List.mem_cons_of_mem _ hq)) (by omega)
    have i2 := h p List.mem_cons_self
    have l1 := Va.one_len10 (u := (firstKey p).length) (by omega)
    have l2 := Va.one_len10 (u := at' + (Fr.one (frame p)).length - 4 - (Bl.put p).length) (by omega)
    simp only [ix, List.length_append, List.length_cons]
    omega
theorem ix_small : ∀ (ps : List (List It.I)) (at' : Nat), (∀ p ∈ ps, ∀ b ∈ firstKey p, b < 256) → ∀ b ∈ ix at' ps, b < 256
  | [], _, _, b, hb => by simp [ix] at hb
  | p :: ps, at', h, b, hb => by
    simp only [ix, List.mem_append] at hb
    rcases hb with hb | hb | hb | hb
    · exact Va.one_small _ b hb
    · exact h p List.mem_cons_self b hb
    · exact Va.one_small _ b hb
    · exact ix_small ps _ (fun q hq => h q (List.mem_cons_of_mem _ hq)) b hb
theorem all_frames_len : ∀ (ps : List (List It.I)), (∀ p ∈ ps, (Bl.put p).length ≤ 40000) → (Fr.all (ps.map frame)).length ≤ 40008 * ps.length
  | [], _ => by simp [Fr.all]
  | p :: ps, h => by
    have i1 := all_frames_len ps (fun q hq => h q (List.mem_cons_of_mem _ hq))
    have i2 := h p List.mem_cons_self
    rw [List.map_cons, Fr.all_len_cons]
    have i3 := Fr.size_le (n := (frame p).2.length) (by show (Bl.put p).length ≤ _; omega)
    have i4 : (frame p).2.length = (Bl.put p).length := rfl
    rw [List.length_cons]
    omega
theorem first_mem {p : List It.I} (h : p ≠ []) : p.getD 0 It.zero ∈ p := by
  cases p with
  | nil => exact absurd rfl h
  | cons x p => simp
/-- the frames of a table of few items may be -/
theorem good_few {ps : List (List It.I)} (hs : It.sorted (joined ps) = true) (hsm : ∀ x ∈ joined ps, Bl.Small x) (hp : ∀ p ∈ ps, p ≠ [] ∧ p.length ≤ 256) (hn : ps.length ≤ 1000) (h2 : (joined ps).length ≤ 16384) : Fr.Good (frames ps) := by
  have hmay := ((It.sorted_iff _).mp hs).1
  have hb : ∀ p ∈ ps, (Bl.put p).length ≤ 40000 := fun p hq => by
    have hsub := part_sub hq
    have h3 := Bl.putGo_len (l := p) (last := []) (fun x hx => hmay x (hsub.mem hx))
    have h4 := (hp p hq).2
    have h5 := Va.one_len10 (u := p.length) (by omega)
    unfold Bl.put
    rw [List.length_append]
    omega
  have hk : ∀ p ∈ ps, (firstKey p).length ≤ 64 := fun p hq => (Bl.it_parts (hmay _ ((part_sub hq).mem (first_mem (hp p hq).1)))).2.1
  have hks : ∀ p ∈ ps, ∀ b ∈ firstKey p, b < 256 := fun p hq => (hsm _ ((part_sub hq).mem (first_mem (hp p hq).1))).1
  have hal := all_frames_len ps hb
  have hil := ix_len ps 0 hk (by omega)
  intro f hf
  rcases List.mem_append.mp hf with hf | hf
  · obtain ⟨p, hq, rfl⟩ := List.mem_map.mp hf
    exact ⟨(Fr.may_iff _).mpr ⟨(show (1 : Int) ≤ 1 by decide), (show (1 : Int) ≤ 250 by decide), by have := hb p hq; show (Bl.put p).length ≤ _; omega⟩, Bl.put_small (fun x hx => hsm x ((part_sub hq).mem hx))⟩
  · simp only [tail, List.mem_cons, List.not_mem_nil, or_false] at hf
    rcases hf with rfl | rfl | rfl
    · exact ⟨(Fr.may_iff _).mpr ⟨(show (1 : Int) ≤ 2 by decide), (show (2 : Int) ≤ 250 by decide), by show (ix 0 ps).length ≤ _; omega⟩, ix_small ps 0 hks⟩
    · refine ⟨(Fr.may_iff _).mpr ⟨(show (1 : Int) ≤ 3 by decide), (show (3 : Int) ≤ 250 by decide), ?_⟩, ?_⟩
      · show (Sv.of _).length ≤ _
        unfold Sv.of Sv.size
        simp only [List.length_map, List.length_range]
        omega
      · intro x hx
        obtain ⟨i, _, rfl⟩ := List.mem_map.mp hx
        exact Sv.byte_lt _ _ _
    · refine ⟨(Fr.may_iff _).mpr ⟨(show (1 : Int) ≤ 4 by decide), (show (4 : Int) ≤ 250 by decide), ?_⟩, Va.one_small _⟩
      have := Va.one_len10 (u := (joined ps).length) (by omega)
      show (Va.one _).length ≤ _
      omega
/-- what is made of few items is opened -/
theorem get_made {l : List It.I} {size : Int} (hs : It.sorted l = true) (hsm : ∀ x ∈ l, Bl.Small x) (h1 : 1 ≤ l.length) (h2 : l.length ≤ 1000) : get (put (parted l size)) = l := by
  have hj := parted_join l size
  have hc := pgo_count size l []
  have hg : Fr.Good (frames (parted l size)) := good_few (by rw [hj]; exact hs) (by rw [hj]; exact hsm) (fun q hq => ⟨(parted_part q hq).1, Nat.le_trans (parted_part q hq).2 (by omega)⟩) (by unfold parted; omega) (by rw [hj]; omega)
  rw [get_put (by rw [hj]; exact hs) (by rw [hj]; exact hsm) (fun q hq => ⟨(parted_part q hq).1, Nat.le_trans (parted_part q hq).2 (by omega)⟩) (by rw [hj]; exact h1) (by rw [hj]; omega) hg, hj]
end Go.Proofs.Ytgdefibgifcbaaa.Tb
