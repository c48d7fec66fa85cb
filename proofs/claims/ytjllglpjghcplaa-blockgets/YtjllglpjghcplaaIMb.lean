/- The plain mathematics of blocks: items in order as bytes, each key told by what it has alike with the one ahead. Names no dump. -/
import Derived.Test.YtjllglpjghcplaaIMa
namespace Go.Proofs.Ytjllglpjghcplaa.Bl

/-- how many bytes two keys have alike -/
def alike : List Nat → List Nat → Nat
  | a :: as, b :: bs => if a = b then alike as bs + 1 else 0
  | [], _ => 0
  | _ :: _, [] => 0
theorem alike_le : ∀ (a b : List Nat), alike a b ≤ a.length ∧ alike a b ≤ b.length
  | [], b => by cases b <;> simp [alike]
  | _ :: _, [] => by simp [alike]
  | x :: a, y :: b => by
    have := alike_le a b
    simp only [alike]
    split
    · simp only [List.length_cons]; omega
    · simp
theorem alike_take : ∀ (a b : List Nat), a.take (alike a b) = b.take (alike a b)
  | [], b => by cases b <;> simp [alike]
  | _ :: _, [] => by simp [alike]
  | x :: a, y :: b => by
    have := alike_take a b
    simp only [alike]
    split
    · rename_i h; subst h; rw [List.take_succ_cons, List.take_succ_cons, this]
    · simp
/-- how far a walk comes: alike so far, then they part or one ends -/
theorem alike_at : ∀ (a b : List Nat) (k : Nat), k ≤ a.length → k ≤ b.length → (∀ j, j < k → a.getD j 0 = b.getD j 0) → (k = a.length ∨ k = b.length ∨ a.getD k 0 ≠ b.getD k 0) → alike a b = k
  | [], b, k, h1, _, _, _ => by cases b <;> simp [alike] <;> simp at h1 <;> omega
  | _ :: _, [], k, _, h2, _, _ => by simp [alike]; simp at h2; omega
  | x :: a, y :: b, 0, _, _, _, h => by
    simp only [alike]
    rw [if_neg]
    rcases h with h | h | h
    · simp at h
    · simp at h
    · simpa using h
  | x :: a, y :: b, k + 1, h1, h2, h3, h => by
    have h0 : x = y := by simpa using h3 0 (by omega)
    simp only [alike]
    rw [if_pos h0, alike_at a b k (by simpa using h1) (by simpa using h2) (fun j hj => by simpa using h3 (j + 1) (by omega)) (by simpa using h)]

def may (l : List It.I) : Bool := decide (1 ≤ l.length ∧ l.length ≤ 256) && It.sorted l
def tail1 (x : It.I) : List Nat := if x.2.1 = true then [1] else 0 :: Ce.put x.2.2
def put1 (last : List Nat) (x : It.I) : List Nat := Va.one (alike last x.1) ++ (Va.one (x.1.length - alike last x.1) ++ (x.1.drop (alike last x.1) ++ tail1 x))
def putGo : List Nat → List It.I → List Nat
  | _, [] => []
  | last, x :: l => put1 last x ++ putGo x.1 l
def put (l : List It.I) : List Nat := Va.one l.length ++ putGo [] l
/-- what stands behind the numbers: an item and how many bytes it has -/
def one (last bs : List Nat) : Option (It.I × Nat) :=
  let k := (Va.get bs).2
  let m := (Va.get (bs.drop k)).2
  let u := (Va.get bs).1
  let v := (Va.get (bs.drop k)).1
  if k = 0 ∨ m = 0 ∨ last.length < u ∨ 64 < v then none
  else if bs.length ≤ k + m + v then none
  else
    let key := last.take u ++ (bs.drop (k + m)).take v
    if bs.getD (k + m + v) 0 = 1 then some ((key, true, Ce.zero), k + m + v + 1)
    else
      let c := Ce.get (bs.drop (k + m + v + 1))
      if c.2 = 0 then none else some ((key, false, c.1), k + m + v + 1 + c.2)
def sc : Nat → List Nat → Nat → List Nat → List It.I → Option (List It.I × Nat)
  | 0, _, at', _, l => some (l, at')
  | n + 1, bs, at', last, l => match one last (bs.drop at') with | none => none | some (x, k) => sc n bs (at' + k) x.1 (l ++ [x])
def get (bs : List Nat) : List It.I :=
  if (Va.get bs).2 = 0 ∨ 256 < (Va.get bs).1 then []
  else match sc (Va.get bs).1 bs (Va.get bs).2 [] [] with
    | none => []
    | some (l, e) => if e = bs.length ∧ may l = true ∧ put l = bs then l else []

theorem may_pos {l : List It.I} (h : may l = true) : l ≠ [] := by
  rintro rfl
  simp [may] at h
/-- what is got is just what was put -/
theorem get_ok {bs : List Nat} (h : get bs ≠ []) : may (get bs) = true ∧ put (get bs) = bs := by
  unfold get at h ⊢
  split
  · rename_i h0; rw [if_pos h0] at h; exact absurd rfl h
  · rename_i h0
    rw [if_neg h0] at h
    split
    · rename_i h1; rw [h1] at h; exact absurd rfl h
    · rename_i l e h1
      rw [h1] at h
      simp only [] at h ⊢
      split
      · rename_i h2; exact h2.2
      · rename_i h2; rw [if_neg h2] at h; exact absurd rfl h
def Small (x : It.I) : Prop := (∀ b ∈ x.1, b < 256) ∧ (∀ b ∈ x.2.2.2.1, b < 256) ∧ x.2.2.2.2.2.2.2 < 4294967296
theorem it_parts {x : It.I} (h : It.may x = true) : x.1 ≠ [] ∧ x.1.length ≤ 64 ∧ Ce.may x.2.2 = true ∧ (x.2.1 = true → x.2.2 = Ce.zero) := by
  simp only [It.may, Bool.and_eq_true, decide_eq_true_eq, Bool.or_eq_true, Bool.not_eq_true'] at h
  refine ⟨h.1.1.1, h.1.1.2, h.1.2, fun hd => ?_⟩
  rcases h.2 with h2 | h2
  · rw [hd] at h2; cases h2
  · exact h2
theorem tail1_small {x : It.I} (hs : Small x) : ∀ b ∈ tail1 x, b < 256 := by
  unfold tail1
  split
  · intro b hb; simp at hb; omega
  · intro b hb
    rcases List.mem_cons.mp hb with rfl | hb
    · omega
    · exact Ce.put_small hs.2.1 b hb
theorem put1_small {last : List Nat} {x : It.I} (hs : Small x) : ∀ b ∈ put1 last x, b < 256 := by
  intro b hb
  simp only [put1, List.mem_append] at hb
  rcases hb with hb | hb | hb | hb
  · exact Va.one_small _ b hb
  · exact Va.one_small _ b hb
  · exact hs.1 b (List.mem_of_mem_drop hb)
  · exact tail1_small hs b hb
theorem putGo_small : ∀ {l : List It.I} {last : List Nat}, (∀ x ∈ l, Small x) → ∀ b ∈ putGo last l, b < 256
  | [], _, _, b, hb => by simp [putGo] at hb
  | x :: l, last, h, b, hb => by
    rcases List.mem_append.mp hb with hb | hb
    · exact put1_small (h x (by simp)) b hb
    · exact putGo_small (fun y hy => h y (by simp [hy])) b hb
theorem one_put {last : List Nat} {x : It.I} (h : It.may x = true) (hs : Small x) (more : List Nat) (hm : ∀ b ∈ more, b < 256) : one last (put1 last x ++ more) = some (x, (put1 last x).length) := by
  obtain ⟨p1, p2, p3, p4⟩ := it_parts h
  obtain ⟨a1, a2⟩ := alike_le last x.1
  have a3 := alike_take last x.1
  have ht := tail1_small hs
  obtain ⟨key, dead, c⟩ := x
  simp only at p1 p2 p3 p4 a1 a2 a3
  obtain ⟨n, hn⟩ : ∃ n, n = alike last key := ⟨_, rfl⟩
  rw [← hn] at a1 a2 a3
  have hp : put1 last (key, dead, c) = Va.one n ++ (Va.one (key.length - n) ++ (key.drop n ++ tail1 (key, dead, c))) := by rw [hn]; rfl
  obtain ⟨T, hT⟩ : ∃ T, T = tail1 (key, dead, c) ++ more := ⟨_, rfl⟩
  have hTs : ∀ b ∈ T, b < 256 := by
    intro b hb
    rw [hT] at hb
    rcases List.mem_append.mp hb with hb | hb
    · exact ht b hb
    · exact hm b hb
  have hks : ∀ b ∈ key.drop n ++ T, b < 256 := by
    intro b hb
    rcases List.mem_append.mp hb with hb | hb
    · exact hs.1 b (List.mem_of_mem_drop hb)
    · exact hTs b hb
  have e1 : put1 last (key, dead, c) ++ more = Va.one n ++ (Va.one (key.length - n) ++ (key.drop n ++ T)) := by rw [hp, hT]; simp
  have g1 : Va.get (Va.one n ++ (Va.one (key.length - n) ++ (key.drop n ++ T))) = (n, (Va.one n).length) := Va.get_one (by omega) _ (by
    intro b hb
    rcases List.mem_append.mp hb with hb | hb
    · exact Va.one_small _ b hb
    · exact hks b hb)
  have d1 : (Va.one n ++ (Va.one (key.length - n) ++ (key.drop n ++ T))).drop (Va.one n).length = Va.one (key.length - n) ++ (key.drop n ++ T) := by simp
  have g2 : Va.get (Va.one (key.length - n) ++ (key.drop n ++ T)) = (key.length - n, (Va.one (key.length - n)).length) := Va.get_one (by omega) _ hks
  have q1 := Va.one_pos n
  have q2 := Va.one_pos (key.length - n)
  have dl : (key.drop n).length = key.length - n := List.length_drop
  have hTp : 0 < T.length := by rw [hT]; unfold tail1; split <;> simp
  have d2 : (Va.one n ++ (Va.one (key.length - n) ++ (key.drop n ++ T))).drop ((Va.one n).length + (Va.one (key.length - n)).length) = key.drop n ++ T := by
    rw [← List.drop_drop, d1]; simp
  have d3 : (Va.one n ++ (Va.one (key.length - n) ++ (key.drop n ++ T))).drop ((Va.one n).length + (Va.one (key.length - n)).length + (key.length - n)) = T := by
    rw [← List.drop_drop, d2, ← dl]; simp
  have d4 : (Va.one n ++ (Va.one (key.length - n) ++ (key.drop n ++ T))).getD ((Va.one n).length + (Va.one (key.length - n)).length + (key.length - n)) 0 = T.getD 0 0 := by
    have h9 := congrArg (fun l => l.getD 0 0) d3
    simpa only [List.getD_eq_getElem?_getD, List.getElem?_drop, Nat.add_zero] using h9
  have d5 : (Va.one n ++ (Va.one (key.length - n) ++ (key.drop n ++ T))).drop ((Va.one n).length + (Va.one (key.length - n)).length + (key.length - n) + 1) = T.drop 1 := by
    rw [← List.drop_drop, d3]
  have hk : last.take n ++ (key.drop n ++ T).take (key.length - n) = key := by
    rw [a3, ← dl, List.take_left, List.take_append_drop]
  rw [e1]
  unfold one
  simp only [g1, d1, g2]
  rw [if_neg (by omega), if_neg (by simp only [List.length_append]; omega), d4, d5, d2, hk]
  have hlen : (put1 last (key, dead, c)).length = (Va.one n).length + (Va.one (key.length - n)).length + (key.length - n) + (tail1 (key, dead, c)).length := by
    rw [hp]; simp only [List.length_append, dl]; omega
  rw [hlen]
  cases dead with
  | true =>
    have hc := p4 rfl
    have e : T.getD 0 0 = 1 := by rw [hT]; rfl
    rw [if_pos e, hc]
    rfl
  | false =>
    have e : T.getD 0 0 = 0 := by rw [hT]; rfl
    have e2 : T.drop 1 = Ce.put c ++ more := by rw [hT]; rfl
    rw [if_neg (by rw [e]; omega), e2, Ce.get_put p3 hs.2.1 hs.2.2 more hm]
    have q3 := Ce.put_pos c
    simp only []
    rw [if_neg (by omega)]
    have : (tail1 (key, false, c)).length = 1 + (Ce.put c).length := by show (0 :: Ce.put c).length = _; rw [List.length_cons]; omega
    rw [this]
    simp only [Option.some.injEq, Prod.mk.injEq, true_and]
    omega
theorem sc_put (more : List Nat) (hm : ∀ b ∈ more, b < 256) : ∀ (l : List It.I) (pre : List Nat) (acc : List It.I) (last : List Nat), (∀ x ∈ l, It.may x = true ∧ Small x) →
    sc l.length (pre ++ (putGo last l ++ more)) pre.length last acc = some (acc ++ l, pre.length + (putGo last l).length)
  | [], pre, acc, last, _ => by simp [sc, putGo]
  | x :: l, pre, acc, last, hl => by
    obtain ⟨hm1, hs1⟩ := hl x (by simp)
    have hd : (pre ++ (putGo last (x :: l) ++ more)).drop pre.length = put1 last x ++ (putGo x.1 l ++ more) := by simp [putGo]
    have ho := one_put (last := last) hm1 hs1 (putGo x.1 l ++ more) (by
      intro b hb
      rcases List.mem_append.mp hb with hb | hb
      · exact putGo_small (fun y hy => (hl y (by simp [hy])).2) b hb
      · exact hm b hb)
    rw [List.length_cons, sc, hd, ho]
    simp only []
    have := sc_put more hm l (pre ++ put1 last x) (acc ++ [x]) x.1 (fun y hy => hl y (by simp [hy]))
    rw [List.length_append] at this
    simp only [putGo, List.length_append]
    rw [show pre ++ (put1 last x ++ putGo x.1 l ++ more) = pre ++ put1 last x ++ (putGo x.1 l ++ more) by simp, this]
    simp; omega
theorem sorted_may : ∀ {l : List It.I} {p : Option (List Nat)}, It.sortedGo p l = true → ∀ x ∈ l, It.may x = true
  | [], _, _, x, hx => by cases hx
  | y :: l, p, h, x, hx => by
    simp only [It.sortedGo, Bool.and_eq_true] at h
    rcases List.mem_cons.mp hx with rfl | hx
    · exact h.1.1
    · exact sorted_may h.2 x hx
theorem get_put {l : List It.I} (h : may l = true) (hs : ∀ x ∈ l, Small x) : get (put l) = l := by
  have h' := h
  simp only [may, Bool.and_eq_true, decide_eq_true_eq] at h'
  have hall : ∀ x ∈ l, It.may x = true ∧ Small x := fun x hx => ⟨sorted_may h'.2 x hx, hs x hx⟩
  have hg : Va.get (put l) = (l.length, (Va.one l.length).length) := Va.get_one (by omega) _ (putGo_small hs)
  have hsc := sc_put [] (by simp) l (Va.one l.length) [] [] hall
  simp only [List.append_nil, List.nil_append] at hsc
  have q := Va.one_pos l.length
  unfold get
  rw [hg]
  simp only []
  rw [if_neg (by omega), show sc l.length (put l) (Va.one l.length).length [] [] = some (l, (Va.one l.length).length + (putGo [] l).length) from hsc]
  simp only []
  rw [if_pos ⟨by simp [put], h, trivial⟩]
theorem get_only {l : List It.I} {bs : List Nat} (h : may l = true) (hg : get bs = l) : bs = put l := by
  have hne : get bs ≠ [] := by rw [hg]; exact may_pos h
  have := (get_ok hne).2
  rw [hg] at this
  exact this.symm
def lastKey : List Nat → List It.I → List Nat
  | p, [] => p
  | _, y :: l => lastKey y.1 l
theorem lastKey_snoc : ∀ (l : List It.I) (p : List Nat) (y : It.I), lastKey p (l ++ [y]) = y.1
  | [], _, _ => rfl
  | z :: l, _, y => lastKey_snoc l z.1 y
theorem putGo_snoc : ∀ (l : List It.I) (p : List Nat) (x : It.I), putGo p (l ++ [x]) = putGo p l ++ put1 (lastKey p l) x
  | [], p, x => by simp [putGo, lastKey]
  | y :: l, p, x => by simp [putGo, lastKey, putGo_snoc l y.1 x]
def prevKey (xs : List It.I) (k : Nat) : List Nat := if k = 0 then [] else (xs.getD (k - 1) It.zero).1
theorem take_next {xs : List It.I} {k : Nat} (h : k < xs.length) : xs.take (k + 1) = xs.take k ++ [xs.getD k It.zero] := by
  rw [List.take_succ_eq_append_getElem h, show xs.getD k It.zero = xs[k] by simp [h]]
theorem lastKey_take {xs : List It.I} {k : Nat} (h : k ≤ xs.length) : lastKey [] (xs.take k) = prevKey xs k := by
  cases k with
  | zero => simp [lastKey, prevKey]
  | succ k => rw [take_next (by omega), lastKey_snoc]; simp [prevKey]
theorem putGo_next {xs : List It.I} {k : Nat} (h : k < xs.length) : putGo [] (xs.take (k + 1)) = putGo [] (xs.take k) ++ put1 (prevKey xs k) (xs.getD k It.zero) := by
  rw [take_next h, putGo_snoc, lastKey_take (by omega)]
theorem put1_len {last : List Nat} {x : It.I} (h : It.may x = true) : (put1 last x).length ≤ 130 := by
  obtain ⟨_, p2, p3, _⟩ := it_parts h
  have a2 := (alike_le last x.1).2
  have l1 := Va.one_len10 (u := alike last x.1) (by omega)
  have l2 := Va.one_len10 (u := x.1.length - alike last x.1) (by omega)
  have l3 := Ce.put_len p3
  unfold put1 tail1
  simp only [List.length_append, List.length_drop]
  split
  · simp; omega
  · simp only [List.length_cons]; omega
theorem putGo_len : ∀ {l : List It.I} {last : List Nat}, (∀ x ∈ l, It.may x = true) → (putGo last l).length ≤ 130 * l.length
  | [], _, _ => by simp [putGo]
  | x :: l, last, h => by
    have h1 := put1_len (last := last) (h x (by simp))
    have h2 := putGo_len (l := l) (last := x.1) (fun y hy => h y (by simp [hy]))
    simp only [putGo, List.length_append, List.length_cons]
    omega
theorem put_len {l : List It.I} (hl : l.length ≤ 256) (h : may l = true) : (put l).length ≤ 1000000 := by
  simp only [may, Bool.and_eq_true] at h
  have h1 := putGo_len (l := l) (last := []) (sorted_may h.2)
  have h2 := Va.one_len10 (u := l.length) (by omega)
  unfold put
  rw [List.length_append]
  omega
theorem put_small {l : List It.I} (h : ∀ x ∈ l, Small x) : ∀ b ∈ put l, b < 256 := by
  intro b hb
  rcases List.mem_append.mp hb with hb | hb
  · exact Va.one_small _ b hb
  · exact putGo_small h b hb
end Go.Proofs.Ytjllglpjghcplaa.Bl

/- The plain mathematics of blocks as the program reads them: each item held against its own bytes at once. Names no dump. -/
namespace Va
theorem take_add' (bs : List Nat) (a b : Nat) : bs.take (a + b) = bs.take a ++ (bs.drop a).take b := by
  rw [List.take_add]
theorem al_take : ∀ (n : Nat) (bs : List Nat) (at' : Nat) (l : List Nat), (∀ x ∈ bs, x < 256) → bs.take at' = put l → (al n bs at' l).2.2 = 0 → bs.take (al n bs at' l).2.1 = put (al n bs at' l).1
  | 0, bs, at', l, _, h, _ => h
  | n + 1, bs, at', l, hs, h, h0 => by
    by_cases hg : (get (bs.drop at')).2 = 0
    · rw [al_none hg] at h0; simp at h0
    · rw [al_some hg] at h0 ⊢
      refine al_take n bs _ _ hs ?_ h0
      rw [take_add', h, get_ok (fun x hx => hs x (List.mem_of_mem_drop hx)) hg, put_snoc]
theorem all_take {bs : List Nat} {n : Nat} (hs : ∀ x ∈ bs, x < 256) (h0 : (all bs n).2.2 = 0) : bs.take (all bs n).2.1 = put (all bs n).1 := al_take n bs 0 [] hs (by simp [put]) h0
theorem all_two (bs : List Nat) : all bs 2 = if (get bs).2 = 0 then ([], 0, 2) else if (get (bs.drop (get bs).2)).2 = 0 then ([], (get bs).2, 2) else ([(get bs).1, (get (bs.drop (get bs).2)).1], (get bs).2 + (get (bs.drop (get bs).2)).2, 0) := by
  unfold all
  split
  · rename_i h; rw [al_none (by simpa using h)]
  · rename_i h
    rw [al_some (by simpa using h)]
    simp only [List.drop_zero, Nat.zero_add, List.nil_append]
    split
    · rename_i h2; rw [al_none h2]
    · rename_i h2; rw [al_some h2]; rfl
end Va
namespace Go.Proofs.Ytjllglpjghcplaa
theorem Po.get_ok {bs : List Nat} (hs : ∀ x ∈ bs, x < 256) (h : (Po.get bs).2 ≠ 0) : bs.take (Po.get bs).2 = Po.put (Po.get bs).1 := by
  unfold Po.get at h ⊢
  split
  · rename_i hc
    obtain ⟨h0, h1, h2⟩ := hc
    have ht := Va.all_take hs h0
    have hl := (Po.all_ok bs 3).2.1 h0
    simp only []
    rw [Va.take_add', ht]
    have h4s : ∀ x ∈ (bs.drop (Va.all bs 3).2.1).take 4, x < 256 := fun x hx => hs x (List.mem_of_mem_drop (List.mem_of_mem_take hx))
    have h4l : ((bs.drop (Va.all bs 3).2.1).take 4).length = 4 := by rw [List.length_take, List.length_drop]; omega
    have hle := (Fr.le4_val (Po.val4_lt h4s) h4s h4l).mpr rfl
    unfold Po.put Po.ofNums Po.nums
    simp only [Int.toNat_natCast]
    rw [hle]
    congr 1
    obtain ⟨l, hl2⟩ : ∃ l, l = (Va.all bs 3).1 := ⟨_, rfl⟩
    rw [← hl2] at hl ⊢
    match l, hl with
    | [x, y, z], _ => rfl
  · rename_i hc; rw [if_neg hc] at h; exact absurd rfl h
theorem Ce.get_ok {bs : List Nat} (hs : ∀ x ∈ bs, x < 256) (h : (Ce.get bs).2 ≠ 0) : bs.take (Ce.get bs).2 = Ce.put (Ce.get bs).1 := by
  have hd : ∀ x ∈ bs.drop 1, x < 256 := fun x hx => hs x (List.mem_of_mem_drop hx)
  unfold Ce.get at h ⊢
  split
  · rename_i hc; rw [if_pos hc] at h; exact absurd rfl h
  · rename_i hc
    rw [if_neg hc] at h
    have hl : 0 < bs.length := by omega
    have hb1 : bs.take 1 = [bs.getD 0 0] := by
      cases bs with
      | nil => simp at hl
      | cons x l => simp
    split
    · rename_i h1
      rw [if_pos h1] at h
      split
      · rename_i h2; rw [if_pos h2] at h; exact absurd rfl h
      · rename_i h2
        simp only []
        rw [Nat.add_comm, Va.take_add', hb1, h1, Po.get_ok hd h2]
        rfl
    · rename_i h1
      rw [if_neg h1] at h
      have h0 : bs.getD 0 0 = 0 := by omega
      split
      · rename_i h2; rw [if_pos h2] at h; exact absurd rfl h
      · rename_i h2
        have h3 : ¬ (Va.get (bs.drop 1)).2 = 0 := fun e => h2 (.inl e)
        have hlen : ((bs.drop (1 + (Va.get (bs.drop 1)).2)).take (Va.get (bs.drop 1)).1).length = (Va.get (bs.drop 1)).1 := by rw [List.length_take, List.length_drop]; omega
        simp only []
        rw [Va.take_add', Va.take_add', hb1, h0, Va.get_ok hd h3]
        unfold Ce.put
        simp only [Bool.false_eq_true, if_false, hlen]
        rfl

namespace Bl
/-- the key that bytes begin with, as the program reads it: the key, how many bytes it and its numbers have -/
def pkey (last bs : List Nat) : Option (List Nat × Nat) :=
  let k := (Va.get bs).2
  let m := (Va.get (bs.drop k)).2
  let u := (Va.get bs).1
  let v := (Va.get (bs.drop k)).1
  if k = 0 ∨ m = 0 ∨ last.length < u ∨ 64 < u + v ∨ bs.length < k + m + v then none
  else if alike last (last.take u ++ (bs.drop (k + m)).take v) = u then some (last.take u ++ (bs.drop (k + m)).take v, k + m + v) else none
/-- the item that bytes begin with, as the program reads it -/
def pone (last bs : List Nat) : Option (It.I × Nat) :=
  match pkey last bs with
  | none => none
  | some (key, at') =>
    if bs.length ≤ at' then none
    else if bs.getD at' 0 = 1 then some ((key, true, Ce.zero), at' + 1)
    else if bs.getD at' 0 = 0 then
      if (Ce.get (bs.drop (at' + 1))).2 = 0 then none else some ((key, false, (Ce.get (bs.drop (at' + 1))).1), at' + 1 + (Ce.get (bs.drop (at' + 1))).2)
    else none
theorem pkey_some {last bs key : List Nat} {at' : Nat} (hs : ∀ x ∈ bs, x < 256) (h : pkey last bs = some (key, at')) :
    at' ≤ bs.length ∧ key.length ≤ 64 ∧ bs.take at' = Va.one (alike last key) ++ (Va.one (key.length - alike last key) ++ key.drop (alike last key)) ∧ (∀ x ∈ key, (∀ y ∈ last, y < 256) → x < 256) := by
  unfold pkey at h
  simp only at h
  split at h
  · cases h
  · rename_i hc
    split at h
    · rename_i ha
      simp only [Option.some.injEq, Prod.mk.injEq] at h
      obtain ⟨rfl, rfl⟩ := h
      have hlt : (last.take (Va.get bs).1).length = (Va.get bs).1 := by rw [List.length_take]; omega
      have hlv : ((bs.drop ((Va.get bs).2 + (Va.get (bs.drop (Va.get bs).2)).2)).take (Va.get (bs.drop (Va.get bs).2)).1).length = (Va.get (bs.drop (Va.get bs).2)).1 := by rw [List.length_take, List.length_drop]; omega
      refine ⟨by omega, by rw [List.length_append, hlt, hlv]; omega, ?_, ?_⟩
      · rw [ha, List.length_append, hlt, hlv, Nat.add_sub_cancel_left, Va.take_add', Va.take_add', Va.get_ok hs (by omega), Va.get_ok (fun x hx => hs x (List.mem_of_mem_drop hx)) (by omega)]
        rw [List.append_assoc]
        congr 2
        generalize (bs.drop ((Va.get bs).2 + (Va.get (bs.drop (Va.get bs).2)).2)).take (Va.get (bs.drop (Va.get bs).2)).1 = Y at *
        generalize hX : last.take (Va.get bs).1 = X at *
        rw [← hlt]
        simp
      · intro x hx hl
        rcases List.mem_append.mp hx with hx | hx
        · exact hl x (List.mem_of_mem_take hx)
        · exact hs x (List.mem_of_mem_drop (List.mem_of_mem_take hx))
    · cases h
theorem pone_some {last bs : List Nat} {x : It.I} {k : Nat} (hs : ∀ y ∈ bs, y < 256) (h : pone last bs = some (x, k)) :
    k ≤ bs.length ∧ 0 < k ∧ x.1.length ≤ 64 ∧ bs.take k = put1 last x ∧ ((∀ y ∈ last, y < 256) → Small x) := by
  unfold pone at h
  split at h
  · cases h
  · rename_i key at' hk
    obtain ⟨h1, h2, h3, h4⟩ := pkey_some hs hk
    have hg : ∀ j, j < bs.length → (bs.drop j).take 1 = [bs.getD j 0] := fun j hj => by
      rw [Va.drop_get bs j hj]; rfl
    split at h
    · cases h
    · rename_i hl
      split at h
      · rename_i hb
        simp only [Option.some.injEq, Prod.mk.injEq] at h
        obtain ⟨rfl, rfl⟩ := h
        refine ⟨by omega, by omega, h2, ?_, fun hlast => ⟨fun y hy => h4 y hy hlast, (fun y hy => by cases hy), (by decide : (0 : Nat) < 4294967296)⟩⟩
        rw [Va.take_add', h3, hg _ (by omega), hb]
        unfold put1 tail1
        simp
      · split at h
        · rename_i hb
          split at h
          · cases h
          · rename_i hc
            simp only [Option.some.injEq, Prod.mk.injEq] at h
            obtain ⟨rfl, rfl⟩ := h
            have hds : ∀ y ∈ bs.drop (at' + 1), y < 256 := fun y hy => hs y (List.mem_of_mem_drop hy)
            have hle := Ce.get_le (bs.drop (at' + 1))
            rw [List.length_drop] at hle
            obtain ⟨s1, s2, s3⟩ := Ce.get_small hds
            refine ⟨by omega, by omega, h2, ?_, fun hlast => ⟨fun y hy => h4 y hy hlast, s1, s3.2.2.2⟩⟩
            rw [Va.take_add', Va.take_add', h3, hg _ (by omega), hb, Ce.get_ok hds hc]
            unfold put1 tail1
            simp
        · cases h
theorem pone_put {last : List Nat} {x : It.I} (h : It.may x = true) (hs : Small x) (more : List Nat) (hm : ∀ b ∈ more, b < 256) : pone last (put1 last x ++ more) = some (x, (put1 last x).length) := by
  have ho := one_put (last := last) h hs more hm
  obtain ⟨p1, p2, p3, p4⟩ := it_parts h
  obtain ⟨a1, a2⟩ := alike_le last x.1
  have a3 := alike_take last x.1
  have ht := tail1_small hs
  obtain ⟨key, dead, c⟩ := x
  simp only at p1 p2 p3 p4 a1 a2 a3
  obtain ⟨n, hn⟩ : ∃ n, n = alike last key := ⟨_, rfl⟩
  rw [← hn] at a1 a2 a3
  have hp : put1 last (key, dead, c) = Va.one n ++ (Va.one (key.length - n) ++ (key.drop n ++ tail1 (key, dead, c))) := by rw [hn]; rfl
  obtain ⟨T, hT⟩ : ∃ T, T = tail1 (key, dead, c) ++ more := ⟨_, rfl⟩
  have hTs : ∀ b ∈ T, b < 256 := by
    intro b hb
    rw [hT] at hb
    rcases List.mem_append.mp hb with hb | hb
    · exact ht b hb
    · exact hm b hb
  have hks : ∀ b ∈ key.drop n ++ T, b < 256 := by
    intro b hb
    rcases List.mem_append.mp hb with hb | hb
    · exact hs.1 b (List.mem_of_mem_drop hb)
    · exact hTs b hb
  have e1 : put1 last (key, dead, c) ++ more = Va.one n ++ (Va.one (key.length - n) ++ (key.drop n ++ T)) := by rw [hp, hT]; simp
  have g1 : Va.get (Va.one n ++ (Va.one (key.length - n) ++ (key.drop n ++ T))) = (n, (Va.one n).length) := Va.get_one (by omega) _ (by
    intro b hb
    rcases List.mem_append.mp hb with hb | hb
    · exact Va.one_small _ b hb
    · exact hks b hb)
  have d1 : (Va.one n ++ (Va.one (key.length - n) ++ (key.drop n ++ T))).drop (Va.one n).length = Va.one (key.length - n) ++ (key.drop n ++ T) := by simp
  have g2 : Va.get (Va.one (key.length - n) ++ (key.drop n ++ T)) = (key.length - n, (Va.one (key.length - n)).length) := Va.get_one (by omega) _ hks
  have q1 := Va.one_pos n
  have q2 := Va.one_pos (key.length - n)
  have dl : (key.drop n).length = key.length - n := List.length_drop
  have hTp : 0 < T.length := by rw [hT]; unfold tail1; split <;> simp
  have d2 : (Va.one n ++ (Va.one (key.length - n) ++ (key.drop n ++ T))).drop ((Va.one n).length + (Va.one (key.length - n)).length) = key.drop n ++ T := by
    rw [← List.drop_drop, d1]; simp
  have d3 : (Va.one n ++ (Va.one (key.length - n) ++ (key.drop n ++ T))).drop ((Va.one n).length + (Va.one (key.length - n)).length + (key.length - n)) = T := by
    rw [← List.drop_drop, d2, ← dl]; simp
  have d4 : (Va.one n ++ (Va.one (key.length - n) ++ (key.drop n ++ T))).getD ((Va.one n).length + (Va.one (key.length - n)).length + (key.length - n)) 0 = T.getD 0 0 := by
    have h9 := congrArg (fun l => l.getD 0 0) d3
    simpa only [List.getD_eq_getElem?_getD, List.getElem?_drop, Nat.add_zero] using h9
  have d5 : (Va.one n ++ (Va.one (key.length - n) ++ (key.drop n ++ T))).drop ((Va.one n).length + (Va.one (key.length - n)).length + (key.length - n) + 1) = T.drop 1 := by
    rw [← List.drop_drop, d3]
  have hk : last.take n ++ (key.drop n ++ T).take (key.length - n) = key := by
    rw [a3, ← dl, List.take_left, List.take_append_drop]
  have hkey : pkey last (Va.one n ++ (Va.one (key.length - n) ++ (key.drop n ++ T))) = some (key, (Va.one n).length + (Va.one (key.length - n)).length + (key.length - n)) := by
    unfold pkey
    simp only [g1, d1, g2]
    rw [if_neg (by simp only [List.length_append]; omega), d2, hk, if_pos hn.symm]
  rw [e1] at ho ⊢
  unfold pone
  rw [hkey]
  simp only []
  rw [if_neg (by simp only [List.length_append]; omega), d4, d5]
  unfold one at ho
  simp only [g1, d1, g2] at ho
  rw [if_neg (by omega), if_neg (by simp only [List.length_append]; omega), d4, d5, d2, hk] at ho
  cases dead with
  | true =>
    have e : T.getD 0 0 = 1 := by rw [hT]; rfl
    rw [if_pos e] at ho ⊢
    exact ho
  | false =>
    have e : T.getD 0 0 = 0 := by rw [hT]; rfl
    rw [if_neg (by rw [e]; omega)] at ho
    rw [if_neg (by rw [e]; omega), if_pos e]
    exact ho
/-- the items from a place on, as the program reads them -/
def psc : Nat → List Nat → Nat → List Nat → List It.I → Option (List It.I × Nat)
  | 0, _, at', _, l => some (l, at')
  | n + 1, bs, at', last, l => match pone last (bs.drop at') with | none => none | some (x, k) => psc n bs (at' + k) x.1 (l ++ [x])
theorem psc_put (more : List Nat) (hm : ∀ b ∈ more, b < 256) : ∀ (l : List It.I) (pre : List Nat) (acc : List It.I) (last : List Nat), (∀ x ∈ l, It.may x = true ∧ Small x) →
    psc l.length (pre ++ (putGo last l ++ more)) pre.length last acc = some (acc ++ l, pre.length + (putGo last l).length)
  | [], pre, acc, last, _ => by simp [psc, putGo]
  | x :: l, pre, acc, last, hl => by
    obtain ⟨hm1, hs1⟩ := hl x (by simp)
    have hd : (pre ++ (putGo last (x :: l) ++ more)).drop pre.length = put1 last x ++ (putGo x.1 l ++ more) := by simp [putGo]
    have ho := pone_put (last := last) hm1 hs1 (putGo x.1 l ++ more) (by
      intro b hb
      rcases List.mem_append.mp hb with hb | hb
      · exact putGo_small (fun y hy => (hl y (by simp [hy])).2) b hb
      · exact hm b hb)
    rw [List.length_cons, psc, hd, ho]
    simp only []
    have := psc_put more hm l (pre ++ put1 last x) (acc ++ [x]) x.1 (fun y hy => hl y (by simp [hy]))
    rw [List.length_append] at this
    simp only [putGo, List.length_append]
    rw [show pre ++ (put1 last x ++ putGo x.1 l ++ more) = pre ++ put1 last x ++ (putGo x.1 l ++ more) by simp, this]
    simp; omega
theorem psc_some : ∀ (n : Nat) (bs : List Nat) (at' : Nat) (last : List Nat) (acc : List It.I) (l : List It.I) (e : Nat), (∀ y ∈ bs, y < 256) → at' ≤ bs.length → (∀ y ∈ last, y < 256) → psc n bs at' last acc = some (l, e) →
    ∃ r, l = acc ++ r ∧ r.length = n ∧ e ≤ bs.length ∧ bs.take e = bs.take at' ++ putGo last r ∧ (∀ x ∈ r, Small x)
  | 0, bs, at', last, acc, l, e, _, ha, _, h => by
    simp only [psc, Option.some.injEq, Prod.mk.injEq] at h
    obtain ⟨rfl, rfl⟩ := h
    exact ⟨[], by simp, rfl, ha, by simp [putGo], by simp⟩
  | n + 1, bs, at', last, acc, l, e, hs, ha, hla, h => by
    simp only [psc] at h
    split at h
    · cases h
    · rename_i x k ho
      obtain ⟨h1, h2, h3, h4, h5⟩ := pone_some (fun y hy => hs y (List.mem_of_mem_drop hy)) ho
      rw [List.length_drop] at h1
      have hx := h5 hla
      obtain ⟨r, rfl, r2, r3, r4, r5⟩ := psc_some n bs (at' + k) x.1 (acc ++ [x]) l e hs (by omega) hx.1 h
      refine ⟨x :: r, by simp, by simp [r2], r3, ?_, ?_⟩
      · rw [r4, Va.take_add', h4]; simp [putGo]
      · intro y hy
        rcases List.mem_cons.mp hy with rfl | hy
        · exact hx
        · exact r5 y hy
theorem one_small' {last bs : List Nat} {x : It.I} {k : Nat} (hs : ∀ y ∈ bs, y < 256) (hl : ∀ y ∈ last, y < 256) (h : one last bs = some (x, k)) : Small x := by
  have hk : ∀ u v m, ∀ y ∈ last.take u ++ (bs.drop m).take v, y < 256 := fun u v m y hy => by
    rcases List.mem_append.mp hy with hy | hy
    · exact hl y (List.mem_of_mem_take hy)
    · exact hs y (List.mem_of_mem_drop (List.mem_of_mem_take hy))
  unfold one at h
  simp only at h
  split at h
  · cases h
  · split at h
    · cases h
    · split at h
      · simp only [Option.some.injEq, Prod.mk.injEq] at h
        obtain ⟨rfl, rfl⟩ := h
        exact ⟨hk _ _ _, (fun y hy => by cases hy), (by decide : (0 : Nat) < 4294967296)⟩
      · split at h
        · cases h
        · simp only [Option.some.injEq, Prod.mk.injEq] at h
          obtain ⟨rfl, rfl⟩ := h
          obtain ⟨s1, s2, s3⟩ := Ce.get_small (bs := bs.drop ((Va.get bs).2 + (Va.get (bs.drop (Va.get bs).2)).2 + (Va.get (bs.drop (Va.get bs).2)).1 + 1)) (fun y hy => hs y (List.mem_of_mem_drop hy))
          exact ⟨hk _ _ _, s1, s3.2.2.2⟩
theorem sc_small : ∀ (n : Nat) (bs : List Nat) (at' : Nat) (last : List Nat) (acc l : List It.I) (e : Nat), (∀ y ∈ bs, y < 256) → (∀ y ∈ last, y < 256) → (∀ x ∈ acc, Small x) → sc n bs at' last acc = some (l, e) → ∀ x ∈ l, Small x
  | 0, bs, at', last, acc, l, e, _, _, ha, h => by
    simp only [sc, Option.some.injEq, Prod.mk.injEq] at h
    obtain ⟨rfl, rfl⟩ := h
    exact ha
  | n + 1, bs, at', last, acc, l, e, hs, hla, ha, h => by
    simp only [sc] at h
    split at h
    · cases h
    · rename_i x k ho
      have hx := one_small' (fun y hy => hs y (List.mem_of_mem_drop hy)) hla ho
      refine sc_small n bs _ x.1 _ l e hs hx.1 (fun y hy => ?_) h
      rcases List.mem_append.mp hy with hy | hy
      · exact ha y hy
      · simp only [List.mem_singleton] at hy; subst hy; exact hx
/-- the program's way -/
def pget (bs : List Nat) : List It.I :=
  if (Va.get bs).2 = 0 ∨ (Va.get bs).1 < 1 ∨ 256 < (Va.get bs).1 then []
  else match psc (Va.get bs).1 bs (Va.get bs).2 [] [] with
    | none => []
    | some (l, e) => if bs.length ≤ e ∧ It.sorted l = true then l else []
theorem pget_get {bs : List Nat} (hs : ∀ y ∈ bs, y < 256) : get bs = pget bs := by
  have hno : pget bs = [] → (∀ l, (∀ x ∈ l, Small x) → may l = true → put l = bs → False) → get bs = [] := by
    intro _ h
    apply Classical.byContradiction
    intro hne
    obtain ⟨h1, h2⟩ := get_ok hne
    have hsm : ∀ x ∈ get bs, Small x := by
      intro x hx
      unfold get at hx
      split at hx
      · cases hx
      · split at hx
        · cases hx
        · rename_i l e hsc
          split at hx
          · exact sc_small _ bs _ [] [] l e hs (by simp) (by simp) hsc x hx
          · cases hx
    exact h _ hsm h1 h2
  by_cases hp : pget bs = []
  · rw [hno hp ?_, hp]
    intro l hsm hmay hput
    have h' := hmay
    simp only [may, Bool.and_eq_true, decide_eq_true_eq] at h'
    have hall : ∀ x ∈ l, It.may x = true ∧ Small x := fun x hx => ⟨sorted_may h'.2 x hx, hsm x hx⟩
    have hg : Va.get bs = (l.length, (Va.one l.length).length) := by rw [← hput]; exact Va.get_one (by omega) _ (putGo_small hsm)
    have hsc := psc_put [] (by simp) l (Va.one l.length) [] [] hall
    simp only [List.append_nil, List.nil_append] at hsc
    have q := Va.one_pos l.length
    unfold pget at hp
    rw [hg] at hp
    simp only [] at hp
    have e : Va.one l.length ++ putGo [] l = bs := hput
    rw [e] at hsc
    rw [if_neg (by omega), hsc] at hp
    simp only [] at hp
    rw [if_pos ⟨by rw [← e, List.length_append]; omega, h'.2⟩] at hp
    rw [hp] at h'
    simp at h'
  · have hp' := hp
    unfold pget at hp'
    split at hp'
    · exact absurd rfl hp'
    · rename_i hc
      split at hp'
      · exact absurd rfl hp'
      · rename_i l e hsc
        split at hp'
        · rename_i hce
          obtain ⟨r, hr, r2, r3, r4, r5⟩ := psc_some _ bs _ [] [] l e hs Va.get_le (by simp) hsc
          rw [List.nil_append] at hr
          subst hr
          have hE : pget bs = l := by
            unfold pget
            rw [if_neg hc, hsc]
            simp only []
            rw [if_pos hce]
          rw [hE]
          have hput : put l = bs := by
            rw [List.take_of_length_le hce.1, Va.get_ok hs (by omega)] at r4
            unfold put
            rw [r2]
            exact r4.symm
          have := get_put (l := l) (by
            simp only [may, Bool.and_eq_true, decide_eq_true_eq]
            exact ⟨by omega, hce.2⟩) r5
          rw [hput] at this
          exact this
        · exact absurd rfl hp'
end Bl
end Go.Proofs.Ytjllglpjghcplaa
