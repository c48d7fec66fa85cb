/- The plain mathematics of trees of items: their list, putting, finding, walking through a range. Names no dump. -/
import Derived.Test.YtpoocjffkhjeaaaItMath
namespace Go.Proofs.Ytpoocjffkhjeaaa.Tn
open It

inductive T where
  | e : T
  | n (l : T) (x : I) (r : T) : T
def T.list : T → List I
  | .e => []
  | .n l x r => l.list ++ x :: r.list
def T.hgt : T → Nat
  | .e => 0
  | .n l _ r => 1 + max l.hgt r.hgt
theorem hgt_le : ∀ t : T, t.hgt ≤ t.list.length
  | .e => Nat.le_refl _
  | .n l x r => by
    have h1 := hgt_le l
    have h2 := hgt_le r
    simp only [T.hgt, T.list, List.length_append, List.length_cons]
    omega
theorem up_parts {L R : List I} {y : I} (h : Up (L ++ y :: R)) : Up L ∧ Up R ∧ (∀ z ∈ L, Na.lt z.1 y.1 = true) ∧ (∀ z ∈ R, Na.lt y.1 z.1 = true) := by
  unfold Up at h
  rw [List.pairwise_append, List.pairwise_cons] at h
  exact ⟨h.1, h.2.1.2, fun z hz => h.2.2 z hz y List.mem_cons_self, h.2.1.1⟩
theorem filter_all {f : I → Bool} {l : List I} (h : ∀ z ∈ l, f z = true) : l.filter f = l := List.filter_eq_self.mpr h
theorem filter_none {f : I → Bool} {l : List I} (h : ∀ z ∈ l, f z = false) : l.filter f = [] := List.filter_eq_nil_iff.mpr (fun z hz e => by rw [h z hz] at e; cases e)
theorem put_nil (x : I) : put [] x = [x] := rfl
theorem put_lt {L R : List I} {x y : I} (h : Up (L ++ y :: R)) (hx : Na.lt x.1 y.1 = true) : put (L ++ y :: R) x = put L x ++ y :: R := by
  obtain ⟨h1, h2, h3, h4⟩ := up_parts h
  unfold put
  rw [putGo_undone x _ h, putGo_undone x _ h1, List.filter_append, List.filter_append, List.filter_cons, List.filter_cons, if_neg (by rw [lt_asymm hx]; simp), if_pos hx,
    filter_none (l := R) (fun z hz => lt_asymm (lt_trans hx (h4 z hz))), filter_all (l := R) (fun z hz => lt_trans hx (h4 z hz))]
  simp
theorem put_gt {L R : List I} {x y : I} (h : Up (L ++ y :: R)) (hx : Na.lt y.1 x.1 = true) : put (L ++ y :: R) x = L ++ y :: put R x := by
  obtain ⟨h1, h2, h3, h4⟩ := up_parts h
  unfold put
  rw [putGo_undone x _ h, putGo_undone x _ h2, List.filter_append, List.filter_append, List.filter_cons, List.filter_cons, if_pos hx, if_neg (by rw [lt_asymm hx]; simp),
    filter_all (l := L) (fun z hz => lt_trans (h3 z hz) hx), filter_none (l := L) (fun z hz => lt_asymm (lt_trans (h3 z hz) hx))]
  simp
theorem put_eq {L R : List I} {x y : I} (h : Up (L ++ y :: R)) (hx : x.1 = y.1) : put (L ++ y :: R) x = L ++ x :: R := by
  obtain ⟨h1, h2, h3, h4⟩ := up_parts h
  unfold put
  rw [putGo_undone x _ h, List.filter_append, List.filter_append, List.filter_cons, List.filter_cons, hx, lt_irrefl, if_neg (by simp), if_neg (by simp),
    filter_all (l := L) h3, filter_none (l := L) (fun z hz => lt_asymm (h3 z hz)), filter_none (l := R) (fun z hz => lt_asymm (h4 z hz)), filter_all (l := R) h4]
  simp
theorem find_lt {L R : List I} {k : List Nat} {y : I} (h : Up (L ++ y :: R)) (hx : Na.lt k y.1 = true) : find (L ++ y :: R) k = find L k := by
  obtain ⟨h1, h2, h3, h4⟩ := up_parts h
  rw [find_append]
  cases hf : find L k with
  | some z => rfl
  | none =>
    simp only
    refine find_none (fun z hz => ?_)
    rcases List.mem_cons.mp hz with rfl | hz
    · exact fun e => lt_ne hx e.symm
    · exact fun e => lt_ne (lt_trans hx (h4 z hz)) e.symm
theorem find_gt {L R : List I} {k : List Nat} {y : I} (h : Up (L ++ y :: R)) (hx : Na.lt y.1 k = true) : find (L ++ y :: R) k = find R k := by
  obtain ⟨h1, h2, h3, h4⟩ := up_parts h
  rw [find_append, find_none (fun z hz => lt_ne (lt_trans (h3 z hz) hx)), find, if_neg (lt_ne hx)]
theorem find_eq {L R : List I} {k : List Nat} {y : I} (h : Up (L ++ y :: R)) (hx : y.1 = k) : find (L ++ y :: R) k = some y := by
  obtain ⟨h1, h2, h3, h4⟩ := up_parts h
  subst hx
  rw [find_append, find_none (fun z hz => lt_ne (h3 z hz)), find, if_pos rfl]
theorem get_find : ∀ (l : List I) (k : List Nat), It.get l k = (It.find l k).getD It.zero
  | [], _ => rfl
  | x :: l, k => by
    rw [It.get, It.find]
    by_cases h : x.1 = k
    · rw [if_pos h, if_pos h]; rfl
    · rw [if_neg h, if_neg h]; exact get_find l k
/-- what an item weighs -/
def wt (x : I) : Nat := x.1.length + 16 + x.2.2.2.1.length
theorem weight_append (l m : List I) : weight (l ++ m) = weight l + weight m := by simp [weight]
theorem weight_cons (x : I) (m : List I) : weight (x :: m) = wt x + weight m := by simp [weight, wt]
/-- the length and weight of items with one more -/
theorem put_some {l : List I} (h : Up l) {x y : I} (hf : find l x.1 = some y) : (put l x).length = l.length ∧ weight (put l x) + wt y = weight l + wt x := by
  obtain ⟨hm, hk⟩ := find_mem hf
  obtain ⟨L, R, rfl⟩ := List.append_of_mem hm
  rw [put_eq h hk.symm]
  refine ⟨by simp, ?_⟩
  rw [weight_append, weight_append, weight_cons, weight_cons]
  omega
theorem put_none {l : List I} (h : Up l) {x : I} (hf : find l x.1 = none) : (put l x).length = l.length + 1 ∧ weight (put l x) = weight l + wt x := by
  have key : ∀ z ∈ l, z.1 ≠ x.1 := fun z hz e => by
    rw [← e, find_of_mem (h.imp (fun h => lt_ne h)) hz] at hf
    cases hf
  have hp : (l.filter (fun y => Na.lt y.1 x.1) ++ l.filter (fun y => Na.lt x.1 y.1)).Perm l := by
    have : l.filter (fun y => Na.lt x.1 y.1) = l.filter (fun y => !Na.lt y.1 x.1) := List.filter_congr (fun z hz => by
      rcases lt_total z.1 x.1 with h' | h' | h'
      · rw [h', lt_asymm h']; rfl
      · exact absurd h' (key z hz)
      · rw [h', lt_asymm h']; rfl)
    rw [this]
    exact List.filter_append_perm _ _
  have hl := hp.length_eq
  have hw : weight (l.filter (fun y => Na.lt y.1 x.1) ++ l.filter (fun y => Na.lt x.1 y.1)) = weight l := (hp.map _).sum_nat
  unfold put
  rw [putGo_undone x l h]
  rw [List.length_append] at hl
  rw [weight_append] at hw
  rw [weight_append, weight_cons, List.length_append, List.length_cons]
  omega
theorem put_may {l : List I} (h : Up l) (ha : ∀ z ∈ l, may z = true) {x : I} (hx : may x = true) : ∀ z ∈ put l x, may z = true := by
  intro z hz
  unfold put at hz
  rw [putGo_undone x l h, List.mem_append, List.mem_cons] at hz
  rcases hz with hz | rfl | hz
  · exact ha z (List.mem_filter.mp hz).1
  · exact hx
  · exact ha z (List.mem_filter.mp hz).1
theorem may_small {x : I} (h : may x = true) : x.1 ≠ [] ∧ x.1.length ≤ 64 ∧ x.2.2.2.1.length ≤ 32 := by
  simp only [may, Bool.and_eq_true, decide_eq_true_eq] at h
  refine ⟨h.1.1.1, h.1.1.2, ?_⟩
  have hc := h.1.2
  unfold Ce.may at hc
  revert hc
  cases x.2.2.1 <;> simp <;> intros <;> simp_all
theorem weight_le : ∀ {l : List I}, (∀ z ∈ l, may z = true) → weight l ≤ l.length * 112
  | [], _ => by simp [weight]
  | x :: l, h => by
    have h1 := weight_le (l := l) (fun z hz => h z (List.mem_cons_of_mem _ hz))
    obtain ⟨_, h2, h3⟩ := may_small (h x List.mem_cons_self)
    rw [weight_cons, List.length_cons]
    unfold wt
    omega
/-- what is seen of items, till so many are there; whether more are wanted -/
def feed (most : Int) : List I → List I → List I × Bool
  | acc, [] => (acc, true)
  | acc, x :: l => if most ≤ (acc.length : Int) then (acc, false) else feed most (acc ++ [x]) l
theorem feed_append (most : Int) : ∀ (acc l m : List I), feed most acc (l ++ m) = if (feed most acc l).2 = true then feed most (feed most acc l).1 m else feed most acc l
  | acc, [], m => by simp [feed]
  | acc, x :: l, m => by
    rw [List.cons_append, feed, feed]
    by_cases h : most ≤ (acc.length : Int)
    · simp [h]
    · rw [if_neg h, if_neg h]; exact feed_append most _ l m
theorem feed_take (most : Int) : ∀ (acc l : List I), (feed most acc l).1 = acc ++ l.take (most - acc.length).toNat
  | acc, [] => by simp [feed]
  | acc, x :: l => by
    rw [feed]
    by_cases h : most ≤ (acc.length : Int)
    · rw [if_pos h, show (most - (acc.length : Int)).toNat = 0 by omega]; simp
    · rw [if_neg h, feed_take most (acc ++ [x]) l, show (most - (acc.length : Int)).toNat = (most - ((acc ++ [x]).length : Int)).toNat + 1 by simp; omega, List.take_succ_cons]
      simp
theorem feed_scan (L : List I) (lo hi : List Nat) (most : Int) : (feed most [] (L.filter (inside lo hi))).1 = scan L lo hi most := by
  rw [feed_take]
  simp [scan]
theorem feed_len (most : Int) (acc l : List I) : (feed most acc l).1.length ≤ acc.length + l.length := by
  rw [feed_take, List.length_append, List.length_take]
  omega
theorem ge_trans_lo {lo : List Nat} {y z : I} (hz : Na.lt z.1 y.1 = true) (h : ge y.1 lo = false) : ge z.1 lo = false := by
  unfold ge at h ⊢
  simp only [Bool.not_eq_false'] at h ⊢
  exact lt_trans hz h
/-- none below an item that is below the range -/
theorem inside_low {lo hi : List Nat} {L : List I} {y : I} (h : ∀ z ∈ L, Na.lt z.1 y.1 = true) (hy : ge y.1 lo = false) : L.filter (inside lo hi) = [] :=
  filter_none (fun z hz => by unfold inside; rw [ge_trans_lo (h z hz) hy]; rfl)
def below (hi : List Nat) (y : List Nat) : Bool := decide (hi = []) || Na.lt y hi
/-- none above an item that is above the range -/
theorem inside_high {lo hi : List Nat} {R : List I} {y : I} (h : ∀ z ∈ R, Na.lt y.1 z.1 = true) (hy : below hi y.1 = false) : R.filter (inside lo hi) = [] := by
  unfold below at hy
  rw [Bool.or_eq_false_iff] at hy
  refine filter_none (fun z hz => ?_)
  unfold inside
  rw [hy.1]
  cases hl : Na.lt z.1 hi with
  | false => simp
  | true => have := lt_trans (h z hz) hl; rw [hy.2] at this; cases this
theorem filter_node (lo hi : List Nat) (L R : List I) (y : I) : (L ++ y :: R).filter (inside lo hi) = L.filter (inside lo hi) ++ ((if (ge y.1 lo && below hi y.1) = true then [y] else []) ++ R.filter (inside lo hi)) := by
  rw [List.filter_append, List.filter_cons]
  by_cases h : inside lo hi y = true
  · rw [if_pos h, if_pos (show (ge y.1 lo && below hi y.1) = true from h)]; rfl
  · rw [if_neg h, if_neg (show ¬ (ge y.1 lo && below hi y.1) = true from h)]; rfl
theorem scan_all (L : List I) : scan L [] [] (L.length : Nat) = L := by
  unfold scan
  rw [filter_all (fun z _ => by simp [inside, ge]; cases z.1 <;> rfl)]
  simp
end Go.Proofs.Ytpoocjffkhjeaaa.Tn
