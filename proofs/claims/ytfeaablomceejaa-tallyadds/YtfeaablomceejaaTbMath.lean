/- The plain mathematics of the program's own way with tallies: sorted shares joined, shares taken away in place. Names no dump. -/
import Derived.Test.YtfeaablomceejaaTaMath
namespace Go.Proofs.Ytfeaablomceejaa.Ta

/-- how many bytes shares have of a segment, all together -/
def tot : List S → Int → Int
  | [], _ => 0
  | x :: l, s => (if x.1 = s then x.2 else 0) + tot l s
theorem tot_append (s : Int) : ∀ (a b : List S), tot (a ++ b) s = tot a s + tot b s
  | [], b => by simp [tot]
  | x :: a, b => by rw [List.cons_append, tot, tot, tot_append s a b]; omega
theorem tot_perm (s : Int) {a b : List S} (h : a.Perm b) : tot a s = tot b s := by
  induction h with
  | nil => rfl
  | cons x _ ih => rw [tot, tot, ih]
  | swap x y l => rw [tot, tot, tot, tot]; omega
  | trans _ _ ih1 ih2 => exact ih1.trans ih2
theorem tot_out {l : List S} {s : Int} (h : ∀ x ∈ l, x.1 ≠ s) : tot l s = 0 := by
  induction l with
  | nil => rfl
  | cons x l ih => rw [tot, if_neg (h x List.mem_cons_self), ih (fun y hy => h y (List.mem_cons_of_mem _ hy))]; rfl
theorem tot_get (s : Int) : ∀ {l : List S}, l.Pairwise (fun a b => a.1 < b.1) → tot l s = get l s
  | [], _ => rfl
  | x :: l, h => by
    rw [List.pairwise_cons] at h
    rw [tot, get]
    by_cases hs : x.1 = s
    · rw [if_pos hs, if_pos hs, tot_out (fun y hy => by have := h.1 y hy; omega)]; omega
    · rw [if_neg hs, if_neg hs, tot_get s h.2]; omega
theorem tot_bound {l : List S} (s : Int) (h : ∀ x ∈ l, 1 ≤ x.2 ∧ x.2 ≤ 1099511627776) : 0 ≤ tot l s ∧ tot l s ≤ (l.length : Int) * 1099511627776 := by
  induction l with
  | nil => simp [tot]
  | cons x l ih =>
    have i1 := ih (fun y hy => h y (List.mem_cons_of_mem _ hy))
    have i2 := h x List.mem_cons_self
    rw [tot, List.length_cons]
    split <;> omega
theorem mem_tot {l : List S} (h : ∀ x ∈ l, 1 ≤ x.2) : ∀ x ∈ l, x.2 ≤ tot l x.1 := by
  induction l with
  | nil => intro x hx; cases hx
  | cons y l ih =>
    have hp : ∀ s, 0 ≤ tot l s := by
      intro s
      clear ih
      induction l with
      | nil => simp [tot]
      | cons z l ih2 =>
        have i1 := ih2 (fun q hq => h q (by rcases List.mem_cons.mp hq with rfl | hq; exact List.mem_cons_self; exact List.mem_cons_of_mem _ (List.mem_cons_of_mem _ hq)))
        have i2 := h z (List.mem_cons_of_mem _ List.mem_cons_self)
        rw [tot]
        split <;> omega
    intro x hx
    have i0 := h y List.mem_cons_self
    rw [tot]
    rcases List.mem_cons.mp hx with rfl | hx
    · have := hp x.1
      rw [if_pos rfl]; omega
    · have := ih (fun q hq => h q (List.mem_cons_of_mem _ hq)) x hx
      split <;> omega

/-- may a tally be: the program's way -/
def chkI : Int → List S → Bool
  | _, [] => true
  | q, x :: l => decide (q < x.1 ∧ x.1 ≤ 2147483647 ∧ 1 ≤ x.2 ∧ x.2 ≤ 1099511627776) && chkI x.1 l
theorem chkI_some : ∀ (l : List S) (q : Int), 0 ≤ q → chkI q l = chk (some q) l
  | [], _, _ => rfl
  | x :: l, q, hq => by
    rw [chkI, chk, okOne, after]
    by_cases h : q < x.1
    · rw [chkI_some l x.1 (by omega)]
      congr 1
      rw [decide_eq_true h, Bool.and_true]
      congr 1
      apply propext
      constructor <;> intro h' <;> omega
    · rw [decide_eq_false h, decide_eq_false (by omega)]; simp
theorem chkI_zero (l : List S) : chkI 0 l = chk none l := by
  cases l with
  | nil => rfl
  | cons x l =>
    rw [chkI, chk, okOne, after, Bool.and_true]
    by_cases h : 0 < x.1
    · rw [chkI_some l x.1 (by omega)]
      congr 1
    · rw [decide_eq_false (by omega), decide_eq_false (by omega)]; simp
theorem may_chkI (l : List S) : may l = (chkI 0 l && decide (l.length ≤ 4096)) := by rw [chkI_zero]; rfl

/-- what points weigh -/
def shares : List Po.P → List S
  | [] => []
  | p :: ps => if 0 < p.2.2.1 then (p.1, p.2.2.1) :: shares ps else shares ps
theorem tot_shares (s : Int) : ∀ {ps : List Po.P}, (∀ p ∈ ps, 0 ≤ p.2.2.1) → tot (shares ps) s = weigh ps s
  | [], _ => rfl
  | p :: ps, h => by
    have h0 := h p List.mem_cons_self
    have ih := tot_shares s (ps := ps) (fun q hq => h q (List.mem_cons_of_mem _ hq))
    rw [shares, weigh]
    by_cases hp : 0 < p.2.2.1
    · rw [if_pos hp, tot, ih]
    · rw [if_neg hp, ih]
      split <;> omega
theorem shares_append (a b : List Po.P) : shares (a ++ b) = shares a ++ shares b := by
  induction a with
  | nil => rfl
  | cons p a ih =>
    rw [List.cons_append, shares, shares, ih]
    split <;> rfl
theorem shares_len : ∀ (ps : List Po.P), (shares ps).length ≤ ps.length
  | [] => by simp [shares]
  | p :: ps => by
    have := shares_len ps
    rw [shares]
    split <;> simp <;> omega
theorem shares_ok {ps : List Po.P} (h : points ps = true) : ∀ x ∈ shares ps, (1 ≤ x.1 ∧ x.1 ≤ 2147483647) ∧ 1 ≤ x.2 ∧ x.2 ≤ 4096 := by
  have hl := points_len h
  clear h
  induction ps with
  | nil => intro x hx; cases hx
  | cons p ps ih =>
    intro x hx
    rw [shares] at hx
    have h0 := hl p List.mem_cons_self
    have ih' := ih (fun q hq => hl q (List.mem_cons_of_mem _ hq))
    split at hx
    · rcases List.mem_cons.mp hx with rfl | hx
      · exact ⟨h0.1, by simp only; omega, h0.2.2⟩
      · exact ih' x hx
    · exact ih' x hx

/-- a share more, of the last segment or one behind it -/
def mstep (acc : List S) (x : S) : List S := if 0 < acc.length ∧ (acc.getD (acc.length - 1) (0, 0)).1 = x.1 then acc.set (acc.length - 1) (x.1, (acc.getD (acc.length - 1) (0, 0)).2 + x.2) else acc ++ [x]
def Asc (l : List S) : Prop := l.Pairwise (fun a b => a.1 ≤ b.1)
theorem up_snoc {a : List S} {y : S} : Up (a ++ [y]) ↔ Up a ∧ (∀ x ∈ a, x.1 < y.1) ∧ 1 ≤ y.2 := by
  unfold Up
  rw [List.pairwise_append]
  constructor
  · rintro ⟨⟨h1, _, h3⟩, h4⟩
    exact ⟨⟨h1, fun x hx => h4 x (List.mem_append_left _ hx)⟩, fun x hx => h3 x hx y (by simp), h4 y (by simp)⟩
  · rintro ⟨⟨h1, h2⟩, h3, h4⟩
    refine ⟨⟨h1, by simp, fun x hx z hz => ?_⟩, fun x hx => ?_⟩
    · rw [List.mem_singleton] at hz; subst hz; exact h3 x hx
    · rcases List.mem_append.mp hx with hx | hx
      · exact h2 x hx
      · rw [List.mem_singleton] at hx; subst hx; exact h4
/-- how the sum stands behind some of the sorted shares -/
structure Mid (d : List S) (k : Nat) (acc : List S) : Prop where
  up : Up acc
  low : ∀ y ∈ acc, ∀ x ∈ d.drop k, y.1 ≤ x.1
  tot : ∀ s, tot acc s = tot (d.take k) s
  len : acc.length ≤ k
  seg : ∀ y ∈ acc, ∃ x ∈ d, y.1 = x.1
theorem mid_zero (d : List S) : Mid d 0 [] := ⟨up_nil, (fun y hy => by cases hy), (fun s => by simp), by simp, (fun y hy => by cases hy)⟩
theorem mstep_snoc (a : List S) (y x : S) : mstep (a ++ [y]) x = if y.1 = x.1 then a ++ [(x.1, y.2 + x.2)] else a ++ [y] ++ [x] := by
  have e1 : (a ++ [y]).length - 1 = a.length := by simp
  have e2 : (a ++ [y]).getD a.length (0, 0) = y := by simp
  unfold mstep
  rw [e1, e2]
  by_cases h : y.1 = x.1
  · rw [if_pos ⟨by simp, h⟩, if_pos h]; simp
  · rw [if_neg (fun e => h e.2), if_neg h]
theorem mid_step {d : List S} {k : Nat} {acc : List S} (hd : Asc d) (hp : ∀ x ∈ d, 1 ≤ x.2) (hk : k < d.length) (h : Mid d k acc) : Mid d (k + 1) (mstep acc (d.getD k (0, 0))) := by
  have e : d.drop k = d.getD k (0, 0) :: d.drop (k + 1) := by rw [List.drop_eq_getElem_cons hk]; simp [hk]
  have et : d.take (k + 1) = d.take k ++ [d.getD k (0, 0)] := by rw [List.take_succ_eq_append_getElem hk]; simp [hk]
  have hm : d.getD k (0, 0) ∈ d := by rw [show d.getD k (0, 0) = d[k] by simp [hk]]; exact List.getElem_mem _
  have hx1 : ∀ z ∈ d.drop (k + 1), (d.getD k (0, 0)).1 ≤ z.1 := by
    have := (List.pairwise_append.mp ((List.take_append_drop k d).symm ▸ hd : Asc (d.take k ++ d.drop k))).2.1
    rw [e, List.pairwise_cons] at this
    exact this.1
  generalize d.getD k (0, 0) = x at *
  have hx0 := hp x hm
  obtain ⟨h1, h2, h3, h4, h5⟩ := h
  rcases List.eq_nil_or_concat acc with rfl | ⟨a, y, rfl⟩
  · have : mstep [] x = [x] := by unfold mstep; rw [if_neg (by simp)]; rfl
    rw [this]
    refine ⟨⟨by simp, fun z hz => by rw [List.mem_singleton] at hz; subst hz; exact hx0⟩, ?_, ?_, by simp, ?_⟩
    · intro y hy z hz; rw [List.mem_singleton] at hy; subst hy; exact hx1 z hz
    · intro s; rw [et, tot_append, ← h3]; simp [Ta.tot]
    · intro y hy; rw [List.mem_singleton] at hy; subst hy; exact ⟨_, hm, rfl⟩
  · rw [List.concat_eq_append] at *
    obtain ⟨u1, u2, u3⟩ := up_snoc.mp h1
    have hyx : y.1 ≤ x.1 := h2 y (by simp) x (by rw [e]; simp)
    rw [mstep_snoc]
    by_cases hs : y.1 = x.1
    · rw [if_pos hs]
      refine ⟨up_snoc.mpr ⟨u1, fun z hz => by have := u2 z hz; simp only; omega, by simp only; omega⟩, ?_, ?_, ?_, ?_⟩
      · intro z hz q hq
        rcases List.mem_append.mp hz with hz | hz
        · exact h2 z (by simp [hz]) q (by rw [e]; exact List.mem_cons_of_mem _ hq)
        · rw [List.mem_singleton] at hz; subst hz; exact hx1 q hq
      · intro s
        have := h3 s
        rw [tot_append] at this
        rw [et, tot_append, tot_append, ← this]
        simp only [Ta.tot, hs]
        split <;> omega
      · simp only [List.length_append, List.length_cons, List.length_nil] at h4 ⊢; omega
      · intro z hz
        rcases List.mem_append.mp hz with hz | hz
        · exact h5 z (by simp [hz])
        · rw [List.mem_singleton] at hz; subst hz; exact ⟨_, hm, rfl⟩
    · rw [if_neg hs]
      refine ⟨up_snoc.mpr ⟨h1, fun z hz => ?_, hx0⟩, ?_, ?_, ?_, ?_⟩
      · rcases List.mem_append.mp hz with hz | hz
        · have := u2 z hz; omega
        · rw [List.mem_singleton] at hz; subst hz; omega
      · intro z hz q hq
        rcases List.mem_append.mp hz with hz | hz
        · exact h2 z hz q (by rw [e]; exact List.mem_cons_of_mem _ hq)
        · rw [List.mem_singleton] at hz; subst hz; exact hx1 q hq
      · intro s
        rw [et, tot_append, tot_append _ (d.take k), ← h3]
      · simp only [List.length_append, List.length_cons, List.length_nil] at h4 ⊢; omega
      · intro z hz
        rcases List.mem_append.mp hz with hz | hz
        · exact h5 z hz
        · rw [List.mem_singleton] at hz; subst hz; exact ⟨_, hm, rfl⟩
/-- all of it: what two tallies are together -/
theorem mid_join {l m d acc : List S} (hl : Up l) (hm : Up m) (hp : (l ++ m).Perm d) (h : Mid d d.length acc) : acc = join l m := by
  obtain ⟨j1, j2⟩ := join_up m hl hm
  refine ext h.up j1 (fun s => ?_)
  rw [← tot_get s h.up.1, h.tot, List.take_length, ← tot_perm s hp, tot_append, tot_get s hl.1, tot_get s hm.1, j2]
/-- all of it: a tally with points more -/
theorem mid_add {l d acc : List S} {ps : List Po.P} (hl : Up l) (hn : ∀ p ∈ ps, 0 ≤ p.2.2.1) (hp : (l ++ shares ps).Perm d) (h : Mid d d.length acc) : acc = add l ps := by
  obtain ⟨j1, j2⟩ := add_up ps hl hn
  refine ext h.up j1 (fun s => ?_)
  rw [← tot_get s h.up.1, h.tot, List.take_length, ← tot_perm s hp, tot_append, tot_get s hl.1, tot_shares s hn, j2]
theorem mid_small {d acc : List S} {k : Nat} (hp : ∀ x ∈ d, 1 ≤ x.2 ∧ x.2 ≤ 1099511627776) (h : Mid d k acc) : ∀ y ∈ acc, 1 ≤ y.2 ∧ y.2 ≤ (k : Int) * 1099511627776 := by
  intro y hy
  refine ⟨h.up.2 y hy, ?_⟩
  have h1 := mem_tot h.up.2 y hy
  rw [h.tot] at h1
  have h2 := (tot_bound (l := d.take k) y.1 (fun x hx => hp x (List.mem_of_mem_take hx))).2
  have h3 : ((d.take k).length : Int) ≤ (k : Int) := by rw [List.length_take]; omega
  omega

/-- shares taken away; none: one can't be -/
def subS : List S → List S → Option (List S)
  | l, [] => some l
  | l, x :: xs => if get l x.1 - x.2 < 0 then none else subS (set l x.1 (get l x.1 - x.2)) xs
theorem set_same {l : List S} (h : Up l) (s : Int) : set l s (get l s) = l :=
  ext (up_set h s _ (get_nonneg s h.2)) h (fun t => by
    rw [get_set h]
    split
    · next e => rw [e]
    · rfl)
theorem sub_subS : ∀ {ps : List Po.P} {l : List S}, Up l → (∀ p ∈ ps, 0 ≤ p.2.2.1) → sub l ps = subS l (shares ps)
  | [], _, _, _ => rfl
  | p :: ps, l, h, hp => by
    have h0 := hp p List.mem_cons_self
    have hp' : ∀ q ∈ ps, 0 ≤ q.2.2.1 := fun q hq => hp q (List.mem_cons_of_mem _ hq)
    have hg := get_nonneg (l := l) p.1 h.2
    rw [sub, shares]
    by_cases hz : 0 < p.2.2.1
    · rw [if_pos hz, subS]
      by_cases hlt : get l p.1 - p.2.2.1 < 0
      · rw [if_pos hlt, if_pos hlt]
      · rw [if_neg hlt, if_neg hlt]
        exact sub_subS (up_set h _ _ (by omega)) hp'
    · have e0 : p.2.2.1 = 0 := by omega
      rw [if_neg hz, if_neg (by omega), e0, Int.sub_zero, set_same h]
      exact sub_subS h hp'
/-- a tally that is being taken from: its segments rise, some may be empty -/
def Ris (l : List S) : Prop := l.Pairwise (fun a b => a.1 < b.1) ∧ ∀ x ∈ l, 0 ≤ x.2
theorem ris_get {l : List S} (h : Ris l) {i : Nat} (hi : i < l.length) : get l (l.getD i (0, 0)).1 = (l.getD i (0, 0)).2 := by
  have h1 := h.1
  clear h
  induction l generalizing i with
  | nil => simp at hi
  | cons x l ih =>
    rw [List.pairwise_cons] at h1
    cases i with
    | zero => simp [get]
    | succ i =>
      have hi' : i < l.length := by simpa using hi
      have := h1.1 (l.getD i (0, 0)) (by rw [show l.getD i (0, 0) = l[i] by simp [hi']]; exact List.getElem_mem _)
      rw [List.getD_cons_succ, get, if_neg (by omega)]
      exact ih hi' h1.2
theorem set_seg {l : List S} {i : Nat} (n : Int) (j : Nat) (hi : i < l.length) : ((l.set i ((l.getD i (0, 0)).1, n)).getD j (0, 0)).1 = (l.getD j (0, 0)).1 := by
  by_cases hj : j < l.length
  · rw [List.getD_eq_getElem?_getD, List.getElem?_set]
    by_cases e : i = j
    · subst e; simp [hi]
    · simp [e]
  · rw [List.getD_eq_getElem?_getD, List.getElem?_eq_none (by simp; omega), List.getD_eq_getElem?_getD, List.getElem?_eq_none (by omega)]
theorem ris_set {l : List S} (h : Ris l) {i : Nat} (hi : i < l.length) {n : Int} (hn : 0 ≤ n) : Ris (l.set i ((l.getD i (0, 0)).1, n)) := by
  refine ⟨?_, fun x hx => ?_⟩
  · rw [List.pairwise_iff_getElem]
    intro a b ha hb hab
    rw [List.length_set] at ha hb
    have e : ∀ j (hj : j < l.length), ((l.set i ((l.getD i (0, 0)).1, n))[j]'(by rw [List.length_set]; exact hj)).1 = l[j].1 := fun j hj => by
      have := set_seg (l := l) (i := i) n j hi
      simpa [hj] using this
    rw [e a ha, e b hb]
    exact (List.pairwise_iff_getElem.mp h.1) a b ha hb hab
  · rcases List.mem_or_eq_of_mem_set hx with hx | hx
    · exact h.2 x hx
    · subst hx; exact hn
theorem ris_set_get {l : List S} (h : Ris l) {i : Nat} (hi : i < l.length) (n t : Int) : get (l.set i ((l.getD i (0, 0)).1, n)) t = if t = (l.getD i (0, 0)).1 then n else get l t := by
  have h1 := h.1
  clear h
  induction l generalizing i with
  | nil => simp at hi
  | cons x l ih =>
    rw [List.pairwise_cons] at h1
    cases i with
    | zero =>
      simp only [List.set_cons_zero, List.getD_cons_zero, get]
      by_cases e : t = x.1
      · rw [if_pos e.symm, if_pos e]
      · rw [if_neg (fun q => e q.symm), if_neg e, if_neg (fun q => e q.symm)]
    | succ i =>
      have hi' : i < l.length := by simpa using hi
      have := h1.1 (l.getD i (0, 0)) (by rw [show l.getD i (0, 0) = l[i] by simp [hi']]; exact List.getElem_mem _)
      rw [List.getD_cons_succ, List.set_cons_succ, get, get, ih hi' h1.2]
      by_cases e : t = (l.getD i (0, 0)).1
      · rw [if_pos e, if_pos e, if_neg (by omega)]
      · rw [if_neg e, if_neg e]
/-- how the tally stands behind some of the shares -/
structure Sbt (l xs : List S) (k : Nat) (left cur : List S) : Prop where
  ris : Ris left
  up : Up cur
  same : ∀ s, get left s = get cur s
  eq : subS l xs = subS cur (xs.drop k)
  le : ∀ x ∈ left, x.2 ≤ 1099511627776
theorem sbt_zero {l : List S} (h : may l = true) (xs : List S) : Sbt l xs 0 l l := by
  have h1 := may_up h
  refine ⟨⟨h1.1, fun x hx => by have := h1.2 x hx; omega⟩, h1, fun _ => rfl, rfl, fun x hx => ?_⟩
  have := ((may_iff l).mp h).1 x hx
  simp only [okOne, decide_eq_true_eq] at this
  omega
theorem drop_getD {l : List S} {k : Nat} (hk : k < l.length) : l.drop k = l.getD k (0, 0) :: l.drop (k + 1) := by rw [List.drop_eq_getElem_cons hk]; simp [hk]
theorem sbt_none {l xs left cur : List S} {k : Nat} (h : Sbt l xs k left cur) (hk : k < xs.length) (hlt : get left (xs.getD k (0, 0)).1 < (xs.getD k (0, 0)).2) : subS l xs = none := by
  rw [h.eq, drop_getD hk, subS, if_pos (by rw [← h.same]; omega)]
theorem sbt_step {l xs left cur : List S} {k i : Nat} (h : Sbt l xs k left cur) (hk : k < xs.length) (hi : i < left.length) (he : (left.getD i (0, 0)).1 = (xs.getD k (0, 0)).1) (hx : 1 ≤ (xs.getD k (0, 0)).2) (hge : (xs.getD k (0, 0)).2 ≤ (left.getD i (0, 0)).2) :
    Sbt l xs (k + 1) (left.set i ((left.getD i (0, 0)).1, (left.getD i (0, 0)).2 - (xs.getD k (0, 0)).2)) (set cur (xs.getD k (0, 0)).1 ((left.getD i (0, 0)).2 - (xs.getD k (0, 0)).2)) := by
  have hg := ris_get h.ris hi
  have hm : left.getD i (0, 0) ∈ left := by rw [show left.getD i (0, 0) = left[i] by simp [hi]]; exact List.getElem_mem _
  have hle := h.le _ hm
  refine ⟨ris_set h.ris hi (by omega), up_set h.up _ _ (by omega), fun s => ?_, ?_, fun x hx' => ?_⟩
  · rw [ris_set_get h.ris hi, get_set h.up, he, h.same]
  · rw [h.eq, drop_getD hk, subS, ← h.same, ← he, hg, if_neg (by omega)]
  · rcases List.mem_or_eq_of_mem_set hx' with hx' | hx'
    · exact h.le x hx'
    · subst hx'; simp only; omega
theorem ris_keep {l : List S} (h : Ris l) : Up (l.filter (fun x => decide (x.2 ≠ 0))) ∧ ∀ s, get (l.filter (fun x => decide (x.2 ≠ 0))) s = get l s := by
  refine ⟨⟨h.1.sublist List.filter_sublist, fun x hx => ?_⟩, fun s => ?_⟩
  · have h1 := List.mem_filter.mp hx
    have h2 := h.2 x h1.1
    have h3 := h1.2
    simp only [decide_eq_true_eq] at h3
    omega
  · have h1 := h.1
    clear h
    induction l with
    | nil => rfl
    | cons x l ih =>
      rw [List.pairwise_cons] at h1
      rw [List.filter_cons]
      by_cases hz : x.2 = 0
      · rw [if_neg (by simp [hz]), ih h1.2, get]
        by_cases e : x.1 = s
        · rw [if_pos e, get_low (fun y hy => by have := h1.1 y hy; omega), hz]
        · rw [if_neg e]
      · rw [if_pos (by simp [hz]), get, get, ih h1.2]
theorem sbt_end {l xs left cur : List S} (h : Sbt l xs xs.length left cur) : subS l xs = some (left.filter (fun x => decide (x.2 ≠ 0))) := by
  rw [h.eq, List.drop_length, subS]
  obtain ⟨k1, k2⟩ := ris_keep h.ris
  rw [ext h.up k1 (fun s => by rw [k2, h.same])]
end Go.Proofs.Ytfeaablomceejaa.Ta
