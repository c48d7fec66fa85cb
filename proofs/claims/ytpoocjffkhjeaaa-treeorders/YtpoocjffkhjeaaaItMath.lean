/- The plain mathematics of items in order: which there may be, putting, finding, ranges, what they weigh. Names no dump. -/
import Derived.Test.YtpoocjffkhjeaaaBMa
import Derived.Test.YtpoocjffkhjeaaaNaMath
namespace Go.Proofs.Ytpoocjffkhjeaaa.It

/-- Key, Dead, Cell -/
abbrev I := List Nat × Bool × Ce.C
def zero : I := ([], false, Ce.zero)
def may (x : I) : Bool := decide (x.1 ≠ []) && decide (x.1.length ≤ 64) && Ce.may x.2.2 && (!x.2.1 || decide (x.2.2 = Ce.zero))
/-- whether items are alike -/
def one (x y : I) : Bool := decide (x.1 = y.1) && decide (x.2.1 = y.2.1) && decide (x.2.2 = y.2.2)
theorem one_iff (x y : I) : one x y = true ↔ x = y := by
  obtain ⟨x1, x2, x3⟩ := x
  obtain ⟨y1, y2, y3⟩ := y
  simp only [one, Bool.and_eq_true, decide_eq_true_eq, Prod.mk.injEq, and_assoc]
def sameGo : List I → List I → Bool
  | [], [] => true
  | x :: l, y :: m => one x y && sameGo l m
  | _, _ => false
theorem sameGo_iff : ∀ (l m : List I), sameGo l m = true ↔ l = m
  | [], [] => by simp [sameGo]
  | [], _ :: _ => by simp [sameGo]
  | _ :: _, [] => by simp [sameGo]
  | x :: l, y :: m => by rw [sameGo, Bool.and_eq_true, one_iff, sameGo_iff l m, List.cons.injEq]
/-- not below -/
def ge (a b : List Nat) : Bool := !Na.lt a b
def putGo (x : I) : Bool → List I → List I
  | d, [] => if d then [] else [x]
  | d, y :: l => (if d = false ∧ ge y.1 x.1 = true then [x] else []) ++ ((if y.1 = x.1 then [] else [y]) ++ putGo x (d || ge y.1 x.1) l)
/-- items with one more -/
def put (l : List I) (x : I) : List I := putGo x false l
/-- items, put one behind the other, those that may be -/
def all (l : List I) : List I := (l.filter may).foldl put []
def get : List I → List Nat → I
  | [], _ => zero
  | x :: l, k => if x.1 = k then x else get l k
def inside (lo hi : List Nat) (x : I) : Bool := ge x.1 lo && (decide (hi = []) || Na.lt x.1 hi)
def scan (l : List I) (lo hi : List Nat) (most : Int) : List I := (l.filter (inside lo hi)).take most.toNat
def weight (l : List I) : Nat := (l.map fun x => x.1.length + 16 + x.2.2.2.1.length).sum
def after : Option (List Nat) → List Nat → Bool
  | none, _ => true
  | some k, m => Na.lt k m
def sortedGo : Option (List Nat) → List I → Bool
  | _, [] => true
  | p, x :: l => may x && after p x.1 && sortedGo (some x.1) l
def sorted (l : List I) : Bool := sortedGo none l
def prev (l : List I) (k : Nat) : Option (List Nat) := if k = 0 then none else some (l.getD (k - 1) zero).1
theorem sorted_step {l : List I} {k : Nat} (hk : k < l.length) : sortedGo (prev l k) (l.drop k) = (may (l.getD k zero) && after (prev l k) (l.getD k zero).1 && sortedGo (prev l (k + 1)) (l.drop (k + 1))) := by
  rw [List.drop_eq_getElem_cons hk, sortedGo]
  have e : l.getD k zero = l[k] := by simp [hk]
  rw [e]
  congr 1
  unfold prev
  rw [if_neg (by omega), Nat.add_sub_cancel, e]
theorem getD_drop {l : List I} {k : Nat} (hk : k < l.length) : l.drop k = l.getD k zero :: l.drop (k + 1) := by
  rw [List.drop_eq_getElem_cons hk]; simp [hk]
theorem putGo_len (x : I) : ∀ (d : Bool) (l : List I), (putGo x d l).length ≤ l.length + 1
  | d, [] => by rw [putGo]; split <;> simp
  | true, y :: l => by
    have h := putGo_done x l
    rw [putGo, if_neg (by simp), List.nil_append, Bool.true_or, h, List.length_append, List.length_cons]
    have h1 : (if y.1 = x.1 then [] else [y]).length ≤ 1 := by split <;> simp
    have h2 := List.length_filter_le (fun y : I => decide (y.1 ≠ x.1)) l
    omega
  | false, y :: l => by
    have h1 : (if y.1 = x.1 then [] else [y]).length ≤ 1 := by split <;> simp
    rw [putGo, List.length_append, List.length_append, List.length_cons]
    by_cases hg : ge y.1 x.1 = true
    · rw [if_pos ⟨rfl, hg⟩, show (false || ge y.1 x.1) = true by simp [hg], putGo_done]
      have h2 := List.length_filter_le (fun y : I => decide (y.1 ≠ x.1)) l
      simp only [List.length_singleton]
      omega
    · rw [if_neg (fun h => hg h.2), show (false || ge y.1 x.1) = false by simp [hg]]
      have := putGo_len x false l
      simp only [List.length_nil]
      omega
where
  putGo_done (x : I) : ∀ (l : List I), putGo x true l = l.filter (fun y => decide (y.1 ≠ x.1))
  | [] => by simp [putGo]
  | y :: l => by
    rw [putGo, if_neg (by simp), List.nil_append, Bool.true_or, putGo_done x l, List.filter_cons]
    by_cases h : y.1 = x.1 <;> simp [h]
theorem putGo_done (x : I) (l : List I) : putGo x true l = l.filter (fun y => decide (y.1 ≠ x.1)) := putGo_len.putGo_done x l

theorem lt_irrefl : ∀ a : List Nat, Na.lt a a = false
  | [] => rfl
  | x :: a => by simp [Na.lt, lt_irrefl a]
theorem lt_trans : ∀ {a b c : List Nat}, Na.lt a b = true → Na.lt b c = true → Na.lt a c = true
  | _, [], _, h, _ => by cases ‹List Nat› <;> simp [Na.lt] at h
  | _, _ :: _, [], _, h => by simp [Na.lt] at h
  | [], _ :: _, _ :: _, _, _ => by simp [Na.lt]
  | x :: a, y :: b, z :: c, h1, h2 => by
    simp only [Na.lt, Bool.or_eq_true, decide_eq_true_eq, Bool.and_eq_true] at h1 h2 ⊢
    rcases h1 with h1 | ⟨rfl, h1⟩
    · rcases h2 with h2 | ⟨rfl, _⟩
      · exact .inl (by omega)
      · exact .inl h1
    · rcases h2 with h2 | ⟨rfl, h2⟩
      · exact .inl h2
      · exact .inr ⟨rfl, lt_trans h1 h2⟩
theorem lt_total : ∀ (a b : List Nat), Na.lt a b = true ∨ a = b ∨ Na.lt b a = true
  | [], [] => .inr (.inl rfl)
  | [], y :: b => .inl (by simp [Na.lt])
  | x :: a, [] => .inr (.inr (by simp [Na.lt]))
  | x :: a, y :: b => by
    simp only [Na.lt, Bool.or_eq_true, decide_eq_true_eq, Bool.and_eq_true, List.cons.injEq]
    rcases Nat.lt_trichotomy x y with h | h | h
    · exact .inl (.inl h)
    · subst h
      rcases lt_total a b with h | h | h
      · exact .inl (.inr ⟨rfl, h⟩)
      · exact .inr (.inl ⟨rfl, h⟩)
      · exact .inr (.inr (.inr ⟨rfl, h⟩))
    · exact .inr (.inr (.inl h))
/-- keys rise -/
def Up (l : List I) : Prop := l.Pairwise (fun a b => Na.lt a.1 b.1 = true)
def find : List I → List Nat → Option I
  | [], _ => none
  | x :: l, k => if x.1 = k then some x else find l k
theorem find_none : ∀ {l : List I} {k : List Nat}, (∀ x ∈ l, x.1 ≠ k) → find l k = none
  | [], _, _ => rfl
  | x :: l, k, h => by rw [find, if_neg (h x List.mem_cons_self)]; exact find_none (fun y hy => h y (List.mem_cons_of_mem _ hy))
theorem lt_ne {a b : List Nat} (h : Na.lt a b = true) : a ≠ b := fun e => by rw [e, lt_irrefl] at h; cases h
theorem lt_asymm {a b : List Nat} (h : Na.lt a b = true) : Na.lt b a = false := by
  cases h2 : Na.lt b a with
  | false => rfl
  | true => have := lt_trans h h2; rw [lt_irrefl] at this; cases this
theorem ext : ∀ {l m : List I}, Up l → Up m → (∀ k, find l k = find m k) → l = m
  | [], [], _, _, _ => rfl
  | [], y :: m, _, _, h => by have := h y.1; rw [find, find, if_pos rfl] at this; cases this
  | x :: l, [], _, _, h => by have := h x.1; rw [find, find, if_pos rfl] at this; cases this
  | x :: l, y :: m, h1, h2, h => by
    have a := List.pairwise_cons.mp h1
    have b := List.pairwise_cons.mp h2
    have hk : x.1 = y.1 := by
      rcases lt_total x.1 y.1 with hl | he | hg
      · have e := h x.1
        rw [find, if_pos rfl, find, if_neg (fun e => lt_ne hl e.symm), find_none (fun z hz e => by have := lt_trans hl (b.1 z hz); exact lt_ne this e.symm)] at e
        cases e
      · exact he
      · have e := h y.1
        rw [find, if_neg (fun e => lt_ne hg e.symm), find, if_pos rfl, find_none (fun z hz e => by have := lt_trans hg (a.1 z hz); exact lt_ne this e.symm)] at e
        cases e
    have hxy : x = y := by
      have e := h x.1
      rw [find, if_pos rfl, find, if_pos hk.symm] at e
      exact Option.some.inj e
    subst hxy
    congr 1
    refine ext a.2 b.2 (fun k => ?_)
    by_cases hs : x.1 = k
    · subst hs
      rw [find_none (fun z hz e => lt_ne (a.1 z hz) e.symm), find_none (fun z hz e => lt_ne (b.1 z hz) e.symm)]
    · have e := h k
      rw [find, if_neg hs, find, if_neg hs] at e
      exact e
theorem putGo_undone (x : I) : ∀ (l : List I), Up l → putGo x false l = l.filter (fun y => Na.lt y.1 x.1) ++ x :: l.filter (fun y => Na.lt x.1 y.1)
  | [], _ => by simp [putGo]
  | y :: l, h => by
    have a := List.pairwise_cons.mp h
    rw [putGo]
    cases hg : Na.lt y.1 x.1 with
    | true =>
      have g : ge y.1 x.1 = false := by simp [ge, hg]
      rw [g, if_neg (by simp), if_neg (lt_ne hg), Bool.or_false, putGo_undone x l a.2, List.filter_cons, if_pos (by simpa using hg), List.filter_cons, if_neg (by simp [lt_asymm hg])]
      simp
    | false =>
      have g : ge y.1 x.1 = true := by simp [ge, hg]
      have e1 : (y :: l).filter (fun y => Na.lt y.1 x.1) = [] := by
        rw [List.filter_eq_nil_iff]
        intro z hz hc
        rcases List.mem_cons.mp hz with rfl | hz
        · rw [hg] at hc; cases hc
        · have := lt_trans (a.1 z hz) hc; rw [hg] at this; cases this
      have hgt : ∀ z ∈ l, Na.lt x.1 z.1 = true := fun z hz => by
        rcases lt_total x.1 y.1 with h' | h' | h'
        · exact lt_trans h' (a.1 z hz)
        · rw [h']; exact a.1 z hz
        · rw [hg] at h'; cases h'
      have e2 : l.filter (fun y => decide (y.1 ≠ x.1)) = l.filter (fun y => Na.lt x.1 y.1) := by
        apply List.filter_congr
        intro z hz
        rw [hgt z hz, decide_eq_true_eq]
        exact fun e => lt_ne (hgt z hz) e.symm
      rw [g, if_pos ⟨rfl, rfl⟩, Bool.false_or, putGo_done, e1, e2, List.filter_cons, List.nil_append]
      by_cases e : y.1 = x.1
      · rw [if_pos e, e, lt_irrefl]; simp
      · have : Na.lt x.1 y.1 = true := by
          rcases lt_total x.1 y.1 with h' | h' | h'
          · exact h'
          · exact absurd h'.symm e
          · rw [hg] at h'; cases h'
        rw [if_neg e, this]; simp
theorem up_put {l : List I} (h : Up l) (x : I) : Up (put l x) := by
  unfold put
  rw [putGo_undone x l h]
  unfold Up
  rw [List.pairwise_append, List.pairwise_cons]
  refine ⟨h.sublist List.filter_sublist, ⟨fun y hy => (List.mem_filter.mp hy).2, h.sublist List.filter_sublist⟩, fun a ha b hb => ?_⟩
  have h1 := (List.mem_filter.mp ha).2
  rcases List.mem_cons.mp hb with rfl | hb
  · exact h1
  · exact lt_trans h1 (List.mem_filter.mp hb).2
theorem find_append (k : List Nat) : ∀ (l m : List I), find (l ++ m) k = match find l k with | some x => some x | none => find m k
  | [], m => rfl
  | x :: l, m => by
    rw [List.cons_append, find, find]
    by_cases h : x.1 = k
    · rw [if_pos h, if_pos h]
    · rw [if_neg h, if_neg h]; exact find_append k l m
theorem find_filter (f : I → Bool) (k : List Nat) : ∀ (l : List I), (∀ x ∈ l, x.1 = k → f x = true) → find (l.filter f) k = find l k
  | [], _ => rfl
  | x :: l, h => by
    rw [List.filter_cons]
    by_cases hx : f x = true
    · rw [if_pos hx, find, find, find_filter f k l (fun y hy => h y (List.mem_cons_of_mem _ hy))]
    · rw [if_neg hx, find, if_neg (fun e => hx (h x List.mem_cons_self e)), find_filter f k l (fun y hy => h y (List.mem_cons_of_mem _ hy))]
theorem find_put {l : List I} (h : Up l) (x : I) (k : List Nat) : find (put l x) k = if x.1 = k then some x else find l k := by
  unfold put
  rw [putGo_undone x l h, find_append, find]
  by_cases hk : x.1 = k
  · subst hk
    rw [find_none (fun y hy e => by have := (List.mem_filter.mp hy).2; rw [e, lt_irrefl] at this; cases this), if_pos rfl]
    simp
  · rw [if_neg hk, if_neg hk]
    rcases lt_total k x.1 with h' | h' | h'
    · rw [find_filter _ k l (fun y _ e => by rw [e]; exact h')]
      cases hf : find l k with
      | some y => rfl
      | none => exact find_none (fun y hy e => by have := (List.mem_filter.mp hy).2; rw [e, lt_asymm h'] at this; cases this)
    · exact absurd h'.symm hk
    · rw [find_none (fun y hy e => by have := (List.mem_filter.mp hy).2; rw [e, lt_asymm h'] at this; cases this)]
      exact find_filter _ k l (fun y _ e => by rw [e]; exact h')
theorem up_fold : ∀ (p l : List I), Up l → Up (p.foldl put l)
  | [], _, h => h
  | x :: p, _, h => up_fold p _ (up_put h x)
theorem up_all (l : List I) : Up (all l) := up_fold _ _ List.Pairwise.nil
/-- items of unlike keys, put in whatever order -/
theorem find_fold : ∀ (p l : List I), Up l → p.Pairwise (fun a b => a.1 ≠ b.1) → ∀ k, find (p.foldl put l) k = match find p k with | some x => some x | none => find l k
  | [], _, _, _, _ => rfl
  | x :: p, l, h, hp, k => by
    have a := List.pairwise_cons.mp hp
    rw [List.foldl_cons, find_fold p (put l x) (up_put h x) a.2 k, find_put h, find]
    by_cases hk : x.1 = k
    · subst hk
      rw [find_none (fun y hy e => a.1 y hy e.symm), if_pos rfl]
      simp
    · rw [if_neg hk, if_neg hk]
theorem find_mem : ∀ {l : List I} {k : List Nat} {x : I}, find l k = some x → x ∈ l ∧ x.1 = k
  | y :: _, k, _, h => by
    rw [find] at h
    by_cases e : y.1 = k
    · rw [if_pos e] at h
      cases h
      exact ⟨List.mem_cons_self, e⟩
    · rw [if_neg e] at h
      exact ⟨List.mem_cons_of_mem _ (find_mem h).1, (find_mem h).2⟩
theorem find_of_mem : ∀ {l : List I} {x : I}, l.Pairwise (fun a b => a.1 ≠ b.1) → x ∈ l → find l x.1 = some x
  | y :: l, x, h, hx => by
    have a := List.pairwise_cons.mp h
    rw [find]
    rcases List.mem_cons.mp hx with rfl | hx
    · rw [if_pos rfl]
    · rw [if_neg (a.1 x hx)]; exact find_of_mem a.2 hx
/-- in which order items of unlike keys are put does not matter -/
theorem put_any {l p : List I} (hl : Up l) (hp : p.Perm l) : p.foldl put [] = l := by
  have hd : l.Pairwise (fun a b => a.1 ≠ b.1) := hl.imp (fun h => lt_ne h)
  have hpd : p.Pairwise (fun a b => a.1 ≠ b.1) := (hp.pairwise_iff (fun h => Ne.symm h)).mpr hd
  refine ext (up_fold p [] List.Pairwise.nil) hl (fun k => ?_)
  rw [find_fold p [] List.Pairwise.nil hpd k]
  cases h : find p k with
  | some x =>
    obtain ⟨h1, h2⟩ := find_mem h
    subst h2
    exact (find_of_mem hd (hp.mem_iff.mp h1)).symm
  | none =>
    cases h2 : find l k with
    | none => rfl
    | some x =>
      obtain ⟨h3, h4⟩ := find_mem h2
      subst h4
      rw [find_of_mem hpd (hp.mem_iff.mpr h3)] at h
      cases h
end Go.Proofs.Ytpoocjffkhjeaaa.It
