/- The plain mathematics of tallies: which there are, what points add to them and take from them. Names no dump. -/
import Derived.Test.YtfeaablomceejaaBMa
namespace Go.Proofs.Ytfeaablomceejaa.Ta

/-- Seg, Bytes -/
abbrev S := Int × Int
def okOne (x : S) : Bool := decide (1 ≤ x.1 ∧ x.1 ≤ 2147483647 ∧ 1 ≤ x.2 ∧ x.2 ≤ 1099511627776)
def after : Option Int → Int → Bool
  | none, _ => true
  | some q, s => decide (q < s)
def chk : Option Int → List S → Bool
  | _, [] => true
  | p, x :: l => okOne x && after p x.1 && chk (some x.1) l
/-- may a tally be? -/
def may (l : List S) : Bool := chk none l && decide (l.length ≤ 4096)
/-- how many bytes a segment has -/
def get : List S → Int → Int
  | [], _ => 0
  | x :: l, s => if x.1 = s then x.2 else get l s
def setGo (s n : Int) : Bool → List S → List S
  | done, [] => if done then [] else [(s, n)]
  | done, x :: l => (if done = false ∧ s ≤ x.1 then [(s, n)] else []) ++ ((if x.1 = s then [] else [x]) ++ setGo s n (done || decide (s ≤ x.1)) l)
/-- a segment has so many bytes -/
def set (l : List S) (s n : Int) : List S := setGo s n (decide (n = 0)) l
def add1 (l : List S) (p : Po.P) : List S := set l p.1 (get l p.1 + p.2.2.1)
def add (l : List S) (ps : List Po.P) : List S := ps.foldl add1 l
def sub : List S → List Po.P → Option (List S)
  | l, [] => some l
  | l, p :: ps => if get l p.1 - p.2.2.1 < 0 then none else sub (set l p.1 (get l p.1 - p.2.2.1)) ps
def join1 (l : List S) (x : S) : List S := set l x.1 (get l x.1 + x.2)
def join (l m : List S) : List S := m.foldl join1 l
def points (ps : List Po.P) : Bool := ps.all Po.may

/-- segments rise, none is empty -/
def Up (l : List S) : Prop := l.Pairwise (fun a b => a.1 < b.1) ∧ ∀ x ∈ l, 1 ≤ x.2

theorem get_out : ∀ {l : List S} {s : Int}, (∀ x ∈ l, x.1 ≠ s) → get l s = 0
  | [], _, _ => rfl
  | x :: l, s, h => by rw [get, if_neg (h x List.mem_cons_self)]; exact get_out (fun y hy => h y (List.mem_cons_of_mem _ hy))
theorem get_low : ∀ {l : List S} {s : Int}, (∀ x ∈ l, s < x.1) → get l s = 0 := fun h => get_out (fun x hx => by have := h x hx; omega)
theorem get_nonneg : ∀ {l : List S} (s : Int), (∀ x ∈ l, 1 ≤ x.2) → 0 ≤ get l s
  | [], _, _ => by simp [get]
  | x :: l, s, h => by
    rw [get]
    split
    · have := h x List.mem_cons_self; omega
    · exact get_nonneg s (fun y hy => h y (List.mem_cons_of_mem _ hy))
theorem up_cons {x : S} {l : List S} : Up (x :: l) ↔ (∀ y ∈ l, x.1 < y.1) ∧ 1 ≤ x.2 ∧ Up l := by
  unfold Up
  rw [List.pairwise_cons]
  constructor
  · rintro ⟨⟨h1, h2⟩, h3⟩
    exact ⟨h1, h3 x List.mem_cons_self, h2, fun y hy => h3 y (List.mem_cons_of_mem _ hy)⟩
  · rintro ⟨h1, h2, h3, h4⟩
    refine ⟨⟨h1, h3⟩, fun y hy => ?_⟩
    rcases List.mem_cons.mp hy with rfl | hy
    · exact h2
    · exact h4 y hy
theorem up_nil : Up [] := ⟨List.Pairwise.nil, fun x hx => by cases hx⟩

/-- two tallies that tell the same are one -/
theorem ext : ∀ {l m : List S}, Up l → Up m → (∀ s, get l s = get m s) → l = m
  | [], [], _, _, _ => rfl
  | [], y :: m, _, h2, h => by
    have h1 := h y.1
    rw [get, get, if_pos rfl] at h1
    have := (up_cons.mp h2).2.1
    omega
  | x :: l, [], h1, _, h => by
    have h2 := h x.1
    rw [get, get, if_pos rfl] at h2
    have := (up_cons.mp h1).2.1
    omega
  | x :: l, y :: m, h1, h2, h => by
    obtain ⟨a1, a2, a3⟩ := up_cons.mp h1
    obtain ⟨b1, b2, b3⟩ := up_cons.mp h2
    have hseg : x.1 = y.1 := by
      rcases Int.lt_trichotomy x.1 y.1 with hl | he | hg
      · have e1 := h x.1
        rw [get, if_pos rfl, get, if_neg (by omega), get_low (fun z hz => by have := b1 z hz; omega)] at e1
        omega
      · exact he
      · have e1 := h y.1
        rw [get, if_neg (by omega), get, if_pos rfl, get_low (fun z hz => by have := a1 z hz; omega)] at e1
        omega
    have hb : x.2 = y.2 := by
      have e1 := h x.1
      rw [get, if_pos rfl, get, if_pos hseg.symm] at e1
      exact e1
    have hxy : x = y := Prod.ext hseg hb
    subst hxy
    congr 1
    refine ext a3 b3 (fun s => ?_)
    by_cases hs : x.1 = s
    · subst hs
      rw [get_low a1, get_low b1]
    · have e1 := h s
      rw [get, if_neg hs, get, if_neg hs] at e1
      exact e1

theorem setGo_done (s n : Int) : ∀ (l : List S), setGo s n true l = l.filter (fun x => decide (x.1 ≠ s))
  | [] => by simp [setGo]
  | x :: l => by
    rw [setGo, Bool.true_or, setGo_done s n l, List.filter_cons]
    by_cases h : x.1 = s
    · simp [h]
    · simp [h]
theorem up_filter {l : List S} (h : Up l) (f : S → Bool) : Up (l.filter f) :=
  ⟨h.1.sublist List.filter_sublist, fun x hx => h.2 x ((List.mem_filter.mp hx).1)⟩
theorem get_filter (s t : Int) : ∀ (l : List S), get (l.filter (fun x => decide (x.1 ≠ s))) t = if t = s then 0 else get l t
  | [] => by simp [get]
  | x :: l => by
    rw [List.filter_cons]
    by_cases h : x.1 = s
    · rw [if_neg (by simp [h]), get_filter s t l, get]
      by_cases ht : t = s
      · rw [if_pos ht, if_pos ht]
      · rw [if_neg ht, if_neg ht, if_neg (by omega)]
    · rw [if_pos (by simp [h]), get, get_filter s t l, get]
      by_cases ht : t = s
      · rw [if_pos ht, if_neg (by omega)]
        simp [ht]
      · rw [if_neg ht]
        simp [ht]
/-- what stands ahead of a place where a segment is put -/
theorem setGo_undone (s n : Int) : ∀ (l : List S), l.Pairwise (fun a b => a.1 < b.1) → setGo s n false l = l.filter (fun x => decide (x.1 < s)) ++ (s, n) :: l.filter (fun x => decide (s < x.1))
  | [], _ => by simp [setGo]
  | x :: l, h => by
    rw [List.pairwise_cons] at h
    rw [setGo]
    by_cases hx : s ≤ x.1
    · have e1 : (x :: l).filter (fun x => decide (x.1 < s)) = [] := by
        rw [List.filter_eq_nil_iff]
        intro y hy
        rcases List.mem_cons.mp hy with rfl | hy
        · simp; omega
        · have := h.1 y hy; simp; omega
      have e2 : l.filter (fun x => decide (x.1 ≠ s)) = l.filter (fun x => decide (s < x.1)) := by
        apply List.filter_congr
        intro y hy
        have := h.1 y hy
        have : (y.1 ≠ s) ↔ (s < y.1) := by omega
        simp only [this]
      rw [e1, if_pos ⟨rfl, hx⟩, show (false || decide (s ≤ x.1)) = true by simp [hx], setGo_done, e2, List.filter_cons]
      by_cases hs : x.1 = s
      · simp [hs]
      · simp [hs, show s < x.1 by omega]
    · rw [if_neg (by simp [hx]), if_neg (by omega), show (false || decide (s ≤ x.1)) = false by simp [hx], setGo_undone s n l h.2, List.filter_cons, if_pos (by simp; omega), List.filter_cons, if_neg (by simp; omega)]
      simp
theorem up_set {l : List S} (h : Up l) (s n : Int) (hn : 0 ≤ n) : Up (set l s n) := by
  unfold set
  by_cases h0 : n = 0
  · rw [show decide (n = 0) = true by simp [h0], setGo_done]; exact up_filter h _
  · rw [show decide (n = 0) = false by simp [h0], setGo_undone s n l h.1]
    refine ⟨?_, ?_⟩
    · rw [List.pairwise_append, List.pairwise_cons]
      refine ⟨(up_filter h _).1, ⟨fun y hy => ?_, (up_filter h _).1⟩, fun a ha b hb => ?_⟩
      · have := (List.mem_filter.mp hy).2; simpa using this
      · have ha' := (List.mem_filter.mp ha).2
        simp only [decide_eq_true_eq] at ha'
        rcases List.mem_cons.mp hb with rfl | hb
        · exact ha'
        · have hb' := (List.mem_filter.mp hb).2
          simp only [decide_eq_true_eq] at hb'
          omega
    · intro x hx
      rw [List.mem_append, List.mem_cons] at hx
      rcases hx with hx | rfl | hx
      · exact h.2 x ((List.mem_filter.mp hx).1)
      · show 1 ≤ n; omega
      · exact h.2 x ((List.mem_filter.mp hx).1)
theorem get_append (t : Int) : ∀ (l m : List S), get (l ++ m) t = if ∃ x ∈ l, x.1 = t then get l t else get m t
  | [], m => by simp
  | x :: l, m => by
    rw [List.cons_append, get, get_append t l m, get]
    by_cases h : x.1 = t
    · rw [if_pos h, if_pos h, if_pos ⟨x, List.mem_cons_self, h⟩]
    · rw [if_neg h, if_neg h]
      by_cases h2 : ∃ y ∈ l, y.1 = t
      · obtain ⟨y, hy, e⟩ := h2
        rw [if_pos ⟨y, hy, e⟩, if_pos ⟨y, List.mem_cons_of_mem _ hy, e⟩]
      · rw [if_neg h2, if_neg]
        rintro ⟨y, hy, e⟩
        rcases List.mem_cons.mp hy with rfl | hy
        · exact h e
        · exact h2 ⟨y, hy, e⟩
theorem get_keep (f : S → Bool) (t : Int) : ∀ (l : List S), (∀ x ∈ l, x.1 = t → f x = true) → get (l.filter f) t = get l t
  | [], _ => rfl
  | x :: l, h => by
    rw [List.filter_cons]
    by_cases hx : f x = true
    · rw [if_pos hx, get, get, get_keep f t l (fun y hy => h y (List.mem_cons_of_mem _ hy))]
    · rw [if_neg hx, get, if_neg (fun e => hx (h x List.mem_cons_self e)), get_keep f t l (fun y hy => h y (List.mem_cons_of_mem _ hy))]
theorem get_set {l : List S} (h : Up l) (s n t : Int) : get (set l s n) t = if t = s then n else get l t := by
  unfold set
  by_cases h0 : n = 0
  · rw [show decide (n = 0) = true by simp [h0], setGo_done, get_filter, h0]
  · rw [show decide (n = 0) = false by simp [h0], setGo_undone s n l h.1, get_append]
    by_cases ht : t = s
    · rw [if_neg, if_pos ht, get, if_pos ht.symm]
      rintro ⟨x, hx, e⟩
      have := (List.mem_filter.mp hx).2
      simp only [decide_eq_true_eq] at this
      omega
    · rw [if_neg ht]
      split
      · next hx =>
        obtain ⟨x, hx, e⟩ := hx
        have := (List.mem_filter.mp hx).2
        simp only [decide_eq_true_eq] at this
        exact get_keep _ _ _ (fun y _ ey => by simp; omega)
      · next hx =>
        rw [get, if_neg (by simpa using fun e => ht e.symm)]
        by_cases hlt : t < s
        · have e1 : get l t = 0 := get_out (fun y hy e => hx ⟨y, List.mem_filter.mpr ⟨hy, by simp; omega⟩, e⟩)
          rw [e1]
          exact get_low (fun y hy => by have := (List.mem_filter.mp hy).2; simp only [decide_eq_true_eq] at this; omega)
        · exact get_keep _ _ _ (fun y _ ey => by simp; omega)

/-- how many bytes points weigh in a segment -/
def weigh : List Po.P → Int → Int
  | [], _ => 0
  | p :: ps, s => (if p.1 = s then p.2.2.1 else 0) + weigh ps s
theorem weigh_append (s : Int) : ∀ (a b : List Po.P), weigh (a ++ b) s = weigh a s + weigh b s
  | [], b => by simp [weigh]
  | p :: a, b => by rw [List.cons_append, weigh, weigh, weigh_append s a b]; omega
theorem weigh_reverse (s : Int) : ∀ (a : List Po.P), weigh a.reverse s = weigh a s
  | [] => rfl
  | p :: a => by rw [List.reverse_cons, weigh_append, weigh_reverse s a, weigh, weigh, weigh]; omega
theorem weigh_nonneg : ∀ {a : List Po.P} (s : Int), (∀ p ∈ a, 0 ≤ p.2.2.1) → 0 ≤ weigh a s
  | [], _, _ => by simp [weigh]
  | p :: a, s, h => by
    have := weigh_nonneg (a := a) s (fun q hq => h q (List.mem_cons_of_mem _ hq))
    have := h p List.mem_cons_self
    rw [weigh]
    split <;> omega
theorem add_up : ∀ (ps : List Po.P) {l : List S}, Up l → (∀ p ∈ ps, 0 ≤ p.2.2.1) → Up (add l ps) ∧ ∀ s, get (add l ps) s = get l s + weigh ps s
  | [], l, h, _ => ⟨h, fun s => by simp [add, weigh]⟩
  | p :: ps, l, h, hp => by
    have h0 := hp p List.mem_cons_self
    have h1 := get_nonneg (l := l) p.1 h.2
    obtain ⟨i1, i2⟩ := add_up ps (l := add1 l p) (up_set h _ _ (by omega)) (fun q hq => hp q (List.mem_cons_of_mem _ hq))
    refine ⟨i1, fun s => ?_⟩
    rw [show add l (p :: ps) = add (add1 l p) ps from rfl, i2 s, add1, get_set h, weigh]
    by_cases hs : p.1 = s
    · subst hs
      rw [if_pos rfl, if_pos rfl]; omega
    · rw [if_neg (fun e => hs e.symm), if_neg hs]; omega
theorem sub_up : ∀ (ps : List Po.P) {l m : List S}, Up l → Up m → (∀ p ∈ ps, 0 ≤ p.2.2.1) → (∀ s, get m s = get l s + weigh ps s) → sub m ps = some l
  | [], l, m, h1, h2, _, h => by
    rw [sub, ext h1 h2 (fun s => by rw [h s, weigh]; omega)]
  | p :: ps, l, m, h1, h2, hp, h => by
    have h0 := hp p List.mem_cons_self
    have e1 := h p.1
    rw [weigh, if_pos rfl] at e1
    have n1 := get_nonneg (l := l) p.1 h1.2
    have n2 := weigh_nonneg (a := ps) p.1 (fun q hq => hp q (List.mem_cons_of_mem _ hq))
    rw [sub, if_neg (by omega)]
    refine sub_up ps h1 (up_set h2 _ _ (by omega)) (fun q hq => hp q (List.mem_cons_of_mem _ hq)) (fun s => ?_)
    rw [get_set h2]
    have e2 := h s
    rw [weigh] at e2
    by_cases hs : s = p.1
    · subst hs
      rw [if_pos rfl] at e2 ⊢; omega
    · rw [if_neg hs]
      rw [if_neg (fun e => hs e.symm)] at e2
      omega
theorem join_up : ∀ (m : List S) {l : List S}, Up l → Up m → Up (join l m) ∧ ∀ s, get (join l m) s = get l s + get m s
  | [], l, h, _ => ⟨h, fun s => by simp [join, get]⟩
  | x :: m, l, h, hm => by
    obtain ⟨m1, m2, m3⟩ := up_cons.mp hm
    have h1 := get_nonneg (l := l) x.1 h.2
    obtain ⟨i1, i2⟩ := join_up m (l := join1 l x) (up_set h _ _ (by omega)) m3
    refine ⟨i1, fun s => ?_⟩
    rw [show join l (x :: m) = join (join1 l x) m from rfl, i2 s, join1, get_set h, get]
    by_cases hs : x.1 = s
    · subst hs
      rw [if_pos rfl, if_pos rfl, get_low m1]; omega
    · rw [if_neg (fun e => hs e.symm), if_neg hs]

theorem chk_iff : ∀ (l : List S) (p : Option Int), chk p l = true ↔ (∀ x ∈ l, okOne x = true) ∧ l.Pairwise (fun a b => a.1 < b.1) ∧ (∀ x ∈ l, after p x.1 = true)
  | [], p => by simp [chk]
  | x :: l, p => by
    rw [chk, Bool.and_eq_true, Bool.and_eq_true, chk_iff l (some x.1), List.pairwise_cons]
    constructor
    · rintro ⟨⟨h1, h2⟩, h3, h4, h5⟩
      refine ⟨fun y hy => ?_, ⟨fun y hy => by have := h5 y hy; simpa [after] using this, h4⟩, fun y hy => ?_⟩
      · rcases List.mem_cons.mp hy with rfl | hy
        · exact h1
        · exact h3 y hy
      · rcases List.mem_cons.mp hy with rfl | hy
        · exact h2
        · cases p with
          | none => rfl
          | some q =>
            have a := h5 y hy
            simp only [after, decide_eq_true_eq] at a h2 ⊢
            omega
    · rintro ⟨h1, ⟨h2, h3⟩, h4⟩
      exact ⟨⟨h1 x List.mem_cons_self, h4 x List.mem_cons_self⟩, fun y hy => h1 y (List.mem_cons_of_mem _ hy), h3, fun y hy => by have := h2 y hy; simpa [after] using this⟩
theorem may_iff (l : List S) : may l = true ↔ (∀ x ∈ l, okOne x = true) ∧ l.Pairwise (fun a b => a.1 < b.1) ∧ l.length ≤ 4096 := by
  rw [may, Bool.and_eq_true, chk_iff, decide_eq_true_eq]
  constructor
  · rintro ⟨⟨h1, h2, _⟩, h3⟩; exact ⟨h1, h2, h3⟩
  · rintro ⟨h1, h2, h3⟩; exact ⟨⟨h1, h2, fun _ _ => rfl⟩, h3⟩
theorem may_up {l : List S} (h : may l = true) : Up l := by
  obtain ⟨h1, h2, _⟩ := (may_iff l).mp h
  exact ⟨h2, fun x hx => by have := h1 x hx; simp only [okOne, decide_eq_true_eq] at this; omega⟩
theorem points_len {ps : List Po.P} (h : points ps = true) : ∀ p ∈ ps, (1 ≤ p.1 ∧ p.1 ≤ 2147483647) ∧ 0 ≤ p.2.2.1 ∧ p.2.2.1 ≤ 4096 := fun p hp => by
  have := (Po.may_iff p).mp (List.all_eq_true.mp h p hp)
  omega
theorem points_nonneg {ps : List Po.P} (h : points ps = true) : ∀ p ∈ ps, 0 ≤ p.2.2.1 := fun p hp => (points_len h p hp).2.1

/-- what is added is taken away again -/
theorem sub_add {l : List S} {ps : List Po.P} (hl : may l = true) (hp : points ps = true) : sub (add l ps) ps = some l :=
  sub_up ps (may_up hl) (add_up ps (may_up hl) (points_nonneg hp)).1 (points_nonneg hp) (add_up ps (may_up hl) (points_nonneg hp)).2
/-- in which order points are added does not matter -/
theorem add_reverse {l : List S} {ps : List Po.P} (hl : may l = true) (hp : points ps = true) : add l ps.reverse = add l ps := by
  have h1 := add_up ps (may_up hl) (points_nonneg hp)
  have h2 := add_up ps.reverse (may_up hl) (fun p hp' => points_nonneg hp p (List.mem_reverse.mp hp'))
  exact ext h2.1 h1.1 (fun s => by rw [h1.2, h2.2, weigh_reverse])
theorem points_append (a b : List Po.P) : points (a ++ b) = (points a && points b) := List.all_append
/-- the tallies of two lists, together, are that of both -/
theorem join_add {a b : List Po.P} (ha : points a = true) (hb : points b = true) : join (add [] a) (add [] b) = add [] (a ++ b) := by
  have h1 := add_up a up_nil (points_nonneg ha)
  have h2 := add_up b up_nil (points_nonneg hb)
  have h3 := join_up (add [] b) h1.1 h2.1
  have h4 := add_up (a ++ b) up_nil (points_nonneg (by rw [points_append, ha, hb]; rfl))
  exact ext h3.1 h4.1 (fun s => by rw [h3.2, h1.2, h2.2, h4.2, weigh_append]; simp [get])
theorem setGo_len (s n : Int) : ∀ (d : Bool) (l : List S), (setGo s n d l).length ≤ l.length + 1
  | d, [] => by rw [setGo]; split <;> simp
  | d, x :: l => by
    cases d with
    | true =>
      rw [setGo_done]
      exact Nat.le_trans (List.length_filter_le _ _) (by simp)
    | false =>
      have h1 : (if x.1 = s then [] else [x]).length ≤ 1 := by split <;> simp
      have h2 : (if false = false ∧ s ≤ x.1 then [(s, n)] else []).length ≤ 1 := by split <;> simp
      rw [setGo, List.length_append, List.length_append, List.length_cons]
      by_cases hx : s ≤ x.1
      · rw [show (false || decide (s ≤ x.1)) = true by simp [hx], setGo_done]
        have := List.length_filter_le (fun x : S => decide (x.1 ≠ s)) l
        omega
      · have h3 := setGo_len s n false l
        have h4 : (if false = false ∧ s ≤ x.1 then [(s, n)] else []).length = 0 := by rw [if_neg (fun h => hx h.2)]; rfl
        rw [show (false || decide (s ≤ x.1)) = false by simp [hx]]
        omega
theorem setGo_mem (s n : Int) {x : S} : ∀ (d : Bool) (l : List S), x ∈ setGo s n d l → x ∈ l ∨ (x = (s, n) ∧ d = false)
  | d, [], h => by
    rw [setGo] at h
    cases d with
    | true => simp at h
    | false => simp at h; exact .inr ⟨h, rfl⟩
  | d, y :: l, h => by
    rw [setGo, List.mem_append, List.mem_append] at h
    rcases h with h | h | h
    · split at h
      · next hc => exact .inr ⟨by simpa using h, hc.1⟩
      · cases h
    · split at h
      · cases h
      · exact .inl (by rw [List.mem_singleton] at h; rw [h]; exact List.mem_cons_self)
    · rcases setGo_mem s n _ l h with h | ⟨h, hd⟩
      · exact .inl (List.mem_cons_of_mem _ h)
      · exact .inr ⟨h, by simp at hd; exact hd.1⟩
theorem add_len : ∀ (ps : List Po.P) (l : List S), (add l ps).length ≤ l.length + ps.length
  | [], l => by simp [add]
  | p :: ps, l => by
    have h1 := add_len ps (add1 l p)
    have h2 := setGo_len p.1 (get l p.1 + p.2.2.1) (decide (get l p.1 + p.2.2.1 = 0)) l
    rw [show add l (p :: ps) = add (add1 l p) ps from rfl, List.length_cons]
    have h3 : (add1 l p).length ≤ l.length + 1 := h2
    omega
theorem add_segs : ∀ (ps : List Po.P) (l : List S), (∀ x ∈ l, 1 ≤ x.1 ∧ x.1 ≤ 2147483647) → (∀ p ∈ ps, 1 ≤ p.1 ∧ p.1 ≤ 2147483647) → ∀ x ∈ add l ps, 1 ≤ x.1 ∧ x.1 ≤ 2147483647
  | [], l, h, _ => h
  | p :: ps, l, h, hp => by
    refine add_segs ps (add1 l p) (fun x hx => ?_) (fun q hq => hp q (List.mem_cons_of_mem _ hq))
    rcases setGo_mem _ _ _ _ hx with hx | ⟨rfl, _⟩
    · exact h x hx
    · exact hp p List.mem_cons_self
theorem weigh_le : ∀ (ps : List Po.P) (s : Int), (∀ p ∈ ps, 0 ≤ p.2.2.1 ∧ p.2.2.1 ≤ 4096) → weigh ps s ≤ 4096 * (ps.length : Int)
  | [], _, _ => by simp [weigh]
  | p :: ps, s, h => by
    have h1 := weigh_le ps s (fun q hq => h q (List.mem_cons_of_mem _ hq))
    have h2 := h p List.mem_cons_self
    rw [weigh, List.length_cons]
    split <;> omega
theorem get_of_mem : ∀ {l : List S} {x : S}, Up l → x ∈ l → get l x.1 = x.2
  | y :: l, x, h, hx => by
    obtain ⟨h1, _, h3⟩ := up_cons.mp h
    rw [get]
    rcases List.mem_cons.mp hx with rfl | hx
    · rw [if_pos rfl]
    · have := h1 x hx
      rw [if_neg (by omega)]
      exact get_of_mem h3 hx
/-- few points are always a tally -/
theorem may_add {ps : List Po.P} (hp : points ps = true) (hn : ps.length ≤ 4096) : may (add [] ps) = true := by
  have h := add_up ps up_nil (points_nonneg hp)
  rw [may_iff]
  refine ⟨fun x hx => ?_, h.1.1, by have := add_len ps []; simp at this; omega⟩
  have h1 := add_segs ps [] (fun x hx => by cases hx) (fun p hp' => (points_len hp p hp').1) x hx
  have h2 := h.1.2 x hx
  have h3 := get_of_mem h.1 hx
  rw [h.2] at h3
  have h4 := weigh_le ps x.1 (fun p hp' => (points_len hp p hp').2)
  simp only [get] at h3
  simp only [okOne, decide_eq_true_eq]
  omega
end Go.Proofs.Ytfeaablomceejaa.Ta
