/- Stable order, of whatever is compared: lists that hold the same, class by class, and are in order are one list; what insertion and merging by halves want. Names no dump. -/
import Derived.Test.YtmafbgfldojbbaaPoMath
namespace Go.Proofs.Ytmafbgfldojbbaa.So

variable {α : Type}
/-- a strict order with ties -/
structure SW (lt : α → α → Bool) : Prop where
  trans : ∀ {a b c : α}, lt b a = false → lt c b = false → lt c a = false
  asymm : ∀ {a b : α}, lt a b = true → lt b a = false
def eqv (lt : α → α → Bool) (x y : α) : Bool := !lt x y && !lt y x
/-- the same things, those that tie in one order -/
def Stab (lt : α → α → Bool) (l m : List α) : Prop := ∀ x, l.filter (eqv lt x) = m.filter (eqv lt x)
/-- in order -/
def Sorted (lt : α → α → Bool) (l : List α) : Prop := l.Pairwise fun a b => lt b a = false

theorem SW.irrefl {lt : α → α → Bool} (h : SW lt) (a : α) : lt a a = false := by
  cases e : lt a a with
  | false => rfl
  | true => have := h.asymm e; rw [e] at this; exact this
theorem eqv_iff {lt : α → α → Bool} {x y : α} : eqv lt x y = true ↔ lt x y = false ∧ lt y x = false := by simp [eqv]
theorem SW.eqv_trans {lt : α → α → Bool} (h : SW lt) {x y z : α} (h1 : eqv lt x y = true) (h2 : eqv lt x z = true) : eqv lt y z = true := by
  rw [eqv_iff] at *
  exact ⟨h.trans h2.1 h1.2, h.trans h1.1 h2.2⟩
theorem SW.strict {lt : α → α → Bool} (h : SW lt) {a b c d : α} (h1 : lt b a = false) (h2 : lt b c = true) (h3 : lt d c = false) : lt a d = true := by
  cases e : lt a d with
  | true => rfl
  | false =>
    -- d ≤ a ≤ b, so d ≤ b; c ≤ d: so c ≤ b: not b < c
    have h4 : lt b d = false := h.trans e h1
    have h5 : lt b c = false := h.trans h3 h4
    rw [h2] at h5; cases h5

theorem Stab.refl (lt : α → α → Bool) (l : List α) : Stab lt l l := fun _ => rfl
theorem Stab.trans {lt : α → α → Bool} {a b c : List α} (h : Stab lt a b) (h' : Stab lt b c) : Stab lt a c := fun k => (h k).trans (h' k)
theorem Stab.symm {lt : α → α → Bool} {a b : List α} (h : Stab lt a b) : Stab lt b a := fun k => (h k).symm
theorem Stab.app {lt : α → α → Bool} {a a' b b' : List α} (h : Stab lt a a') (h' : Stab lt b b') : Stab lt (a ++ b) (a' ++ b') := fun k => by rw [List.filter_append, List.filter_append, h k, h' k]
theorem Stab.mem {lt : α → α → Bool} (hs : SW lt) {a b : List α} (h : Stab lt a b) (p : α) : p ∈ a ↔ p ∈ b := by
  have e := h p
  have hp : eqv lt p p = true := eqv_iff.mpr ⟨hs.irrefl p, hs.irrefl p⟩
  constructor
  · intro hm
    have : p ∈ a.filter (eqv lt p) := List.mem_filter.mpr ⟨hm, hp⟩
    rw [e] at this
    exact (List.mem_filter.mp this).1
  · intro hm
    have : p ∈ b.filter (eqv lt p) := List.mem_filter.mpr ⟨hm, hp⟩
    rw [← e] at this
    exact (List.mem_filter.mp this).1
theorem stab_nil {lt : α → α → Bool} (hs : SW lt) {l : List α} (h : Stab lt [] l) : l = [] := by
  cases l with
  | nil => rfl
  | cons p l => have := (h.mem hs p).mpr (by simp); cases this
/-- ordered lists that hold the same are the same -/
theorem stab_unique {lt : α → α → Bool} (hs : SW lt) : ∀ {a b : List α}, Stab lt a b → Sorted lt a → Sorted lt b → a = b := by
  intro a
  induction a with
  | nil => intro b h _ _; exact (stab_nil hs h).symm
  | cons p a ih =>
    intro b h ha hb
    cases b with
    | nil => have := stab_nil hs h.symm; cases this
    | cons q b =>
      have ha' := List.pairwise_cons.mp ha
      have hb' := List.pairwise_cons.mp hb
      have h1 : lt q p = false := by
        rcases List.mem_cons.mp ((h.mem hs q).mpr (by simp)) with e | e
        · rw [e]; exact hs.irrefl p
        · exact ha'.1 q e
      have h2 : lt p q = false := by
        rcases List.mem_cons.mp ((h.mem hs p).mp (by simp)) with e | e
        · rw [e]; exact hs.irrefl q
        · exact hb'.1 p e
      have e := h p
      rw [List.filter_cons_of_pos (eqv_iff.mpr ⟨hs.irrefl p, hs.irrefl p⟩), List.filter_cons_of_pos (eqv_iff.mpr ⟨h2, h1⟩)] at e
      simp only [List.cons.injEq] at e
      obtain ⟨rfl, _⟩ := e
      have : a = b := by
        refine ih (fun k => ?_) ha'.2 hb'.2
        have e := h k
        by_cases hp : eqv lt k p = true
        · rw [List.filter_cons_of_pos hp, List.filter_cons_of_pos hp] at e
          simpa using e
        · rw [List.filter_cons_of_neg hp, List.filter_cons_of_neg hp] at e
          exact e
      rw [this]

/-- two stretches, nothing of the one tied with anything of the other, may change places -/
theorem stab_swap {lt : α → α → Bool} (hs : SW lt) {u v : List α} (h : ∀ a ∈ u, ∀ b ∈ v, lt b a = true ∨ lt a b = true) : Stab lt (u ++ v) (v ++ u) := by
  intro k
  rw [List.filter_append, List.filter_append]
  by_cases hu : u.filter (eqv lt k) = []
  · rw [hu]; simp
  · obtain ⟨a, ha⟩ := List.exists_mem_of_ne_nil _ hu
    have hv : v.filter (eqv lt k) = [] := by
      rw [List.filter_eq_nil_iff]
      intro b hb hk
      have hka := (List.mem_filter.mp ha)
      have := eqv_iff.mp (hs.eqv_trans hka.2 hk)
      rcases h a hka.1 b hb with e | e
      · rw [this.2] at e; cases e
      · rw [this.1] at e; cases e
    rw [hv]; simp

theorem sorted_app {lt : α → α → Bool} {a b : List α} : Sorted lt (a ++ b) ↔ Sorted lt a ∧ Sorted lt b ∧ ∀ x ∈ a, ∀ y ∈ b, lt y x = false := List.pairwise_append
theorem sorted_nil (lt : α → α → Bool) : Sorted lt [] := List.Pairwise.nil
theorem sorted_one (lt : α → α → Bool) (x : α) : Sorted lt [x] := List.pairwise_singleton _ x
theorem sorted_take {lt : α → α → Bool} {l : List α} (h : Sorted lt l) (k : Nat) : Sorted lt (l.take k) := h.sublist (List.take_sublist k l)
theorem sorted_drop {lt : α → α → Bool} {l : List α} (h : Sorted lt l) (k : Nat) : Sorted lt (l.drop k) := h.sublist (List.drop_sublist k l)
theorem sorted_short {lt : α → α → Bool} {l : List α} (h : l.length ≤ 1) : Sorted lt l := by
  match l, h with
  | [], _ => exact sorted_nil lt
  | [x], _ => exact sorted_one lt x
theorem sorted_get {lt : α → α → Bool} (hs : SW lt) {l : List α} (h : Sorted lt l) {i j : Nat} (d : α) (hij : i ≤ j) (hj : j < l.length) : lt (l.getD j d) (l.getD i d) = false := by
  rw [List.getD_eq_getElem?_getD, List.getD_eq_getElem?_getD, List.getElem?_eq_getElem hj, List.getElem?_eq_getElem (by omega)]
  rcases Nat.eq_or_lt_of_le hij with e | e
  · subst e; exact hs.irrefl _
  · exact List.pairwise_iff_getElem.mp h i j (by omega) hj e
theorem mem_take {l : List α} {q : α} {k : Nat} (d : α) (h : q ∈ l.take k) : ∃ i, i < k ∧ i < l.length ∧ l.getD i d = q := by
  obtain ⟨i, hi, e⟩ := List.getElem_of_mem h
  have hl : i < k ∧ i < l.length := by simpa [List.length_take, Nat.lt_min] using hi
  refine ⟨i, hl.1, hl.2, ?_⟩
  rw [List.getElem_take] at e
  rw [List.getD_eq_getElem?_getD, List.getElem?_eq_getElem hl.2]; exact e
theorem mem_drop {l : List α} {q : α} {k : Nat} (d : α) (h : q ∈ l.drop k) : ∃ i, k ≤ i ∧ i < l.length ∧ l.getD i d = q := by
  obtain ⟨i, hi, e⟩ := List.getElem_of_mem h
  rw [List.length_drop] at hi
  refine ⟨k + i, by omega, by omega, ?_⟩
  rw [List.getElem_drop] at e
  rw [List.getD_eq_getElem?_getD, List.getElem?_eq_getElem (by omega)]; exact e

/-- a thing laid behind those that are not greater, ahead of those that are -/
theorem ins_mid {lt : α → α → Bool} (hs : SW lt) {X1 X2 : List α} {p : α} (h : Sorted lt (X1 ++ X2)) (h1 : ∀ q ∈ X1, lt p q = false) (h2 : ∀ q ∈ X2, lt p q = true) :
    Sorted lt (X1 ++ [p] ++ X2) ∧ Stab lt (X1 ++ X2 ++ [p]) (X1 ++ [p] ++ X2) := by
  have hp := sorted_app.mp h
  constructor
  · rw [List.append_assoc, sorted_app]
    refine ⟨hp.1, ?_, ?_⟩
    · rw [sorted_app]
      refine ⟨sorted_one lt p, hp.2.1, fun x hx y hy => ?_⟩
      simp only [List.mem_singleton] at hx; subst hx
      exact hs.asymm (h2 y hy)
    · intro a ha b hb
      rcases List.mem_cons.mp hb with rfl | hb
      · exact h1 a ha
      · exact hp.2.2 a ha b hb
  · rw [List.append_assoc, List.append_assoc]
    refine Stab.app (Stab.refl lt X1) (stab_swap hs fun a ha b hb => ?_)
    simp only [List.mem_singleton] at hb; subst hb
    exact .inl (h2 a ha)
/-- the first of a list laid behind those that are lesser -/
theorem ins_first {lt : α → α → Bool} (hs : SW lt) {B1 B2 : List α} {x : α} (h : Sorted lt (B1 ++ B2)) (h1 : ∀ q ∈ B1, lt q x = true) (h2 : ∀ q ∈ B2, lt q x = false) :
    Sorted lt (B1 ++ [x] ++ B2) ∧ Stab lt ([x] ++ (B1 ++ B2)) (B1 ++ [x] ++ B2) := by
  have hp := sorted_app.mp h
  constructor
  · rw [List.append_assoc, sorted_app]
    refine ⟨hp.1, ?_, ?_⟩
    · rw [sorted_app]
      refine ⟨sorted_one lt x, hp.2.1, fun a ha y hy => ?_⟩
      simp only [List.mem_singleton] at ha; subst ha
      exact h2 y hy
    · intro a ha b hb
      rcases List.mem_cons.mp hb with rfl | hb
      · exact hs.asymm (h1 a ha)
      · exact hp.2.2 a ha b hb
  · rw [← List.append_assoc]
    refine Stab.app (stab_swap hs fun a ha b hb => ?_) (Stab.refl lt B2)
    simp only [List.mem_singleton] at ha; subst ha
    exact .inl (h1 b hb)

/-- halves, each ordered anew -/
theorem sym_join {lt : α → α → Bool} (hs : SW lt) {A1 A2 B1 B2 X1 X2 : List α} (hA : Sorted lt (A1 ++ A2)) (hB : Sorted lt (B1 ++ B2))
    (c1 : ∀ a ∈ A1, ∀ b ∈ B2, lt b a = false) (c2 : ∀ a ∈ A2, ∀ b ∈ B1, lt b a = true)
    (s1 : Stab lt (A1 ++ B1) X1) (o1 : Sorted lt X1) (s2 : Stab lt (A2 ++ B2) X2) (o2 : Sorted lt X2) :
    Sorted lt (X1 ++ X2) ∧ Stab lt (A1 ++ A2 ++ (B1 ++ B2)) (X1 ++ X2) := by
  have hA' := sorted_app.mp hA
  have hB' := sorted_app.mp hB
  constructor
  · rw [sorted_app]
    refine ⟨o1, o2, fun x hx y hy => ?_⟩
    rcases List.mem_append.mp ((s1.mem hs x).mpr hx) with h | h <;> rcases List.mem_append.mp ((s2.mem hs y).mpr hy) with h' | h'
    · exact hA'.2.2 x h y h'
    · exact c1 x h y h'
    · exact hs.asymm (c2 y h' x h)
    · exact hB'.2.2 x h y h'
  · refine Stab.trans ?_ (s1.app s2)
    have : Stab lt (A2 ++ B1) (B1 ++ A2) := stab_swap hs (fun a ha b hb => .inl (c2 a ha b hb))
    have := Stab.app (Stab.refl lt A1) (Stab.app this (Stab.refl lt B2))
    simpa [List.append_assoc] using this

/-- where the search over two ordered lists ends -/
theorem sym_cross {lt : α → α → Bool} (hs : SW lt) {A B : List α} (d : α) (hA : Sorted lt A) (hB : Sorted lt B) (h s : Nat) (hlo : h - B.length ≤ s) (hhi : s ≤ min h A.length)
    (f1 : s = h - B.length ∨ lt (B.getD (h - s) d) (A.getD (s - 1) d) = false) (f2 : s = min h A.length ∨ lt (B.getD (h - 1 - s) d) (A.getD s d) = true) :
    (∀ a ∈ A.take s, ∀ b ∈ B.drop (h - s), lt b a = false) ∧ (∀ a ∈ A.drop s, ∀ b ∈ B.take (h - s), lt b a = true) := by
  constructor
  · intro a ha b hb
    obtain ⟨i, hi, hi', rfl⟩ := mem_take d ha
    obtain ⟨j, hj, hj', rfl⟩ := mem_drop d hb
    rcases f1 with f1 | f1
    · omega
    · have e1 := sorted_get hs hA (i := i) (j := s - 1) d (by omega) (by omega)
      have e2 := sorted_get hs hB (i := h - s) (j := j) d hj hj'
      exact hs.trans (hs.trans e1 f1) e2
  · intro a ha b hb
    obtain ⟨i, hi, hi', rfl⟩ := mem_drop d ha
    obtain ⟨j, hj, hj', rfl⟩ := mem_take d hb
    rcases f2 with f2 | f2
    · omega
    · have e1 := sorted_get hs hA (i := s) (j := i) d hi hi'
      have e2 := sorted_get hs hB (i := j) (j := h - 1 - s) d (by omega) (by omega)
      exact hs.strict e2 f2 e1
/-- where the search for a place among ordered ones ends: ahead of it all are lesser -/
theorem low_cross {lt : α → α → Bool} (hs : SW lt) {B : List α} (x d : α) (hB : Sorted lt B) (s : Nat) (hs' : s ≤ B.length)
    (f1 : s = 0 ∨ lt (B.getD (s - 1) d) x = true) (f2 : s = B.length ∨ lt (B.getD s d) x = false) :
    (∀ b ∈ B.take s, lt b x = true) ∧ (∀ b ∈ B.drop s, lt b x = false) := by
  constructor
  · intro b hb
    obtain ⟨i, hi, hi', rfl⟩ := mem_take d hb
    rcases f1 with f1 | f1
    · omega
    · exact hs.strict (sorted_get hs hB (i := i) (j := s - 1) d (by omega) (by omega)) f1 (hs.irrefl x)
  · intro b hb
    obtain ⟨i, hi, hi', rfl⟩ := mem_drop d hb
    rcases f2 with f2 | f2
    · omega
    · exact hs.trans f2 (sorted_get hs hB (i := s) (j := i) d hi hi')
/-- likewise: ahead of it none is greater -/
theorem up_cross {lt : α → α → Bool} (hs : SW lt) {A : List α} (y d : α) (hA : Sorted lt A) (s : Nat) (hs' : s ≤ A.length)
    (f1 : s = 0 ∨ lt y (A.getD (s - 1) d) = false) (f2 : s = A.length ∨ lt y (A.getD s d) = true) :
    (∀ a ∈ A.take s, lt y a = false) ∧ (∀ a ∈ A.drop s, lt y a = true) := by
  constructor
  · intro b hb
    obtain ⟨i, hi, hi', rfl⟩ := mem_take d hb
    rcases f1 with f1 | f1
    · omega
    · exact hs.trans (sorted_get hs hA (i := i) (j := s - 1) d (by omega) (by omega)) f1
  · intro b hb
    obtain ⟨i, hi, hi', rfl⟩ := mem_drop d hb
    rcases f2 with f2 | f2
    · omega
    · exact hs.strict (hs.irrefl y) f2 (sorted_get hs hA (i := s) (j := i) d hi hi')

/-! runs -/
/-- stretches of k, each in order -/
def Runs (lt : α → α → Bool) (k : Nat) (l : List α) : Prop := ∀ j, Sorted lt ((l.drop (j * k)).take k)
theorem runs_nil (lt : α → α → Bool) (k : Nat) : Runs lt k [] := fun j => by simp [Sorted]
theorem runs_snoc {lt : α → α → Bool} {k : Nat} {D S : List α} (hD : Runs lt k D) (q : Nat) (hl : D.length = q * k) (hS : Sorted lt S) (hk : S.length ≤ k) : Runs lt k (D ++ S) := by
  intro j
  rcases Nat.lt_or_ge j q with h | h
  · have : (j + 1) * k ≤ q * k := Nat.mul_le_mul_right k h
    rw [Nat.succ_mul] at this
    rw [List.drop_append_of_le_length (by omega), List.take_append_of_le_length (by rw [List.length_drop]; omega)]
    exact hD j
  · have : q * k ≤ j * k := Nat.mul_le_mul_right k h
    rw [List.drop_append, List.drop_of_length_le (by omega), List.nil_append]
    exact sorted_take (sorted_drop hS _) _
theorem runs_drop {lt : α → α → Bool} {k : Nat} {l : List α} (h : Runs lt k l) (q : Nat) : Runs lt k (l.drop (q * k)) := by
  intro j
  rw [List.drop_drop, ← Nat.add_mul]
  exact h (q + j)
theorem runs_first {lt : α → α → Bool} {k : Nat} {l : List α} (h : Runs lt k l) : Sorted lt (l.take k) := by simpa using h 0
theorem runs_second {lt : α → α → Bool} {k : Nat} {l : List α} (h : Runs lt k l) : Sorted lt ((l.drop k).take k) := by simpa using h 1
theorem runs_whole {lt : α → α → Bool} {k : Nat} {l : List α} (h : Runs lt k l) (hk : l.length ≤ k) : Sorted lt l := by
  have := runs_first h
  rwa [List.take_of_length_le hk] at this
end Go.Proofs.Ytmafbgfldojbbaa.So
namespace Go.Proofs.Ytmafbgfldojbbaa.Po
open So

theorem less_iff (a b : P) : less a b = true ↔ a.1 < b.1 ∨ (a.1 = b.1 ∧ a.2.1 < b.2.1) := by
  unfold less
  split
  · next h => simp [h]
  · next h => simp only [decide_eq_true_eq]; omega
theorem less_false (a b : P) : less a b = false ↔ ¬ (a.1 < b.1 ∨ (a.1 = b.1 ∧ a.2.1 < b.2.1)) := by
  rw [← less_iff]; simp
theorem less_sw : SW less := ⟨fun h h' => by rw [less_false] at *; omega, fun h => by rw [less_false]; rw [less_iff] at h; omega⟩

/-! the insertion that the reference does -/
theorem cut_spec (out : List P) (p : P) (hs : Sorted less out) : ∀ k, k ≤ out.length → (∀ i, k ≤ i → i < out.length → less p (out.getD i zero) = true) →
    (∀ i, i < cut out p k → less p (out.getD i zero) = false) ∧ (∀ i, cut out p k ≤ i → i < out.length → less p (out.getD i zero) = true) := by
  intro k
  induction k with
  | zero => intro _ h; exact ⟨fun i hi => by simp [cut] at hi, fun i _ hi => h i (by omega) hi⟩
  | succ k ih =>
    intro hk h
    unfold cut
    split
    · next hl =>
      exact ih (by omega) (fun i h1 h2 => by
        rcases Nat.eq_or_lt_of_le h1 with e | e
        · subst e; exact hl
        · exact h i e h2)
    · next hl =>
      have hl : less p (out.getD k zero) = false := by simpa using hl
      exact ⟨fun i hi => less_sw.trans (sorted_get less_sw hs (i := i) (j := k) zero (by omega) (by omega)) hl, h⟩
theorem ins_ok (out : List P) (p : P) (hs : Sorted less out) : Sorted less (ins out p) ∧ Stab less (out ++ [p]) (ins out p) := by
  obtain ⟨h1, h2⟩ := cut_spec out p hs out.length (Nat.le_refl _) (fun i h1 h2 => by omega)
  unfold ins
  generalize cut out p out.length = c at *
  have := ins_mid less_sw (X1 := out.take c) (X2 := out.drop c) (p := p) (by rw [List.take_append_drop]; exact hs) (fun q hq => by
    obtain ⟨i, hi1, hi2, rfl⟩ := mem_take zero hq
    exact h1 i hi1) (fun q hq => by
    obtain ⟨i, hi1, hi2, rfl⟩ := mem_drop zero hq
    exact h2 i hi1 hi2)
  rw [List.take_append_drop] at this
  exact this
theorem ord_ok (l : List P) : Sorted less (ord l) ∧ Stab less l (ord l) := by
  have : ∀ (l acc : List P), Sorted less acc → Sorted less (l.foldl ins acc) ∧ Stab less (acc ++ l) (l.foldl ins acc) := by
    intro l
    induction l with
    | nil => intro acc h; exact ⟨h, by simpa using Stab.refl less acc⟩
    | cons p l ih =>
      intro acc h
      obtain ⟨h1, h2⟩ := ins_ok acc p h
      obtain ⟨h3, h4⟩ := ih (ins acc p) h1
      refine ⟨h3, Stab.trans ?_ h4⟩
      have := Stab.app h2 (Stab.refl less l)
      simpa using this
  have h := this l [] List.Pairwise.nil
  simpa [ord] using h
/-- whatever holds the same, in order, is what the reference makes -/
theorem ord_unique {l m : List P} (h : Stab less l m) (hs : Sorted less m) : m = ord l := stab_unique less_sw (h.symm.trans (ord_ok l).2) hs (ord_ok l).1
end Go.Proofs.Ytmafbgfldojbbaa.Po
