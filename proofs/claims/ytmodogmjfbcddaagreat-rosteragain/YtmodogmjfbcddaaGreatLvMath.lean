/- Tables and levels, as mathematics. -/
import Derived.Test.YtmodogmjfbcddaaGreatGa
namespace Go.Proofs.YtmodogmjfbcddaaGreat.Lv

structure T where
  num : Int
  lev : Int
  size : Int
  first : ByteArray
  last : ByteArray
def zero : T := ⟨0, 0, 0, ⟨#[]⟩, ⟨#[]⟩⟩

/- the order of texts -/
def slt (a b : ByteArray) : Bool := Na.lt (kb a) (kb b)
theorem slt_irrefl (a : ByteArray) : slt a a = false := It.lt_irrefl _
theorem slt_trans {a b c : ByteArray} (h : slt a b = true) (h2 : slt b c = true) : slt a c = true := It.lt_trans h h2
theorem slt_total (a b : ByteArray) : slt a b = true ∨ a = b ∨ slt b a = true := by
  rcases It.lt_total (kb a) (kb b) with h | h | h
  · exact .inl h
  · exact .inr (.inl (kb_inj h))
  · exact .inr (.inr h)
theorem slt_asymm {a b : ByteArray} (h : slt a b = true) : slt b a = false := It.lt_asymm h
/-- not above -/
abbrev sle (a b : ByteArray) : Prop := slt b a = false
theorem sle_refl (a : ByteArray) : sle a a := slt_irrefl a
theorem sle_of_lt {a b : ByteArray} (h : slt a b = true) : sle a b := slt_asymm h
theorem lt_of_le_lt {a b c : ByteArray} (h : sle a b) (h2 : slt b c = true) : slt a c = true := by
  rcases slt_total a b with h' | rfl | h'
  · exact slt_trans h' h2
  · exact h2
  · rw [sle, h'] at h; cases h
theorem lt_of_lt_le {a b c : ByteArray} (h : slt a b = true) (h2 : sle b c) : slt a c = true := by
  rcases slt_total b c with h' | rfl | h'
  · exact slt_trans h h'
  · exact h
  · rw [sle, h'] at h2; cases h2
theorem sle_trans {a b c : ByteArray} (h : sle a b) (h2 : sle b c) : sle a c := by
  rcases slt_total a b with h' | rfl | h'
  · exact sle_of_lt (lt_of_lt_le h' h2)
  · exact h2
  · rw [sle, h'] at h; cases h
theorem lt_of_not {a b : ByteArray} (h : ¬ sle a b) : slt b a = true := by
  cases e : slt b a with
  | true => rfl
  | false => exact absurd e h

def meet (a b : T) : Bool := !slt a.last b.first && !slt b.last a.first
theorem meet_comm (a b : T) : meet a b = meet b a := by unfold meet; rw [Bool.and_comm]
def key (s : ByteArray) : Bool := decide (1 ≤ s.size) && decide (s.size ≤ 64)
def one (t : T) : Bool := decide (1 ≤ t.num) && decide (t.num ≤ 2147483647) && decide (0 ≤ t.lev) && decide (t.lev ≤ 4) && decide (0 ≤ t.size) && decide (t.size ≤ 1073741824) && key t.first && key t.last && !slt t.last t.first
structure One (t : T) : Prop where
  n1 : 1 ≤ t.num
  n2 : t.num ≤ 2147483647
  l1 : 0 ≤ t.lev
  l2 : t.lev ≤ 4
  s1 : 0 ≤ t.size
  s2 : t.size ≤ 1073741824
  f : key t.first = true
  g : key t.last = true
  fg : sle t.first t.last
theorem one_iff (t : T) : one t = true ↔ One t := by
  constructor
  · intro h
    simp only [one, Bool.and_eq_true, decide_eq_true_eq, Bool.not_eq_true'] at h
    obtain ⟨⟨⟨⟨⟨⟨⟨⟨h1, h2⟩, h3⟩, h4⟩, h5⟩, h6⟩, h7⟩, h8⟩, h9⟩ := h
    exact ⟨h1, h2, h3, h4, h5, h6, h7, h8, h9⟩
  · rintro ⟨h1, h2, h3, h4, h5, h6, h7, h8, h9⟩
    simp only [sle] at h9
    simp [one, h1, h2, h3, h4, h5, h6, h7, h8, h9]
def clash (a b : T) : Bool := decide (a.num = b.num) || (decide (a.lev = b.lev) && decide (0 < a.lev) && meet a b)
theorem clash_comm (a b : T) : clash a b = clash b a := by
  unfold clash
  rw [meet_comm a b]
  by_cases h : a.lev = b.lev <;> by_cases h2 : a.num = b.num
  · simp [h, h2]
  · simp [h, h2, Ne.symm h2]
  · simp [h, h2, Ne.symm h]
  · simp [h, h2, Ne.symm h, Ne.symm h2]
def mayGo : List T → List T → Bool
  | _, [] => true
  | p, x :: r => one x && (p.all (fun y => !clash x y) && mayGo (p ++ [x]) r)
def may (l : List T) : Bool := decide (l.length ≤ 64) && mayGo [] l
theorem mayGo_iff : ∀ (l p : List T), mayGo p l = true ↔ (∀ x ∈ l, One x) ∧ l.Pairwise (fun a b => clash b a = false) ∧ ∀ x ∈ l, ∀ y ∈ p, clash x y = false
  | [], p => by simp [mayGo]
  | x :: r, p => by
    simp only [mayGo, Bool.and_eq_true, one_iff, mayGo_iff r, List.all_eq_true, Bool.not_eq_true', List.mem_cons, List.pairwise_cons, List.mem_append]
    constructor
    · rintro ⟨h1, h2, h3, h4, h5⟩
      refine ⟨?_, ⟨fun y hy => h5 y hy x (.inr (.inl rfl)), h4⟩, ?_⟩
      · rintro y (rfl | hy)
        · exact h1
        · exact h3 y hy
      · rintro y (rfl | hy) z hz
        · exact h2 z hz
        · exact h5 y hy z (.inl hz)
    · rintro ⟨h1, ⟨h2, h3⟩, h4⟩
      refine ⟨h1 x (.inl rfl), fun y hy => h4 x (.inl rfl) y hy, fun y hy => h1 y (.inr hy), h3, ?_⟩
      rintro y hy z (hz | hz | hz)
      · exact h4 y (.inr hy) z hz
      · rw [hz]; exact h2 y hy
      · cases hz
structure May (l : List T) : Prop where
  len : l.length ≤ 64
  one : ∀ x ∈ l, One x
  pw : l.Pairwise (fun a b => clash a b = false)
theorem may_iff (l : List T) : may l = true ↔ May l := by
  simp only [may, Bool.and_eq_true, decide_eq_true_eq, mayGo_iff]
  constructor
  · rintro ⟨h1, h2, h3, _⟩
    exact ⟨h1, h2, h3.imp (fun h => by rw [clash_comm]; exact h)⟩
  · rintro ⟨h1, h2, h3⟩
    exact ⟨h1, h2, h3.imp (fun h => by rw [clash_comm]; exact h), by simp⟩
theorem May.perm {l d : List T} (h : May l) (hp : l.Perm d) : May d :=
  ⟨hp.length_eq ▸ h.len, fun x hx => h.one x (hp.mem_iff.mpr hx), (hp.pairwise_iff (fun {a b} h => by rw [clash_comm]; exact h)).mp h.pw⟩
theorem May.sub {l d : List T} (h : May l) (hp : d.Sublist l) : May d := ⟨Nat.le_trans hp.length_le h.len, fun x hx => h.one x (hp.subset hx), h.pw.sublist hp⟩
theorem May.of_mem {l : List T} (h : May l) {x y : T} (hx : x ∈ l) (hy : y ∈ l) (hne : x ≠ y) : clash x y = false := by
  have := h.pw
  induction l with
  | nil => cases hx
  | cons z r ih =>
    rw [List.pairwise_cons] at this
    rcases List.mem_cons.mp hx with rfl | hx'
    · rcases List.mem_cons.mp hy with rfl | hy'
      · exact absurd rfl hne
      · exact this.1 y hy'
    · rcases List.mem_cons.mp hy with rfl | hy'
      · rw [clash_comm]; exact this.1 x hx'
      · exact ih (h.sub (List.sublist_cons_self ..)) hx' hy' this.2
theorem clash_num {a b : T} (h : clash a b = false) : a.num ≠ b.num := by
  intro e
  simp [clash, e] at h
theorem clash_meet {a b : T} (h : clash a b = false) (hl : a.lev = b.lev) (h0 : 0 < a.lev) : meet a b = false := by
  have := clash_num h
  rw [clash] at h
  simp only [this, decide_false, Bool.false_or, hl, decide_true, Bool.true_and] at h
  simpa [← hl, h0] using h
theorem May.num_inj {l : List T} (h : May l) {x y : T} (hx : x ∈ l) (hy : y ∈ l) (e : x.num = y.num) : x = y :=
  Classical.byContradiction fun hne => clash_num (h.of_mem hx hy hne) e

/- the order of reading -/
def ahead (a b : T) : Bool := if a.lev ≠ b.lev then decide (a.lev < b.lev) else if a.lev = 0 then decide (b.num < a.num) else slt a.first b.first
theorem ahead_irrefl (a : T) : ahead a a = false := by
  unfold ahead
  rw [if_neg (fun h => h rfl)]
  split
  · simp
  · exact slt_irrefl _
theorem ahead_trans {a b c : T} (h : ahead a b = true) (h2 : ahead b c = true) : ahead a c = true := by
  unfold ahead at *
  by_cases e1 : a.lev = b.lev <;> by_cases e2 : b.lev = c.lev
  · rw [if_neg (by simpa using e1)] at h
    rw [if_neg (by simpa using e2)] at h2
    rw [if_neg (by simpa using e1.trans e2)]
    by_cases e0 : a.lev = 0
    · rw [if_pos e0] at h ⊢
      rw [if_pos (e1 ▸ e0)] at h2
      simp only [decide_eq_true_eq] at *
      omega
    · rw [if_neg e0] at h ⊢
      rw [if_neg (e1 ▸ e0)] at h2
      exact slt_trans h h2
  · rw [if_pos e2] at h2
    simp only [decide_eq_true_eq] at h2
    rw [if_pos (by omega)]
    simp only [decide_eq_true_eq]
    omega
  · rw [if_pos e1] at h
    simp only [decide_eq_true_eq] at h
    rw [if_pos (by omega)]
    simp only [decide_eq_true_eq]
    omega
  · rw [if_pos e1] at h
    rw [if_pos e2] at h2
    simp only [decide_eq_true_eq] at h h2
    rw [if_pos (by omega)]
    simp only [decide_eq_true_eq]
    omega
theorem ahead_ntrans {a b c : T} (h : ahead a b = false) (h2 : ahead b c = false) : ahead a c = false := by
  unfold ahead at *
  by_cases e1 : a.lev = b.lev <;> by_cases e2 : b.lev = c.lev
  · rw [if_neg (by simpa using e1)] at h
    rw [if_neg (by simpa using e2)] at h2
    rw [if_neg (by simpa using e1.trans e2)]
    by_cases e0 : a.lev = 0
    · rw [if_pos e0] at h ⊢
      rw [if_pos (e1 ▸ e0)] at h2
      simp only [decide_eq_false_iff_not] at *
      omega
    · rw [if_neg e0] at h ⊢
      rw [if_neg (e1 ▸ e0)] at h2
      exact sle_trans (a := c.first) h2 h
  · rw [if_pos e2] at h2
    simp only [decide_eq_false_iff_not] at h2
    rw [if_pos (by omega)]
    simp only [decide_eq_false_iff_not]
    omega
  · rw [if_pos e1] at h
    simp only [decide_eq_false_iff_not] at h
    rw [if_pos (by omega)]
    simp only [decide_eq_false_iff_not]
    omega
  · rw [if_pos e1] at h
    rw [if_pos e2] at h2
    simp only [decide_eq_false_iff_not] at h h2
    rw [if_pos (by omega)]
    simp only [decide_eq_false_iff_not]
    omega
theorem ahead_total {a b : T} (ha : One a) (hb : One b) (hc : clash a b = false) (h : ahead a b = false) : ahead b a = true := by
  unfold ahead at *
  by_cases e1 : a.lev = b.lev
  · rw [if_neg (by simpa using e1)] at h
    rw [if_neg (by simpa using e1.symm)]
    by_cases e0 : a.lev = 0
    · rw [if_pos e0] at h
      rw [if_pos (e1 ▸ e0)]
      have := clash_num hc
      simp only [decide_eq_false_iff_not, decide_eq_true_eq] at *
      omega
    · rw [if_neg e0] at h
      rw [if_neg (e1 ▸ e0)]
      have hm := clash_meet hc e1 (by have := ha.l1; omega)
      simp only [meet, Bool.and_eq_false_iff, Bool.not_eq_false'] at hm
      rcases hm with hm | hm
      · rw [lt_of_lt_le (lt_of_le_lt ha.fg hm) (sle_refl _)] at h; cases h
      · exact lt_of_le_lt hb.fg hm
  · rw [if_pos e1] at h
    rw [if_pos (Ne.symm e1)]
    simp only [decide_eq_false_iff_not, decide_eq_true_eq] at *
    omega
abbrev Srt (d : List T) : Prop := d.Pairwise (fun a b => ahead a b = true)
theorem srt_unique : ∀ {d d' : List T}, d.Perm d' → Srt d → Srt d' → d = d'
  | [], d', hp, _, _ => (List.Perm.nil_eq hp)
  | a :: r, [], hp, _, _ => absurd hp.length_eq (by simp)
  | a :: r, b :: r', hp, h1, h2 => by
    rw [Srt, List.pairwise_cons] at h1 h2
    have e : a = b := Classical.byContradiction fun hne => by
      have ha : a ∈ r' := by
        rcases List.mem_cons.mp (hp.mem_iff.mp (List.mem_cons_self ..)) with h | h
        · exact absurd h hne
        · exact h
      have hb : b ∈ r := by
        rcases List.mem_cons.mp (hp.mem_iff.mpr (List.mem_cons_self ..)) with h | h
        · exact absurd h.symm hne
        · exact h
      have := ahead_trans (h1.1 b hb) (h2.1 a ha)
      rw [ahead_irrefl] at this
      cases this
    subst e
    rw [srt_unique (List.Perm.cons_inv hp) h1.2 h2.2]
def ins (x : T) : List T → List T
  | [] => [x]
  | y :: r => if ahead x y = true then x :: y :: r else y :: ins x r
def ord : List T → List T
  | [] => []
  | x :: r => ins x (ord r)
theorem ins_perm (x : T) : ∀ l : List T, (x :: l).Perm (ins x l)
  | [] => List.Perm.refl _
  | y :: r => by
    unfold ins
    split
    · exact List.Perm.refl _
    · exact (List.Perm.swap y x r).trans ((ins_perm x r).cons y)
theorem ord_perm : ∀ l : List T, l.Perm (ord l)
  | [] => List.Perm.refl _
  | x :: r => ((ord_perm r).cons x).trans (ins_perm x (ord r))
theorem ins_srt (x : T) : ∀ l : List T, Srt l → (∀ y ∈ l, ahead x y = false → ahead y x = true) → Srt (ins x l)
  | [], _, _ => List.pairwise_singleton _ _
  | y :: r, h, ht => by
    have h' := List.pairwise_cons.mp h
    unfold ins
    split
    · next hx =>
      refine List.pairwise_cons.mpr ⟨?_, h⟩
      intro z hz
      rcases List.mem_cons.mp hz with rfl | hz
      · exact hx
      · exact ahead_trans hx (h'.1 z hz)
    · next hx =>
      refine List.pairwise_cons.mpr ⟨?_, ins_srt x r h'.2 (fun z hz => ht z (List.mem_cons_of_mem _ hz))⟩
      intro z hz
      rcases List.mem_cons.mp ((ins_perm x r).mem_iff.mpr hz) with rfl | hz
      · exact ht y (List.mem_cons_self ..) (by simpa using hx)
      · exact h'.1 z hz
theorem ord_srt : ∀ {l : List T}, May l → Srt (ord l)
  | [], _ => List.Pairwise.nil
  | x :: r, h => by
    refine ins_srt x _ (ord_srt (h.sub (List.sublist_cons_self ..))) (fun y hy ha => ?_)
    have hy' := (ord_perm r).mem_iff.mpr hy
    exact ahead_total (h.one x (List.mem_cons_self ..)) (h.one y (List.mem_cons_of_mem _ hy')) ((List.pairwise_cons.mp h.pw).1 y hy') ha
theorem ord_of {l d : List T} (h : May l) (hp : l.Perm d) (hs : Srt d) : d = ord l := srt_unique (hp.symm.trans (ord_perm l)) hs (ord_srt h)
/-- what a sort leaves is strictly in order -/
theorem srt_weak {d : List T} (h : May d) (hs : d.Pairwise (fun a b => ahead b a = false)) : Srt d := by
  have h1 := h.pw
  have h2 := h.one
  clear h
  induction d with
  | nil => exact List.Pairwise.nil
  | cons x r ih =>
    rw [List.pairwise_cons] at hs h1
    refine List.pairwise_cons.mpr ⟨fun y hy => ahead_total (h2 y (List.mem_cons_of_mem _ hy)) (h2 x (List.mem_cons_self ..)) (by rw [clash_comm]; exact h1.1 y hy) (hs.1 y hy), ih hs.2 h1.2 (fun y hy => h2 y (List.mem_cons_of_mem _ hy))⟩
/-- one put in its place, from behind -/
theorem srt_put {x : T} {o : List T} {k : Nat} (hs : Srt o) (hk : k ≤ o.length) (hb : ∀ y ∈ o.drop k, ahead x y = true) (ha : ∀ y, k ≠ 0 → o[k-1]? = some y → ahead y x = true) : Srt (o.take k ++ x :: o.drop k) := by
  have h1 : Srt (o.take k) := hs.sublist (List.take_sublist ..)
  have h2 : Srt (o.drop k) := hs.sublist (List.drop_sublist ..)
  have h3 : ∀ y ∈ o.take k, ahead y x = true := by
    intro y hy
    rcases Nat.eq_zero_or_pos k with rfl | h0
    · simp at hy
    · have hlt : k - 1 < o.length := by omega
      have hz := ha o[k-1] (by omega) (List.getElem?_eq_getElem hlt)
      obtain ⟨i, hi, rfl⟩ := List.getElem_of_mem hy
      rw [List.length_take] at hi
      rw [List.getElem_take]
      by_cases e : i = k - 1
      · subst e; exact hz
      · exact ahead_trans (List.pairwise_iff_getElem.mp hs i (k-1) (by omega) hlt (by omega)) hz
  rw [Srt, List.pairwise_append]
  refine ⟨h1, List.pairwise_cons.mpr ⟨hb, h2⟩, ?_⟩
  intro a ha' b hb'
  rcases List.mem_cons.mp hb' with rfl | hb'
  · exact h3 a ha'
  · exact ahead_trans (h3 a ha') (hb b hb')
theorem put_perm (x : T) (o : List T) (k : Nat) : (o ++ [x]).Perm (o.take k ++ x :: o.drop k) := by
  have : (o.take k ++ x :: o.drop k).Perm (x :: (o.take k ++ o.drop k)) := List.perm_middle
  rw [List.take_append_drop] at this
  exact (List.perm_append_comm (l₁ := o) (l₂ := [x])).trans this.symm

def nums (l : List T) : List Int := l.map (·.num)
def has (k : ByteArray) (t : T) : Bool := !slt k t.first && !slt t.last k
def lv (d : List T) (n : Int) : List T := d.filter (fun t => decide (t.lev = n))
def tot : List T → Int
  | [] => 0
  | x :: r => x.size + tot r
def full (h : List T) (n : Nat) (base : Int) : Bool := if n = 0 then decide (4 ≤ h.length) else decide (base * 4 ^ (n - 1) < tot h)
theorem tot_le : ∀ {l : List T}, (∀ x ∈ l, One x) → 0 ≤ tot l ∧ tot l ≤ l.length * 1073741824
  | [], _ => by simp [tot]
  | x :: r, h => by
    have h1 := h x (List.mem_cons_self ..)
    have h2 := tot_le (l := r) (fun y hy => h y (List.mem_cons_of_mem _ hy))
    have := h1.s1; have := h1.s2
    simp only [tot, List.length_cons]
    omega
def loF (a : ByteArray) : List T → ByteArray
  | [] => a
  | x :: r => loF (if slt x.first a = true then x.first else a) r
def hiL (a : ByteArray) : List T → ByteArray
  | [] => a
  | x :: r => hiL (if slt a x.last = true then x.last else a) r
def span : List T → T
  | [] => zero
  | x :: r => ⟨0, 0, 0, loF x.first r, hiL x.last r⟩
def fr (d : List T) (n : Nat) : List T := if n = 0 then lv d 0 else (lv d n).take 1
def inn (d : List T) (n : Nat) : List T := fr d n ++ (lv d ((n : Int) + 1)).filter (fun x => meet x (span (fr d n)))
def hides (d i : List T) (n : Int) : Bool := d.any fun x => decide (n < x.lev) && i.any (fun y => meet y x)
def pn (d : List T) (base : Int) : Nat := if full (lv d 0) 0 base then 0 else if full (lv d 1) 1 base then 1 else if full (lv d 2) 2 base then 2 else if full (lv d 3) 3 base then 3 else 4
theorem pn_at {d : List T} {base : Int} {k : Nat} (hk : k < 4) (hb : ∀ m : Nat, m < k → full (lv d m) m base = false) (hf : full (lv d k) k base = true) : pn d base = k := by
  unfold pn
  match k, hk with
  | 0, _ => simp only [Int.natCast_zero] at hf; simp [hf]
  | 1, _ => have := hb 0 (by omega); simp only [Int.natCast_zero, Int.natCast_one] at hf this; simp [hf, this]
  | 2, _ =>
    have h0 := hb 0 (by omega); have h1 := hb 1 (by omega)
    have e2 : ((2 : Nat) : Int) = 2 := rfl
    simp only [Int.natCast_zero, Int.natCast_one, e2] at hf h0 h1; simp [hf, h0, h1]
  | 3, _ =>
    have h0 := hb 0 (by omega); have h1 := hb 1 (by omega); have h2 := hb 2 (by omega)
    have e2 : ((2 : Nat) : Int) = 2 := rfl
    have e3 : ((3 : Nat) : Int) = 3 := rfl
    simp only [Int.natCast_zero, Int.natCast_one, e2, e3] at hf h0 h1 h2; simp [hf, h0, h1, h2]
theorem pn_none {d : List T} {base : Int} (hb : ∀ m : Nat, m < 4 → full (lv d m) m base = false) : pn d base = 4 := by
  unfold pn
  have h0 := hb 0 (by omega); have h1 := hb 1 (by omega); have h2 := hb 2 (by omega); have h3 := hb 3 (by omega)
  have e2 : ((2 : Nat) : Int) = 2 := rfl
  have e3 : ((3 : Nat) : Int) = 3 := rfl
  simp only [Int.natCast_zero, Int.natCast_one, e2, e3] at h0 h1 h2 h3; simp [h0, h1, h2, h3]
theorem full_some {h : List T} {n : Nat} {base : Int} (hb : 0 ≤ base) (hf : full h n base = true) : 0 < h.length := by
  unfold full at hf
  cases h with
  | cons => simp
  | nil =>
    split at hf
    · simp at hf
    · have hf := of_decide_eq_true hf
      simp only [tot] at hf
      have : 0 ≤ base * 4 ^ (n - 1) := Int.mul_nonneg hb (Int.pow_nonneg (by omega))
      omega
theorem hides_perm {d d' : List T} (hp : d.Perm d') (i : List T) (n : Int) : hides d i n = hides d' i n := by
  unfold hides
  rw [Bool.eq_iff_iff, List.any_eq_true, List.any_eq_true]
  exact ⟨fun ⟨x, hx, h⟩ => ⟨x, hp.mem_iff.mp hx, h⟩, fun ⟨x, hx, h⟩ => ⟨x, hp.mem_iff.mpr hx, h⟩⟩

theorem loF_le : ∀ (l : List T) (a : ByteArray), sle (loF a l) a ∧ (∀ x ∈ l, sle (loF a l) x.first) ∧ (loF a l = a ∨ ∃ x ∈ l, loF a l = x.first)
  | [], a => ⟨sle_refl a, by simp, .inl rfl⟩
  | x :: r, a => by
    unfold loF
    by_cases h : slt x.first a = true
    · rw [if_pos h]
      obtain ⟨h1, h2, h3⟩ := loF_le r x.first
      refine ⟨sle_trans h1 (sle_of_lt h), ?_, .inr ?_⟩
      · intro y hy
        rcases List.mem_cons.mp hy with rfl | hy
        · exact h1
        · exact h2 y hy
      · rcases h3 with h3 | ⟨y, hy, h3⟩
        · exact ⟨x, List.mem_cons_self .., h3⟩
        · exact ⟨y, List.mem_cons_of_mem _ hy, h3⟩
    · rw [if_neg h]
      obtain ⟨h1, h2, h3⟩ := loF_le r a
      refine ⟨h1, ?_, ?_⟩
      · intro y hy
        rcases List.mem_cons.mp hy with rfl | hy
        · exact sle_trans h1 (by simpa using h)
        · exact h2 y hy
      · rcases h3 with h3 | ⟨y, hy, h3⟩
        · exact .inl h3
        · exact .inr ⟨y, List.mem_cons_of_mem _ hy, h3⟩
theorem hiL_le : ∀ (l : List T) (a : ByteArray), sle a (hiL a l) ∧ (∀ x ∈ l, sle x.last (hiL a l)) ∧ (hiL a l = a ∨ ∃ x ∈ l, hiL a l = x.last)
  | [], a => ⟨sle_refl a, by simp, .inl rfl⟩
  | x :: r, a => by
    unfold hiL
    by_cases h : slt a x.last = true
    · rw [if_pos h]
      obtain ⟨h1, h2, h3⟩ := hiL_le r x.last
      refine ⟨sle_trans (sle_of_lt h) h1, ?_, .inr ?_⟩
      · intro y hy
        rcases List.mem_cons.mp hy with rfl | hy
        · exact h1
        · exact h2 y hy
      · rcases h3 with h3 | ⟨y, hy, h3⟩
        · exact ⟨x, List.mem_cons_self .., h3⟩
        · exact ⟨y, List.mem_cons_of_mem _ hy, h3⟩
    · rw [if_neg h]
      obtain ⟨h1, h2, h3⟩ := hiL_le r a
      refine ⟨h1, ?_, ?_⟩
      · intro y hy
        rcases List.mem_cons.mp hy with rfl | hy
        · exact sle_trans (by simpa using h) h1
        · exact h2 y hy
      · rcases h3 with h3 | ⟨y, hy, h3⟩
        · exact .inl h3
        · exact .inr ⟨y, List.mem_cons_of_mem _ hy, h3⟩
theorem loF_self (x : T) (r : List T) : loF x.first (x :: r) = loF x.first r := by rw [loF, slt_irrefl]; rfl
theorem hiL_self (x : T) (r : List T) : hiL x.last (x :: r) = hiL x.last r := by rw [hiL, slt_irrefl]; rfl
/-- from the least First to the greatest Last of some -/
structure Hull (M : List T) (f g : ByteArray) : Prop where
  lo : ∀ x ∈ M, sle f x.first
  hi : ∀ x ∈ M, sle x.last g
  at1 : ∃ x ∈ M, f = x.first
  at2 : ∃ x ∈ M, g = x.last
theorem hull_span {M : List T} (h : M ≠ []) : Hull M (span M).first (span M).last := by
  cases M with
  | nil => exact absurd rfl h
  | cons x r =>
    obtain ⟨h1, h2, h3⟩ := loF_le r x.first
    obtain ⟨g1, g2, g3⟩ := hiL_le r x.last
    refine ⟨?_, ?_, ?_, ?_⟩
    · intro y hy
      rcases List.mem_cons.mp hy with rfl | hy
      · exact h1
      · exact h2 y hy
    · intro y hy
      rcases List.mem_cons.mp hy with rfl | hy
      · exact g1
      · exact g2 y hy
    · rcases h3 with h3 | ⟨y, hy, h3⟩
      · exact ⟨x, List.mem_cons_self .., h3⟩
      · exact ⟨y, List.mem_cons_of_mem _ hy, h3⟩
    · rcases g3 with h3 | ⟨y, hy, h3⟩
      · exact ⟨x, List.mem_cons_self .., h3⟩
      · exact ⟨y, List.mem_cons_of_mem _ hy, h3⟩
theorem mem_lv {d : List T} {n : Int} {x : T} : x ∈ lv d n ↔ x ∈ d ∧ x.lev = n := by simp [lv]
theorem fr_sub {d : List T} {n : Nat} {x : T} (h : x ∈ fr d n) : x ∈ d ∧ x.lev = n := by
  unfold fr at h
  split at h
  · next e => subst e; exact mem_lv.mp h
  · exact mem_lv.mp ((List.take_sublist ..).subset h)
theorem fr_ne {d : List T} {n : Nat} (h : 0 < (lv d n).length) : fr d n ≠ [] := by
  unfold fr
  split
  · next e => subst e; exact List.ne_nil_of_length_pos h
  · exact List.ne_nil_of_length_pos (by rw [List.length_take]; omega)
theorem inn_sub {d : List T} {n : Nat} {x : T} (h : x ∈ inn d n) : x ∈ d := by
  unfold inn at h
  rcases List.mem_append.mp h with h | h
  · exact (fr_sub h).1
  · exact (mem_lv.mp (List.mem_filter.mp h).1).1
/-- what stays does not meet what comes of a job -/
theorem apart {d : List T} {n : Nat} {f g : ByteArray} {y : T} (hm : May d) (hne : fr d n ≠ []) (hh : Hull (inn d n) f g) (hy : y ∈ d) (hl : y.lev = (n : Int) + 1) (hn : y ∉ inn d n) : slt y.last f = true ∨ slt g y.first = true := by
  have hs := hull_span hne
  have h1 : meet y (span (fr d n)) = false := by
    cases e : meet y (span (fr d n)) with
    | false => rfl
    | true => exact absurd (List.mem_append.mpr (.inr (List.mem_filter.mpr ⟨mem_lv.mpr ⟨hy, hl⟩, e⟩))) hn
  have key : ∀ t, t ∈ inn d n → t ∉ fr d n → meet t (span (fr d n)) = true ∧ meet t y = false := by
    intro t ht hf
    rcases List.mem_append.mp ht with h | h
    · exact absurd h hf
    · obtain ⟨h2, h3⟩ := List.mem_filter.mp h
      obtain ⟨h4, h5⟩ := mem_lv.mp h2
      exact ⟨h3, clash_meet (hm.of_mem h4 hy (fun e => hn (e ▸ ht))) (by omega) (by omega)⟩
  obtain ⟨t1, ht1, e1⟩ := hh.at1
  obtain ⟨t2, ht2, e2⟩ := hh.at2
  have oy := hm.one y hy
  simp only [meet, Bool.and_eq_false_iff, Bool.not_eq_false'] at h1
  rcases h1 with h1 | h1
  · refine .inl (lt_of_not fun hc => ?_)
    have hc : sle f y.last := hc
    have hf : t1 ∉ fr d n := fun h => by
      have := lt_of_le_lt hc (lt_of_lt_le h1 (hs.lo t1 h))
      rw [e1, slt_irrefl] at this; cases this
    obtain ⟨k1, k2⟩ := key t1 ht1 hf
    simp only [meet, Bool.and_eq_true, Bool.not_eq_true'] at k1
    simp only [meet, Bool.and_eq_false_iff, Bool.not_eq_false'] at k2
    rcases k2 with k2 | k2
    · have := lt_of_lt_le (lt_of_lt_le k2 oy.fg) (sle_of_lt (lt_of_lt_le h1 k1.1))
      rw [slt_irrefl] at this; cases this
    · rw [e1] at hc
      rw [hc] at k2; cases k2
  · refine .inr (lt_of_not fun hc => ?_)
    have hc : sle y.first g := hc
    have hf : t2 ∉ fr d n := fun h => by
      have := lt_of_lt_le (lt_of_le_lt (hs.hi t2 h) h1) hc
      rw [e2, slt_irrefl] at this; cases this
    obtain ⟨k1, k2⟩ := key t2 ht2 hf
    simp only [meet, Bool.and_eq_true, Bool.not_eq_true'] at k1
    simp only [meet, Bool.and_eq_false_iff, Bool.not_eq_false'] at k2
    rcases k2 with k2 | k2
    · rw [e2] at hc
      rw [hc] at k2; cases k2
    · have := lt_of_le_lt k1.2 (lt_of_lt_le h1 (sle_trans oy.fg (sle_of_lt k2)))
      rw [slt_irrefl] at this; cases this
def inB (I : List Int) (t : T) : Bool := I.any (fun n => decide (n = t.num))
theorem inB_iff {l : List T} {n : Nat} (h : May l) {t : T} (ht : t ∈ l) : inB (nums (inn (ord l) n)) t = true ↔ t ∈ inn (ord l) n := by
  unfold inB nums
  rw [List.any_eq_true]
  constructor
  · rintro ⟨m, hm, e⟩
    obtain ⟨x, hx, rfl⟩ := List.mem_map.mp hm
    have := h.num_inj ((ord_perm l).mem_iff.mpr (inn_sub hx)) ht (of_decide_eq_true e)
    exact this ▸ hx
  · intro hx
    exact ⟨t.num, List.mem_map.mpr ⟨t, hx, rfl⟩, by simp⟩
theorem mem_ord {l : List T} {x : T} : x ∈ ord l ↔ x ∈ l := (ord_perm l).symm.mem_iff
theorem merge_may {l : List T} {n : Nat} {f g : ByteArray} (h : May l) (hn : n < 4) (hne : fr (ord l) n ≠ []) (hh : Hull (l.filter (inB (nums (inn (ord l) n)))) f g) (hno : ∀ t ∈ l, t.num ≠ 2147483647) :
    May (l.filter (fun t => !inB (nums (inn (ord l) n)) t) ++ [⟨2147483647, (n : Int) + 1, 0, f, g⟩]) := by
  have hmem : ∀ t, t ∈ l.filter (inB (nums (inn (ord l) n))) ↔ t ∈ inn (ord l) n := by
    intro t
    rw [List.mem_filter]
    constructor
    · rintro ⟨h1, h2⟩; exact (inB_iff h h1).mp h2
    · intro h1; exact ⟨mem_ord.mp (inn_sub h1), (inB_iff h (mem_ord.mp (inn_sub h1))).mpr h1⟩
  have hh' : Hull (inn (ord l) n) f g := by
    obtain ⟨h1, h2, ⟨x, hx, e⟩, ⟨y, hy, e'⟩⟩ := hh
    exact ⟨fun x hx => h1 x ((hmem x).mpr hx), fun x hx => h2 x ((hmem x).mpr hx), ⟨x, (hmem x).mp hx, e⟩, ⟨y, (hmem y).mp hy, e'⟩⟩
  have hmo := h.perm (ord_perm l)
  obtain ⟨x, hx, ex⟩ := hh'.at1
  obtain ⟨y, hy, ey⟩ := hh'.at2
  have ox := hmo.one x (inn_sub hx)
  have oy := hmo.one y (inn_sub hy)
  refine ⟨?_, ?_, ?_⟩
  · have hl := h.len
    have hxl : x ∈ l := mem_ord.mp (inn_sub hx)
    have : (l.filter (fun t => !inB (nums (inn (ord l) n)) t)).length < l.length := by
      refine List.length_filter_lt_length_iff_exists.mpr ⟨x, hxl, ?_⟩
      simp [(inB_iff h hxl).mpr hx]
    simp only [List.length_append, List.length_singleton]
    omega
  · intro t ht
    rcases List.mem_append.mp ht with ht | ht
    · exact h.one t (List.mem_filter.mp ht).1
    · rw [List.mem_singleton.mp ht]
      refine ⟨by show (1 : Int) ≤ 2147483647; decide, by show (2147483647 : Int) ≤ 2147483647; decide, by show (0 : Int) ≤ (n : Int) + 1; omega, by show (n : Int) + 1 ≤ 4; omega, by show (0 : Int) ≤ 0; decide, by show (0 : Int) ≤ 1073741824; decide, by show key f = true; rw [ex]; exact ox.f, by show key g = true; rw [ey]; exact oy.g, ?_⟩
      show sle f g
      rw [ex]
      exact sle_trans ox.fg (hh'.hi x hx)
  · rw [List.pairwise_append]
    refine ⟨h.pw.sublist List.filter_sublist, List.pairwise_singleton _ _, ?_⟩
    intro a ha b hb
    rw [List.mem_singleton.mp hb]
    obtain ⟨h1, h2⟩ := List.mem_filter.mp ha
    unfold clash
    simp only [hno a h1, decide_false, Bool.false_or]
    by_cases e : a.lev = (n : Int) + 1
    · have hni : a ∉ inn (ord l) n := fun hc => by simp [(inB_iff h h1).mpr hc] at h2
      have hd := apart hmo hne hh' (mem_ord.mpr h1) e hni
      have : meet a ⟨2147483647, (n : Int) + 1, 0, f, g⟩ = false := by
        simp only [meet, Bool.and_eq_false_iff, Bool.not_eq_false']
        exact hd
      rw [this, Bool.and_false]
    · simp [e]
theorem merge_ne {l : List T} {n : Nat} (h : May l) (hne : fr (ord l) n ≠ []) : l.filter (inB (nums (inn (ord l) n))) ≠ [] := by
  obtain ⟨x, hx⟩ := List.exists_mem_of_ne_nil _ hne
  have hi : x ∈ inn (ord l) n := List.mem_append.mpr (.inl hx)
  exact List.ne_nil_of_mem (List.mem_filter.mpr ⟨mem_ord.mp (inn_sub hi), (inB_iff h (mem_ord.mp (inn_sub hi))).mpr hi⟩)
/-- the statement's own way to the least First -/
def mF (a : ByteArray) : List T → ByteArray
  | [] => a
  | x :: r => mF (if a.size = 0 ∨ slt x.first a = true then x.first else a) r
theorem mF_lo : ∀ (l : List T) (a : ByteArray), a.size ≠ 0 → (∀ x ∈ l, x.first.size ≠ 0) → mF a l = loF a l
  | [], _, _, _ => rfl
  | x :: r, a, ha, h => by
    unfold mF loF
    simp only [ha, false_or]
    refine mF_lo r _ ?_ (fun y hy => h y (List.mem_cons_of_mem _ hy))
    split
    · exact h x (List.mem_cons_self ..)
    · exact ha
theorem nil_lt {a b : ByteArray} (ha : a.size = 0) (hb : b.size ≠ 0) : slt a b = true := by
  unfold slt
  have h1 : kb a = [] := List.length_eq_zero_iff.mp (by rw [kb_len]; exact ha)
  have h2 : kb b ≠ [] := fun e => hb (by rw [← kb_len, e]; rfl)
  rw [h1]
  cases e : kb b with
  | nil => exact absurd e h2
  | cons => rfl
theorem hull_merge {M : List T} {e : ByteArray} (he : e.size = 0) (hne : M ≠ []) (h : ∀ x ∈ M, One x) : Hull M (mF e M) (hiL e M) := by
  cases M with
  | nil => exact absurd rfl hne
  | cons x r =>
    have hsz : ∀ s, key s = true → s.size ≠ 0 := by
      intro s hs
      simp only [key, Bool.and_eq_true, decide_eq_true_eq] at hs
      omega
    have e1 : mF e (x :: r) = loF x.first r := by
      unfold mF
      rw [if_pos (.inl he)]
      exact mF_lo r _ (hsz _ (h x (List.mem_cons_self ..)).f) (fun y hy => hsz _ (h y (List.mem_cons_of_mem _ hy)).f)
    have e2 : hiL e (x :: r) = hiL x.last r := by
      rw [hiL, nil_lt he (hsz _ (h x (List.mem_cons_self ..)).g)]
      rfl
    rw [e1, e2]
    exact hull_span (M := x :: r) (by simp)
theorem merge_has {M : List T} {f g k : ByteArray} {n m s : Int} (hh : Hull M f g) {t : T} (ht : t ∈ M) (h : has k t = true) : has k ⟨n, m, s, f, g⟩ = true := by
  simp only [has, Bool.and_eq_true, Bool.not_eq_true'] at *
  exact ⟨sle_trans (hh.lo t ht) h.1, sle_trans h.2 (hh.hi t ht)⟩
end Go.Proofs.YtmodogmjfbcddaaGreat.Lv
