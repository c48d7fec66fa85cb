/- Tables and levels, as mathematics. -/
import Derived.Test.YtmodogmjfbcddaaGreatGa
namespace Go.Proofs.YtmodogmjfbcddaaGreat.Lv

structure T where
  num : Int
  lev : Int
  size : Int
  first : ByteArray
  last : ByteArray
def zero : T := ⟨0, 0, 0, ⟨#[]⟩, ⟨#[]⟩⟩

/- the order of texts -/
def slt (a b : ByteArray) : Bool := Na.lt (kb a) (kb b)
theorem slt_irrefl (a : ByteArray) : slt a a = false := It.lt_irrefl _
theorem slt_trans {a b c : ByteArray} (h : slt a b = true) (h2 : slt b c = true) : slt a c = true := It.lt_trans h h2
theorem slt_total (a b : ByteArray) : slt a b = true ∨ a = b ∨ slt b a = true := by
  rcases It.lt_total (kb a) (kb b) with h | h | h
  · exact .inl h
  · exact .inr (.inl (kb_inj h))
  · exact .inr (.inr h)
theorem slt_asymm {a b : ByteArray} (h : slt a b = true) : slt b a = false := It.lt_asymm h
/-- not above -/
abbrev sle (a b : ByteArray) : Prop := slt b a = false
theorem sle_refl (a : ByteArray) : sle a a := slt_irrefl a
theorem sle_of_lt {a b : ByteArray} (h : slt a b = true) : sle a b := slt_asymm h
theorem lt_of_le_lt {a b c : ByteArray} (h : sle a b) (h2 : slt b c = true) : slt a c = true := by
  rcases slt_total a b with h' | rfl | h'
  · exact slt_trans h' h2
  · exact h2
  · rw [sle, h'] at h; cases h
theorem lt_of_lt_le {a b c : ByteArray} (h : slt a b = true) (h2 : sle b c) : slt a c = true := by
  rcases slt_total b c with h' | rfl | h'
  · exact slt_trans h h'
  · exact h
  · rw [sle, h'] at h2; cases h2
theorem sle_trans {a b c : ByteArray} (h : sle a b) (h2 : sle b c) : sle a c := by
  rcases slt_total a b with h' | rfl | h'
  · exact sle_of_lt (lt_of_lt_le h' h2)
  · exact h2
  · rw [sle, h'] at h; cases h
theorem lt_of_not {a b : ByteArray} (h : ¬ sle a b) : slt b a = true := by
  cases e : slt b a with
  | true => rfl
  | false => exact absurd e h

def meet (a b : T) : Bool := !slt a.last b.first && !slt b.last a.first
theorem meet_comm (a b : T) : meet a b = meet b a := by unfold meet; rw [Bool.and_comm]
def key (s : ByteArray) : Bool := decide (1 ≤ s.size) && decide (s.size ≤ 64)
def one (t : T) : Bool := decide (1 ≤ t.num) && decide (t.num ≤ 2147483647) && decide (0 ≤ t.lev) && decide (t.lev ≤ 4) && decide (0 ≤ t.size) && decide (t.size ≤ 1073741824) && key t.first && key t.last && !slt t.last t.first
structure One (t : T) : Prop where
  n1 : 1 ≤ t.num
  n2 : t.num ≤ 2147483647
  l1 : 0 ≤ t.lev
  l2 : t.lev ≤ 4
  s1 : 0 ≤ t.size
  s2 : t.size ≤ 1073741824
  f : key t.first = true
  g : key t.last = true
  fg : sle t.first t.last
theorem one_iff (t : T) : one t = true ↔ One t := by
  constructor
  · intro h
    simp only [one, Bool.and_eq_true, decide_eq_true_eq, Bool.not_eq_true'] at h
    obtain ⟨⟨⟨⟨⟨⟨⟨⟨h1, h2⟩, h3⟩, h4⟩, h5⟩, h6⟩, h7⟩, h8⟩, h9⟩ := h
    exact ⟨h1, h2, h3, h4, h5, h6, h7, h8, h9⟩
  · rintro ⟨h1, h2, h3, h4, h5, h6, h7, h8, h9⟩
    simp only [sle] at h9
    simp [one, h1, h2, h3, h4, h5, h6, h7, h8, h9]
def clash (a b : T) : Bool := decide (a.num = b.num) || (decide (a.lev = b.lev) && decide (0 < a.lev) && meet a b)
theorem clash_comm (a b : T) : clash a b = clash b a := by
  unfold clash
  rw [meet_comm a b]
  by_cases h : a.lev = b.lev <;> by_cases h2 : a.num = b.num
  · simp [h, h2]
  · simp [h, h2, Ne.symm h2]
  · simp [h, h2, Ne.symm h]
  · simp [h, h2, Ne.symm h, Ne.symm h2]
def mayGo : List T → List T → Bool
  | _, [] => true
  | p, x :: r => one x && (p.all (fun y => !clash x y) && mayGo (p ++ [x]) r)
def may (l : List T) : Bool := decide (l.length ≤ 64) && mayGo [] l
theorem mayGo_iff : ∀ (l p : List T), mayGo p l = true ↔ (∀ x ∈ l, One x) ∧ l.Pairwise (fun a b => clash b a = false) ∧ ∀ x ∈ l, ∀ y ∈ p, clash x y = false
  | [], p => by simp [mayGo]
  | x :: r, p => by
    simp only [mayGo, Bool.and_eq_true, one_iff, mayGo_iff r, List.all_eq_true, Bool.not_eq_true', List.mem_cons, List.pairwise_cons, List.mem_append]
    constructor
    · rintro ⟨h1, h2, h3, h4, h5⟩
      refine ⟨?_, ⟨fun y hy => h5 y hy x (.inr (.inl rfl)), h4⟩, ?_⟩
      · rintro y (rfl | hy)
        · exact h1
        · exact h3 y hy
      · rintro y (rfl | hy) z hz
        · exact h2 z hz
        · exact h5 y hy z (.inl hz)
    · rintro ⟨h1, ⟨h2, h3⟩, h4⟩
      refine ⟨h1 x (.inl rfl), fun y hy => h4 x (.inl rfl) y hy, fun y hy => h1 y (.inr hy), h3, ?_⟩
      rintro y hy z (hz | hz | hz)
      · exact h4 y (.inr hy) z hz
      · rw [hz]; exact h2 y hy
      · cases hz
structure May (l : List T) : Prop where
  len : l.length ≤ 64
  one : ∀ x ∈ l, One x
  pw : l.Pairwise (fun a b => clash a b = false)
theorem may_iff (l : List T) : may l = true ↔ May l := by
  simp only [may, Bool.and_eq_true, decide_eq_true_eq, mayGo_iff]
  constructor
  · rintro ⟨h1, h2, h3, _⟩
    exact ⟨h1, h2, h3.imp (fun h => by rw [clash_comm]; exact h)⟩
  · rintro ⟨h1, h2, h3⟩
    exact ⟨h1, h2, h3.imp (fun h => by rw [clash_comm]; exact h), by simp⟩
theorem May.sub {l d : List T} (h : May l) (hp : d.Sublist l) : May d := ⟨Nat.le_trans hp.length_le h.len, fun x hx => h.one x (hp.subset hx), h.pw.sublist hp⟩
theorem May.of_mem {l : List T} (h : May l) {x y : T} (hx : x ∈ l) (hy : y ∈ l) (hne : x ≠ y) : clash x y = false := by
  have := h.pw
  induction l with
  | nil => cases hx
  | cons z r ih =>
    rw [List.pairwise_cons] at this
    rcases List.mem_cons.mp hx with rfl | hx'
    · rcases List.mem_cons.mp hy with rfl | hy'
      · exact absurd rfl hne
      · exact this.1 y hy'
    · rcases List.mem_cons.mp hy with rfl | hy'
      · rw [clash_comm]; exact this.1 x hx'
      · exact ih (h.sub (List.sublist_cons_self ..)) hx' hy' this.2
theorem clash_num {a b : T} (h : clash a b = false) : a.num ≠ b.num := by
  intro e
  simp [clash, e] at h
theorem clash_meet {a b : T} (h : clash a b = false) (hl : a.lev = b.lev) (h0 : 0 < a.lev) : meet a b = false := by
  have := clash_num h
  rw [clash] at h
  simp only [this, decide_false, Bool.false_or, hl, decide_true, Bool.true_and] at h
  simpa [← hl, h0] using h
/- the order of reading -/
def ahead (a b : T) : Bool := if a.lev ≠ b.lev then decide (a.lev < b.lev) else if a.lev = 0 then decide (b.num < a.num) else slt a.first b.first
def ins (x : T) : List T → List T
  | [] => [x]
  | y :: r => if ahead x y = true then x :: y :: r else y :: ins x r
def nums (l : List T) : List Int := l.map (·.num)
def has (k : ByteArray) (t : T) : Bool := !slt k t.first && !slt t.last k
def lv (d : List T) (n : Int) : List T := d.filter (fun t => decide (t.lev = n))
def tot : List T → Int
  | [] => 0
  | x :: r => x.size + tot r
def full (h : List T) (n : Nat) (base : Int) : Bool := if n = 0 then decide (4 ≤ h.length) else decide (base * 4 ^ (n - 1) < tot h)
def loF (a : ByteArray) : List T → ByteArray
  | [] => a
  | x :: r => loF (if slt x.first a = true then x.first else a) r
def hiL (a : ByteArray) : List T → ByteArray
  | [] => a
  | x :: r => hiL (if slt a x.last = true then x.last else a) r
def span : List T → T
  | [] => zero
  | x :: r => ⟨0, 0, 0, loF x.first r, hiL x.last r⟩
def fr (d : List T) (n : Nat) : List T := if n = 0 then lv d 0 else (lv d n).take 1
def inn (d : List T) (n : Nat) : List T := fr d n ++ (lv d ((n : Int) + 1)).filter (fun x => meet x (span (fr d n)))
theorem loF_le : ∀ (l : List T) (a : ByteArray), sle (loF a l) a ∧ (∀ x ∈ l, sle (loF a l) x.first) ∧ (loF a l = a ∨ ∃ x ∈ l, loF a l = x.first)
  | [], a => ⟨sle_refl a, by simp, .inl rfl⟩
  | x :: r, a => by
    unfold loF
    by_cases h : slt x.first a = true
    · rw [if_pos h]
      obtain ⟨h1, h2, h3⟩ := loF_le r x.first
      refine ⟨sle_trans h1 (sle_of_lt h), ?_, .inr ?_⟩
      · intro y hy
        rcases List.mem_cons.mp hy with rfl | hy
        · exact h1
        · exact h2 y hy
      · rcases h3 with h3 | ⟨y, hy, h3⟩
        · exact ⟨x, List.mem_cons_self .., h3⟩
        · exact ⟨y, List.mem_cons_of_mem _ hy, h3⟩
    · rw [if_neg h]
      obtain ⟨h1, h2, h3⟩ := loF_le r a
      refine ⟨h1, ?_, ?_⟩
      · intro y hy
        rcases List.mem_cons.mp hy with rfl | hy
        · exact sle_trans h1 (by simpa using h)
        · exact h2 y hy
      · rcases h3 with h3 | ⟨y, hy, h3⟩
        · exact .inl h3
        · exact .inr ⟨y, List.mem_cons_of_mem _ hy, h3⟩
theorem hiL_le : ∀ (l : List T) (a : ByteArray), sle a (hiL a l) ∧ (∀ x ∈ l, sle x.last (hiL a l)) ∧ (hiL a l = a ∨ ∃ x ∈ l, hiL a l = x.last)
  | [], a => ⟨sle_refl a, by simp, .inl rfl⟩
  | x :: r, a => by
    unfold hiL
    by_cases h : slt a x.last = true
    · rw [if_pos h]
      obtain ⟨h1, h2, h3⟩ := hiL_le r x.last
      refine ⟨sle_trans (sle_of_lt h) h1, ?_, .inr ?_⟩
      · intro y hy
        rcases List.mem_cons.mp hy with rfl | hy
        · exact h1
        · exact h2 y hy
      · rcases h3 with h3 | ⟨y, hy, h3⟩
        · exact ⟨x, List.mem_cons_self .., h3⟩
        · exact ⟨y, List.mem_cons_of_mem _ hy, h3⟩
    · rw [if_neg h]
      obtain ⟨h1, h2, h3⟩ := hiL_le r a
      refine ⟨h1, ?_, ?_⟩
      · intro y hy
        rcases List.mem_cons.mp hy with rfl | hy
        · exact sle_trans (by simpa using h) h1
        · exact h2 y hy
      · rcases h3 with h3 | ⟨y, hy, h3⟩
        · exact .inl h3
        · exact .inr ⟨y, List.mem_cons_of_mem _ hy, h3⟩
/-- from the least First to the greatest Last of some -/
structure Hull (M : List T) (f g : ByteArray) : Prop where
  lo : ∀ x ∈ M, sle f x.first
  hi : ∀ x ∈ M, sle x.last g
  at1 : ∃ x ∈ M, f = x.first
  at2 : ∃ x ∈ M, g = x.last
theorem hull_span {M : List T} (h : M ≠ []) : Hull M (span M).first (span M).last := by
  cases M with
  | nil => exact absurd rfl h
  | cons x r =>
    obtain ⟨h1, h2, h3⟩ := loF_le r x.first
    obtain ⟨g1, g2, g3⟩ := hiL_le r x.last
    refine ⟨?_, ?_, ?_, ?_⟩
    · intro y hy
      rcases List.mem_cons.mp hy with rfl | hy
      · exact h1
      · exact h2 y hy
    · intro y hy
      rcases List.mem_cons.mp hy with rfl | hy
      · exact g1
      · exact g2 y hy
    · rcases h3 with h3 | ⟨y, hy, h3⟩
      · exact ⟨x, List.mem_cons_self .., h3⟩
      · exact ⟨y, List.mem_cons_of_mem _ hy, h3⟩
    · rcases g3 with h3 | ⟨y, hy, h3⟩
      · exact ⟨x, List.mem_cons_self .., h3⟩
      · exact ⟨y, List.mem_cons_of_mem _ hy, h3⟩
theorem mem_lv {d : List T} {n : Int} {x : T} : x ∈ lv d n ↔ x ∈ d ∧ x.lev = n := by simp [lv]
/-- what stays does not meet what comes of a job -/
theorem apart {d : List T} {n : Nat} {f g : ByteArray} {y : T} (hm : May d) (hne : fr d n ≠ []) (hh : Hull (inn d n) f g) (hy : y ∈ d) (hl : y.lev = (n : Int) + 1) (hn : y ∉ inn d n) : slt y.last f = true ∨ slt g y.first = true := by
  have hs := hull_span hne
  have h1 : meet y (span (fr d n)) = false := by
    cases e : meet y (span (fr d n)) with
    | false => rfl
    | true => exact absurd (List.mem_append.mpr (.inr (List.mem_filter.mpr ⟨mem_lv.mpr ⟨hy, hl⟩, e⟩))) hn
  have key : ∀ t, t ∈ inn d n → t ∉ fr d n → meet t (span (fr d n)) = true ∧ meet t y = false := by
    intro t ht hf
    rcases List.mem_append.mp ht with h | h
    · exact absurd h hf
    · obtain ⟨h2, h3⟩ := List.mem_filter.mp h
      obtain ⟨h4, h5⟩ := mem_lv.mp h2
      exact ⟨h3, clash_meet (hm.of_mem h4 hy (fun e => hn (e ▸ ht))) (by omega) (by omega)⟩
  obtain ⟨t1, ht1, e1⟩ := hh.at1
  obtain ⟨t2, ht2, e2⟩ := hh.at2
  have oy := hm.one y hy
  simp only [meet, Bool.and_eq_false_iff, Bool.not_eq_false'] at h1
  rcases h1 with h1 | h1
  · refine .inl (lt_of_not fun hc => ?_)
    have hc : sle f y.last := hc
    have hf : t1 ∉ fr d n := fun h => by
      have := lt_of_le_lt hc (lt_of_lt_le h1 (hs.lo t1 h))
      rw [e1, slt_irrefl] at this; cases this
    obtain ⟨k1, k2⟩ := key t1 ht1 hf
    simp only [meet, Bool.and_eq_true, Bool.not_eq_true'] at k1
    simp only [meet, Bool.and_eq_false_iff, Bool.not_eq_false'] at k2
    rcases k2 with k2 | k2
    · have := lt_of_lt_le (lt_of_lt_le k2 oy.fg) (sle_of_lt (lt_of_lt_le h1 k1.1))
      rw [slt_irrefl] at this; cases this
    · rw [e1] at hc
      rw [hc] at k2; cases k2
  · refine .inr (lt_of_not fun hc => ?_)
    have hc : sle y.first g := hc
    have hf : t2 ∉ fr d n := fun h => by
      have := lt_of_lt_le (lt_of_le_lt (hs.hi t2 h) h1) hc
      rw [e2, slt_irrefl] at this; cases this
    obtain ⟨k1, k2⟩ := key t2 ht2 hf
    simp only [meet, Bool.and_eq_true, Bool.not_eq_true'] at k1
    simp only [meet, Bool.and_eq_false_iff, Bool.not_eq_false'] at k2
    rcases k2 with k2 | k2
    · rw [e2] at hc
      rw [hc] at k2; cases k2
    · have := lt_of_le_lt k1.2 (lt_of_lt_le h1 (sle_trans oy.fg (sle_of_lt k2)))
      rw [slt_irrefl] at this; cases this
end Go.Proofs.YtmodogmjfbcddaaGreat.Lv
