/- The edits that make a roster (plain mathematics). -/
import Derived.Test.YtmodogmjfbcddaaGreatRoMath
namespace Go.Proofs.YtmodogmjfbcddaaGreat
namespace Ro

def eSeg (g : Int) : Ed.E := ⟨1, g, 0, 0, 0, 0, 0, Lv.zero⟩
def eMove (m : Int × Int) : Ed.E := ⟨2, m.2, m.1, 0, 0, 0, 0, Lv.zero⟩
def eTab (t : Lv.T) : Ed.E := ⟨4, 0, 0, 0, 0, 0, 0, t⟩
def eMark (m : Int) : Ed.E := ⟨9, 0, m, 0, 0, 0, 0, Lv.zero⟩
def eStill (k : Int × Int × Int) : Ed.E := ⟨6, k.1, k.2.1, k.2.2, 0, 0, 0, Lv.zero⟩
def eBase (r : R) : Ed.E := ⟨8, r.log, r.index, r.term, r.ht, r.hv, r.hc, Lv.zero⟩
def allSegs (r : R) : List Int := sorted (r.segs ++ r.moves.map (·.1))
def based (r : R) : Bool := decide (1 < r.log) || (decide (0 < r.index) || !(decide (r.ht = 0) && (decide (r.hv = 0) && decide (r.hc = 0))))
def makes (r : R) : List Ed.E :=
  (allSegs r).map eSeg ++ (r.moves.map eMove ++ (r.tabs.map eTab ++ ((if 0 < r.mark then [eMark r.mark] else []) ++ (r.stills.map eStill ++ (if based r = true then [eBase r] else [])))))
def edits (r : R) : List Ed.E := if check r = true then makes r else []

theorem turns_append : ∀ (a b : List Ed.E) (r : R), turns r (a ++ b) = (turns r a).bind fun x => turns x b
  | [], _, _ => rfl
  | e :: a, b, r => by
    rw [List.cons_append, turns, turns]
    cases turn r e with
    | none => rfl
    | some x => exact turns_append a b x
theorem last_lt {l : List Int} {z : Int} (hz : 0 < z) (h : ∀ x ∈ l, x < z) : lastOf l < z := by
  rcases List.eq_nil_or_concat l with rfl | ⟨l', x, rfl⟩
  · simpa [lastOf] using hz
  · simpa [lastOf] using h x (by simp)
theorem turns_segs : ∀ (S : List Int) (r : R), r.moves = [] → (∀ x ∈ S, 0 < x) → S.Pairwise (· < ·) → (∀ x ∈ r.segs, ∀ y ∈ S, x < y) → turns r (S.map eSeg) = some { r with segs := r.segs ++ S }
  | [], r, _, _, _, _ => by simp [turns]
  | g :: S, r, hm, h0, hp, ha => by
    cases hp with
    | cons h1 h2 =>
      have hg := h0 g (by simp)
      have hl : lastOf r.segs < g := last_lt hg (fun x hx => ha x hx g (by simp))
      have hn : turn r (eSeg g) = some { r with segs := r.segs ++ [g] } := by
        simp only [turn, eSeg, if_true, hm, List.map_nil]
        have : lastOf [] = 0 := rfl
        rw [if_neg (by rw [this]; omega)]
      rw [List.map_cons, turns, hn, Option.bind_some, turns_segs S { r with segs := r.segs ++ [g] } hm (fun x hx => h0 x (by simp [hx])) h2 ?_]
      · simp
      · intro x hx y hy
        rcases List.mem_append.mp hx with h | h
        · exact ha x h y (by simp [hy])
        · obtain rfl := List.mem_singleton.mp h; exact h1 y hy
theorem ins_end {α : Type} (f : α → Int) (x : α) (l : List α) (h : ∀ y ∈ l, f y < f x) : ins f x l = l ++ [x] := by
  have h1 : l.takeWhile (fun y => decide (f y < f x)) = l := by
    induction l with
    | nil => rfl
    | cons a l ih => rw [List.takeWhile_cons_of_pos (by simpa using h a (by simp)), ih (fun y hy => h y (by simp [hy]))]
  have h2 : l.dropWhile (fun y => decide (f y < f x)) = [] := by
    induction l with
    | nil => rfl
    | cons a l ih => rw [List.dropWhile_cons_of_pos (by simpa using h a (by simp))]; exact ih (fun y hy => h y (by simp [hy])) (by rw [List.takeWhile_cons_of_pos (by simpa using h a (by simp))] at h1; simpa using h1)
  rw [ins, h1, h2]
theorem turns_moves : ∀ (M : List (Int × Int)) (r : R), (∀ m ∈ M, 0 < m.2) → (M.map (·.1)).Pairwise (· < ·) → (∀ p ∈ r.moves, ∀ m ∈ M, p.1 < m.1) → (∀ m ∈ M, m.1 ∈ r.segs) → r.segs.Pairwise (· < ·) →
    turns r (M.map eMove) = some { r with segs := r.segs.filter (fun g => !(M.map (·.1)).contains g), moves := r.moves ++ M }
  | [], r, _, _, _, _, _ => by
    have : r.segs.filter (fun _ => true) = r.segs := List.filter_eq_self.mpr (fun _ _ => rfl)
    simp [turns, this]
  | m :: M, r, h0, hp, ha, hi, hs => by
    rw [List.map_cons] at hp
    cases hp with
    | cons h1 h2 =>
      have hm := h0 m (by simp)
      have hin := hi m (by simp)
      have hn : turn r (eMove m) = some { r with segs := r.segs.erase m.1, moves := r.moves ++ [m] } := by
        have hie := ins_end (·.1) (m.1, m.2) r.moves (fun y hy => ha y hy m (by simp))
        have hm0 : ¬ (m.2 = 0) := by omega
        simp [turn, eMove, hin, hm0, hie]
      have hnd : r.segs.Nodup := hs.imp (fun h e => by omega)
      rw [List.map_cons, turns, hn, Option.bind_some, turns_moves M { r with segs := r.segs.erase m.1, moves := r.moves ++ [m] } (fun x hx => h0 x (by simp [hx])) h2 ?_ ?_ (hs.sublist List.erase_sublist)]
      · congr 1
        have he : r.segs.erase m.1 = r.segs.filter (fun g => !decide (g = m.1)) := by
          rw [hnd.erase_eq_filter]
          apply List.filter_congr
          intro x _
          by_cases h : x = m.1 <;> simp [h]
        simp only [he, List.filter_filter, List.append_assoc, List.singleton_append]
        congr 1
        apply List.filter_congr
        intro x _
        by_cases h : x = m.1 <;> simp [h]
      · intro p hp' q hq
        rcases List.mem_append.mp hp' with h | h
        · exact ha p h q (by simp [hq])
        · obtain rfl := List.mem_singleton.mp h; exact h1 q.1 (List.mem_map_of_mem hq)
      · intro q hq
        have : q.1 ≠ m.1 := by have := h1 q.1 (List.mem_map_of_mem hq); omega
        exact (List.mem_erase_of_ne this).mpr (hi q (by simp [hq]))
theorem turns_tabs : ∀ (T : List Lv.T) (r : R), turns r (T.map eTab) = some { r with tabs := r.tabs ++ T }
  | [], r => by simp [turns]
  | t :: T, r => by
    have hn : turn r (eTab t) = some { r with tabs := r.tabs ++ [t] } := by simp [turn, eTab]
    rw [List.map_cons, turns, hn, Option.bind_some, turns_tabs T]; simp
theorem turns_stills : ∀ (K : List (Int × Int × Int)) (r : R), (K.map (·.2.1)).Pairwise (· < ·) → (∀ p ∈ r.stills, ∀ k ∈ K, p.2.1 < k.2.1) → turns r (K.map eStill) = some { r with stills := r.stills ++ K }
  | [], r, _, _ => by simp [turns]
  | k :: K, r, hp, ha => by
    rw [List.map_cons] at hp
    cases hp with
    | cons h1 h2 =>
      have hn : turn r (eStill k) = some { r with stills := r.stills ++ [k] } := by
        simp only [turn, eStill]
        rw [ins_end (·.2.1) (k.1, k.2.1, k.2.2) r.stills (fun y hy => ha y hy k (by simp))]
        rfl
      rw [List.map_cons, turns, hn, Option.bind_some, turns_stills K _ h2 ?_]
      · simp
      · intro p hp' q hq
        rcases List.mem_append.mp hp' with h | h
        · exact ha p h q (by simp [hq])
        · obtain rfl := List.mem_singleton.mp h; exact h1 q.2.1 (List.mem_map_of_mem hq)

theorem sorted_perm (l : List Int) : (sorted l).Perm l := List.mergeSort_perm l _
theorem sorted_pw (l : List Int) : (sorted l).Pairwise (· ≤ ·) := by
  have h := List.pairwise_mergeSort (le := fun x y : Int => decide (x ≤ y)) (fun a b c h1 h2 => by simp only [decide_eq_true_eq] at *; omega) (fun a b => by simp only [Bool.or_eq_true, decide_eq_true_eq]; omega) l
  exact h.imp (fun h => by simpa using h)
theorem sorted_unique : ∀ {a b : List Int}, a.Perm b → a.Pairwise (· < ·) → b.Pairwise (· < ·) → a = b := by
  intro a b h ha hb
  exact List.Perm.eq_of_pairwise (fun x y _ _ h1 h2 => by omega) (lt_le ha) (lt_le hb) h

structure May (r : R) : Prop where
  segs : (∀ x ∈ r.segs, 0 < x ∧ x ≤ 2147483647) ∧ r.segs.Pairwise (· < ·)
  sl : r.segs.length ≤ 64
  moves : (∀ x ∈ r.moves.map (·.1), 0 < x ∧ x ≤ 2147483647) ∧ (r.moves.map (·.1)).Pairwise (· < ·)
  ml : r.moves.length ≤ 64
  apart : ∀ x ∈ r.moves.map (·.1), x < lastOf r.segs ∧ x ∉ r.segs
  nums : ∀ m ∈ r.moves, 0 < m.2 ∧ m.2 ≤ 2147483647
  tabs : Lv.May r.tabs
  stills : (∀ x ∈ r.stills.map (·.2.1), 0 < x ∧ x ≤ 2147483647) ∧ (r.stills.map (·.2.1)).Pairwise (· < ·)
  kl : r.stills.length ≤ 4
  snums : ∀ k ∈ r.stills, (0 < k.1 ∧ k.1 ≤ 2147483647) ∧ k.2.1 ≤ r.mark ∧ 1 ≤ k.2.2 ∧ k.2.2 ≤ 2147483647
  rest : restMay r = true
theorem differ_mem {l : List Int} (h : differ l = true) : ∀ x ∈ l, 0 < x ∧ x ≤ 2147483647 := by
  intro x hx
  exact ((rise_iff _).mp h).1 x ((sorted_perm l).mem_iff.mpr hx)
theorem may_of_check {r : R} (h : check r = true) : May r := by
  obtain ⟨h1, h2, h3, h4, h5⟩ := check_parts h
  simp only [segsMay, movesMay, stillsMay, Bool.and_eq_true, decide_eq_true_eq] at h1 h2 h4
  refine ⟨(rise_iff _).mp h1.2, h1.1, (rise_iff _).mp h2.2.2.1, h2.1, ?_, ?_, (Lv.may_iff _).mp h3, (rise_iff _).mp h4.2.2.1, h4.1, ?_, h5⟩
  · intro x hx
    have := List.all_eq_true.mp h2.2.1 x hx
    simpa using this
  · intro m hm
    exact differ_mem h2.2.2.2 m.2 (List.mem_map_of_mem hm)
  · intro k hk
    have := List.all_eq_true.mp h4.2.1 k hk
    simp only [Bool.and_eq_true, decide_eq_true_eq, cnt] at this
    exact ⟨differ_mem h4.2.2.2 k.1 (List.mem_map_of_mem hk), this.1, this.2⟩
theorem May.disj {r : R} (h : May r) : (allSegs r).Pairwise (· < ·) ∧ ∀ x ∈ allSegs r, 0 < x ∧ x ≤ 2147483647 := by
  have hp := sorted_perm (r.segs ++ r.moves.map (·.1))
  constructor
  · have hnd : (r.segs ++ r.moves.map (·.1)).Nodup := by
      refine List.nodup_append.mpr ⟨h.segs.2.imp (fun h e => by omega), h.moves.2.imp (fun h e => by omega), ?_⟩
      intro a ha b hb e
      subst e
      exact (h.apart a hb).2 ha
    have hnd2 : (allSegs r).Nodup := hp.nodup_iff.mpr hnd
    have hle := sorted_pw (r.segs ++ r.moves.map (·.1))
    exact hle.imp₂ (fun a b h1 h2 => by omega) hnd2
  · intro x hx
    rcases List.mem_append.mp (hp.mem_iff.mp hx) with h1 | h1
    · exact h.segs.1 x h1
    · exact h.moves.1 x h1
theorem May.left {r : R} (h : May r) : (allSegs r).filter (fun g => !(r.moves.map (·.1)).contains g) = r.segs := by
  have hp := (sorted_perm (r.segs ++ r.moves.map (·.1))).filter (fun g => !(r.moves.map (·.1)).contains g)
  rw [List.filter_append] at hp
  have h1 : r.segs.filter (fun g => !(r.moves.map (·.1)).contains g) = r.segs := by
    rw [List.filter_eq_self]
    intro x hx
    simp only [Bool.not_eq_true', List.contains_eq_mem, decide_eq_false_iff_not]
    exact fun hm => (h.apart x hm).2 hx
  have h2 : (r.moves.map (·.1)).filter (fun g => !(r.moves.map (·.1)).contains g) = [] := by
    rw [List.filter_eq_nil_iff]
    intro x hx
    simp [List.contains_eq_mem, hx]
  rw [h1, h2, List.append_nil] at hp
  exact sorted_unique hp (h.disj.1.sublist List.filter_sublist) h.segs.2
theorem rest_parts {r : R} (h : restMay r = true) : (1 ≤ r.log ∧ r.log ≤ 2147483647) ∧ (0 ≤ r.mark ∧ r.mark ≤ 2147483647) ∧ ((1 ≤ r.index ∧ r.index ≤ 2147483647 ∧ 1 ≤ r.term ∧ r.term ≤ 2147483647) ∨ (r.index = 0 ∧ r.term = 0)) ∧ r.index ≤ r.mark ∧ (0 ≤ r.ht ∧ r.ht ≤ 2147483647) ∧ (0 ≤ r.hv ∧ r.hv ≤ 2147483647) ∧ (0 ≤ r.hc ∧ r.hc ≤ 2147483647) := by
  simp only [restMay, placeMay, cnt, cz, Bool.and_eq_true, Bool.or_eq_true, decide_eq_true_eq] at h
  omega
/-- its own edits, done at first, make it again -/
theorem makes_turns {r : R} (h : May r) : turns first (makes r) = some r := by
  obtain ⟨g1, g2, g3, g4, g5, g6, g7⟩ := rest_parts h.rest
  unfold makes
  rw [turns_append, turns_segs (allSegs r) first rfl (fun x hx => (h.disj.2 x hx).1) h.disj.1 (by simp [first]), Option.bind_some, turns_append,
    turns_moves r.moves _ (fun m hm => (h.nums m hm).1) h.moves.2 (by simp [first]) ?_ (by simpa [first] using h.disj.1), Option.bind_some, turns_append, turns_tabs, Option.bind_some, turns_append]
  · simp only [first, List.nil_append, h.left]
    have hmark : turns ⟨r.segs, r.moves, r.tabs, [], 1, 0, 0, 0, 0, 0, 0⟩ (if 0 < r.mark then [eMark r.mark] else []) = some ⟨r.segs, r.moves, r.tabs, [], 1, 0, 0, 0, 0, 0, r.mark⟩ := by
      split
      · have hn : ¬ (r.mark < 0) := by omega
        simp [turns, turn, eMark, hn]
      · have : r.mark = 0 := by omega
        rw [this]; rfl
    rw [hmark, Option.bind_some, turns_append, turns_stills r.stills _ h.stills.2 (by simp), Option.bind_some, List.nil_append]
    split
    · have hn : ¬ (r.log < 1 ∨ r.index < 0) := by omega
      simp [turns, turn, eBase, hn]
    · next hb =>
      simp only [based, Bool.or_eq_true, Bool.not_eq_true', Bool.and_eq_false_iff, decide_eq_true_eq, decide_eq_false_iff_not] at hb
      have e1 : r.log = 1 := by omega
      have e2 : r.index = 0 := by omega
      have e3 : r.term = 0 := by omega
      have e4 : r.ht = 0 := by omega
      have e5 : r.hv = 0 := by omega
      have e6 : r.hc = 0 := by omega
      obtain ⟨a, b, c, d, e, f, g, x, y, z, m⟩ := r
      dsimp only at e1 e2 e3 e4 e5 e6
      subst e1 e2 e3 e4 e5 e6
      rfl
  · intro m hm
    simp only [first, List.nil_append]
    exact (sorted_perm _).mem_iff.mpr (List.mem_append_right _ (List.mem_map_of_mem hm))
theorem makes_may {r : R} (h : May r) : (makes r).all Ed.may = true := by
  obtain ⟨g1, g2, g3, g4, g5, g6, g7⟩ := rest_parts h.rest
  have hz : Ed.tz Lv.zero = true := (Ed.tz_iff _).mpr rfl
  have cn : ∀ n : Int, 0 < n ∧ n ≤ 2147483647 → Ed.counts n = true := fun n hn => (Ed.counts_iff n).mpr (by omega)
  have cc : ∀ n : Int, 0 ≤ n ∧ n ≤ 2147483647 → Ed.cz n = true := fun n hn => (Ed.cz_iff n).mpr (by omega)
  rw [List.all_eq_true]
  intro e he
  simp only [makes, List.mem_append, List.mem_map] at he
  rcases he with ⟨g, hg, rfl⟩ | ⟨m, hm, rfl⟩ | ⟨t, ht, rfl⟩ | he | ⟨k, hk, rfl⟩ | he
  · have := cn g (h.disj.2 g hg)
    simp [Ed.may, eSeg, Ed.hz, hz, this]
  · have h1 := cc m.2 (by have := h.nums m hm; omega)
    have h2 := cn m.1 (h.moves.1 m.1 (List.mem_map_of_mem hm))
    simp [Ed.may, eMove, Ed.hz, hz, h1, h2]
  · have := (Lv.one_iff _).mpr (h.tabs.one t ht)
    simp [Ed.may, eTab, Ed.hz, this]
  · split at he
    · obtain rfl := List.mem_singleton.mp he
      have h1 := cn r.mark (by omega)
      simp [Ed.may, eMark, Ed.hz, hz, h1]
    · simp at he
  · have h1 := h.snums k hk
    have h2 := cn k.2.1 (h.stills.1 k.2.1 (List.mem_map_of_mem (f := (·.2.1)) hk))
    have h3 := cn k.1 h1.1
    have h4 := cn k.2.2 (by omega)
    simp [Ed.may, eStill, Ed.hz, hz, h2, h3, h4]
  · split at he
    · obtain rfl := List.mem_singleton.mp he
      have h1 := cn r.log (by omega)
      have h2 := cc r.ht g5
      have h3 := cc r.hv g6
      have h4 := cc r.hc g7
      rcases g3 with g3 | g3
      · have h5 := cn r.index (by omega)
        have h6 := cn r.term (by omega)
        simp [Ed.may, eBase, hz, h1, h2, h3, h4, h5, h6]
      · simp [Ed.may, eBase, hz, h1, h2, h3, h4, g3.1, g3.2]
    · simp at he
theorem check_first : check first = true := by
  have h : Lv.may [] = true := by decide
  simp [check, first, segsMay, rise, riseGo, movesMay, stillsMay, restMay, placeMay, differ, sorted, cnt, cz, h]
/-- the theorem of rosters -/
theorem again {r : R} (h : check r = true) : apply first (edits r) = (r, 0) := by
  have hm := may_of_check h
  rw [edits, if_pos h, apply, check_first, makes_may hm, makes_turns hm]
  simp [h]
theorem makes_length {r : R} (h : May r) : (makes r).length ≤ 400 := by
  have h1 := h.sl; have h2 := h.ml; have h3 := h.tabs.len; have h4 := h.kl
  have h5 : (allSegs r).length = r.segs.length + r.moves.length := by
    have := (sorted_perm (r.segs ++ r.moves.map (·.1))).length_eq
    simpa [allSegs] using this
  simp only [makes, List.length_append, List.length_map, h5]
  split <;> split <;> simp <;> omega
end Ro
end Go.Proofs.YtmodogmjfbcddaaGreat
