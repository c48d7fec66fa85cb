/- Rosters: what they are, when they may be, and how an edit turns one (plain mathematics, after the program). -/
import Derived.Test.YtmodogmjfbcddaaGreatEdMath
namespace Go.Proofs.YtmodogmjfbcddaaGreat
namespace Ro

/-- a roster: segments; moves (Seg, Num); tables; snapshots (Num, Index, Term); the rest -/
structure R where
  segs : List Int
  moves : List (Int × Int)
  tabs : List Lv.T
  stills : List (Int × Int × Int)
  log : Int
  index : Int
  term : Int
  ht : Int
  hv : Int
  hc : Int
  mark : Int
def first : R := ⟨[], [], [], [], 1, 0, 0, 0, 0, 0, 0⟩
def zero : R := ⟨[], [], [], [], 0, 0, 0, 0, 0, 0, 0⟩

def cnt (n : Int) : Bool := decide (1 ≤ n) && decide (n ≤ 2147483647)
def cz (n : Int) : Bool := decide (n = 0) || cnt n
/-- numbers that count, each above the one ahead -/
def riseGo : Int → List Int → Bool
  | _, [] => true
  | a, n :: l => (decide (a < n) && decide (n ≤ 2147483647)) && riseGo n l
def rise (l : List Int) : Bool := riseGo 0 l
def sorted (l : List Int) : List Int := l.mergeSort (fun x y => decide (x ≤ y))
def differ (l : List Int) : Bool := rise (sorted l)
def lastOf (l : List Int) : Int := l.getLastD 0
def segsMay (s : List Int) : Bool := decide (s.length ≤ 64) && rise s
def movesMay (m : List (Int × Int)) (s : List Int) : Bool :=
  decide (m.length ≤ 64) && ((m.map (·.1)).all (fun g => decide (g < lastOf s) && !s.contains g) && (rise (m.map (·.1)) && differ (m.map (·.2))))
def stillsMay (k : List (Int × Int × Int)) (mark : Int) : Bool :=
  decide (k.length ≤ 4) && (k.all (fun x => decide (x.2.1 ≤ mark) && cnt x.2.2) && (rise (k.map (·.2.1)) && differ (k.map (·.1))))
def placeMay (r : R) : Bool := (cnt r.index && cnt r.term) || (decide (r.index = 0) && decide (r.term = 0))
def restMay (r : R) : Bool := cnt r.log && (cz r.mark && (placeMay r && (decide (r.index ≤ r.mark) && (cz r.ht && (cz r.hv && cz r.hc)))))
def check (r : R) : Bool := segsMay r.segs && (movesMay r.moves r.segs && (Lv.may r.tabs && (stillsMay r.stills r.mark && restMay r)))

/-- x among what rises by f -/
def ins {α : Type} (f : α → Int) (x : α) (l : List α) : List α := l.takeWhile (fun y => decide (f y < f x)) ++ x :: l.dropWhile (fun y => decide (f y < f x))
/-- all but those whose number is n -/
def out {α : Type} (f : α → Int) (n : Int) (l : List α) : List α := l.filter (fun y => !decide (f y = n))
/-- an edit is done -/
def turn (r : R) (e : Ed.E) : Option R :=
  if e.kind = 1 then (if e.num ≤ lastOf r.segs ∨ e.num ≤ lastOf (r.moves.map (·.1)) then none else some { r with segs := r.segs ++ [e.num] })
  else if e.kind = 2 then (if e.index ∈ r.segs then some { r with segs := r.segs.erase e.index, moves := if e.num = 0 then r.moves else ins (·.1) (e.index, e.num) r.moves } else none)
  else if e.kind = 3 then (if (out (·.1) e.index r.moves).length < r.moves.length then some { r with moves := out (·.1) e.index r.moves } else none)
  else if e.kind = 4 then some { r with tabs := r.tabs ++ [e.tab] }
  else if e.kind = 5 then (if (out (·.num) e.num r.tabs).length < r.tabs.length then some { r with tabs := out (·.num) e.num r.tabs } else none)
  else if e.kind = 6 then some { r with stills := ins (·.2.1) (e.num, e.index, e.term) r.stills }
  else if e.kind = 7 then (if (out (·.2.1) e.index r.stills).length < r.stills.length then some { r with stills := out (·.2.1) e.index r.stills } else none)
  else if e.kind = 8 then (if e.num < r.log ∨ e.index < r.index then none else some { r with log := e.num, index := e.index, term := e.term, ht := e.ht, hv := e.hv, hc := e.hc })
  else if e.kind = 9 then (if e.index < r.mark then none else some { r with mark := e.index })
  else some r
/-- edits are done, one behind the other -/
def turns (r : R) : List Ed.E → Option R
  | [] => some r
  | e :: l => (turn r e).bind fun x => turns x l
/-- what Apply tells: a roster, or which error -/
def apply (r : R) (l : List Ed.E) : R × Int :=
  if check r && l.all Ed.may then
    match turns r l with
    | none => (zero, 11)
    | some x => if check x then (x, 0) else (zero, 11)
  else (zero, 1)

/-- what stays so that searches find what there is; how great a roster is at most -/
structure Inv (r : R) (k : Nat) : Prop where
  segs : r.segs.Pairwise (· < ·)
  moves : (r.moves.map (·.1)).Pairwise (· ≤ ·)
  stills : (r.stills.map (·.2.1)).Pairwise (· ≤ ·)
  l1 : r.segs.length ≤ 64 + k
  l2 : r.moves.length ≤ 64 + k
  l3 : r.tabs.length ≤ 64 + k
  l4 : r.stills.length ≤ 64 + k

theorem riseGo_above : ∀ (l : List Int) (a : Int), riseGo a l = true → (∀ x ∈ l, a < x ∧ x ≤ 2147483647) ∧ l.Pairwise (· < ·)
  | [], _, _ => ⟨by simp, List.Pairwise.nil⟩
  | n :: l, a, h => by
    simp only [riseGo, Bool.and_eq_true, decide_eq_true_eq] at h
    obtain ⟨⟨h1, h2⟩, h3⟩ := h
    obtain ⟨g1, g2⟩ := riseGo_above l n h3
    refine ⟨fun x hx => ?_, List.Pairwise.cons (fun x hx => (g1 x hx).1) g2⟩
    rcases List.mem_cons.mp hx with rfl | hx
    · exact ⟨h1, h2⟩
    · have := g1 x hx; omega
theorem rise_iff (l : List Int) : rise l = true ↔ (∀ x ∈ l, 0 < x ∧ x ≤ 2147483647) ∧ l.Pairwise (· < ·) := by
  constructor
  · exact riseGo_above l 0
  · suffices H : ∀ (l : List Int) (a : Int), (∀ x ∈ l, a < x ∧ x ≤ 2147483647) → l.Pairwise (· < ·) → riseGo a l = true from fun h => H l 0 h.1 h.2
    intro l
    induction l with
    | nil => intro a _ _; rfl
    | cons n l ih =>
      intro a h1 h2
      have hn := h1 n (by simp)
      cases h2 with
      | cons g1 g2 =>
        simp only [riseGo, Bool.and_eq_true, decide_eq_true_eq]
        exact ⟨⟨hn.1, hn.2⟩, ih n (fun x hx => ⟨g1 x hx, (h1 x (by simp [hx])).2⟩) g2⟩
theorem lt_le {l : List Int} (h : l.Pairwise (· < ·)) : l.Pairwise (· ≤ ·) := h.imp (fun h => Int.le_of_lt h)

theorem check_parts {r : R} (h : check r = true) : segsMay r.segs = true ∧ movesMay r.moves r.segs = true ∧ Lv.may r.tabs = true ∧ stillsMay r.stills r.mark = true ∧ restMay r = true := by
  simp only [check, Bool.and_eq_true] at h; exact h
theorem check_inv {r : R} (h : check r = true) : Inv r 0 := by
  obtain ⟨h1, h2, h3, h4, _⟩ := check_parts h
  simp only [segsMay, movesMay, stillsMay, Bool.and_eq_true, decide_eq_true_eq] at h1 h2 h4
  refine ⟨((rise_iff _).mp h1.2).2, lt_le ((rise_iff _).mp h2.2.2.1).2, lt_le ((rise_iff _).mp h4.2.2.1).2, by omega, by omega, ?_, by omega⟩
  have := ((Lv.may_iff r.tabs).mp h3).len
  omega
theorem ins_length {α : Type} (f : α → Int) (x : α) (l : List α) : (ins f x l).length = l.length + 1 := by
  have h := congrArg List.length (List.takeWhile_append_dropWhile (p := fun y => decide (f y < f x)) (l := l))
  rw [List.length_append] at h
  simp only [ins, List.length_append, List.length_cons]; omega
theorem ins_map {α : Type} (f : α → Int) (x : α) (l : List α) : (ins f x l).map f = (l.map f).takeWhile (fun y => decide (y < f x)) ++ f x :: (l.map f).dropWhile (fun y => decide (y < f x)) := by
  simp only [ins, List.map_append, List.map_cons, List.takeWhile_map, List.dropWhile_map]; rfl
theorem sorted_ins {x : Int} : ∀ {l : List Int}, l.Pairwise (· ≤ ·) → (l.takeWhile (fun y => decide (y < x)) ++ x :: l.dropWhile (fun y => decide (y < x))).Pairwise (· ≤ ·)
  | [], _ => by simp
  | a :: l, h => by
    cases h with
    | cons h1 h2 =>
      by_cases hx : a < x
      · rw [List.takeWhile_cons_of_pos (by simpa using hx), List.dropWhile_cons_of_pos (by simpa using hx)]
        have ih := sorted_ins (x := x) h2
        rw [List.cons_append]
        refine List.Pairwise.cons (fun y hy => ?_) ih
        rcases List.mem_append.mp hy with h | h
        · exact h1 y ((List.takeWhile_sublist _).subset h)
        · rcases List.mem_cons.mp h with rfl | h
          · omega
          · exact h1 y (List.dropWhile_sublist _ |>.subset h)
      · rw [List.takeWhile_cons_of_neg (by simpa using hx), List.dropWhile_cons_of_neg (by simpa using hx)]
        refine List.Pairwise.cons (fun y hy => ?_) (List.Pairwise.cons h1 h2)
        rcases List.mem_cons.mp hy with rfl | hy
        · omega
        · have := h1 y hy; omega
theorem out_sorted {α : Type} {f g : α → Int} {n : Int} {l : List α} (h : (l.map g).Pairwise (· ≤ ·)) : ((out f n l).map g).Pairwise (· ≤ ·) :=
  h.sublist ((List.filter_sublist).map g)
theorem last_above {l : List Int} (h : l.Pairwise (· < ·)) {n : Int} (hn : lastOf l < n) : (l ++ [n]).Pairwise (· < ·) := by
  refine List.pairwise_append.mpr ⟨h, List.pairwise_singleton _ _, fun a ha b hb => ?_⟩
  obtain rfl := List.mem_singleton.mp hb
  obtain ⟨l', x, rfl⟩ : ∃ l' x, l = l' ++ [x] := by
    rcases List.eq_nil_or_concat l with rfl | ⟨l', x, rfl⟩
    · simp at ha
    · exact ⟨l', x, by simp⟩
  have hx : lastOf (l' ++ [x]) = x := by simp [lastOf]
  rw [hx] at hn
  rcases List.mem_append.mp ha with h1 | h1
  · have := (List.pairwise_append.mp h).2.2 a h1 x (by simp); omega
  · obtain rfl := List.mem_singleton.mp h1; exact hn
theorem turn_inv {r x : R} {e : Ed.E} {k : Nat} (h : Inv r k) (ht : turn r e = some x) : Inv x (k + 1) := by
  have h1 := h.l1; have h2 := h.l2; have h3 := h.l3; have h4 := h.l4
  unfold turn at ht
  split at ht
  · split at ht
    · cases ht
    · next hn =>
      cases ht
      exact ⟨last_above h.segs (by omega), h.moves, h.stills, by simp; omega, by simp; omega, by simp; omega, by simp; omega⟩
  split at ht
  · split at ht
    · next hm =>
      cases ht
      have hl := List.length_erase_of_mem hm
      refine ⟨h.segs.sublist List.erase_sublist, ?_, h.stills, ?_, ?_, ?_, ?_⟩
      · dsimp only
        split
        · exact h.moves
        · rw [ins_map]; exact sorted_ins h.moves
      · dsimp only; omega
      · dsimp only
        split
        · omega
        · rw [ins_length]; omega
      · dsimp only; omega
      · dsimp only; omega
    · cases ht
  split at ht
  · split at ht
    · next hm => cases ht; exact ⟨h.segs, out_sorted h.moves, h.stills, by dsimp only; omega, by dsimp only; omega, by dsimp only; omega, by dsimp only; omega⟩
    · cases ht
  split at ht
  · cases ht; exact ⟨h.segs, h.moves, h.stills, by dsimp only; omega, by dsimp only; omega, by simp; omega, by dsimp only; omega⟩
  split at ht
  · split at ht
    · next hm => cases ht; exact ⟨h.segs, h.moves, h.stills, by dsimp only; omega, by dsimp only; omega, by dsimp only; omega, by dsimp only; omega⟩
    · cases ht
  split at ht
  · cases ht
    refine ⟨h.segs, h.moves, ?_, by dsimp only; omega, by dsimp only; omega, by dsimp only; omega, by dsimp only; rw [ins_length]; omega⟩
    dsimp only
    rw [ins_map]; exact sorted_ins h.stills
  split at ht
  · split at ht
    · next hm => cases ht; exact ⟨h.segs, h.moves, out_sorted h.stills, by dsimp only; omega, by dsimp only; omega, by dsimp only; omega, by dsimp only; omega⟩
    · cases ht
  split at ht
  · split at ht
    · cases ht
    · cases ht; exact ⟨h.segs, h.moves, h.stills, by dsimp only; omega, by dsimp only; omega, by dsimp only; omega, by dsimp only; omega⟩
  split at ht
  · split at ht
    · cases ht
    · cases ht; exact ⟨h.segs, h.moves, h.stills, by dsimp only; omega, by dsimp only; omega, by dsimp only; omega, by dsimp only; omega⟩
  · cases ht; exact ⟨h.segs, h.moves, h.stills, by omega, by omega, by omega, by omega⟩

/-- edits done one by one, each beginning of them done -/
def steps (r : R) : List Ed.E → Option R
  | [] => some r
  | e :: l => if (apply r [e]).2 = 0 then steps (apply r [e]).1 l else none
theorem apply_one {r : R} {e : Ed.E} (h : (apply r [e]).2 = 0) : check r = true ∧ Ed.may e = true ∧ turn r e = some (apply r [e]).1 ∧ check (apply r [e]).1 = true := by
  unfold apply at h ⊢
  by_cases hc : (check r && [e].all Ed.may) = true
  · rw [if_pos hc] at h ⊢
    simp only [List.all_cons, List.all_nil, Bool.and_true, Bool.and_eq_true] at hc
    cases ht : turn r e with
    | none => simp [turns, ht] at h
    | some y =>
      simp only [turns, ht, Option.bind_some] at h ⊢
      by_cases hy : check y = true
      · rw [if_pos hy]; exact ⟨hc.1, hc.2, rfl, hy⟩
      · rw [if_neg hy] at h; simp at h
  · rw [if_neg hc] at h; simp at h
theorem steps_whole : ∀ (l : List Ed.E) (r x : R), steps r l = some x → l ≠ [] → check r = true ∧ l.all Ed.may = true ∧ turns r l = some x ∧ check x = true
  | [], _, _, _, h => absurd rfl h
  | [e], r, x, h, _ => by
    simp only [steps] at h
    split at h
    · next h0 =>
      obtain ⟨h1, h2, h3, h4⟩ := apply_one h0
      cases h
      exact ⟨h1, by simp [h2], by simp [turns, h3], h4⟩
    · cases h
  | e :: f :: l, r, x, h, _ => by
    rw [steps] at h
    split at h
    · next h0 =>
      obtain ⟨h1, h2, h3, h4⟩ := apply_one h0
      obtain ⟨_, g2, g3, g4⟩ := steps_whole (f :: l) _ x h (by simp)
      refine ⟨h1, by rw [List.all_cons, h2, g2]; rfl, ?_, g4⟩
      rw [turns, h3]; exact g3
    · cases h
/-- the theorem of one -/
theorem whole {l : List Ed.E} {r x : R} (h : steps r l = some x) (hl : l ≠ []) : apply r l = (x, 0) := by
  obtain ⟨h1, h2, h3, h4⟩ := steps_whole l r x h hl
  unfold apply
  rw [h1, h2, h3]
  simp [h4]
end Ro
end Go.Proofs.YtmodogmjfbcddaaGreat
