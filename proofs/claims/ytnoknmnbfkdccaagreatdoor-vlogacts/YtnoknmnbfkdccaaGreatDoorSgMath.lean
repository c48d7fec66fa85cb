/- The plain mathematics of the program's way with tables: how bytes are opened, where a key stands, what is scanned. Names no dump. -/
import Derived.Test.YtnoknmnbfkdccaaGreatDoorMa
namespace Go.Proofs.YtnoknmnbfkdccaaGreatDoor

namespace Fr
theorem first_take {bs : List Nat} (h : (first bs).2.2 = 0) : bs.take (first bs).2.1 = one (first bs).1 ∧ (first bs).2.1 = size (first bs).1.2.length := by
  have hl : bs.take (first bs).2.1 = one (first bs).1 := by
    revert h
    unfold first
    split
    · intro h; simp at h
    · split
      · intro h; simp at h
      · split
        · intro h; simp at h
        · split
          · intro h; simp at h
          · split
            · intro h; simp at h
            · split
              · next h6 => intro _; exact h6.symm
              · intro h; simp at h
  refine ⟨hl, ?_⟩
  have h1 := congrArg List.length hl
  rw [one_len, List.length_take] at h1
  have := first_le bs
  omega
theorem places_snoc (f : F) : ∀ (l : List F) (at' : Nat), places (l ++ [f]) at' = places l at' ++ [at' + (all l).length + (Va.one f.2.length).length + 1]
  | [], at' => by simp [places, all]
  | g :: l, at' => by
    rw [List.cons_append, places, places, places_snoc f l, List.cons_append, all_len_cons]
    rw [show at' + size g.2.length + (all l).length + (Va.one f.2.length).length + 1 = at' + (size g.2.length + (all l).length) + (Va.one f.2.length).length + 1 by omega]
theorem sc_inv : ∀ (n : Nat) (bs : List Nat) (at' : Nat) (l : List F) (ps : List Nat), at' ≤ bs.length → all l = bs.take at' → ps = places l 0 →
    (sc n bs at' l ps).2.2 ≤ bs.length ∧ all (sc n bs at' l ps).1 = bs.take (sc n bs at' l ps).2.2 ∧ (sc n bs at' l ps).2.1 = places (sc n bs at' l ps).1 0
  | 0, bs, at', l, ps, h1, h2, h3 => ⟨h1, h2, h3⟩
  | n + 1, bs, at', l, ps, h1, h2, h3 => by
    rw [sc]
    split
    · next h =>
      obtain ⟨t1, t2⟩ := first_take h
      have t3 := first_le (bs.drop at')
      rw [List.length_drop] at t3
      have hal : (all l).length = at' := by rw [h2, List.length_take]; omega
      refine sc_inv n bs _ _ _ (by omega) ?_ ?_
      · rw [all_append, h2]
        have : all [(first (bs.drop at')).1] = one (first (bs.drop at')).1 := by simp [all]
        rw [this, ← t1, ← List.take_add]
      · have e : at' + (first (bs.drop at')).2.1 - 4 - (first (bs.drop at')).1.2.length = 0 + at' + (Va.one (first (bs.drop at')).1.2.length).length + 1 := by rw [t2]; unfold size; omega
        rw [places_snoc, h3, hal, e]
    · exact ⟨h1, h2, h3⟩
theorem scan_inv (bs : List Nat) : (scan bs).2.2 ≤ bs.length ∧ all (scan bs).1 = bs.take (scan bs).2.2 ∧ (scan bs).2.1 = places (scan bs).1 0 := sc_inv _ bs 0 [] [] (Nat.zero_le _) (by simp [all]) rfl
theorem one_le_all {f : F} : ∀ {l : List F}, f ∈ l → f.2.length ≤ (all l).length ∧ (∀ x ∈ f.2, x ∈ all l)
  | [], h => by cases h
  | g :: l, h => by
    rw [all_cons]
    rcases List.mem_cons.mp h with rfl | h
    · refine ⟨?_, fun x hx => ?_⟩
      · rw [List.length_append, one_len]; unfold size; omega
      · refine List.mem_append_left _ ?_
        unfold one put1
        simp [hx]
    · obtain ⟨h1, h2⟩ := one_le_all h
      exact ⟨by rw [List.length_append]; omega, fun x hx => List.mem_append_right _ (h2 x hx)⟩
theorem all_count : ∀ (l : List F), 6 * l.length ≤ (all l).length
  | [] => by simp
  | f :: l => by
    have := all_count l
    have h1 := Va.one_pos f.2.length
    rw [all_len_cons, List.length_cons]
    unfold size
    omega
end Fr

namespace Tb
def lastK (p : List It.I) : List Nat := (p.getD (p.length - 1) It.zero).1
/-- parts in order: what is known of them -/
structure Whole (ps : List (List It.I)) : Prop where
  part : ∀ p ∈ ps, p ≠ [] ∧ p.length ≤ 256 ∧ (∀ x ∈ p, Bl.Small x) ∧ Bl.get (Bl.put p) = p
  up : It.sorted (joined ps) = true
  few : (joined ps).length ≤ 16384
theorem last_mem {p : List It.I} (h : p ≠ []) : p.getD (p.length - 1) It.zero ∈ p := by
  have := List.length_pos_iff.mpr h
  rw [List.getD_eq_getElem?_getD, List.getElem?_eq_getElem (by omega)]
  exact List.getElem_mem _
theorem le_last {p : List It.I} (h : p.Pairwise (fun a b => Na.lt a.1 b.1 = true)) (k : Nat) (hk : k < p.length) : Na.lt (lastK p) (p.getD k It.zero).1 = false := by
  rcases Nat.lt_or_ge k (p.length - 1) with h1 | h1
  · exact It.lt_asymm (It.rise_at h h1 (by omega))
  · rw [show k = p.length - 1 by omega]; exact It.lt_irrefl _
theorem mem_at {p : List It.I} {x : It.I} (h : x ∈ p) : ∃ k, k < p.length ∧ p.getD k It.zero = x := by
  obtain ⟨k, hk, e⟩ := List.mem_iff_getElem.mp h
  exact ⟨k, hk, by rw [List.getD_eq_getElem?_getD, List.getElem?_eq_getElem hk]; exact e⟩
theorem lt_of_le_lt {a b c : List Nat} (h1 : Na.lt b a = false) (h2 : Na.lt b c = true) : Na.lt a c = true := It.ge_lt_trans h1 h2
/- where a key stands; what is scanned -/
theorem cut_at {ps : List (List It.I)} {P : Nat} (hP : P < ps.length) (A : Nat) : joined ps = (joined (ps.take P) ++ (ps.getD P []).take A) ++ ((ps.getD P []).drop A ++ joined (ps.drop (P + 1))) := by
  have e : ps = ps.take P ++ (ps.getD P [] :: ps.drop (P + 1)) := by
    have := List.drop_eq_getElem_cons hP
    rw [List.getD_eq_getElem?_getD, List.getElem?_eq_getElem hP, Option.getD_some, ← this, List.take_append_drop]
  have e2 : joined ps = joined (ps.take P) ++ (ps.getD P [] ++ joined (ps.drop (P + 1))) := by
    conv => lhs; rw [e]
    simp [joined]
  have e3 : ps.getD P [] = (ps.getD P []).take A ++ (ps.getD P []).drop A := (List.take_append_drop _ _).symm
  rw [e2]
  generalize ps.getD P [] = q at *
  generalize List.take A q = q1 at *
  generalize List.drop A q = q2 at *
  subst e3
  simp only [List.append_assoc]
theorem up_whole {ps : List (List It.I)} (hw : Whole ps) : (joined ps).Pairwise (fun a b => Na.lt a.1 b.1 = true) := ((It.sorted_iff _).mp hw.up).2
theorem up_part {ps : List (List It.I)} (hw : Whole ps) {P : Nat} (hP : P < ps.length) : (ps.getD P []).Pairwise (fun a b => Na.lt a.1 b.1 = true) ∧ ps.getD P [] ≠ [] := by
  have hm : ps.getD P [] ∈ ps := by
    rw [List.getD_eq_getElem?_getD, List.getElem?_eq_getElem hP]
    exact List.getElem_mem _
  exact ⟨(up_whole hw).sublist (part_sub hm), (hw.part _ hm).1⟩
/-- the keys ahead of a place are below -/
theorem below_at {ps : List (List It.I)} (hw : Whole ps) {P A : Nat} {key : List Nat} (hP : P ≤ ps.length) (h1 : ∀ i, i < P → Na.lt (lastK (ps.getD i [])) key = true) (h3 : ∀ i, i < A → i < (ps.getD P []).length → Na.lt ((ps.getD P []).getD i It.zero).1 key = true) :
    ∀ x ∈ joined (ps.take P) ++ (ps.getD P []).take A, Na.lt x.1 key = true := by
  intro x hx
  rcases List.mem_append.mp hx with hx | hx
  · obtain ⟨p, hp, hx⟩ := List.mem_flatten.mp hx
    obtain ⟨i, hi, rfl⟩ := List.mem_iff_getElem.mp hp
    rw [List.length_take] at hi
    rw [List.getElem_take] at hx
    have hi' : i < ps.length := by omega
    have e : ps.getD i [] = ps[i] := by rw [List.getD_eq_getElem?_getD, List.getElem?_eq_getElem hi', Option.getD_some]
    have := h1 i (by omega)
    rw [e] at this
    obtain ⟨k, hk, rfl⟩ := mem_at hx
    exact lt_of_le_lt (le_last (by rw [← e]; exact (up_part hw hi').1) k hk) this
  · obtain ⟨i, hi, rfl⟩ := List.mem_iff_getElem.mp hx
    rw [List.length_take] at hi
    have := h3 i (by omega) (by omega)
    rw [List.getD_eq_getElem?_getD, List.getElem?_eq_getElem (by omega), Option.getD_some] at this
    rw [List.getElem_take]
    exact this
theorem get_hit {L pre post : List It.I} {y : It.I} (hu : L.Pairwise (fun a b => Na.lt a.1 b.1 = true)) (he : L = pre ++ y :: post) : It.get L y.1 = y := by
  have hi : pre.length < L.length := by rw [he]; simp
  have e : L.getD pre.length It.zero = y := by rw [he]; simp
  have := It.get_at hu hi
  rw [e] at this
  exact this
theorem get_miss {L pre post : List It.I} {y : It.I} {key : List Nat} (hu : L.Pairwise (fun a b => Na.lt a.1 b.1 = true)) (he : L = pre ++ y :: post) (h1 : ∀ x ∈ pre, Na.lt x.1 key = true) (h2 : Na.lt y.1 key = false) (h3 : y.1 ≠ key) : It.get L key = It.zero := by
  refine It.get_none fun x hx => ?_
  rw [he] at hx hu
  have hy : Na.lt key y.1 = true := by
    rcases It.lt_total y.1 key with h | h | h
    · rw [h] at h2; cases h2
    · exact absurd h h3
    · exact h
  rcases List.mem_append.mp hx with hx | hx
  · exact It.lt_ne (h1 x hx)
  · rcases List.mem_cons.mp hx with rfl | hx
    · exact h3
    · have := (List.pairwise_cons.mp (List.pairwise_append.mp hu).2.1).1 x hx
      exact (It.lt_ne (It.lt_trans hy this)).symm
theorem get_out {L : List It.I} {key : List Nat} (h1 : ∀ x ∈ L, Na.lt x.1 key = true) : It.get L key = It.zero := It.get_none fun x hx => It.lt_ne (h1 x hx)
def under (hi : List Nat) (x : It.I) : Bool := decide (hi = []) || Na.lt x.1 hi
theorem filter_under {hi : List Nat} : ∀ (l : List It.I), l.Pairwise (fun a b => Na.lt a.1 b.1 = true) → l.filter (under hi) = l.takeWhile (under hi)
  | [], _ => rfl
  | x :: l, h => by
    obtain ⟨h1, h2⟩ := List.pairwise_cons.mp h
    rw [List.filter_cons, List.takeWhile_cons]
    split
    · rw [filter_under l h2]
    · next hx =>
      rw [List.filter_eq_nil_iff]
      intro y hy hu
      apply hx
      unfold under at hu ⊢
      simp only [Bool.or_eq_true, decide_eq_true_eq] at hu ⊢
      exact hu.imp id (fun h => It.lt_trans (h1 y hy) h)
/-- what is scanned behind what was told -/
def sgo (hi : List Nat) (most : Int) (done rest : List It.I) : List It.I := done ++ (rest.takeWhile (under hi)).take (most.toNat - done.length)
theorem scan_sgo {L pre post : List It.I} {lo hi : List Nat} {most : Int} (hu : L.Pairwise (fun a b => Na.lt a.1 b.1 = true)) (he : L = pre ++ post) (h1 : ∀ x ∈ pre, Na.lt x.1 lo = true) (h2 : ∀ x ∈ post, Na.lt x.1 lo = false) : It.scan L lo hi most = sgo hi most [] post := by
  unfold It.scan sgo
  rw [he, List.filter_append]
  rw [he] at hu
  have e1 : pre.filter (It.inside lo hi) = [] := by
    rw [List.filter_eq_nil_iff]
    intro x hx
    unfold It.inside It.ge
    rw [h1 x hx]; simp
  have e2 : post.filter (It.inside lo hi) = post.filter (under hi) := by
    apply List.filter_congr
    intro x hx
    unfold It.inside It.ge under
    rw [h2 x hx]; simp
  rw [e1, e2, filter_under post (List.pairwise_append.mp hu).2.1]
  simp
/-- the keys from a place on are not below -/
theorem from_at {L pre post : List It.I} {key : List Nat} (hu : L.Pairwise (fun a b => Na.lt a.1 b.1 = true)) (he : L = pre ++ post) (h : ∀ y, post.head? = some y → Na.lt y.1 key = false) : ∀ x ∈ post, Na.lt x.1 key = false := by
  cases post with
  | nil => intro x hx; cases hx
  | cons y post =>
    intro x hx
    have hy := h y rfl
    rw [he] at hu
    rcases List.mem_cons.mp hx with rfl | hx
    · exact hy
    · have := (List.pairwise_cons.mp (List.pairwise_append.mp hu).2.1).1 x hx
      cases e : Na.lt x.1 key with
      | false => rfl
      | true => rw [It.lt_trans this e] at hy; cases hy
/-- where a key stands among parts -/
structure Seek (ps : List (List It.I)) (key : List Nat) (P A : Nat) : Prop where
  le : P ≤ ps.length
  lo : ∀ i, i < P → Na.lt (lastK (ps.getD i [])) key = true
  hi : ∀ i, P ≤ i → i < ps.length → Na.lt (lastK (ps.getD i [])) key = false
  out : P = ps.length → A = 0
  inn : P < ps.length → A < (ps.getD P []).length ∧ (∀ i, i < A → Na.lt ((ps.getD P []).getD i It.zero).1 key = true) ∧ (∀ i, A ≤ i → i < (ps.getD P []).length → Na.lt ((ps.getD P []).getD i It.zero).1 key = false)
theorem Seek.pre {ps : List (List It.I)} {key : List Nat} {P A : Nat} (h : Seek ps key P A) (hw : Whole ps) : ∀ x ∈ joined (ps.take P) ++ (ps.getD P []).take A, Na.lt x.1 key = true := by
  refine below_at hw h.le h.lo fun i hi hl => ?_
  rcases Nat.lt_or_ge P ps.length with hP | hP
  · exact (h.inn hP).2.1 i hi
  · have := h.out (by have := h.le; omega)
    omega
theorem Seek.cut {ps : List (List It.I)} {key : List Nat} {P A : Nat} (_ : Seek ps key P A) : joined ps = (joined (ps.take P) ++ (ps.getD P []).take A) ++ ((ps.getD P []).drop A ++ joined (ps.drop (P + 1))) := by
  rcases Nat.lt_or_ge P ps.length with hP | hP
  · exact cut_at hP A
  · have e1 : ps.take P = ps := List.take_of_length_le hP
    have e2 : ps.drop (P + 1) = [] := List.drop_of_length_le (by omega)
    have e3 : ps.getD P [] = [] := by rw [List.getD_eq_getElem?_getD, List.getElem?_eq_none hP]; rfl
    rw [e1, e2, e3]
    simp [joined]
theorem drop_getD {α : Type} {l : List α} {k : Nat} (d : α) (hk : k < l.length) : l.drop k = l.getD k d :: l.drop (k + 1) := by
  rw [List.drop_eq_getElem_cons hk, List.getD_eq_getElem?_getD, List.getElem?_eq_getElem hk, Option.getD_some]
theorem Seek.get {ps : List (List It.I)} {key : List Nat} {P A : Nat} (h : Seek ps key P A) (hw : Whole ps) (hP : P < ps.length) : It.get (joined ps) key = if ((ps.getD P []).getD A It.zero).1 = key then (ps.getD P []).getD A It.zero else It.zero := by
  obtain ⟨i1, i2, i3⟩ := h.inn hP
  have hc := h.cut
  rw [drop_getD It.zero i1, List.cons_append] at hc
  split
  · next e => rw [← e]; exact get_hit (up_whole hw) hc
  · next e => exact get_miss (up_whole hw) hc (h.pre hw) (i3 A (Nat.le_refl _) i1) e
theorem Seek.none {ps : List (List It.I)} {key : List Nat} {P A : Nat} (h : Seek ps key P A) (hw : Whole ps) (hP : P = ps.length) : It.get (joined ps) key = It.zero := by
  refine get_out fun x hx => h.pre hw x ?_
  subst hP
  rw [h.out rfl, List.take_length]
  simpa using hx
theorem Seek.scan {ps : List (List It.I)} {lo : List Nat} {P A : Nat} (h : Seek ps lo P A) (hw : Whole ps) (hi : List Nat) (most : Int) : It.scan (joined ps) lo hi most = sgo hi most [] ((ps.getD P []).drop A ++ joined (ps.drop (P + 1))) := by
  refine scan_sgo (up_whole hw) h.cut (h.pre hw) (from_at (up_whole hw) h.cut fun y hy => ?_)
  rcases Nat.lt_or_ge P ps.length with hP | hP
  · obtain ⟨i1, i2, i3⟩ := h.inn hP
    rw [drop_getD It.zero i1] at hy
    simp only [List.cons_append, List.head?_cons, Option.some.injEq] at hy
    rw [← hy]
    exact i3 A (Nat.le_refl _) i1
  · have e2 : ps.drop (P + 1) = [] := List.drop_of_length_le (by omega)
    have e3 : ps.getD P [] = [] := by rw [List.getD_eq_getElem?_getD, List.getElem?_eq_none hP]; rfl
    rw [e2, e3] at hy
    simp [joined] at hy
end Tb
end Go.Proofs.YtnoknmnbfkdccaaGreatDoor

/- Segments of values (plain mathematics): what stands in bytes, by the frames that they begin with; cut and joined. Names no dump. -/
namespace Go.Proofs.YtnoknmnbfkdccaaGreatDoor

namespace Sg
open Fr
/-- values' frames -/
def fr (vs : List (List Nat)) : List F := vs.map fun v => ((2 : Int), v)
/-- a segment's bytes -/
def put (vs : List (List Nat)) : List Nat := all (fr vs)
def head (n : Nat) : Nat := (Va.one n).length + 1
def pt (s : Int) (at' : Nat) (v : List Nat) : Po.P := (s, ((at' + head v.length : Nat) : Int), (v.length : Int), Crc.more 0 v)
def pts (s : Int) (at' : Nat) : List (List Nat) → List Po.P
  | [] => []
  | v :: vs => pt s at' v :: pts s (at' + size v.length) vs
def good (f : F) : Bool := decide (f.1 = 2 ∧ f.2.length ≤ 4096)
theorem good_iff (f : F) : good f = true ↔ f.1 = 2 ∧ f.2.length ≤ 4096 := by simp [good]
/-- from the place at' on, vs being told already -/
def wk : Nat → List Nat → Nat → List (List Nat) → List (List Nat) × Nat
  | 0, _, at', vs => (vs, at')
  | n + 1, bs, at', vs => if (first (bs.drop at')).2.2 = 0 ∧ good (first (bs.drop at')).1 = true then wk n bs (at' + (first (bs.drop at')).2.1) (vs ++ [(first (bs.drop at')).1.2]) else (vs, at')
/-- the values that stand in bytes, and how many bytes they have -/
def walk (bs : List Nat) : List (List Nat) × Nat := wk (bs.length + 1) bs 0 []
theorem wk_ok {n : Nat} {bs : List Nat} {at' : Nat} {vs : List (List Nat)} (h : (first (bs.drop at')).2.2 = 0) (hg : good (first (bs.drop at')).1 = true) :
    wk (n + 1) bs at' vs = wk n bs (at' + (first (bs.drop at')).2.1) (vs ++ [(first (bs.drop at')).1.2]) := by rw [wk, if_pos ⟨h, hg⟩]
theorem wk_no {n : Nat} {bs : List Nat} {at' : Nat} {vs : List (List Nat)} (h : ¬ ((first (bs.drop at')).2.2 = 0 ∧ good (first (bs.drop at')).1 = true)) : wk (n + 1) bs at' vs = (vs, at') := by rw [wk, if_neg h]

theorem fr_append (a b : List (List Nat)) : fr (a ++ b) = fr a ++ fr b := by simp [fr]
theorem fr_length (a : List (List Nat)) : (fr a).length = a.length := by simp [fr]
theorem fr_snd (a : List (List Nat)) : (fr a).map Prod.snd = a := by
  induction a with
  | nil => rfl
  | cons v a ih => simp only [fr, List.map_cons] at ih ⊢; rw [ih]
theorem put_append (a b : List (List Nat)) : put (a ++ b) = put a ++ put b := by simp [put, fr_append, all_append]
theorem put_cons (v : List Nat) (vs : List (List Nat)) : put (v :: vs) = put1 2 v ++ put vs := rfl
theorem put_one (v : List Nat) : put [v] = put1 2 v := by simp [put, fr, all, one]
theorem put_one_len (v : List Nat) : (put [v]).length = size v.length := by rw [put_one, put1_len]
theorem put_snoc_len (vs : List (List Nat)) (v : List Nat) : (put (vs ++ [v])).length = (put vs).length + size v.length := by rw [put_append, List.length_append, put_one_len]
theorem pts_length : ∀ (s : Int) (at' : Nat) (vs : List (List Nat)), (pts s at' vs).length = vs.length
  | _, _, [] => rfl
  | s, at', v :: vs => by simp [pts, pts_length]
theorem pts_append : ∀ (s : Int) (at' : Nat) (a b : List (List Nat)), pts s at' (a ++ b) = pts s at' a ++ pts s (at' + (put a).length) b
  | s, at', [], b => by simp [pts, put, fr, all]
  | s, at', v :: a, b => by
    rw [List.cons_append, pts, pts_append, pts, put_cons, List.length_append, put1_len, List.cons_append, Nat.add_assoc]
theorem pts_snoc (s : Int) (vs : List (List Nat)) (v : List Nat) : pts s 0 (vs ++ [v]) = pts s 0 vs ++ [pt s (put vs).length v] := by
  rw [pts_append, Nat.zero_add]; rfl
/-! the frames that bytes begin with, from a place on -/
def fs : Nat → List Nat → Nat → List F
  | 0, _, _ => []
  | n + 1, bs, at' => if (first (bs.drop at')).2.2 = 0 then (first (bs.drop at')).1 :: fs n bs (at' + (first (bs.drop at')).2.1) else []
theorem sc_fs : ∀ (n : Nat) (bs : List Nat) (at' : Nat) (l : List F) (ps : List Nat), (sc n bs at' l ps).1 = l ++ fs n bs at'
  | 0, bs, at', l, ps => by simp [sc, fs]
  | n + 1, bs, at', l, ps => by
    by_cases h : (first (bs.drop at')).2.2 = 0
    · rw [sc_ok h, fs, if_pos h, sc_fs]; simp
    · rw [sc_no h, fs, if_neg h]; simp
theorem wk_fs : ∀ (n : Nat) (bs : List Nat) (at' : Nat) (vs : List (List Nat)), wk n bs at' vs = (vs ++ ((fs n bs at').takeWhile good).map Prod.snd, at' + (all ((fs n bs at').takeWhile good)).length)
  | 0, bs, at', vs => by simp [wk, fs, all]
  | n + 1, bs, at', vs => by
    by_cases h : (first (bs.drop at')).2.2 = 0
    · by_cases hg : good (first (bs.drop at')).1 = true
      · rw [wk_ok h hg, fs, if_pos h, wk_fs, List.takeWhile_cons_of_pos hg, (first_take h).2, all_len_cons]
        simp [Nat.add_assoc]
      · rw [wk_no (by simp [h, hg]), fs, if_pos h, List.takeWhile_cons_of_neg hg]
        simp [all]
    · rw [wk_no (by simp [h]), fs, if_neg h]; simp [all]
/-- what stands in bytes, by what is scanned -/
theorem walk_scan (bs : List Nat) : walk bs = (((scan bs).1.takeWhile good).map Prod.snd, (all ((scan bs).1.takeWhile good)).length) := by
  rw [walk, wk_fs, scan, sc_fs]; simp
theorem all_good : ∀ (l : List F), (∀ f ∈ l, good f = true) → l = fr (l.map Prod.snd)
  | [], _ => rfl
  | f :: l, h => by
    have h1 := (good_iff f).mp (h f (by simp))
    have h2 := all_good l (fun g hg => h g (by simp [hg]))
    rw [List.map_cons]
    have : fr (f.2 :: l.map Prod.snd) = ((2 : Int), f.2) :: fr (l.map Prod.snd) := rfl
    rw [this, ← h2, ← h1.1]
theorem tw_good {l : List F} {f : F} : f ∈ l.takeWhile good → good f = true := by
  induction l with
  | nil => intro h; simp at h
  | cons g l ih =>
    intro h
    by_cases hg : good g = true
    · rw [List.takeWhile_cons_of_pos hg] at h
      rcases List.mem_cons.mp h with rfl | h
      · exact hg
      · exact ih h
    · rw [List.takeWhile_cons_of_neg hg] at h; simp at h
theorem walk_end (bs : List Nat) : (walk bs).2 = (put (walk bs).1).length := by
  rw [walk_scan]
  show (all _).length = (all (fr _)).length
  rw [← all_good _ (fun f hf => tw_good hf)]
theorem take_all (bs : List Nat) : put (walk bs).1 <+: bs := by
  have h := scan_inv bs
  have h1 : all ((scan bs).1.takeWhile good) <+: all (scan bs).1 := by
    obtain ⟨t, ht⟩ := List.takeWhile_prefix (p := good) (l := (scan bs).1)
    refine ⟨all t, ?_⟩
    rw [← all_append, ht]
  rw [h.2.1] at h1
  have h2 : put (walk bs).1 = all ((scan bs).1.takeWhile good) := by
    rw [walk_scan]
    show all (fr _) = _
    rw [← all_good _ (fun f hf => tw_good hf)]
  rw [h2]
  exact h1.trans (List.take_prefix _ _)
theorem walk_le (bs : List Nat) : (walk bs).2 ≤ bs.length := by
  rw [walk_end]; exact (take_all bs).length_le

/-! what is put is walked -/
def Small (vs : List (List Nat)) : Prop := ∀ v ∈ vs, v.length ≤ 4096 ∧ ∀ x ∈ v, x < 256
theorem fr_good {vs : List (List Nat)} (h : Small vs) : Fr.Good (fr vs) := by
  intro f hf
  simp only [fr, List.mem_map] at hf
  obtain ⟨v, hv, rfl⟩ := hf
  have := h v hv
  exact ⟨by rw [may_iff]; exact ⟨by simp, by simp, by show v.length ≤ 1048576; omega⟩, this.2⟩
theorem fr_all_good {vs : List (List Nat)} (h : Small vs) : ∀ f ∈ fr vs, good f = true := by
  intro f hf
  simp only [fr, List.mem_map] at hf
  obtain ⟨v, hv, rfl⟩ := hf
  rw [good_iff]; exact ⟨rfl, (h v hv).1⟩
theorem put_small {vs : List (List Nat)} (h : Small vs) : ∀ x ∈ put vs, x < 256 := all_small (fr_good h)
theorem takeWhile_all {p : F → Bool} : ∀ {l : List F}, (∀ f ∈ l, p f = true) → l.takeWhile p = l
  | [], _ => rfl
  | f :: l, h => by rw [List.takeWhile_cons_of_pos (h f (by simp)), takeWhile_all (fun g hg => h g (by simp [hg]))]
theorem walk_all {l : List (List Nat)} (h : Small l) : walk (put l) = (l, (put l).length) := by
  rw [walk_scan, put, scan_all (fr_good h)]
  simp only
  rw [takeWhile_all (fr_all_good h), fr_snd]
/-- the places that a scan tells -/
theorem places_get : ∀ (l : List F) (at' i : Nat), i < l.length → (places l at').getD i 0 = at' + (all (l.take i)).length + head (l.getD i (0, [])).2.length
  | [], _, i, h => by simp at h
  | f :: l, at', 0, _ => by simp [places, all, head]; omega
  | f :: l, at', i + 1, h => by
    rw [places, List.getD_cons_succ, places_get l _ i (by simpa using h), List.take_succ_cons, all_len_cons, List.getD_cons_succ]; omega
/-- how many of some frames, from the first one on, are values' -/
theorem first_bad (l : List F) : ∃ K, K ≤ l.length ∧ l.takeWhile good = l.take K ∧ (∀ i, i < K → good (l.getD i (0, [])) = true) ∧ (K < l.length → good (l.getD K (0, [])) = false) := by
  induction l with
  | nil => exact ⟨0, by simp, rfl, fun i hi => by omega, fun h => by simp at h⟩
  | cons f l ih =>
    by_cases hg : good f = true
    · obtain ⟨K, h1, h2, h3, h4⟩ := ih
      refine ⟨K + 1, by simp; omega, by rw [List.takeWhile_cons_of_pos hg, h2]; rfl, ?_, ?_⟩
      · intro i hi
        match i with
        | 0 => simpa using hg
        | i + 1 => rw [List.getD_cons_succ]; exact h3 i (by omega)
      · intro hlt; rw [List.getD_cons_succ]; exact h4 (by simpa using hlt)
    · exact ⟨0, by simp, by rw [List.takeWhile_cons_of_neg hg]; rfl, fun i hi => by omega, fun _ => by simpa using hg⟩
end Sg
end Go.Proofs.YtnoknmnbfkdccaaGreatDoor
