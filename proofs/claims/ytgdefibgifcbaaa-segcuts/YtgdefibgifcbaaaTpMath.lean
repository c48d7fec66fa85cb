/- The plain mathematics of the program's way with tables: how bytes are opened, where a key stands, what is scanned. Names no dump. -/
import Derived.Test.YtgdefibgifcbaaaMa
namespace Go.Proofs.Ytgdefibgifcbaaa

namespace Fr
theorem first_take {bs : List Nat} (h : (first bs).2.2 = 0) : bs.take (first bs).2.1 = one (first bs).1 ∧ (first bs).2.1 = size (first bs).1.2.length := by
  have hl : bs.take (first bs).2.1 = one (first bs).1 := by
    revert h
    unfold first
    split
    · intro h; simp at h
    · split
      · intro h; simp at h
      · split
        · intro h; simp at h
        · split
          · intro h; simp at h
          · split
            · intro h; simp at h
            · split
              · next h6 => intro _; exact h6.symm
              · intro h; simp at h
  refine ⟨hl, ?_⟩
  have h1 := congrArg List.length hl
  rw [one_len, List.length_take] at h1
  have := first_le bs
  omega
theorem places_snoc (f : F) : ∀ (l : List F) (at' : Nat), places (l ++ [f]) at' = places l at' ++ [at' + (all l).length + (Va.one f.2.length).length + 1]
  | [], at' => by simp [places, all]
  | g :: l, at' => by
    rw [List.cons_append, places, places, places_snoc f l, List.cons_append, all_len_cons]
    rw [show at' + size g.2.length + (all l).length + (Va.one f.2.length).length + 1 = at' + (size g.2.length + (all l).length) + (Va.one f.2.length).length + 1 by omega]
theorem sc_inv : ∀ (n : Nat) (bs : List Nat) (at' : Nat) (l : List F) (ps : List Nat), at' ≤ bs.length → all l = bs.take at' → ps = places l 0 →
    (sc n bs at' l ps).2.2 ≤ bs.length ∧ all (sc n bs at' l ps).1 = bs.take (sc n bs at' l ps).2.2 ∧ (sc n bs at' l ps).2.1 = places (sc n bs at' l ps).1 0
  | 0, bs, at', l, ps, h1, h2, h3 => ⟨h1, h2, h3⟩
  | n + 1, bs, at', l, ps, h1, h2, h3 => by
    rw [sc]
    split
    · next h =>
      obtain ⟨t1, t2⟩ := first_take h
      have t3 := first_le (bs.drop at')
      rw [List.length_drop] at t3
      have hal : (all l).length = at' := by rw [h2, List.length_take]; omega
      refine sc_inv n bs _ _ _ (by omega) ?_ ?_
      · rw [all_append, h2]
        have : all [(first (bs.drop at')).1] = one (first (bs.drop at')).1 := by simp [all]
        rw [this, ← t1, ← List.take_add]
      · have e : at' + (first (bs.drop at')).2.1 - 4 - (first (bs.drop at')).1.2.length = 0 + at' + (Va.one (first (bs.drop at')).1.2.length).length + 1 := by rw [t2]; unfold size; omega
        rw [places_snoc, h3, hal, e]
    · exact ⟨h1, h2, h3⟩
theorem scan_inv (bs : List Nat) : (scan bs).2.2 ≤ bs.length ∧ all (scan bs).1 = bs.take (scan bs).2.2 ∧ (scan bs).2.1 = places (scan bs).1 0 := sc_inv _ bs 0 [] [] (Nat.zero_le _) (by simp [all]) rfl
theorem one_le_all {f : F} : ∀ {l : List F}, f ∈ l → f.2.length ≤ (all l).length ∧ (∀ x ∈ f.2, x ∈ all l)
  | [], h => by cases h
  | g :: l, h => by
    rw [all_cons]
    rcases List.mem_cons.mp h with rfl | h
    · refine ⟨?_, fun x hx => ?_⟩
      · rw [List.length_append, one_len]; unfold size; omega
      · refine List.mem_append_left _ ?_
        unfold one put1
        simp [hx]
    · obtain ⟨h1, h2⟩ := one_le_all h
      exact ⟨by rw [List.length_append]; omega, fun x hx => List.mem_append_right _ (h2 x hx)⟩
theorem all_count : ∀ (l : List F), 6 * l.length ≤ (all l).length
  | [] => by simp
  | f :: l => by
    have := all_count l
    have h1 := Va.one_pos f.2.length
    rw [all_len_cons, List.length_cons]
    unfold size
    omega
end Fr

namespace Tb
def lastK (p : List It.I) : List Nat := (p.getD (p.length - 1) It.zero).1
/-- the index, by places that are told -/
def ixp : List Nat → List (List It.I) → List Nat
  | _, [] => []
  | pl, p :: ps => Va.one (firstKey p).length ++ (firstKey p ++ (Va.one (pl.getD 0 0) ++ ixp (pl.drop 1) ps))
theorem ixp_ix : ∀ (ps : List (List It.I)) (at' : Nat), ixp (Fr.places (ps.map frame) at') ps = ix at' ps
  | [], _ => rfl
  | p :: ps, at' => by
    rw [List.map_cons, Fr.places, ixp, ix, List.drop_one, List.tail_cons, ← Fr.one_len, ixp_ix ps]
    have e : (at' + (Va.one (frame p).2.length).length + 1) = at' + (Fr.one (frame p)).length - 4 - (Bl.put p).length := by
      rw [Fr.one_len]; unfold Fr.size; rw [show (frame p).2 = Bl.put p from rfl]; omega
    simp only [List.getD_cons_zero, e]
def tailp (pl : List Nat) (ps : List (List It.I)) : List Fr.F := [(2, ixp pl ps), (3, Sv.of ((joined ps).map (fun x => x.1))), (4, Va.one (joined ps).length)]
theorem tailp_tail (ps : List (List It.I)) : tailp (Fr.places (ps.map frame) 0) ps = tail ps := by unfold tailp tail; rw [ixp_ix]
/-- the parts of frames, as the program reads them -/
def pparts : List Fr.F → List Nat → List (List It.I) → Option (List (List It.I))
  | [], _, acc => some acc
  | f :: fs, last, acc => if f.1 = 1 ∧ Bl.get f.2 ≠ [] ∧ Na.lt last (firstKey (Bl.get f.2)) = true ∧ (joined acc).length + (Bl.get f.2).length ≤ 16384 then pparts fs (lastK (Bl.get f.2)) (acc ++ [Bl.get f.2]) else none
/-- how the program opens bytes -/
def pget (bs : List Nat) : Option (List (List It.I)) :=
  if (Fr.scan bs).2.2 < bs.length ∨ (Fr.scan bs).1.length < 4 then none
  else match pparts ((Fr.scan bs).1.take ((Fr.scan bs).1.length - 3)) [] [] with
    | none => none
    | some ps => if tailp ((Fr.scan bs).2.1.take ((Fr.scan bs).1.length - 3)) ps = (Fr.scan bs).1.drop ((Fr.scan bs).1.length - 3) then some ps else none

/-- parts in order: what is known of them -/
structure Whole (ps : List (List It.I)) : Prop where
  part : ∀ p ∈ ps, p ≠ [] ∧ p.length ≤ 256 ∧ (∀ x ∈ p, Bl.Small x) ∧ Bl.get (Bl.put p) = p
  up : It.sorted (joined ps) = true
  few : (joined ps).length ≤ 16384
theorem joined_snoc (ps : List (List It.I)) (p : List It.I) : joined (ps ++ [p]) = joined ps ++ p := by simp [joined]
theorem last_mem {p : List It.I} (h : p ≠ []) : p.getD (p.length - 1) It.zero ∈ p := by
  have := List.length_pos_iff.mpr h
  rw [List.getD_eq_getElem?_getD, List.getElem?_eq_getElem (by omega)]
  exact List.getElem_mem _
theorem le_last {p : List It.I} (h : p.Pairwise (fun a b => Na.lt a.1 b.1 = true)) (k : Nat) (hk : k < p.length) : Na.lt (lastK p) (p.getD k It.zero).1 = false := by
  rcases Nat.lt_or_ge k (p.length - 1) with h1 | h1
  · exact It.lt_asymm (It.rise_at h h1 (by omega))
  · rw [show k = p.length - 1 by omega]; exact It.lt_irrefl _
theorem first_le' {p : List It.I} (h : p.Pairwise (fun a b => Na.lt a.1 b.1 = true)) (k : Nat) (hk : k < p.length) : Na.lt (p.getD k It.zero).1 (firstKey p) = false := by
  rcases Nat.eq_zero_or_pos k with rfl | h1
  · exact It.lt_irrefl _
  · exact It.lt_asymm (It.rise_at h h1 hk)
theorem mem_at {p : List It.I} {x : It.I} (h : x ∈ p) : ∃ k, k < p.length ∧ p.getD k It.zero = x := by
  obtain ⟨k, hk, e⟩ := List.mem_iff_getElem.mp h
  exact ⟨k, hk, by rw [List.getD_eq_getElem?_getD, List.getElem?_eq_getElem hk]; exact e⟩
theorem lt_of_le_lt {a b c : List Nat} (h1 : Na.lt b a = false) (h2 : Na.lt b c = true) : Na.lt a c = true := It.ge_lt_trans h1 h2
theorem lt_of_lt_le {a b c : List Nat} (h1 : Na.lt a b = true) (h2 : Na.lt c b = false) : Na.lt a c = true := by
  rcases It.lt_total b c with h | h | h
  · exact It.lt_trans h1 h
  · rw [← h]; exact h1
  · rw [h] at h2; cases h2
theorem get_small {bs : List Nat} (hs : ∀ x ∈ bs, x < 256) : ∀ x ∈ Bl.get bs, Bl.Small x := by
  intro x hx
  unfold Bl.get at hx
  split at hx
  · cases hx
  · split at hx
    · cases hx
    · rename_i l e hsc
      split at hx
      · exact Bl.sc_small _ bs _ [] [] l e hs (by simp) (by simp) hsc x hx
      · cases hx
/-- what is known of a block that is read -/
theorem get_part {bs : List Nat} (hs : ∀ x ∈ bs, x < 256) (h : Bl.get bs ≠ []) : (Bl.get bs).length ≤ 256 ∧ (∀ x ∈ Bl.get bs, Bl.Small x) ∧ Bl.get (Bl.put (Bl.get bs)) = Bl.get bs ∧ It.sorted (Bl.get bs) = true ∧ Bl.put (Bl.get bs) = bs := by
  obtain ⟨h1, h2⟩ := Bl.get_ok h
  simp only [Bl.may, Bool.and_eq_true, decide_eq_true_eq] at h1
  exact ⟨h1.1.2, get_small hs, by rw [h2], h1.2, h2⟩
theorem pparts_ok : ∀ (fs : List Fr.F) (last : List Nat) (acc ps : List (List It.I)), (∀ f ∈ fs, ∀ x ∈ f.2, x < 256) → Whole acc → (∀ x ∈ joined acc, Na.lt last x.1 = false) → pparts fs last acc = some ps → ∃ qs, ps = acc ++ qs ∧ fs = qs.map frame ∧ Whole ps
  | [], last, acc, ps, _, hw, _, h => by
    simp only [pparts, Option.some.injEq] at h
    subst h
    exact ⟨[], by simp, rfl, hw⟩
  | f :: fs, last, acc, ps, hf, hw, hl, h => by
    rw [pparts] at h
    split at h
    · next hc =>
      obtain ⟨c1, c2, c3, c4⟩ := hc
      obtain ⟨g1, g2, g3, g4, g5⟩ := get_part (hf f List.mem_cons_self) c2
      obtain ⟨u1, u2⟩ := (It.sorted_iff _).mp g4
      have hnew : ∀ y ∈ Bl.get f.2, Na.lt last y.1 = true := fun y hy => by
        obtain ⟨k, hk, rfl⟩ := mem_at hy
        exact lt_of_lt_le c3 (first_le' u2 k hk)
      have hW : Whole (acc ++ [Bl.get f.2]) := by
        refine ⟨fun p hp => ?_, ?_, by rw [joined_snoc, List.length_append]; exact c4⟩
        · rcases List.mem_append.mp hp with hp | hp
          · exact hw.part p hp
          · rw [List.mem_singleton.mp hp]; exact ⟨c2, g1, g2, g3⟩
        · rw [joined_snoc, It.sorted_iff]
          obtain ⟨a1, a2⟩ := (It.sorted_iff _).mp hw.up
          refine ⟨fun x hx => ?_, List.pairwise_append.mpr ⟨a2, u2, fun x hx y hy => ?_⟩⟩
          · rcases List.mem_append.mp hx with hx | hx
            · exact a1 x hx
            · exact u1 x hx
          · exact lt_of_le_lt (hl x hx) (hnew y hy)
      obtain ⟨qs, e1, e2, e3⟩ := pparts_ok fs _ _ ps (fun g hg => hf g (List.mem_cons_of_mem _ hg)) hW (fun x hx => by
        rw [joined_snoc] at hx
        rcases List.mem_append.mp hx with hx | hx
        · exact It.lt_asymm (lt_of_le_lt (hl x hx) (hnew _ (last_mem c2)))
        · obtain ⟨k, hk, rfl⟩ := mem_at hx
          exact le_last u2 k hk) h
      refine ⟨Bl.get f.2 :: qs, by rw [e1]; simp, ?_, e3⟩
      rw [List.map_cons, ← e2]
      have : frame (Bl.get f.2) = f := by unfold frame; rw [g5, ← c1]
      rw [this]
    · cases h
theorem pparts_mk : ∀ (qs : List (List It.I)) (last : List Nat) (acc : List (List It.I)), Whole (acc ++ qs) → (∀ x ∈ joined qs, Na.lt last x.1 = true) → pparts (qs.map frame) last acc = some (acc ++ qs)
  | [], _, acc, _, _ => by simp [pparts]
  | q :: qs, last, acc, hw, hl => by
    obtain ⟨b1, b2, b3, b4⟩ := hw.part q (by simp)
    obtain ⟨a1, a2⟩ := (It.sorted_iff _).mp hw.up
    have hj : joined (acc ++ q :: qs) = joined acc ++ (q ++ joined qs) := by simp [joined]
    have hj2 : joined (q :: qs) = q ++ joined qs := by simp [joined]
    rw [hj] at a2
    have a3 := (List.pairwise_append.mp (List.pairwise_append.mp a2).2.1)
    rw [List.map_cons, pparts, if_pos]
    · rw [show (frame q).2 = Bl.put q from rfl, b4, pparts_mk qs _ _ (by simpa using hw)]
      · simp
      · intro x hx
        exact a3.2.2 _ (last_mem b1) x hx
    · rw [show (frame q).2 = Bl.put q from rfl, b4]
      refine ⟨rfl, b1, hl _ (by rw [hj2]; exact List.mem_append_left _ (first_mem b1)), ?_⟩
      have := hw.few
      rw [hj, List.length_append, List.length_append] at this
      omega
theorem good_of {ps : List (List It.I)} (hl : (put ps).length ≤ 1048576) (hs : ∀ x ∈ put ps, x < 256) : Fr.Good (frames ps) := by
  intro f hf
  obtain ⟨h1, h2⟩ := Fr.one_le_all hf
  refine ⟨(Fr.may_iff f).mpr ?_, fun x hx => hs x (h2 x hx)⟩
  have h3 : f.2.length ≤ 1048576 := Nat.le_trans h1 hl
  rcases List.mem_append.mp hf with h | h
  · obtain ⟨p, _, rfl⟩ := List.mem_map.mp h
    exact ⟨(show (1 : Int) ≤ 1 by decide), (show (1 : Int) ≤ 250 by decide), h3⟩
  · simp only [tail, List.mem_cons, List.not_mem_nil, or_false] at h
    rcases h with rfl | rfl | rfl
    · exact ⟨(show (1 : Int) ≤ 2 by decide), (show (2 : Int) ≤ 250 by decide), h3⟩
    · exact ⟨(show (1 : Int) ≤ 3 by decide), (show (3 : Int) ≤ 250 by decide), h3⟩
    · exact ⟨(show (1 : Int) ≤ 4 by decide), (show (4 : Int) ≤ 250 by decide), h3⟩
theorem whole_small {ps : List (List It.I)} (hw : Whole ps) : ∀ x ∈ joined ps, Bl.Small x := fun x hx => by
  obtain ⟨p, hp, hx⟩ := List.mem_flatten.mp hx
  exact (hw.part p hp).2.2.1 x hx
theorem joined_pos {ps : List (List It.I)} (hw : Whole ps) (h : ps ≠ []) : 1 ≤ (joined ps).length := by
  cases ps with
  | nil => exact absurd rfl h
  | cons p ps =>
    have := List.length_pos_iff.mpr (hw.part p (by simp)).1
    simp only [joined, List.flatten_cons, List.length_append]
    omega
theorem places_take (l m : List Fr.F) (at' : Nat) : (Fr.places (l ++ m) at').take l.length = Fr.places l at' := by
  induction l generalizing at' with
  | nil => simp [Fr.places]
  | cons f l ih => rw [List.cons_append, Fr.places, Fr.places, List.length_cons, List.take_succ_cons, ih]
theorem pget_some {bs : List Nat} {ps : List (List It.I)} (hs : ∀ x ∈ bs, x < 256) (hb : bs.length ≤ 100000) (h : pget bs = some ps) : Whole ps ∧ ps ≠ [] ∧ get bs = joined ps := by
  unfold pget at h
  obtain ⟨i1, i2, i3⟩ := Fr.scan_inv bs
  split at h
  · cases h
  · next hc =>
    have hc1 : ¬ (Fr.scan bs).2.2 < bs.length := fun h => hc (.inl h)
    have hc2 : ¬ (Fr.scan bs).1.length < 4 := fun h => hc (.inr h)
    have hall : Fr.all (Fr.scan bs).1 = bs := by rw [i2, List.take_of_length_le (by omega)]
    generalize Fr.scan bs = S at *
    obtain ⟨fs, pl, sz⟩ := S
    simp only at h i1 i2 i3 hc1 hc2 hall
    split at h
    · cases h
    · next qs hq =>
      split at h
      · next ht =>
        simp only [Option.some.injEq] at h
        subst h
        obtain ⟨q', e1, e2, hw⟩ := pparts_ok _ _ _ _ (fun f hf x hx => hs x (by rw [← hall]; exact (Fr.one_le_all (List.mem_of_mem_take hf)).2 x hx)) ⟨(fun p hp => by cases hp), rfl, by simp [joined]⟩ (fun x hx => by simp [joined] at hx) hq
        rw [List.nil_append] at e1
        subst e1
        have hlen : qs.length = fs.length - 3 := by
          have := congrArg List.length e2
          rw [List.length_take, List.length_map] at this
          omega
        have hfs : fs = frames qs := by
          have e3 : fs = fs.take (fs.length - 3) ++ fs.drop (fs.length - 3) := (List.take_append_drop _ _).symm
          rw [e2, ← ht, i3] at e3
          have e4 : (Fr.places fs 0).take (fs.length - 3) = Fr.places (qs.map frame) 0 := by
            have e5 : fs = qs.map frame ++ fs.drop (fs.length - 3) := by rw [← e2, List.take_append_drop]
            have e6 := places_take (qs.map frame) (fs.drop (fs.length - 3)) 0
            rw [← e5, List.length_map, hlen] at e6
            exact e6
          rw [e4, tailp_tail] at e3
          exact e3
        have hput : put qs = bs := by unfold put; rw [← hfs]; exact hall
        have hne : qs ≠ [] := by intro e; subst e; simp at hlen; omega
        refine ⟨hw, hne, ?_⟩
        rw [← hput]
        exact get_put hw.up (whole_small hw) (fun p hp => ⟨(hw.part p hp).1, (hw.part p hp).2.1⟩) (joined_pos hw hne) hw.few (good_of (by rw [hput]; omega) (by rw [hput]; exact hs))
      · cases h
theorem lead_inv : ∀ (fs : List Fr.F) (acc ps : List (List It.I)), (∀ f ∈ fs, ∀ x ∈ f.2, x < 256) → (∀ p ∈ acc, p ≠ [] ∧ p.length ≤ 256 ∧ (∀ x ∈ p, Bl.Small x) ∧ Bl.get (Bl.put p) = p) → lead fs acc = some ps → ∀ p ∈ ps, p ≠ [] ∧ p.length ≤ 256 ∧ (∀ x ∈ p, Bl.Small x) ∧ Bl.get (Bl.put p) = p
  | [], acc, ps, _, ha, h => by
    simp only [lead, Option.some.injEq] at h
    subst h; exact ha
  | f :: fs, acc, ps, hf, ha, h => by
    rw [lead] at h
    split at h
    · split at h
      · cases h
      · next hne =>
        obtain ⟨g1, g2, g3, g4, g5⟩ := get_part (hf f List.mem_cons_self) hne
        refine lead_inv fs _ ps (fun g hg => hf g (List.mem_cons_of_mem _ hg)) (fun p hp => ?_) h
        rcases List.mem_append.mp hp with hp | hp
        · exact ha p hp
        · rw [List.mem_singleton.mp hp]; exact ⟨hne, g1, g2, g3⟩
    · simp only [Option.some.injEq] at h
      subst h; exact ha
theorem pget_none {bs : List Nat} (hs : ∀ x ∈ bs, x < 256) (hb : bs.length ≤ 100000) (h : pget bs = none) : get bs = [] := by
  apply Classical.byContradiction
  intro hne
  obtain ⟨i1, i2, i3⟩ := Fr.scan_inv bs
  have hfs : ∀ f ∈ (Fr.scan bs).1, ∀ x ∈ f.2, x < 256 := fun f hf x hx => hs x (by
    have := (Fr.one_le_all hf).2 x hx
    rw [i2] at this
    exact List.mem_of_mem_take this)
  unfold get at hne
  split at hne
  · exact hne rfl
  · next ps hl =>
    split at hne
    · exact hne rfl
    · next hc =>
      have hp := lead_inv _ _ _ hfs (fun p hp => by cases hp) hl
      have c1 : ¬ (joined ps).length < 1 := fun h => hc (.inl h)
      have c2 : ¬ 16384 < (joined ps).length := fun h => hc (.inr (.inl h))
      have c3 : It.sorted (joined ps) = true := by
        cases e : It.sorted (joined ps) with
        | true => rfl
        | false => exact absurd (.inr (.inr (.inl e))) hc
      have c4 : put ps = bs := Classical.byContradiction fun e => hc (.inr (.inr (.inr e)))
      have hw : Whole ps := ⟨hp, c3, by omega⟩
      have hg := good_of (ps := ps) (by rw [c4]; omega) (by rw [c4]; exact hs)
      have hsc : Fr.scan bs = (frames ps, Fr.places (frames ps) 0, bs.length) := by
        have := Fr.scan_all hg
        rw [show Fr.all (frames ps) = bs from c4] at this
        exact this
      have hpl : 0 < ps.length := by
        rcases Nat.eq_zero_or_pos ps.length with h0 | h0
        · rw [List.length_eq_zero_iff] at h0; subst h0; simp [joined] at c1
        · exact h0
      have hfl : (frames ps).length = ps.length + 3 := by simp [frames, tail]
      unfold pget at h
      rw [hsc] at h
      simp only [hfl, Nat.add_sub_cancel] at h
      rw [if_neg (by omega)] at h
      have e1 : (frames ps).take ps.length = ps.map frame := by
        unfold frames
        rw [← List.length_map (f := frame) (as := ps), List.take_left]
      have e2 : (frames ps).drop ps.length = tail ps := by
        unfold frames
        rw [← List.length_map (f := frame) (as := ps), List.drop_left]
      have e3 : (Fr.places (frames ps) 0).take ps.length = Fr.places (ps.map frame) 0 := by
        unfold frames
        rw [← List.length_map (f := frame) (as := ps), places_take]
      rw [e1, e2, e3, pparts_mk ps [] [] (by simpa using hw) (fun x hx => by
        have h1 := ((It.sorted_iff _).mp c3).1 x hx
        have h2 := (Bl.it_parts h1).1
        cases hk : x.1 with
        | nil => exact absurd hk h2
        | cons a k => simp [Na.lt])] at h
      simp only [List.nil_append, tailp_tail, if_true] at h
      cases h

/- where a key stands; what is scanned -/
theorem cut_at {ps : List (List It.I)} {P : Nat} (hP : P < ps.length) (A : Nat) : joined ps = (joined (ps.take P) ++ (ps.getD P []).take A) ++ ((ps.getD P []).drop A ++ joined (ps.drop (P + 1))) := by
  have e : ps = ps.take P ++ (ps.getD P [] :: ps.drop (P + 1)) := by
    have := List.drop_eq_getElem_cons hP
    rw [List.getD_eq_getElem?_getD, List.getElem?_eq_getElem hP, Option.getD_some, ← this, List.take_append_drop]
  have e2 : joined ps = joined (ps.take P) ++ (ps.getD P [] ++ joined (ps.drop (P + 1))) := by
    conv => lhs; rw [e]
    simp [joined]
  have e3 : ps.getD P [] = (ps.getD P []).take A ++ (ps.getD P []).drop A := (List.take_append_drop _ _).symm
  rw [e2]
  generalize ps.getD P [] = q at *
  generalize List.take A q = q1 at *
  generalize List.drop A q = q2 at *
  subst e3
  simp only [List.append_assoc]
theorem up_whole {ps : List (List It.I)} (hw : Whole ps) : (joined ps).Pairwise (fun a b => Na.lt a.1 b.1 = true) := ((It.sorted_iff _).mp hw.up).2
theorem up_part {ps : List (List It.I)} (hw : Whole ps) {P : Nat} (hP : P < ps.length) : (ps.getD P []).Pairwise (fun a b => Na.lt a.1 b.1 = true) ∧ ps.getD P [] ≠ [] := by
  have hm : ps.getD P [] ∈ ps := by
    rw [List.getD_eq_getElem?_getD, List.getElem?_eq_getElem hP]
    exact List.getElem_mem _
  exact ⟨(up_whole hw).sublist (part_sub hm), (hw.part _ hm).1⟩
/-- the keys ahead of a place are below -/
theorem below_at {ps : List (List It.I)} (hw : Whole ps) {P A : Nat} {key : List Nat} (hP : P ≤ ps.length) (h1 : ∀ i, i < P → Na.lt (lastK (ps.getD i [])) key = true) (h3 : ∀ i, i < A → i < (ps.getD P []).length → Na.lt ((ps.getD P []).getD i It.zero).1 key = true) :
    ∀ x ∈ joined (ps.take P) ++ (ps.getD P []).take A, Na.lt x.1 key = true := by
  intro x hx
  rcases List.mem_append.mp hx with hx | hx
  · obtain ⟨p, hp, hx⟩ := List.mem_flatten.mp hx
    obtain ⟨i, hi, rfl⟩ := List.mem_iff_getElem.mp hp
    rw [List.length_take] at hi
    rw [List.getElem_take] at hx
    have hi' : i < ps.length := by omega
    have e : ps.getD i [] = ps[i] := by rw [List.getD_eq_getElem?_getD, List.getElem?_eq_getElem hi', Option.getD_some]
    have := h1 i (by omega)
    rw [e] at this
    obtain ⟨k, hk, rfl⟩ := mem_at hx
    exact lt_of_le_lt (le_last (by rw [← e]; exact (up_part hw hi').1) k hk) this
  · obtain ⟨i, hi, rfl⟩ := List.mem_iff_getElem.mp hx
    rw [List.length_take] at hi
    have := h3 i (by omega) (by omega)
    rw [List.getD_eq_getElem?_getD, List.getElem?_eq_getElem (by omega), Option.getD_some] at this
    rw [List.getElem_take]
    exact this
theorem get_hit {L pre post : List It.I} {y : It.I} (hu : L.Pairwise (fun a b => Na.lt a.1 b.1 = true)) (he : L = pre ++ y :: post) : It.get L y.1 = y := by
  have hi : pre.length < L.length := by rw [he]; simp
  have e : L.getD pre.length It.zero = y := by rw [he]; simp
  have := It.get_at hu hi
  rw [e] at this
  exact this
theorem get_miss {L pre post : List It.I} {y : It.I} {key : List Nat} (hu : L.Pairwise (fun a b => Na.lt a.1 b.1 = true)) (he : L = pre ++ y :: post) (h1 : ∀ x ∈ pre, Na.lt x.1 key = true) (h2 : Na.lt y.1 key = false) (h3 : y.1 ≠ key) : It.get L key = It.zero := by
  refine It.get_none fun x hx => ?_
  rw [he] at hx hu
  have hy : Na.lt key y.1 = true := by
    rcases It.lt_total y.1 key with h | h | h
    · rw [h] at h2; cases h2
    · exact absurd h h3
    · exact h
  rcases List.mem_append.mp hx with hx | hx
  · exact It.lt_ne (h1 x hx)
  · rcases List.mem_cons.mp hx with rfl | hx
    · exact h3
    · have := (List.pairwise_cons.mp (List.pairwise_append.mp hu).2.1).1 x hx
      exact (It.lt_ne (It.lt_trans hy this)).symm
theorem get_out {L : List It.I} {key : List Nat} (h1 : ∀ x ∈ L, Na.lt x.1 key = true) : It.get L key = It.zero := It.get_none fun x hx => It.lt_ne (h1 x hx)
def under (hi : List Nat) (x : It.I) : Bool := decide (hi = []) || Na.lt x.1 hi
theorem filter_under {hi : List Nat} : ∀ (l : List It.I), l.Pairwise (fun a b => Na.lt a.1 b.1 = true) → l.filter (under hi) = l.takeWhile (under hi)
  | [], _ => rfl
  | x :: l, h => by
    obtain ⟨h1, h2⟩ := List.pairwise_cons.mp h
    rw [List.filter_cons, List.takeWhile_cons]
    split
    · rw [filter_under l h2]
    · next hx =>
      rw [List.filter_eq_nil_iff]
      intro y hy hu
      apply hx
      unfold under at hu ⊢
      simp only [Bool.or_eq_true, decide_eq_true_eq] at hu ⊢
      exact hu.imp id (fun h => It.lt_trans (h1 y hy) h)
/-- what is scanned behind what was told -/
def sgo (hi : List Nat) (most : Int) (done rest : List It.I) : List It.I := done ++ (rest.takeWhile (under hi)).take (most.toNat - done.length)
theorem sgo_full {hi : List Nat} {most : Int} {done rest : List It.I} (h : most ≤ (done.length : Int)) : sgo hi most done rest = done := by
  unfold sgo
  rw [show most.toNat - done.length = 0 by omega]
  simp
theorem sgo_nil {hi : List Nat} {most : Int} {done : List It.I} : sgo hi most done [] = done := by simp [sgo]
theorem sgo_end {hi : List Nat} {most : Int} {done rest : List It.I} {x : It.I} (h : under hi x = false) : sgo hi most done (x :: rest) = done := by
  unfold sgo
  rw [List.takeWhile_cons, h]
  simp
theorem sgo_more {hi : List Nat} {most : Int} {done rest : List It.I} {x : It.I} (h1 : (done.length : Int) < most) (h : under hi x = true) : sgo hi most done (x :: rest) = sgo hi most (done ++ [x]) rest := by
  unfold sgo
  rw [List.takeWhile_cons, h, if_pos rfl, List.length_append, List.length_singleton, show most.toNat - done.length = (most.toNat - (done.length + 1)) + 1 by omega, List.take_succ_cons]
  simp
theorem scan_sgo {L pre post : List It.I} {lo hi : List Nat} {most : Int} (hu : L.Pairwise (fun a b => Na.lt a.1 b.1 = true)) (he : L = pre ++ post) (h1 : ∀ x ∈ pre, Na.lt x.1 lo = true) (h2 : ∀ x ∈ post, Na.lt x.1 lo = false) : It.scan L lo hi most = sgo hi most [] post := by
  unfold It.scan sgo
  rw [he, List.filter_append]
  rw [he] at hu
  have e1 : pre.filter (It.inside lo hi) = [] := by
    rw [List.filter_eq_nil_iff]
    intro x hx
    unfold It.inside It.ge
    rw [h1 x hx]; simp
  have e2 : post.filter (It.inside lo hi) = post.filter (under hi) := by
    apply List.filter_congr
    intro x hx
    unfold It.inside It.ge under
    rw [h2 x hx]; simp
  rw [e1, e2, filter_under post (List.pairwise_append.mp hu).2.1]
  simp
/-- the keys from a place on are not below -/
theorem from_at {L pre post : List It.I} {key : List Nat} (hu : L.Pairwise (fun a b => Na.lt a.1 b.1 = true)) (he : L = pre ++ post) (h : ∀ y, post.head? = some y → Na.lt y.1 key = false) : ∀ x ∈ post, Na.lt x.1 key = false := by
  cases post with
  | nil => intro x hx; cases hx
  | cons y post =>
    intro x hx
    have hy := h y rfl
    rw [he] at hu
    rcases List.mem_cons.mp hx with rfl | hx
    · exact hy
    · have := (List.pairwise_cons.mp (List.pairwise_append.mp hu).2.1).1 x hx
      cases e : Na.lt x.1 key with
      | false => rfl
      | true => rw [It.lt_trans this e] at hy; cases hy
theorem scan_whole {L : List It.I} : It.scan L [] [] (L.length : Int) = L := by
  unfold It.scan
  have : L.filter (It.inside [] []) = L := by
    rw [List.filter_eq_self]
    intro x _
    unfold It.inside It.ge
    have : Na.lt x.1 [] = false := by cases x.1 <;> simp [Na.lt]
    rw [this]; simp
  rw [this]
  simp
/-- where a key stands among parts -/
structure Seek (ps : List (List It.I)) (key : List Nat) (P A : Nat) : Prop where
  le : P ≤ ps.length
  lo : ∀ i, i < P → Na.lt (lastK (ps.getD i [])) key = true
  hi : ∀ i, P ≤ i → i < ps.length → Na.lt (lastK (ps.getD i [])) key = false
  out : P = ps.length → A = 0
  inn : P < ps.length → A < (ps.getD P []).length ∧ (∀ i, i < A → Na.lt ((ps.getD P []).getD i It.zero).1 key = true) ∧ (∀ i, A ≤ i → i < (ps.getD P []).length → Na.lt ((ps.getD P []).getD i It.zero).1 key = false)
theorem first_true (f : Nat → Bool) : ∀ n : Nat, ∃ K, K ≤ n ∧ (∀ i, i < K → f i = true) ∧ (K < n → f K = false)
  | 0 => ⟨0, Nat.le_refl _, fun i hi => by omega, fun h => by omega⟩
  | n + 1 => by
    obtain ⟨K, h1, h2, h3⟩ := first_true f n
    rcases Nat.lt_or_ge K n with h | h
    · exact ⟨K, by omega, h2, fun _ => h3 h⟩
    · obtain rfl : K = n := by omega
      cases hf : f K with
      | true => exact ⟨K + 1, Nat.le_refl _, fun i hi => by
          rcases Nat.lt_or_ge i K with h' | h'
          · exact h2 i h'
          · rw [show i = K by omega]; exact hf, fun h => by omega⟩
      | false => exact ⟨K, by omega, h2, fun _ => hf⟩
theorem last_rise {ps : List (List It.I)} (hw : Whole ps) {i j : Nat} (hij : i < j) (hj : j < ps.length) : Na.lt (lastK (ps.getD i [])) (lastK (ps.getD j [])) = true := by
  have h := (List.pairwise_flatten.mp (up_whole hw)).2
  have h1 := List.pairwise_iff_getElem.mp h i j (by omega) hj hij
  have e1 : ps.getD i [] = ps[i] := by rw [List.getD_eq_getElem?_getD, List.getElem?_eq_getElem (by omega), Option.getD_some]
  have e2 : ps.getD j [] = ps[j] := by rw [List.getD_eq_getElem?_getD, List.getElem?_eq_getElem hj, Option.getD_some]
  have n1 := (up_part hw (P := i) (by omega)).2
  have n2 := (up_part hw hj).2
  rw [e1, e2] at *
  exact h1 _ (last_mem n1) _ (last_mem n2)
theorem seek_ex {ps : List (List It.I)} (hw : Whole ps) (key : List Nat) : ∃ P A, Seek ps key P A := by
  obtain ⟨P, h1, h2, h3⟩ := first_true (fun i => Na.lt (lastK (ps.getD i [])) key) ps.length
  have hhi : ∀ i, P ≤ i → i < ps.length → Na.lt (lastK (ps.getD i [])) key = false := fun i hi hl => by
    rcases Nat.lt_or_ge P i with h | h
    · have h4 := last_rise hw h hl
      have h5 := h3 (by omega)
      cases e : Na.lt (lastK (ps.getD i [])) key with
      | false => rfl
      | true => rw [It.lt_trans h4 e] at h5; cases h5
    · rw [show i = P by omega]; exact h3 (by omega)
  rcases Nat.lt_or_ge P ps.length with hP | hP
  · obtain ⟨u1, u2⟩ := up_part hw hP
    obtain ⟨A, a1, a2, a3⟩ := first_true (fun i => Na.lt ((ps.getD P []).getD i It.zero).1 key) (ps.getD P []).length
    have hA : A < (ps.getD P []).length := by
      rcases Nat.lt_or_ge A (ps.getD P []).length with h | h
      · exact h
      · have hpos := List.length_pos_iff.mpr u2
        have := a2 ((ps.getD P []).length - 1) (by omega)
        have h6 := hhi P (Nat.le_refl _) hP
        unfold lastK at h6
        rw [this] at h6; cases h6
    refine ⟨P, A, h1, h2, hhi, fun h => by omega, fun _ => ⟨hA, a2, fun i hi hl => ?_⟩⟩
    rcases Nat.lt_or_ge A i with h | h
    · have h4 := It.rise_at u1 h hl
      have h5 := a3 hA
      cases e : Na.lt ((ps.getD P []).getD i It.zero).1 key with
      | false => rfl
      | true => rw [It.lt_trans h4 e] at h5; cases h5
    · rw [show i = A by omega]; exact a3 hA
  · exact ⟨P, 0, h1, h2, hhi, fun _ => rfl, fun h => by omega⟩
theorem Seek.pre {ps : List (List It.I)} {key : List Nat} {P A : Nat} (h : Seek ps key P A) (hw : Whole ps) : ∀ x ∈ joined (ps.take P) ++ (ps.getD P []).take A, Na.lt x.1 key = true := by
  refine below_at hw h.le h.lo fun i hi hl => ?_
  rcases Nat.lt_or_ge P ps.length with hP | hP
  · exact (h.inn hP).2.1 i hi
  · have := h.out (by have := h.le; omega)
    omega
theorem Seek.cut {ps : List (List It.I)} {key : List Nat} {P A : Nat} (_ : Seek ps key P A) : joined ps = (joined (ps.take P) ++ (ps.getD P []).take A) ++ ((ps.getD P []).drop A ++ joined (ps.drop (P + 1))) := by
  rcases Nat.lt_or_ge P ps.length with hP | hP
  · exact cut_at hP A
  · have e1 : ps.take P = ps := List.take_of_length_le hP
    have e2 : ps.drop (P + 1) = [] := List.drop_of_length_le (by omega)
    have e3 : ps.getD P [] = [] := by rw [List.getD_eq_getElem?_getD, List.getElem?_eq_none hP]; rfl
    rw [e1, e2, e3]
    simp [joined]
theorem drop_getD {α : Type} {l : List α} {k : Nat} (d : α) (hk : k < l.length) : l.drop k = l.getD k d :: l.drop (k + 1) := by
  rw [List.drop_eq_getElem_cons hk, List.getD_eq_getElem?_getD, List.getElem?_eq_getElem hk, Option.getD_some]
theorem Seek.get {ps : List (List It.I)} {key : List Nat} {P A : Nat} (h : Seek ps key P A) (hw : Whole ps) (hP : P < ps.length) : It.get (joined ps) key = if ((ps.getD P []).getD A It.zero).1 = key then (ps.getD P []).getD A It.zero else It.zero := by
  obtain ⟨i1, i2, i3⟩ := h.inn hP
  have hc := h.cut
  rw [drop_getD It.zero i1, List.cons_append] at hc
  split
  · next e => rw [← e]; exact get_hit (up_whole hw) hc
  · next e => exact get_miss (up_whole hw) hc (h.pre hw) (i3 A (Nat.le_refl _) i1) e
theorem Seek.none {ps : List (List It.I)} {key : List Nat} {P A : Nat} (h : Seek ps key P A) (hw : Whole ps) (hP : P = ps.length) : It.get (joined ps) key = It.zero := by
  refine get_out fun x hx => h.pre hw x ?_
  subst hP
  rw [h.out rfl, List.take_length]
  simpa using hx
theorem Seek.scan {ps : List (List It.I)} {lo : List Nat} {P A : Nat} (h : Seek ps lo P A) (hw : Whole ps) (hi : List Nat) (most : Int) : It.scan (joined ps) lo hi most = sgo hi most [] ((ps.getD P []).drop A ++ joined (ps.drop (P + 1))) := by
  refine scan_sgo (up_whole hw) h.cut (h.pre hw) (from_at (up_whole hw) h.cut fun y hy => ?_)
  rcases Nat.lt_or_ge P ps.length with hP | hP
  · obtain ⟨i1, i2, i3⟩ := h.inn hP
    rw [drop_getD It.zero i1] at hy
    simp only [List.cons_append, List.head?_cons, Option.some.injEq] at hy
    rw [← hy]
    exact i3 A (Nat.le_refl _) i1
  · have e2 : ps.drop (P + 1) = [] := List.drop_of_length_le (by omega)
    have e3 : ps.getD P [] = [] := by rw [List.getD_eq_getElem?_getD, List.getElem?_eq_none hP]; rfl
    rw [e2, e3] at hy
    simp [joined] at hy
end Tb
end Go.Proofs.Ytgdefibgifcbaaa
