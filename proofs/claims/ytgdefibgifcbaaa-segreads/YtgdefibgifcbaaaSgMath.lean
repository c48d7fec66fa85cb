/- Segments of values (plain mathematics): what stands in bytes, by the frames that they begin with; cut and joined. Names no dump. -/
import Derived.Test.YtgdefibgifcbaaaMa
import Derived.Test.YtgdefibgifcbaaaTpMath
namespace Go.Proofs.Ytgdefibgifcbaaa

namespace Sg
open Fr
/-- values' frames -/
def fr (vs : List (List Nat)) : List F := vs.map fun v => ((2 : Int), v)
/-- a segment's bytes -/
def put (vs : List (List Nat)) : List Nat := all (fr vs)
def head (n : Nat) : Nat := (Va.one n).length + 1
def pt (s : Int) (at' : Nat) (v : List Nat) : Po.P := (s, ((at' + head v.length : Nat) : Int), (v.length : Int), Crc.more 0 v)
def pts (s : Int) (at' : Nat) : List (List Nat) → List Po.P
  | [] => []
  | v :: vs => pt s at' v :: pts s (at' + size v.length) vs
def good (f : F) : Bool := decide (f.1 = 2 ∧ f.2.length ≤ 4096)
theorem good_iff (f : F) : good f = true ↔ f.1 = 2 ∧ f.2.length ≤ 4096 := by simp [good]
/-- from the place at' on, vs being told already -/
def wk : Nat → List Nat → Nat → List (List Nat) → List (List Nat) × Nat
  | 0, _, at', vs => (vs, at')
  | n + 1, bs, at', vs => if (first (bs.drop at')).2.2 = 0 ∧ good (first (bs.drop at')).1 = true then wk n bs (at' + (first (bs.drop at')).2.1) (vs ++ [(first (bs.drop at')).1.2]) else (vs, at')
/-- the values that stand in bytes, and how many bytes they have -/
def walk (bs : List Nat) : List (List Nat) × Nat := wk (bs.length + 1) bs 0 []
theorem wk_ok {n : Nat} {bs : List Nat} {at' : Nat} {vs : List (List Nat)} (h : (first (bs.drop at')).2.2 = 0) (hg : good (first (bs.drop at')).1 = true) :
    wk (n + 1) bs at' vs = wk n bs (at' + (first (bs.drop at')).2.1) (vs ++ [(first (bs.drop at')).1.2]) := by rw [wk, if_pos ⟨h, hg⟩]
theorem wk_no {n : Nat} {bs : List Nat} {at' : Nat} {vs : List (List Nat)} (h : ¬ ((first (bs.drop at')).2.2 = 0 ∧ good (first (bs.drop at')).1 = true)) : wk (n + 1) bs at' vs = (vs, at') := by rw [wk, if_neg h]

theorem fr_append (a b : List (List Nat)) : fr (a ++ b) = fr a ++ fr b := by simp [fr]
theorem fr_length (a : List (List Nat)) : (fr a).length = a.length := by simp [fr]
theorem fr_take (a : List (List Nat)) (k : Nat) : fr (a.take k) = (fr a).take k := by simp [fr, List.map_take]
theorem fr_snd (a : List (List Nat)) : (fr a).map Prod.snd = a := by
  induction a with
  | nil => rfl
  | cons v a ih => simp only [fr, List.map_cons] at ih ⊢; rw [ih]
theorem put_append (a b : List (List Nat)) : put (a ++ b) = put a ++ put b := by simp [put, fr_append, all_append]
theorem put_cons (v : List Nat) (vs : List (List Nat)) : put (v :: vs) = put1 2 v ++ put vs := rfl
theorem put_one (v : List Nat) : put [v] = put1 2 v := by simp [put, fr, all, one]
theorem put_one_len (v : List Nat) : (put [v]).length = size v.length := by rw [put_one, put1_len]
theorem put_snoc_len (vs : List (List Nat)) (v : List Nat) : (put (vs ++ [v])).length = (put vs).length + size v.length := by rw [put_append, List.length_append, put_one_len]
theorem pts_length : ∀ (s : Int) (at' : Nat) (vs : List (List Nat)), (pts s at' vs).length = vs.length
  | _, _, [] => rfl
  | s, at', v :: vs => by simp [pts, pts_length]
theorem pts_append : ∀ (s : Int) (at' : Nat) (a b : List (List Nat)), pts s at' (a ++ b) = pts s at' a ++ pts s (at' + (put a).length) b
  | s, at', [], b => by simp [pts, put, fr, all]
  | s, at', v :: a, b => by
    rw [List.cons_append, pts, pts_append, pts, put_cons, List.length_append, put1_len, List.cons_append, Nat.add_assoc]
theorem pts_snoc (s : Int) (vs : List (List Nat)) (v : List Nat) : pts s 0 (vs ++ [v]) = pts s 0 vs ++ [pt s (put vs).length v] := by
  rw [pts_append, Nat.zero_add]; rfl
theorem pts_take (s : Int) (at' : Nat) (vs : List (List Nat)) (k : Nat) (hk : k ≤ vs.length) : (pts s at' vs).take k = pts s at' (vs.take k) := by
  have h := pts_append s at' (vs.take k) (vs.drop k)
  rw [List.take_append_drop] at h
  rw [h, List.take_append_of_le_length (by rw [pts_length, List.length_take]; omega), List.take_of_length_le (by rw [pts_length, List.length_take]; omega)]
theorem pts_get (s : Int) (vs : List (List Nat)) (k : Nat) (hk : k < vs.length) : (pts s 0 vs).getD k Po.zero = pt s (put (vs.take k)).length (vs.getD k []) := by
  have h := pts_append s 0 (vs.take k) (vs.drop k)
  rw [List.take_append_drop, List.drop_eq_getElem_cons hk, pts] at h
  have e : vs.getD k [] = vs[k] := by simp [hk]
  rw [h, e, List.getD_eq_getElem?_getD, List.getElem?_append_right (by rw [pts_length, List.length_take]; omega), pts_length, List.length_take, Nat.min_eq_left (Nat.le_of_lt hk), Nat.sub_self]
  simp
/-- where the k-th ends -/
theorem put_take_succ (vs : List (List Nat)) (k : Nat) (hk : k < vs.length) : (put (vs.take (k + 1))).length = (put (vs.take k)).length + size (vs.getD k []).length := by
  rw [List.take_succ_eq_append_getElem hk, put_snoc_len]
  have e : vs.getD k [] = vs[k] := by simp [hk]
  rw [e]
theorem put_take_le (vs : List (List Nat)) (k : Nat) : (put (vs.take k)).length ≤ (put vs).length := by
  have h := put_append (vs.take k) (vs.drop k)
  rw [List.take_append_drop] at h
  rw [h, List.length_append]; omega

/-! the frames that bytes begin with, from a place on -/
def fs : Nat → List Nat → Nat → List F
  | 0, _, _ => []
  | n + 1, bs, at' => if (first (bs.drop at')).2.2 = 0 then (first (bs.drop at')).1 :: fs n bs (at' + (first (bs.drop at')).2.1) else []
theorem sc_fs : ∀ (n : Nat) (bs : List Nat) (at' : Nat) (l : List F) (ps : List Nat), (sc n bs at' l ps).1 = l ++ fs n bs at'
  | 0, bs, at', l, ps => by simp [sc, fs]
  | n + 1, bs, at', l, ps => by
    by_cases h : (first (bs.drop at')).2.2 = 0
    · rw [sc_ok h, fs, if_pos h, sc_fs]; simp
    · rw [sc_no h, fs, if_neg h]; simp
theorem wk_fs : ∀ (n : Nat) (bs : List Nat) (at' : Nat) (vs : List (List Nat)), wk n bs at' vs = (vs ++ ((fs n bs at').takeWhile good).map Prod.snd, at' + (all ((fs n bs at').takeWhile good)).length)
  | 0, bs, at', vs => by simp [wk, fs, all]
  | n + 1, bs, at', vs => by
    by_cases h : (first (bs.drop at')).2.2 = 0
    · by_cases hg : good (first (bs.drop at')).1 = true
      · rw [wk_ok h hg, fs, if_pos h, wk_fs, List.takeWhile_cons_of_pos hg, (first_take h).2, all_len_cons]
        simp [Nat.add_assoc]
      · rw [wk_no (by simp [h, hg]), fs, if_pos h, List.takeWhile_cons_of_neg hg]
        simp [all]
    · rw [wk_no (by simp [h]), fs, if_neg h]; simp [all]
/-- what stands in bytes, by what is scanned -/
theorem walk_scan (bs : List Nat) : walk bs = (((scan bs).1.takeWhile good).map Prod.snd, (all ((scan bs).1.takeWhile good)).length) := by
  rw [walk, wk_fs, scan, sc_fs]; simp
theorem all_good : ∀ (l : List F), (∀ f ∈ l, good f = true) → l = fr (l.map Prod.snd)
  | [], _ => rfl
  | f :: l, h => by
    have h1 := (good_iff f).mp (h f (by simp))
    have h2 := all_good l (fun g hg => h g (by simp [hg]))
    rw [List.map_cons]
    have : fr (f.2 :: l.map Prod.snd) = ((2 : Int), f.2) :: fr (l.map Prod.snd) := rfl
    rw [this, ← h2, ← h1.1]
theorem tw_good {l : List F} {f : F} : f ∈ l.takeWhile good → good f = true := by
  induction l with
  | nil => intro h; simp at h
  | cons g l ih =>
    intro h
    by_cases hg : good g = true
    · rw [List.takeWhile_cons_of_pos hg] at h
      rcases List.mem_cons.mp h with rfl | h
      · exact hg
      · exact ih h
    · rw [List.takeWhile_cons_of_neg hg] at h; simp at h
theorem walk_end (bs : List Nat) : (walk bs).2 = (put (walk bs).1).length := by
  rw [walk_scan]
  show (all _).length = (all (fr _)).length
  rw [← all_good _ (fun f hf => tw_good hf)]
theorem take_all (bs : List Nat) : put (walk bs).1 <+: bs := by
  have h := scan_inv bs
  have h1 : all ((scan bs).1.takeWhile good) <+: all (scan bs).1 := by
    obtain ⟨t, ht⟩ := List.takeWhile_prefix (p := good) (l := (scan bs).1)
    refine ⟨all t, ?_⟩
    rw [← all_append, ht]
  rw [h.2.1] at h1
  have h2 : put (walk bs).1 = all ((scan bs).1.takeWhile good) := by
    rw [walk_scan]
    show all (fr _) = _
    rw [← all_good _ (fun f hf => tw_good hf)]
  rw [h2]
  exact h1.trans (List.take_prefix _ _)
theorem walk_le (bs : List Nat) : (walk bs).2 ≤ bs.length := by
  rw [walk_end]; exact (take_all bs).length_le

/-! what is put is walked -/
def Small (vs : List (List Nat)) : Prop := ∀ v ∈ vs, v.length ≤ 4096 ∧ ∀ x ∈ v, x < 256
theorem fr_good {vs : List (List Nat)} (h : Small vs) : Fr.Good (fr vs) := by
  intro f hf
  simp only [fr, List.mem_map] at hf
  obtain ⟨v, hv, rfl⟩ := hf
  have := h v hv
  exact ⟨by rw [may_iff]; exact ⟨by simp, by simp, by show v.length ≤ 1048576; omega⟩, this.2⟩
theorem fr_all_good {vs : List (List Nat)} (h : Small vs) : ∀ f ∈ fr vs, good f = true := by
  intro f hf
  simp only [fr, List.mem_map] at hf
  obtain ⟨v, hv, rfl⟩ := hf
  rw [good_iff]; exact ⟨rfl, (h v hv).1⟩
theorem put_small {vs : List (List Nat)} (h : Small vs) : ∀ x ∈ put vs, x < 256 := all_small (fr_good h)
theorem wk_put : ∀ (l : List (List Nat)) (n : Nat) (A more : List Nat) (vs : List (List Nat)), Small l → (∀ x ∈ more, x < 256) → wk (n + l.length) (A ++ (put l ++ more)) A.length vs = wk n (A ++ (put l ++ more)) (A.length + (put l).length) (vs ++ l)
  | [], n, A, more, vs, _, _ => by simp [put, fr, all]
  | v :: l, n, A, more, vs, h, hm => by
    have hv := h v (by simp)
    have hl : Small l := fun x hx => h x (by simp [hx])
    have hd : (A ++ (put (v :: l) ++ more)).drop A.length = put1 2 v ++ (put l ++ more) := by rw [List.drop_left, put_cons, List.append_assoc]
    have hf : first ((A ++ (put (v :: l) ++ more)).drop A.length) = ((((2 : Nat) : Int), v), size v.length, 0) := by
      rw [hd]
      exact first_put (by omega) (by omega) (by omega) hv.2 _ (fun x hx => by
        rcases List.mem_append.mp hx with hx | hx
        · exact put_small hl x hx
        · exact hm x hx)
    rw [List.length_cons, show n + (l.length + 1) = (n + l.length) + 1 by omega, wk_ok (by rw [hf]) (by rw [hf, good_iff]; exact ⟨rfl, hv.1⟩), hf]
    simp only
    have e : A ++ (put (v :: l) ++ more) = (A ++ put1 2 v) ++ (put l ++ more) := by rw [put_cons]; simp
    have h1 := wk_put l n (A ++ put1 2 v) more (vs ++ [v]) hl hm
    rw [List.length_append, put1_len] at h1
    rw [e, h1, put_cons, List.length_append, put1_len]
    simp [Nat.add_assoc]
theorem count_le : ∀ (l : List (List Nat)), 6 * l.length ≤ (put l).length := fun l => by
  have := all_count (fr l)
  rw [fr_length] at this; exact this
theorem wk_pre : ∀ (n : Nat) (bs : List Nat) (at' : Nat) (vs : List (List Nat)), ∃ r, (wk n bs at' vs).1 = vs ++ r := fun n bs at' vs => ⟨_, by rw [wk_fs]⟩
/-- whatever stands behind: all that was put is told, and no less bytes -/
theorem walk_put (l : List (List Nat)) (more : List Nat) (h : Small l) (hm : ∀ x ∈ more, x < 256) : ∃ r, (walk (put l ++ more)).1 = l ++ r := by
  have hc := count_le l
  have e : (put l ++ more).length + 1 = ((put l ++ more).length + 1 - l.length) + l.length := by rw [List.length_append]; omega
  have h1 := wk_put l ((put l ++ more).length + 1 - l.length) [] more [] h hm
  simp only [List.nil_append, List.length_nil, Nat.zero_add] at h1
  rw [walk, e, h1]
  exact wk_pre _ _ _ _
theorem walk_put_end (l : List (List Nat)) (more : List Nat) (h : Small l) (hm : ∀ x ∈ more, x < 256) : (put l).length ≤ (walk (put l ++ more)).2 := by
  obtain ⟨r, hr⟩ := walk_put l more h hm
  rw [walk_end, hr, put_append, List.length_append]; omega
theorem takeWhile_all {p : F → Bool} : ∀ {l : List F}, (∀ f ∈ l, p f = true) → l.takeWhile p = l
  | [], _ => rfl
  | f :: l, h => by rw [List.takeWhile_cons_of_pos (h f (by simp)), takeWhile_all (fun g hg => h g (by simp [hg]))]
theorem walk_all {l : List (List Nat)} (h : Small l) : walk (put l) = (l, (put l).length) := by
  rw [walk_scan, put, scan_all (fr_good h)]
  simp only
  rw [takeWhile_all (fr_all_good h), fr_snd]
/-- of what is put, cut at k: how many values end within -/
theorem walk_cut {l : List (List Nat)} (h : Small l) (k : Nat) (hk : k ≤ (put l).length) :
    ∃ m, m ≤ l.length ∧ walk ((put l).take k) = (l.take m, (put (l.take m)).length) ∧ (put (l.take m)).length ≤ k ∧ (m < l.length → k < (put (l.take m)).length + size (l.getD m []).length) := by
  have hcu : ∀ (l : List F) (k : Nat), (cuts l k).1 ≤ l.length ∧ (cuts l k).2 = (all (l.take (cuts l k).1)).length ∧ (cuts l k).2 ≤ k ∧ ((cuts l k).1 < l.length → k < (cuts l k).2 + size (l.getD (cuts l k).1 (0, [])).2.length) := by
    intro l
    induction l with
    | nil => intro k; simp [cuts, all]
    | cons f l ih =>
      intro k
      by_cases hc : size f.2.length ≤ k
      · obtain ⟨h1, h2, h3, h4⟩ := ih (k - size f.2.length)
        have e : cuts (f :: l) k = ((cuts l (k - size f.2.length)).1 + 1, (cuts l (k - size f.2.length)).2 + size f.2.length) := by rw [cuts, if_pos hc]
        rw [e]
        refine ⟨by simp; omega, ?_, by simp only; omega, ?_⟩
        · simp only [List.take_succ_cons, all_len_cons]; omega
        · intro hlt
          have := h4 (by simpa using hlt)
          simp only [List.getD_cons_succ]; omega
      · have e : cuts (f :: l) k = (0, 0) := by rw [cuts, if_neg hc]
        rw [e]
        refine ⟨by simp, by simp [all], by simp, ?_⟩
        intro _
        simp only [List.getD_cons_zero]; omega
  obtain ⟨h1, h2, h3, h4⟩ := hcu (fr l) k
  have hs := (scan_cut (fr_good h) k hk).1
  have hsm : Small (l.take (cuts (fr l) k).1) := fun v hv => h v (List.mem_of_mem_take hv)
  rw [fr_length] at h1 h4
  refine ⟨(cuts (fr l) k).1, h1, ?_, ?_, ?_⟩
  · rw [walk_scan]
    have e : scan ((put l).take k) = scan ((all (fr l)).take k) := rfl
    rw [e, hs]
    simp only
    rw [← fr_take, takeWhile_all (fr_all_good hsm), fr_snd, put]
  · have : (put (l.take (cuts (fr l) k).1)).length = (cuts (fr l) k).2 := by rw [h2, put, fr_take]
    omega
  · intro hlt
    have e2 : (put (l.take (cuts (fr l) k).1)).length = (cuts (fr l) k).2 := by rw [h2, put, fr_take]
    have := h4 hlt
    have e3 : ((fr l).getD (cuts (fr l) k).1 (0, [])).2 = l.getD (cuts (fr l) k).1 [] := by
      have hl2 : (cuts (fr l) k).1 < (fr l).length := by rw [fr_length]; exact hlt
      generalize (cuts (fr l) k).1 = c at *
      have h5 : (fr l)[c] = ((2 : Int), l[c]) := by simp [fr]
      simp [hlt, hl2, h5]
    rw [e3] at this
    omega
/-- the places that a scan tells -/
theorem places_get : ∀ (l : List F) (at' i : Nat), i < l.length → (places l at').getD i 0 = at' + (all (l.take i)).length + head (l.getD i (0, [])).2.length
  | [], _, i, h => by simp at h
  | f :: l, at', 0, _ => by simp [places, all, head]; omega
  | f :: l, at', i + 1, h => by
    rw [places, List.getD_cons_succ, places_get l _ i (by simpa using h), List.take_succ_cons, all_len_cons, List.getD_cons_succ]; omega
/-- how many of some frames, from the first one on, are values' -/
theorem first_bad (l : List F) : ∃ K, K ≤ l.length ∧ l.takeWhile good = l.take K ∧ (∀ i, i < K → good (l.getD i (0, [])) = true) ∧ (K < l.length → good (l.getD K (0, [])) = false) := by
  induction l with
  | nil => exact ⟨0, by simp, rfl, fun i hi => by omega, fun h => by simp at h⟩
  | cons f l ih =>
    by_cases hg : good f = true
    · obtain ⟨K, h1, h2, h3, h4⟩ := ih
      refine ⟨K + 1, by simp; omega, by rw [List.takeWhile_cons_of_pos hg, h2]; rfl, ?_, ?_⟩
      · intro i hi
        match i with
        | 0 => simpa using hg
        | i + 1 => rw [List.getD_cons_succ]; exact h3 i (by omega)
      · intro hlt; rw [List.getD_cons_succ]; exact h4 (by simpa using hlt)
    · exact ⟨0, by simp, by rw [List.takeWhile_cons_of_neg hg]; rfl, fun i hi => by omega, fun _ => by simpa using hg⟩
end Sg
end Go.Proofs.Ytgdefibgifcbaaa
