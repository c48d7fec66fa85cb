/- A log's disk by act (plain mathematics). -/
import Derived.Test.YtnoknmnbfkdccaaGreatDoorVLj
import Derived.Test.YtnoknmnbfkdccaaGreatDoorVLg
import Derived.Test.YtnoknmnbfkdccaaGreatDoorVXb
namespace Go.Proofs.YtnoknmnbfkdccaaGreatDoor
open Go.RowKit Go.Shelf

namespace Vl
theorem erase_sub' {α : Type} (l : List α) (i : Nat) : (l.take i ++ l.drop (i + 1)).Sublist l := by
  have e : l.drop (i + 1) = (l.drop i).drop 1 := by rw [List.drop_drop]
  conv => rhs; rw [← List.take_append_drop i l]
  exact List.Sublist.append_left (by rw [e]; exact List.drop_sublist 1 _) _
theorem mdel_le {α β : Type} [DecidableEq α] : ∀ (l : List (α × β)) (k : α), (mdel l k).length ≤ l.length := fun l k => (mdel_sub l k).length_le
theorem few_append {D : Dk.D} (hO : Dk.Ok D) (hL : Live D) (s : ByteArray) (x : List Nat) {b : Nat} (h : Dk.Few D b) (hs : 1 ≤ s.size ∧ s.size ≤ 16) (hn : D.names.length < 5000) (hq : Dk.sum D.files + x.length ≤ D.quota) : Dk.Few (Dk.append D s x).1 (b + 1) := by
  have hs0 : s ≠ ⟨#[]⟩ := by rintro rfl; exact absurd hs.1 (by decide)
  obtain ⟨h1, h2, h3⟩ := h
  rcases find_cases hO s with ⟨e1, e2⟩ | ⟨n, f, e1, e2, e3⟩
  · have hz : mdel D.names ⟨#[]⟩ = D.names := mdel_none _ _ hL.nz
    have hnm : Dk.turn ⟨⟨#[]⟩, s, D.last + 1⟩ D.names = D.names ++ [(s, D.last + 1)] := by
      unfold Dk.turn
      rw [if_neg hs0, hz, mput_none _ _ _ e2]
    have hE : (Dk.appended D s x).last = D.last + 1 ∧ (Dk.appended D s x).names = D.names ++ [(s, D.last + 1)] ∧ (Dk.appended D s x).turns = D.turns ++ [⟨⟨#[]⟩, s, D.last + 1⟩] ∧ (Dk.appended D s x).stop = D.stop ∧ (Dk.appended D s x).fault = D.fault := by
      unfold Dk.appended
      rw [e1]
      simp only [Dk.created, Dk.turned]
      exact ⟨trivial, hnm, trivial, trivial, trivial⟩
    have he : (Dk.append D s x) = (Dk.appended D s x, 0) := by
      unfold Dk.append
      rw [if_neg (by rw [hL.dead]; simp), if_neg (by omega), if_neg (by omega)]
      exact acted hL hE.2.2.2.1 hE.2.2.2.2
    rw [he]
    exact ⟨by rw [hE.1]; omega, by rw [hE.2.2.1]; simp; omega, by rw [hE.2.1]; simp; omega⟩
  · have he : Dk.append D s x = ({ D with files := mput D.files n (Dk.appF f x) }, 0) := by
      unfold Dk.append
      rw [if_neg (by rw [hL.dead]; simp), if_neg (by omega), if_neg (by rw [e1]; simp; omega)]
      unfold Dk.appended
      rw [e1]
      exact acted hL rfl rfl
    rw [he]
    exact ⟨by simp only; omega, by simp only; omega, by simp only; omega⟩
theorem few_sync {D : Dk.D} (hO : Dk.Ok D) (hL : Live D) (s : ByteArray) {b : Nat} (h : Dk.Few D b) (hs : (bs D s).isSome = true) : Dk.Few (Dk.sync D s).1 b := by
  obtain ⟨h1, h2, h3⟩ := h
  rcases find_cases hO s with ⟨e1, e2⟩ | ⟨n, f, e1, e2, e3⟩
  · rw [bs_none e2] at hs; cases hs
  · have he : Dk.sync D s = ({ D with files := mput D.files n (Dk.syncF f) }, 0) := by
      unfold Dk.sync
      rw [if_neg (by rw [hL.dead]; simp), e1]
      exact acted hL rfl rfl
    rw [he]
    exact ⟨h1, h2, h3⟩
theorem few_remove {D : Dk.D} (hO : Dk.Ok D) (hL : Live D) (s : ByteArray) {b : Nat} (h : Dk.Few D b) (hs : (bs D s).isSome = true) : Dk.Few (Dk.remove D s).1 (b + 1) := by
  obtain ⟨h1, h2, h3⟩ := h
  rcases find_cases hO s with ⟨e1, e2⟩ | ⟨n, f, e1, e2, e3⟩
  · rw [bs_none e2] at hs; cases hs
  · have hnm : Dk.turn ⟨s, ⟨#[]⟩, 0⟩ D.names = mdel D.names s := by unfold Dk.turn; rw [if_pos rfl]
    have hE : Dk.turned D ⟨s, ⟨#[]⟩, 0⟩ = { D with names := mdel D.names s, turns := D.turns ++ [⟨s, ⟨#[]⟩, 0⟩] } := by
      unfold Dk.turned
      rw [hnm]
    have he : Dk.remove D s = ({ D with names := mdel D.names s, turns := D.turns ++ [⟨s, ⟨#[]⟩, 0⟩] }, 0) := by
      unfold Dk.remove
      rw [if_neg (by rw [hL.dead]; simp), if_neg (by rw [e1]; simp), hE]
      exact acted hL rfl rfl
    rw [he]
    refine ⟨?_, ?_, ?_⟩
    · show D.last ≤ b + 1; omega
    · show (D.turns ++ [_]).length ≤ b + 1; simp; omega
    · show (mdel D.names s).length ≤ b + 1
      have := mdel_le D.names s; omega

/-- what a disk holds of a log's values, behind b acts of z bytes at most -/
structure Ac (D : Dk.D) (segs : List Int) (vals : List (List (List Nat))) (b z : Nat) : Prop where
  len : vals.length = segs.length
  by' : ∀ i, i < segs.length → Vl.by' D (vname (segs.getD i 0)) = Sg.put (vals.getD i [])
  no : ∀ s : Int, 1 ≤ s → s ≤ 2147483647 → (∀ x ∈ segs, x < s) → Vl.bs D (vname s) = none
  small : ∀ vs ∈ vals, Sg.Small vs
  cnt : ∀ vs ∈ vals, vs.length ≤ b
  tot : ∀ vs ∈ vals, (Sg.put vs).length ≤ z
  live : Vl.Live D
  few : Dk.Few D b
  sum : Dk.sum D.files ≤ z
  quota : D.quota = 4194304
section
variable {D : Dk.D} {segs : List Int} {vals : List (List (List Nat))} {b z : Nat}
theorem Ac.mono {b' z' : Nat} (h : Ac D segs vals b z) (hb : b ≤ b') (hz : z ≤ z') : Ac D segs vals b' z' :=
  ⟨h.len, h.by', h.no, h.small, fun vs hv => Nat.le_trans (h.cnt vs hv) hb, fun vs hv => Nat.le_trans (h.tot vs hv) hz, h.live, ⟨Nat.le_trans h.few.1 hb, Nat.le_trans h.few.2 hb, Nat.le_trans h.few.3 hb⟩, Nat.le_trans h.sum hz, h.quota⟩
theorem may_inj (hm : may segs = true) {i j : Nat} (hi : i < segs.length) (hj : j < segs.length) (h : vname (segs.getD i 0) = vname (segs.getD j 0)) : i = j := by
  have gm : ∀ k, k < segs.length → 1 ≤ segs.getD k 0 ∧ segs.getD k 0 ≤ 2147483647 := fun k hk => may_mem hm (by
    rw [show segs.getD k 0 = segs[k] by simp [hk]]; exact List.getElem_mem _)
  have e := vname_inj (gm i hi) (gm j hj) h
  rcases Nat.lt_trichotomy i j with h1 | h1 | h1
  · exact absurd e (may_one hm hj i h1)
  · exact h1
  · exact absurd e.symm (may_one hm hi j h1)
theorem getD_mem' {α : Type} {l : List α} {i : Nat} (d : α) (h : i < l.length) : l.getD i d ∈ l := by
  rw [show l.getD i d = l[i] by simp [h]]; exact List.getElem_mem _
theorem last_max (hm : may segs = true) (hne : segs ≠ []) : ∀ x ∈ segs, x ≤ last segs := by
  intro x hx
  obtain ⟨i, hi, e⟩ := List.getElem_of_mem hx
  have hp := may_pair hm
  have hl : segs.length - 1 < segs.length := by have := List.length_pos_iff.2 hne; omega
  have el : last segs = segs[segs.length - 1] := by unfold last; simp [hl]
  rw [el, ← e]
  rcases Nat.lt_or_ge i (segs.length - 1) with h | h
  · exact Int.le_of_lt (List.pairwise_iff_getElem.1 hp i (segs.length - 1) hi hl h)
  · have : i = segs.length - 1 := by omega
    subst this; exact Int.le_refl _
/-- a value is put -/
theorem Ac.put (h : Ac D segs vals b z) (hO : Dk.Ok D) (hm : may segs = true) (hne : segs ≠ []) (v : List Nat) (hv : v.length ≤ 4096 ∧ ∀ x ∈ v, x < 256) (hb : b < 1000) (hz : z + v.length + 10 ≤ 4194304) :
    ∃ D', Dk.append D (vname (last segs)) (Sg.put [v]) = (D', 0) ∧ Ac D' segs (vals.take (segs.length - 1) ++ [vals.getD (segs.length - 1) [] ++ [v]]) (b + 1) (z + v.length + 10) := by
  have hlp := List.length_pos_iff.2 hne
  have hl : segs.length - 1 < segs.length := by omega
  have hlm := may_mem hm (last_mem hne)
  have hsz := vname_is hlm
  have h3 := Fr.one3 (n := v.length) (by omega)
  have hpl : (Sg.put [v]).length ≤ v.length + 10 := by rw [Sg.put_one_len]; unfold Fr.size; omega
  have hq : Dk.sum D.files + (Sg.put [v]).length ≤ D.quota := by rw [h.quota]; have := h.sum; omega
  have hnm : D.names.length < 5000 := by have := h.few.names; omega
  obtain ⟨D', e, l1, l2, l3, l4⟩ := Vl.append hO h.live (vname (last segs)) (Sg.put [v]) hsz hnm hq
  have hf := few_append hO h.live (vname (last segs)) (Sg.put [v]) h.few hsz hnm hq
  rw [e] at hf
  have hL : vals.length = segs.length := h.len
  have hmv : vals.getD (segs.length - 1) [] ∈ vals := getD_mem' [] (by omega)
  have hnew : Sg.put (vals.getD (segs.length - 1) [] ++ [v]) = Sg.put (vals.getD (segs.length - 1) []) ++ Sg.put [v] := Sg.put_append _ _
  have hcase : ∀ vs ∈ vals.take (segs.length - 1) ++ [vals.getD (segs.length - 1) [] ++ [v]], vs ∈ vals ∨ vs = vals.getD (segs.length - 1) [] ++ [v] := fun vs hvs => by
    rcases List.mem_append.1 hvs with h' | h'
    · exact .inl (List.mem_of_mem_take h')
    · exact .inr (by simpa using h')
  have elast : segs.getD (segs.length - 1) 0 = last segs := rfl
  refine ⟨D', e, ⟨?_, fun i hi => ?_, fun s h1 h2 hs => ?_, fun vs hvs => ?_, fun vs hvs => ?_, fun vs hvs => ?_, l1, hf, ?_, l4.trans h.quota⟩⟩
  · rw [List.length_append, List.length_take]; simp; omega
  · unfold Vl.by'
    rw [l2]
    by_cases hi2 : i = segs.length - 1
    · subst hi2
      rw [elast, if_pos rfl]
      have e1 := h.by' (segs.length - 1) hl
      rw [elast] at e1
      rw [e1]
      have : (vals.take (segs.length - 1) ++ [vals.getD (segs.length - 1) [] ++ [v]]).getD (segs.length - 1) [] = vals.getD (segs.length - 1) [] ++ [v] := by
        simp only [List.getD_eq_getElem?_getD]
        rw [List.getElem?_append_right (by rw [List.length_take]; omega)]
        simp [List.length_take, Nat.min_eq_left (show segs.length - 1 ≤ vals.length by omega)]
      rw [this, hnew]; rfl
    · rw [if_neg (fun e' => hi2 (may_inj hm hi hl (by rw [elast]; exact e')))]
      have : (vals.take (segs.length - 1) ++ [vals.getD (segs.length - 1) [] ++ [v]]).getD i [] = vals.getD i [] := by
        simp only [List.getD_eq_getElem?_getD]
        rw [List.getElem?_append_left (by rw [List.length_take]; omega), List.getElem?_take_of_lt (by omega)]
      rw [this]
      exact h.by' i hi
  · rw [l2, if_neg (fun e' => by have := vname_inj ⟨h1, h2⟩ hlm e'; have := hs _ (last_mem hne); omega)]
    exact h.no s h1 h2 hs
  · rcases hcase vs hvs with h' | rfl
    · exact h.small vs h'
    · intro y hy
      rcases List.mem_append.1 hy with h' | h'
      · exact h.small _ hmv y h'
      · have : y = v := by simpa using h'
        subst this; exact hv
  · rcases hcase vs hvs with h' | rfl
    · have := h.cnt vs h'; omega
    · have := h.cnt _ hmv
      rw [List.length_append]; simp only [List.length_singleton]; omega
  · rcases hcase vs hvs with h' | rfl
    · have := h.tot vs h'; omega
    · have := h.tot _ hmv
      rw [hnew, List.length_append]; omega
  · rw [l3]; have := h.sum; omega
/-- a sync -/
theorem Ac.sync (h : Ac D segs vals b z) (hO : Dk.Ok D) : ∃ D', Vl.synced D segs = (D', 0) ∧ Ac D' segs vals b z ∧ ∀ t, Vl.bs D' t = Vl.bs D t := by
  unfold Vl.synced
  by_cases hs : (Vl.bs D (vname (Vl.last segs))).isSome = true
  · rw [if_pos hs]
    obtain ⟨D', e, l1, l2, l3, l4⟩ := Vl.sync hO h.live _ hs
    have hf := few_sync hO h.live _ h.few hs
    rw [e] at hf
    exact ⟨D', e, ⟨h.len, fun i hi => by unfold Vl.by'; rw [l2]; exact h.by' i hi, fun s h1 h2 h3 => by rw [l2]; exact h.no s h1 h2 h3, h.small, h.cnt, h.tot, l1, hf, by rw [l3]; exact h.sum, l4.trans h.quota⟩, l2⟩
  · rw [if_neg hs]
    exact ⟨D, rfl, h, fun _ => rfl⟩
/-- a segment more -/
theorem Ac.add (h : Ac D segs vals b z) (s : Int) (hm : may (segs ++ [s]) = true) : Ac D (segs ++ [s]) (vals ++ [[]]) b z ∧ Vl.by' D (vname s) = [] := by
  obtain ⟨_, h2, h3⟩ := (may_iff _).1 hm
  have hs := h2 s (by simp)
  have hlt : ∀ x ∈ segs, x < s := fun x hx => (List.pairwise_append.1 h3).2.2 x hx s (by simp)
  have hno := h.no s hs.1 hs.2 hlt
  have hby : Vl.by' D (vname s) = [] := by unfold Vl.by'; rw [hno]; rfl
  have hL := h.len
  refine ⟨⟨by simp [hL], fun i hi => ?_, fun t h1 h2 h3 => h.no t h1 h2 fun x hx => h3 x (by simp [hx]), fun vs hvs => ?_, fun vs hvs => ?_, fun vs hvs => ?_, h.live, h.few, h.sum, h.quota⟩, hby⟩
  · rcases Nat.lt_or_ge i segs.length with h' | h'
    · have e1 : (segs ++ [s]).getD i 0 = segs.getD i 0 := by simp only [List.getD_eq_getElem?_getD]; rw [List.getElem?_append_left h']
      have e2 : (vals ++ [[]]).getD i [] = vals.getD i [] := by simp only [List.getD_eq_getElem?_getD]; rw [List.getElem?_append_left (by omega)]
      rw [e1, e2]; exact h.by' i h'
    · have : i = segs.length := by rw [List.length_append] at hi; simp at hi; omega
      subst this
      have e1 : (segs ++ [s]).getD segs.length 0 = s := by simp
      have e2 : (vals ++ [[]]).getD segs.length [] = [] := by rw [← hL]; simp
      rw [e1, e2, hby]; rfl
  · rcases List.mem_append.1 hvs with h' | h'
    · exact h.small vs h'
    · have : vs = [] := by simpa using h'
      subst this; intro y hy; cases hy
  · rcases List.mem_append.1 hvs with h' | h'
    · exact h.cnt vs h'
    · have : vs = [] := by simpa using h'
      subst this; simp
  · rcases List.mem_append.1 hvs with h' | h'
    · exact h.tot vs h'
    · have : vs = [] := by simpa using h'
      subst this; simp [Sg.put, Sg.fr, Fr.all]
theorem erase_get {α : Type} (l : List α) (d : α) (i j : Nat) (hi : i < l.length) : (l.take i ++ l.drop (i + 1)).getD j d = if j < i then l.getD j d else l.getD (j + 1) d := by
  simp only [List.getD_eq_getElem?_getD]
  by_cases h : j < i
  · rw [if_pos h, List.getElem?_append_left (by rw [List.length_take]; omega), List.getElem?_take_of_lt h]
  · rw [if_neg h, List.getElem?_append_right (by rw [List.length_take]; omega), List.getElem?_drop, List.length_take, Nat.min_eq_left (by omega)]
    congr 2; omega
theorem mem_erase {α : Type} {l : List α} {i : Nat} {x : α} (h : x ∈ l.take i ++ l.drop (i + 1)) : x ∈ l := (erase_sub' l i).subset h
/-- a segment less -/
theorem Ac.drop (h : Ac D segs vals b z) (hO : Dk.Ok D) (hm : may segs = true) (i : Nat) (hi : i < segs.length) (hl : segs.getD i 0 ≠ last segs) :
    ∃ D', (if (Vl.bs D (vname (segs.getD i 0))).isSome = true then Dk.remove D (vname (segs.getD i 0)) else (D, 0)) = (D', 0) ∧ Ac D' (segs.take i ++ segs.drop (i + 1)) (vals.take i ++ vals.drop (i + 1)) (b + 1) z := by
  have hL := h.len
  have hin : i ≠ segs.length - 1 := fun e => hl (by rw [e]; rfl)
  have hlst : last segs ∈ segs.take i ++ segs.drop (i + 1) := by
    refine List.mem_append_right _ ?_
    have : segs.length - 1 < segs.length := by omega
    rw [show last segs = segs[segs.length - 1] by unfold last; simp [this]]
    rw [List.mem_drop_iff_getElem]
    exact ⟨segs.length - 1 - (i + 1), by omega, by congr 1; omega⟩
  have hne : segs ≠ [] := by rintro rfl; simp at hi
  have key : ∀ D', Vl.Live D' → Dk.Few D' (b + 1) → Dk.sum D'.files ≤ z → D'.quota = 4194304 → (∀ t, t ≠ vname (segs.getD i 0) → Vl.bs D' t = Vl.bs D t) → (∀ t, Vl.bs D t = none → Vl.bs D' t = none) → Ac D' (segs.take i ++ segs.drop (i + 1)) (vals.take i ++ vals.drop (i + 1)) (b + 1) z := fun D' l1 hf l3 l4 l2 l5 => by
    refine ⟨?_, fun j hj => ?_, fun s h1 h2 h3 => ?_, fun vs hvs => h.small vs (mem_erase hvs), fun vs hvs => by have := h.cnt vs (mem_erase hvs); omega, fun vs hvs => h.tot vs (mem_erase hvs), l1, hf, l3, l4⟩
    · simp only [List.length_append, List.length_take, List.length_drop]; omega
    · have hj' : j < segs.length - 1 := by simp only [List.length_append, List.length_take, List.length_drop] at hj; omega
      rw [erase_get _ _ _ _ hi, erase_get _ _ _ _ (by omega)]
      by_cases hji : j < i
      · rw [if_pos hji, if_pos hji]
        unfold Vl.by'
        rw [l2 _ (fun e => by have := may_inj hm (by omega) hi e; omega)]
        exact h.by' j (by omega)
      · rw [if_neg hji, if_neg hji]
        unfold Vl.by'
        rw [l2 _ (fun e => by have := may_inj hm (by omega) hi e; omega)]
        exact h.by' (j + 1) (by omega)
    · refine l5 _ (h.no s h1 h2 fun x hx => ?_)
      have a1 := last_max hm hne x hx
      have a2 := h3 _ hlst
      omega
  by_cases hs : (Vl.bs D (vname (segs.getD i 0))).isSome = true
  · rw [if_pos hs]
    obtain ⟨D', e, l1, l2, l3, l4⟩ := Vl.remove hO h.live _ hs
    have hf := few_remove hO h.live _ h.few hs
    rw [e] at hf
    refine ⟨D', e, key D' l1 hf (by rw [l3]; exact h.sum) (l4.trans h.quota) (fun t ht => by rw [l2, if_neg ht]) fun t ht => ?_⟩
    rw [l2]; split
    · rfl
    · exact ht
  · rw [if_neg hs]
    exact ⟨D, rfl, key D h.live ⟨by have := h.few.1; omega, by have := h.few.2; omega, by have := h.few.3; omega⟩ h.sum h.quota (fun _ _ => rfl) fun _ ht => ht⟩
/-- nothing is cut off -/
theorem Ac.mend (h : Ac D segs vals b z) : Vl.mend D (last segs) = (D, 0) := by
  by_cases hne : segs = []
  · refine mend_none ?_
    subst hne
    show Vl.by' D (vname 0) = []
    rw [vname_bad (by decide)]
    unfold Vl.by'; rw [bs_zero h.live]; rfl
  · have hl : segs.length - 1 < segs.length := by have := List.length_pos_iff.2 hne; omega
    have e := h.by' (segs.length - 1) hl
    rw [show segs.getD (segs.length - 1) 0 = last segs from rfl] at e
    have hsm := h.small _ (getD_mem' [] (show segs.length - 1 < vals.length by rw [h.len]; exact hl))
    unfold Vl.mend
    by_cases hr : 1 ≤ last segs ∧ last segs ≤ 2147483647
    · rw [if_pos]
      unfold right
      rw [if_pos hr, e, Sg.walk_all hsm]
    · rw [if_pos]
      unfold right
      rw [if_neg hr]
      rw [vname_bad hr]
      unfold Vl.by'; rw [bs_zero h.live]; rfl
/-- at the beginning -/
theorem Ac.new (segs : List Int) : Ac (Dk.new 4194304) segs (List.replicate segs.length []) 0 0 := by
  obtain ⟨l1, l2⟩ := Vl.new 4194304
  have hmem : ∀ vs ∈ List.replicate segs.length ([] : List (List Nat)), vs = [] := fun vs h => (List.mem_replicate.1 h).2
  refine ⟨by simp, fun i hi => ?_, fun s _ _ _ => l2 _, fun vs h => ?_, fun vs h => ?_, fun vs h => ?_, l1, ⟨Nat.le_refl _, Nat.le_refl _, Nat.le_refl _⟩, Nat.le_refl _, rfl⟩
  · unfold Vl.by'
    rw [l2]
    rw [hmem _ (getD_mem' [] (by simpa using hi))]
    rfl
  · rw [hmem vs h]; intro y hy; cases hy
  · rw [hmem vs h]; simp
  · rw [hmem vs h]; simp [Sg.put, Sg.fr, Fr.all]
end
end Vl
end Go.Proofs.YtnoknmnbfkdccaaGreatDoor

/- The reference's log as it lies in memory; what may turn besides. -/
namespace Go.Proofs.YtnoknmnbfkdccaaGreatDoor
open Go.RowKit Go.Shelf

theorem cell_same {w w' : World} {b o : Nat} (h : w'.heap[b]? = w.heap[b]?) : w'.cell? ⟨b, o, none⟩ = w.cell? ⟨b, o, none⟩ := by
  unfold World.cell?; simp only [h]
theorem trow_same {α : Type} {s : Nat} {enc : α → List Value} {d : α} {w w' : World} {a : Option Addr} {n : Nat} {l : List α} (h : TRow s enc d w a n l) (hs : ∀ b o, a = some ⟨b, o, none⟩ → 0 < n → w'.heap[b]? = w.heap[b]?) : TRow s enc d w' a n l := by
  obtain ⟨h1, h2, h3⟩ := h
  refine ⟨h1, h2, ?_⟩
  rcases Nat.eq_zero_or_pos n with h0 | h0
  · exact .inl h0
  · rcases h3 with h3 | ⟨b, off, e, hc⟩
    · omega
    · exact .inr ⟨b, off, e, fun i hi j v hj => (cell_same (hs b off e h0)).trans (hc i hi j v hj)⟩
theorem row_same {k : IntKind} {w w' : World} {a : Option Addr} {n : Nat} {l : List Nat} (h : Row k w a n l) (hs : ∀ b o, a = some ⟨b, o, none⟩ → 0 < n → w'.heap[b]? = w.heap[b]?) : Row k w' a n l := by
  obtain ⟨h1, h2, h4, h3⟩ := h
  refine ⟨h1, h2, h4, ?_⟩
  rcases Nat.eq_zero_or_pos n with h0 | h0
  · exact .inl h0
  · rcases h3 with h3 | ⟨b, off, e, hc⟩
    · omega
    · exact .inr ⟨b, off, e, fun i hi => (cell_same (hs b off e h0)).trans (hc i hi)⟩

/-- where a row lies: below B, or in a block of its own type -/
def Ap (B : Nat) (E : TypeId) (w : World) (a : Option Addr) (n : Nat) : Prop := 0 < n → ∃ b o, a = some ⟨b, o, none⟩ ∧ b < w.heap.size ∧ (b < B ∨ ∃ cs, w.heap[b]? = some (.cells cs E (0, 0)))
theorem Ap.zero {B : Nat} {E : TypeId} {w : World} {a : Option Addr} : Ap B E w a 0 := fun h => by omega
theorem Ap.own {B B' : Nat} {E s n c : Nat} {w : World} {a : Option Addr} {xs : List Value} (h : w.ownsRow B' E s (.slice a n c) n xs) : Ap B E w a n := fun hn => by
  obtain ⟨g, rfl⟩ := town_blk h hn
  obtain ⟨cur, hc⟩ := own_blk h (g := g) rfl
  exact ⟨g, 0, rfl, heap_lt hc, .inr ⟨cur, hc⟩⟩
theorem Ap.keep {B : Nat} {E : TypeId} {w w' : World} {a : Option Addr} {n : Nat} (h : Ap B E w a n) (hb : Below w.heap.size w w') : Ap B E w' a n := fun hn => by
  obtain ⟨b, o, e, h1, h2⟩ := h hn
  refine ⟨b, o, e, Nat.lt_of_lt_of_le h1 hb.size, h2.imp id fun ⟨cs, hc⟩ => ⟨cs, (hb.block b h1).trans hc⟩⟩

/-- since w nothing has turned that lies below B, and no row of numbers (but P's), of values, of values' values -/
structure Wy (B : Nat) (P : Nat → Prop) (w w' : World) : Prop where
  below : Below B w w'
  blk : ∀ k cs T, B ≤ k → w.heap[k]? = some (.cells cs T (0, 0)) → (T = 3 ∧ ¬ P k ∨ T = 48 ∨ T = 39) → w'.heap[k]? = w.heap[k]?
theorem Wy.of_below {B : Nat} {P : Nat → Prop} {w w' : World} (hB : B ≤ w.heap.size) (h : Below w.heap.size w w') : Wy B P w w' :=
  ⟨h.mono hB, fun k _ _ _ hc _ => h.block k (heap_lt hc)⟩
theorem Wy.of_wk {B : Nat} {P : Nat → Prop} {w w' : World} (hB : B ≤ w.heap.size) (h : Wk B w w') : Wy B P w w' :=
  ⟨h.below hB, fun k cs T _ hc ht => (h.blk hc (by rcases ht with ⟨rfl, _⟩ | rfl | rfl <;> decide) (by rcases ht with ⟨rfl, _⟩ | rfl | rfl <;> decide) (by rcases ht with ⟨rfl, _⟩ | rfl | rfl <;> decide) (by rcases ht with ⟨rfl, _⟩ | rfl | rfl <;> decide)).trans hc.symm⟩
theorem Wy.of_wx {B m n c : Nat} {a : Option Addr} {C : Array Value} {r : Nat × Nat} {w w' : World} {l : List Int} {B' : Nat} (hB : B ≤ w.heap.size) (h : Wx B m (.slice a n c) w w') (hm : w.heap[m]? = some (.cells C 67 r)) (hmB : B ≤ m) (ho : w.ownsRow B' 3 1 (.slice a n c) n (tcells ze l)) (hoB : B ≤ B') : Wy B (fun k => (Value.slice a n c).ownBlock = some k) w w' :=
  ⟨OnlyIn.below h hB (fun k hk => by
    rcases hk with hk | rfl | hk
    · exact hk.1
    · exact hmB
    · rcases ho.2 with ⟨e, _⟩ | ⟨g, cap, cur, e, hg, _⟩
      · rw [e] at hk; cases hk
      · rw [e] at hk; simp [Value.ownBlock] at hk; omega), fun k cs T hk hc ht => h.block k (heap_lt hc) fun hx => by
    rcases hx with hx | rfl | hx
    · exact dt_not hc (by rcases ht with ⟨rfl, _⟩ | rfl | rfl <;> decide) (by rcases ht with ⟨rfl, _⟩ | rfl | rfl <;> decide) (by rcases ht with ⟨rfl, _⟩ | rfl | rfl <;> decide) (by rcases ht with ⟨rfl, _⟩ | rfl | rfl <;> decide) hx.2
    · rw [hc] at hm
      simp only [Option.some.injEq, Obj.cells.injEq] at hm
      obtain ⟨_, rfl, _⟩ := hm
      rcases ht with ⟨e, _⟩ | e | e <;> exact absurd e (by decide)
    · rcases ht with ⟨_, ht⟩ | ht
      · exact ht hx
      · obtain ⟨cur, hc'⟩ := own_blk ho hx
        rw [hc] at hc'
        simp only [Option.some.injEq, Obj.cells.injEq] at hc'
        obtain ⟨_, rfl, _⟩ := hc'
        rcases ht with e | e <;> exact absurd e (by decide)⟩
theorem Ap.same {B : Nat} {E : TypeId} {P : Nat → Prop} {w w' : World} {a : Option Addr} {n : Nat} (h : Ap B E w a n) (hw : Wy B P w w') (hE : E = 3 ∨ E = 48 ∨ E = 39) (hP : E = 3 → ∀ b o, a = some ⟨b, o, none⟩ → 0 < n → ¬ P b) :
    ∀ b o, a = some ⟨b, o, none⟩ → 0 < n → w'.heap[b]? = w.heap[b]? := fun b o e hn => by
  obtain ⟨b', o', e', h1, h2⟩ := h hn
  rw [e] at e'
  simp only [Option.some.injEq, Addr.mk.injEq, and_true] at e'
  obtain ⟨rfl, rfl⟩ := e'
  rcases Nat.lt_or_ge b B with hb | hb
  · exact hw.below.block b hb
  · rcases h2 with h2 | ⟨cs, hc⟩
    · omega
    · refine hw.blk b cs E hb hc ?_
      rcases hE with hE | hE | hE
      · exact .inl ⟨hE, hP hE b o e hn⟩
      · exact .inr (.inl hE)
      · exact .inr (.inr hE)
theorem Ap.wy {B : Nat} {E : TypeId} {P : Nat → Prop} {w w' : World} {a : Option Addr} {n : Nat} (h : Ap B E w a n) (hw : Wy B P w w') (hE : E = 3 ∨ E = 48 ∨ E = 39) (hP : E = 3 → ∀ b o, a = some ⟨b, o, none⟩ → 0 < n → ¬ P b) : Ap B E w' a n := fun hn => by
  obtain ⟨b, o, e, h1, h2⟩ := h hn
  have hs := h.same hw hE hP b o e hn
  exact ⟨b, o, e, Nat.lt_of_lt_of_le h1 hw.below.size, h2.imp id fun ⟨cs, hc⟩ => ⟨cs, hs.trans hc⟩⟩

/-- a segment's values: headers in a row of their own type, the bytes below B -/
structure SV (B : Nat) (w : World) (r : VH) (vs : List (List Nat)) : Prop where
  ex : ∃ hs, InV w r.a r.n r.c hs vs ∧ ∀ h ∈ hs, ∀ b o, h.a = some ⟨b, o, none⟩ → 0 < h.n → b < B
  ap : Ap B 39 w r.a r.n
theorem SV.wy {B : Nat} {P : Nat → Prop} {w w' : World} {r : VH} {vs : List (List Nat)} (h : SV B w r vs) (hw : Wy B P w w') : SV B w' r vs := by
  obtain ⟨⟨hs, hi, hb⟩, ha⟩ := h
  have hE : (39 : TypeId) = 3 ∨ (39 : TypeId) = 48 ∨ (39 : TypeId) = 39 := .inr (.inr rfl)
  have hP : (39 : TypeId) = 3 → ∀ b o, r.a = some ⟨b, o, none⟩ → 0 < r.n → ¬ P b := fun e => absurd e (by decide)
  refine ⟨⟨hs, ⟨trow_same hi.1 (ha.same hw hE hP), ⟨hi.2.1.1, fun i hil => ?_⟩, hi.2.2⟩, hb⟩, ha.wy hw hE hP⟩
  obtain ⟨h1, h2⟩ := hi.2.1.2 i hil
  exact ⟨row_same h1 fun b o e hn => hw.below.block b (hb _ (Vl.getD_mem' vhz hil) b o e hn), h2⟩
theorem SV.nil {B : Nat} {w : World} : SV B w vhz [] := ⟨⟨[], ⟨⟨rfl, by decide, .inl rfl⟩, ⟨rfl, fun i hi => by simp at hi⟩, fun _ => ⟨rfl, rfl⟩, by decide⟩, fun h hh => by cases hh⟩, Ap.zero⟩

/-- the reference's log: its segments at sa, its values at va -/
structure RL (B : Nat) (w : World) (sa : Option Addr) (sn sc : Nat) (va : Option Addr) (vc : Nat) (segs : List Int) (vals : List (List (List Nat))) : Prop where
  sr : ZRow w sa sn segs
  sz : (sa = none → sn = 0 ∧ sc = 0) ∧ sn ≤ sc
  sp : Ap B 3 w sa sn
  vr : ∃ rows, TRow 1 vhe vhz w va sn rows ∧ vals.length = sn ∧ ∀ i, i < sn → SV B w (rows.getD i vhz) (vals.getD i [])
  vz : (va = none → sn = 0 ∧ vc = 0) ∧ sn ≤ vc
  vp : Ap B 48 w va sn
  len : vals.length = segs.length
section
variable {B : Nat} {w w' : World} {sa va : Option Addr} {sn sc vc : Nat} {segs : List Int} {vals : List (List (List Nat))}
theorem RL.wy {P : Nat → Prop} (h : RL B w sa sn sc va vc segs vals) (hw : Wy B P w w') (hP : ∀ b o, sa = some ⟨b, o, none⟩ → 0 < sn → ¬ P b) : RL B w' sa sn sc va vc segs vals := by
  obtain ⟨rows, h1, h2, h3⟩ := h.vr
  have hE : (48 : TypeId) = 3 ∨ (48 : TypeId) = 48 ∨ (48 : TypeId) = 39 := .inr (.inl rfl)
  have hP2 : (48 : TypeId) = 3 → ∀ b o, va = some ⟨b, o, none⟩ → 0 < sn → ¬ P b := fun e => absurd e (by decide)
  exact ⟨trow_same h.sr (h.sp.same hw (.inl rfl) fun _ => hP), h.sz, h.sp.wy hw (.inl rfl) fun _ => hP, ⟨rows, trow_same h1 (h.vp.same hw hE hP2), h2, fun i hi => (h3 i hi).wy hw⟩, h.vz, h.vp.wy hw hE hP2, h.len⟩
theorem RL.keep (h : RL B w sa sn sc va vc segs vals) (hB : B ≤ w.heap.size) (hb : Below w.heap.size w w') : RL B w' sa sn sc va vc segs vals :=
  h.wy (P := fun _ => False) (Wy.of_below hB hb) fun _ _ _ _ => id
theorem RL.sn' (h : RL B w sa sn sc va vc segs vals) : segs.length = sn ∧ vals.length = sn := ⟨h.sr.1, h.len.trans h.sr.1⟩
end
end Go.Proofs.YtnoknmnbfkdccaaGreatDoor
