/- The edits that make a roster (plain mathematics). -/
import Derived.Test.YtfogodbbgbnhkaaGreatDoorRoMath
namespace Go.Proofs.YtfogodbbgbnhkaaGreatDoor
namespace Ro

def eSeg (g : Int) : Ed.E := ⟨1, g, 0, 0, 0, 0, 0, Lv.zero⟩
def eMove (m : Int × Int) : Ed.E := ⟨2, m.2, m.1, 0, 0, 0, 0, Lv.zero⟩
def eTab (t : Lv.T) : Ed.E := ⟨4, 0, 0, 0, 0, 0, 0, t⟩
def eMark (m : Int) : Ed.E := ⟨9, 0, m, 0, 0, 0, 0, Lv.zero⟩
def eStill (k : Int × Int × Int) : Ed.E := ⟨6, k.1, k.2.1, k.2.2, 0, 0, 0, Lv.zero⟩
def eBase (r : R) : Ed.E := ⟨8, r.log, r.index, r.term, r.ht, r.hv, r.hc, Lv.zero⟩
def allSegs (r : R) : List Int := sorted (r.segs ++ r.moves.map (·.1))
def based (r : R) : Bool := decide (1 < r.log) || (decide (0 < r.index) || !(decide (r.ht = 0) && (decide (r.hv = 0) && decide (r.hc = 0))))
def makes (r : R) : List Ed.E :=
  (allSegs r).map eSeg ++ (r.moves.map eMove ++ (r.tabs.map eTab ++ ((if 0 < r.mark then [eMark r.mark] else []) ++ (r.stills.map eStill ++ (if based r = true then [eBase r] else [])))))
def edits (r : R) : List Ed.E := if check r = true then makes r else []

theorem sorted_perm (l : List Int) : (sorted l).Perm l := List.mergeSort_perm l _
theorem sorted_pw (l : List Int) : (sorted l).Pairwise (· ≤ ·) := by
  have h := List.pairwise_mergeSort (le := fun x y : Int => decide (x ≤ y)) (fun a b c h1 h2 => by simp only [decide_eq_true_eq] at *; omega) (fun a b => by simp only [Bool.or_eq_true, decide_eq_true_eq]; omega) l
  exact h.imp (fun h => by simpa using h)
theorem sorted_unique : ∀ {a b : List Int}, a.Perm b → a.Pairwise (· < ·) → b.Pairwise (· < ·) → a = b := by
  intro a b h ha hb
  exact List.Perm.eq_of_pairwise (fun x y _ _ h1 h2 => by omega) (lt_le ha) (lt_le hb) h

structure May (r : R) : Prop where
  segs : (∀ x ∈ r.segs, 0 < x ∧ x ≤ 2147483647) ∧ r.segs.Pairwise (· < ·)
  sl : r.segs.length ≤ 64
  moves : (∀ x ∈ r.moves.map (·.1), 0 < x ∧ x ≤ 2147483647) ∧ (r.moves.map (·.1)).Pairwise (· < ·)
  ml : r.moves.length ≤ 64
  apart : ∀ x ∈ r.moves.map (·.1), x < lastOf r.segs ∧ x ∉ r.segs
  nums : ∀ m ∈ r.moves, 0 < m.2 ∧ m.2 ≤ 2147483647
  tabs : Lv.May r.tabs
  stills : (∀ x ∈ r.stills.map (·.2.1), 0 < x ∧ x ≤ 2147483647) ∧ (r.stills.map (·.2.1)).Pairwise (· < ·)
  kl : r.stills.length ≤ 4
  snums : ∀ k ∈ r.stills, (0 < k.1 ∧ k.1 ≤ 2147483647) ∧ k.2.1 ≤ r.mark ∧ 1 ≤ k.2.2 ∧ k.2.2 ≤ 2147483647
  rest : restMay r = true
theorem May.disj {r : R} (h : May r) : (allSegs r).Pairwise (· < ·) ∧ ∀ x ∈ allSegs r, 0 < x ∧ x ≤ 2147483647 := by
  have hp := sorted_perm (r.segs ++ r.moves.map (·.1))
  constructor
  · have hnd : (r.segs ++ r.moves.map (·.1)).Nodup := by
      refine List.nodup_append.mpr ⟨h.segs.2.imp (fun h e => by omega), h.moves.2.imp (fun h e => by omega), ?_⟩
      intro a ha b hb e
      subst e
      exact (h.apart a hb).2 ha
    have hnd2 : (allSegs r).Nodup := hp.nodup_iff.mpr hnd
    have hle := sorted_pw (r.segs ++ r.moves.map (·.1))
    exact hle.imp₂ (fun a b h1 h2 => by omega) hnd2
  · intro x hx
    rcases List.mem_append.mp (hp.mem_iff.mp hx) with h1 | h1
    · exact h.segs.1 x h1
    · exact h.moves.1 x h1
theorem May.left {r : R} (h : May r) : (allSegs r).filter (fun g => !(r.moves.map (·.1)).contains g) = r.segs := by
  have hp := (sorted_perm (r.segs ++ r.moves.map (·.1))).filter (fun g => !(r.moves.map (·.1)).contains g)
  rw [List.filter_append] at hp
  have h1 : r.segs.filter (fun g => !(r.moves.map (·.1)).contains g) = r.segs := by
    rw [List.filter_eq_self]
    intro x hx
    simp only [Bool.not_eq_true', List.contains_eq_mem, decide_eq_false_iff_not]
    exact fun hm => (h.apart x hm).2 hx
  have h2 : (r.moves.map (·.1)).filter (fun g => !(r.moves.map (·.1)).contains g) = [] := by
    rw [List.filter_eq_nil_iff]
    intro x hx
    simp [List.contains_eq_mem, hx]
  rw [h1, h2, List.append_nil] at hp
  exact sorted_unique hp (h.disj.1.sublist List.filter_sublist) h.segs.2
theorem check_first : check first = true := by
  have h : Lv.may [] = true := by decide
  simp [check, first, segsMay, rise, riseGo, movesMay, stillsMay, restMay, placeMay, differ, sorted, cnt, cz, h]
end Ro
end Go.Proofs.YtfogodbbgbnhkaaGreatDoor
