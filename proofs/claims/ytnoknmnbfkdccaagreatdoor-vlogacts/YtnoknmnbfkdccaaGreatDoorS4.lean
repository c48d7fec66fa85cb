/- Rows of points; what the reference's Same of points does. -/
import Derived.Test.YtnoknmnbfkdccaaGreatDoorBQ
import Derived.BigQuiet
import Derived.Deep.QuietTactic
import Derived.Deep.RegionLawGrows
namespace Go.Proofs.YtnoknmnbfkdccaaGreatDoor
open Go.RowKit

/-- a point's cells at a place -/
def PAt (w : World) (b o : Nat) (p : Po.P) : Prop :=
  w.cell? ⟨b, o, none⟩ = some (.int .i64 p.1) ∧ w.cell? ⟨b, o + 1, none⟩ = some (.int .i64 p.2.1) ∧ w.cell? ⟨b, o + 2, none⟩ = some (.int .i64 p.2.2.1) ∧ w.cell? ⟨b, o + 3, none⟩ = some (.int .u32 (p.2.2.2 : Nat)) ∧ Po.Fits p
def PRow (w : World) (a : Option Addr) (len : Nat) (ps : List Po.P) : Prop :=
  ps.length = len ∧ len ≤ 1000000000000000 ∧ (len = 0 ∨ ∃ b off, a = some ⟨b, off, none⟩ ∧ ∀ i, i < len → PAt w b (off + i * 4) (ps.getD i Po.zero))
theorem PAt.below {w w' : World} {B b o : Nat} {p : Po.P} (h : PAt w b o p) (hb : Below B w w') (hB : w.heap.size ≤ B) : PAt w' b o p := by
  obtain ⟨h0, h1, h2, h3, h4⟩ := h
  exact ⟨(hb.cell (p := ⟨b, o, none⟩) (Nat.lt_of_lt_of_le (cell_lt h0) hB)).trans h0, (hb.cell (p := ⟨b, o + 1, none⟩) (Nat.lt_of_lt_of_le (cell_lt h1) hB)).trans h1, (hb.cell (p := ⟨b, o + 2, none⟩) (Nat.lt_of_lt_of_le (cell_lt h2) hB)).trans h2, (hb.cell (p := ⟨b, o + 3, none⟩) (Nat.lt_of_lt_of_le (cell_lt h3) hB)).trans h3, h4⟩
theorem PRow.below {w w' : World} {B : Nat} {a : Option Addr} {l : Nat} {ps : List Po.P} (h : PRow w a l ps) (hb : Below B w w') (hB : w.heap.size ≤ B) : PRow w' a l ps := by
  obtain ⟨h1, h2, h3⟩ := h
  refine ⟨h1, h2, ?_⟩
  rcases h3 with h0 | ⟨b, off, e, hc⟩
  · exact .inl h0
  · exact .inr ⟨b, off, e, fun i hi => (hc i hi).below hb hB⟩
theorem PRow.at {w : World} {a : Option Addr} {n : Nat} {ps : List Po.P} (h : PRow w a n ps) (hn : 0 < n) : ∃ b off, a = some ⟨b, off, none⟩ ∧ ∀ i, i < n → PAt w b (off + i * 4) (ps.getD i Po.zero) := by
  obtain ⟨_, _, h0 | h0⟩ := h
  · omega
  · exact h0
def pcells (ps : List Po.P) : List Value := ps.flatMap fun p => [.int .i64 p.1, .int .i64 p.2.1, .int .i64 p.2.2.1, .int .u32 (p.2.2.2 : Nat)]
theorem pcells_length : ∀ (a : List Po.P), (pcells a).length = a.length * 4 := by
  intro a
  induction a with
  | nil => rfl
  | cons p a ih =>
    have : pcells (p :: a) = [.int .i64 p.1, .int .i64 p.2.1, .int .i64 p.2.2.1, .int .u32 (p.2.2.2 : Nat)] ++ pcells a := rfl
    rw [this, List.length_append, ih]; simp; omega
theorem pcells_get : ∀ (a : List Po.P) (i : Nat), i < a.length → (pcells a)[i * 4]? = some (.int .i64 (a.getD i Po.zero).1) ∧ (pcells a)[i * 4 + 1]? = some (.int .i64 (a.getD i Po.zero).2.1) ∧ (pcells a)[i * 4 + 2]? = some (.int .i64 (a.getD i Po.zero).2.2.1) ∧ (pcells a)[i * 4 + 3]? = some (.int .u32 ((a.getD i Po.zero).2.2.2 : Nat)) := by
  intro a
  induction a with
  | nil => intro i hi; simp at hi
  | cons p a ih =>
    intro i hi
    have e : pcells (p :: a) = [.int .i64 p.1, .int .i64 p.2.1, .int .i64 p.2.2.1, .int .u32 (p.2.2.2 : Nat)] ++ pcells a := rfl
    cases i with
    | zero => rw [e]; exact ⟨rfl, rfl, rfl, rfl⟩
    | succ i =>
      have := ih i (by simpa using hi)
      rw [e, List.getD_cons_succ]
      refine ⟨?_, ?_, ?_, ?_⟩
      · rw [List.getElem?_append_right (by simp; omega)]; simpa [Nat.succ_mul] using this.1
      · rw [List.getElem?_append_right (by simp; omega), show (i + 1) * 4 + 1 - [Value.int .i64 p.1, .int .i64 p.2.1, .int .i64 p.2.2.1, .int .u32 (p.2.2.2 : Nat)].length = i * 4 + 1 by simp; omega]; exact this.2.1
      · rw [List.getElem?_append_right (by simp; omega), show (i + 1) * 4 + 2 - [Value.int .i64 p.1, .int .i64 p.2.1, .int .i64 p.2.2.1, .int .u32 (p.2.2.2 : Nat)].length = i * 4 + 2 by simp; omega]; exact this.2.2.1
      · rw [List.getElem?_append_right (by simp; omega), show (i + 1) * 4 + 3 - [Value.int .i64 p.1, .int .i64 p.2.1, .int .i64 p.2.2.1, .int .u32 (p.2.2.2 : Nat)].length = i * 4 + 3 by simp; omega]; exact this.2.2.2
/-- an own row's cells -/
theorem own_cell {w : World} {B g n c s : Nat} {e : TypeId} {xs : List Value} (h : w.ownsRow B e s (.slice (some ⟨g, 0, none⟩) n c) n xs) (j : Nat) (u : Value) (hj : xs[j]? = some u) : w.cell? ⟨g, j, none⟩ = some u := by
  rcases h.2 with ⟨e, _⟩ | ⟨g', cap, cur, e, _, hh, _, _, _, htk⟩
  · cases e
  · simp only [Value.slice.injEq, Option.some.injEq, Addr.mk.injEq] at e
    obtain ⟨⟨rfl, _, _⟩, _, rfl⟩ := e
    have hlt : j < xs.length := by
      rcases Nat.lt_or_ge j xs.length with h | h
      · exact h
      · rw [List.getElem?_eq_none h] at hj; cases hj
    have hl := h.1
    simp only [World.cell?, hh]
    show (if (none : Option _).isSome then none else cur[j]?) = _
    rw [if_neg (by simp), ← Array.getElem?_toList]
    rw [← htk, List.getElem?_take, if_pos (by omega)] at hj
    exact hj
theorem prow_of_owns {w : World} {B n c : Nat} {a : Option Addr} {ps : List Po.P} (h : w.ownsRow B 42 4 (.slice a n c) n (pcells ps)) (hf : ∀ p ∈ ps, Po.Fits p) (hn : n ≤ 1000000000) : PRow w a n ps ∧ (a = none → n = 0 ∧ c = 0) ∧ n ≤ c ∧ Shape a n c := by
  have hl := h.1
  rw [pcells_length] at hl
  have h0 := h
  rcases h.2 with ⟨e, rfl⟩ | ⟨g, cap, cur, e, _, _, hnc, _⟩
  · simp only [Value.slice.injEq] at e
    obtain ⟨rfl, _, rfl⟩ := e
    exact ⟨⟨by omega, by omega, .inl rfl⟩, fun _ => ⟨rfl, rfl⟩, by omega, .inl ⟨rfl, rfl⟩⟩
  · simp only [Value.slice.injEq] at e
    obtain ⟨rfl, _, rfl⟩ := e
    refine ⟨⟨by omega, by omega, .inr ⟨g, 0, rfl, fun i hi => ?_⟩⟩, (fun h => by cases h), hnc, .inr ⟨g, 0, rfl, hnc⟩⟩
    obtain ⟨p0, p1, p2, p3⟩ := pcells_get ps i (by omega)
    rw [Nat.zero_add]
    refine ⟨own_cell h0 _ _ p0, own_cell h0 _ _ p1, own_cell h0 _ _ p2, own_cell h0 _ _ p3, ?_⟩
    have : ps.getD i Po.zero = ps[i]'(by omega) := by rw [List.getD_eq_getElem?_getD, List.getElem?_eq_getElem (by omega)]; rfl
    rw [this]; exact hf _ (List.getElem_mem _)
set_option maxRecDepth 100000 in
set_option maxHeartbeats 1000000 in
theorem psame_any (a1 : Option Addr) (l1 c1 : Nat) (ps : List Po.P) (a2 : Option Addr) (l2 c2 : Nat) (qs : List Po.P) (w : World) (hr1 : PRow w a1 l1 ps) (hr2 : PRow w a2 l2 qs) (heq : ps = qs) :
    Calls Tryz.prog 64 #[.slice a1 l1 c1, .slice a2 l2 c2] w fun e w' => e = .returned (.bool true) ∧ ∃ n, w' = w.drewN n := by
  subst heq
  have hl1 : Hid (ps.length = l1) := hr1.1
  obtain rfl : l1 = l2 := hr1.1.symm.trans hr2.1
  have hb := hr1.2.1
  go_enter Tryz.func64, Tryz.ntmps64
  go_wp2
  go_loopw [5] (fun i wr => ∃ k : Nat, k ≤ l1 ∧ i = .int .i64 k ∧ ∃ n, wr = w.drewN n) (fun i _ => l1 - (intOf i).toNat)
  case atStart => exact ⟨0, by omega, rfl, 0, rfl⟩
  case round =>
    obtain ⟨k, hk, rfl, n, rfl⟩ := hrel
    by_cases hlt : k < l1
    · obtain ⟨b, off, rfl, hc⟩ := hr1.at (by omega)
      obtain ⟨b', off', rfl, hc'⟩ := hr2.at (by omega)
      obtain ⟨p0, p1, p2, p3, pf⟩ := hc k hlt
      obtain ⟨q0, q1, q2, q3, _⟩ := hc' k hlt
      clear hc hc' hr1 hr2
      generalize ps.getD k Po.zero = f at *
      obtain ⟨s, y, l, m⟩ := f
      obtain ⟨f1, f2, f3, f4⟩ := pf
      simp only at p0 p1 p2 p3 q0 q1 q2 q3 f1 f2 f3 f4
      go_wp2
      go_quiet (fail)
      go_wp2
      go_roundw
      case rel => exact ⟨k + 1, by omega, by go_num, _, rfl⟩
      case measure => simp [intOf]; omega
    · go_wp2
      go_ret
      exact ⟨rfl, n, rfl⟩
end Go.Proofs.YtnoknmnbfkdccaaGreatDoor
