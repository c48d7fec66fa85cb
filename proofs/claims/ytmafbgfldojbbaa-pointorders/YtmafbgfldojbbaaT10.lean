/- What the program's Order of points does. -/
import Derived.Test.YtmafbgfldojbbaaT9
import Derived.Test.YtmafbgfldojbbaaS7
namespace Go.Proofs.Ytmafbgfldojbbaa
open Go.RowKit

set_option maxRecDepth 100000 in
set_option maxHeartbeats 400000 in
theorem insort_none (v cv : Value) (w : World) : Calls Try.prog 41 #[v, .int .i64 0, .int .i64 0, cv] w fun e w' => e = .returned (.tuple #[]) ∧ w' = w := by
  go_enter Try.func41, Try.ntmps41
  go_wp2
  go_loop [8] (fun u => u = .int .i64 1) (fun _ => 0)
  case atStart => rfl
  case round =>
    subst hrel
    go_wp2
    first | go_end0 | refine bodyPost_ret (results_none rfl _ _ _) rfl ?_
    exact ⟨rfl, rfl⟩

set_option maxRecDepth 100000 in
set_option maxHeartbeats 400000 in
theorem stable_none (v cv : Value) (w : World) : Calls Try.prog 37 #[v, .int .i64 0, cv] w fun e w' => e = .returned (.tuple #[]) ∧ w' = w := by
  go_enter Try.func37, Try.ntmps37
  go_wp2
  go_loop [7, 8] (fun u v => u = .int .i64 0 ∧ v = .int .i64 20) (fun _ _ => 0)
  case atStart => exact ⟨rfl, rfl⟩
  case round =>
    obtain ⟨rfl, rfl⟩ := hrel
    go_wp2_with (go_at_call 41; go_must (refine (insort_none _ _ _).mono ?_; rintro e w' ⟨rfl, hw⟩; obtain rfl : w = w' := hw.symm))
    go_loop [6] (fun u => u = .int .i64 20) (fun _ => 0)
    case atStart => rfl
    case round =>
      subst hrel
      go_wp2
      first | go_end0 | refine bodyPost_ret (results_none rfl _ _ _) rfl ?_
      exact ⟨rfl, rfl⟩

theorem blk_of_owns {w : World} {B n g c : Nat} {ps : List Po.P} (h : w.ownsRow B 24 4 (.slice (some ⟨g, 0, none⟩) n c) n (pcells ps)) (hf : ∀ p ∈ ps, Po.Fits p) : PBlk w g n ps := by
  have hl := h.1
  rw [pcells_length] at hl
  rcases h.2 with ⟨e, h0⟩ | ⟨g', cap, cur, e, _, hg, _, _, _, ht⟩
  · cases e
  · simp only [Value.slice.injEq, Option.some.injEq, Addr.mk.injEq] at e
    obtain ⟨⟨rfl, _, _⟩, _, rfl⟩ := e
    exact ⟨cur, hg, ht, by omega, hf⟩
theorem prow_of_blk {w : World} {g n : Nat} {ps : List Po.P} (h : PBlk w g n ps) (hn : n ≤ 1000000000000) : PRow w (some ⟨g, 0, none⟩) n ps := by
  refine ⟨h.len, by omega, .inr ⟨g, 0, rfl, fun i hi => ?_⟩⟩
  have hc := h.cell i hi
  rw [Nat.zero_add]
  refine ⟨hc.1.1, hc.1.2.1, hc.1.2.2.1, hc.1.2.2.2, h.fits _ ?_⟩
  rw [List.getD_eq_getElem?_getD, List.getElem?_eq_getElem (by rw [h.len]; exact hi)]
  exact List.getElem_mem _

set_option maxRecDepth 100000 in
set_option maxHeartbeats 400000 in
theorem sortstable_any (g n c B : Nat) (l : List Po.P) (w : World) (hn : n ≤ 1000000) (h : PBlk w g n l) :
    Calls Try.prog 30 #[.slice (some ⟨g, 0, none⟩) n c, cmpv] w fun e w' => e = .returned (.tuple #[]) ∧ PBlk w' g n (Po.ord l) ∧ (Below B w w' ∨ ¬ B ≤ g ∨ ¬ B ≤ w.heap.size) := by
  have hst := stable_any g n c l w hn h
  go_enter Try.func30, Try.ntmps30
  go_wp2_with (go_at_call 37; go_must (refine hst.mono ?_; rintro e w2 ⟨X, rfl, hblk, hst2, hso2, htu⟩))
  first | go_end0 | refine bodyPost_ret (results_none rfl _ _ _) rfl ?_
  refine ⟨rfl, by rw [← Po.ord_unique hst2 hso2]; exact hblk, ?_⟩
  by_cases h1 : B ≤ g
  · by_cases h2 : B ≤ w.heap.size
    · exact .inl (below_turned (Below.refl _ _) h2 htu h1)
    · exact .inr (.inr h2)
  · exact .inr (.inl h1)

set_option maxRecDepth 100000 in
set_option maxHeartbeats 400000 in
theorem sortstable_none (a : Option Addr) (c : Nat) (w : World) :
    Calls Try.prog 30 #[.slice a 0 c, cmpv] w fun e w' => e = .returned (.tuple #[]) ∧ w' = w := by
  go_enter Try.func30, Try.ntmps30
  go_wp2_with (go_at_call 37; go_must (refine (stable_none _ _ _).mono ?_; rintro e w' ⟨rfl, hw⟩; obtain rfl : w = w' := hw.symm))
  first | go_end0 | refine bodyPost_ret (results_none rfl _ _ _) rfl ?_
  exact ⟨rfl, rfl⟩

theorem pcells_at {w : World} {x : Addr} {n : Nat} {ps : List Po.P} (h : PRow w (some x) n ps) (j : Nat) (u : Value) (hj : (pcells ps)[j]? = some u) : w.cell? (x.add j) = some u := by
  have hlt : j < ps.length * 4 := by rw [← pcells_length]; exact (List.getElem?_eq_some_iff.mp hj).1
  have hl := h.1
  obtain ⟨b, off, e, hc⟩ := h.at (by omega)
  simp only [Option.some.injEq] at e
  subst e
  rw [add_at]
  obtain ⟨h0, h1, h2, h3, _⟩ := hc (j / 4) (by omega)
  obtain ⟨g0, g1, g2, g3⟩ := pcells_get ps (j / 4) (by omega)
  have hr : j % 4 = 0 ∨ j % 4 = 1 ∨ j % 4 = 2 ∨ j % 4 = 3 := by omega
  rcases hr with hr | hr | hr | hr
  · rw [show j = j / 4 * 4 by omega] at hj ⊢; rw [g0] at hj; cases hj; exact h0
  · rw [show j = j / 4 * 4 + 1 by omega] at hj ⊢; rw [g1] at hj; cases hj; rw [← Nat.add_assoc]; exact h1
  · rw [show j = j / 4 * 4 + 2 by omega] at hj ⊢; rw [g2] at hj; cases hj; rw [← Nat.add_assoc]; exact h2
  · rw [show j = j / 4 * 4 + 3 by omega] at hj ⊢; rw [g3] at hj; cases hj; rw [← Nat.add_assoc]; exact h3

set_option maxRecDepth 100000 in
set_option maxHeartbeats 400000 in
theorem ptclone_any (x : Addr) (len cap : Nat) (ps : List Po.P) (w : World) (hlen : len ≤ 1000000) (hr : PRow w (some x) len ps) :
    Calls Try.prog 29 #[.slice (some x) len cap] w fun e w' => ∃ g c, e = .returned (.slice (some ⟨g, 0, none⟩) len c) ∧ w'.ownsRow w.heap.size 24 4 (.slice (some ⟨g, 0, none⟩) len c) len (pcells ps) ∧ w.heap.size ≤ g ∧ Below w.heap.size w w' := by
  have hl : Hid (ps.length = len) := hr.1
  have hr2 := hr.below (below_alloc w (.cells #[] 24)) (Nat.le_refl _)
  have hnews : ∀ j u, (pcells ps)[j]? = some u → (w.alloc (.cells #[] 24)).cell? (x.add j) = some u := fun j u hj => pcells_at hr2 j u hj
  go_enter Try.func29, Try.ntmps29
  go_wp2_with fail
  rw [Lib.run_eql_slice_nil _ 40 24 (some x) len cap 0 0 Try.underlying40]
  go_wp2_with (at_builtin; go_must (refine append_pts (w0 := w) (B := w.heap.size) rfl (.tmp 5) (.tmp 6) rfl ⟨w.heap.size, 0, none⟩ 0 0 [] rfl (made_b w 24 4 w.heap.size rfl (Nat.le_refl _)) x len cap ps rfl hl.out hnews (by omega) (below_alloc _ _) (by simp) ?_; intro g2 c2 w2 hc2 hown2 hbel2 hsz2; rw [Nat.zero_add, List.nil_append] at hown2; rw [Nat.zero_add]))
  go_ret
  exact ⟨g2, c2, rfl, hown2, (hown2.lt g2 rfl).1, hbel2⟩

set_option maxRecDepth 100000 in
set_option maxHeartbeats 400000 in
theorem ptclone_nil (w : World) : Calls Try.prog 29 #[.slice none 0 0] w fun e w' => e = .returned (.slice none 0 0) ∧ w' = w := by
  go_enter Try.func29, Try.ntmps29
  go_wp2_with fail
  rw [Lib.run_eql_slice_nil _ 40 24 none 0 0 0 0 Try.underlying40]
  go_wp2
  go_ret
  exact ⟨rfl, rfl⟩

theorem prow_fits {w : World} {a : Option Addr} {n : Nat} {ps : List Po.P} (h : PRow w a n ps) : ∀ p ∈ ps, Po.Fits p := by
  intro p hp
  obtain ⟨i, hi, rfl⟩ := List.getElem_of_mem hp
  have hl := h.1
  obtain ⟨b, off, _, hc⟩ := h.at (by omega)
  have := (hc i (by omega)).2.2.2.2
  rwa [List.getD_eq_getElem?_getD, List.getElem?_eq_getElem hi] at this

/-- what Order tells -/
def POrdC : Prop := ∀ (a : Option Addr) (len cap : Nat) (ps : List Po.P) (w : World), len ≤ 1000000 → PRow w a len ps → (a = none → len = 0 ∧ cap = 0) → Shape a len cap →
  Calls Try.prog 18 #[.slice a len cap] w fun e w' => ∃ a' c', e = .returned (.slice a' len c') ∧ PRow w' a' len (Po.ord ps) ∧ Below w.heap.size w w'

set_option maxRecDepth 100000 in
set_option maxHeartbeats 400000 in
theorem pordC : POrdC := by
  intro a len cap ps w hlen hr hnil hshape
  have hl : Hid (ps.length = len) := hr.1
  cases a with
  | none =>
    obtain ⟨rfl, rfl⟩ := hnil rfl
    obtain rfl : ps = [] := List.length_eq_zero_iff.mp hl.out
    go_enter Try.func18, Try.ntmps18
    go_wp2_with (first
      | (go_at_call 29; go_must (refine (ptclone_nil _).mono ?_; rintro e w' ⟨rfl, hw⟩; obtain rfl : w = w' := hw.symm))
      | (go_at_call 30; go_must (refine (sortstable_none _ _ _).mono ?_; rintro e w' ⟨rfl, hw⟩; obtain rfl : w = w' := hw.symm)))
    go_ret
    exact ⟨none, 0, rfl, hr, Below.refl _ _⟩
  | some x =>
    have hfit := prow_fits hr
    rcases Nat.eq_zero_or_pos len with rfl | hpos
    · obtain rfl : ps = [] := List.length_eq_zero_iff.mp hl.out
      go_enter Try.func18, Try.ntmps18
      go_wp2_with (first
        | (go_at_call 29; go_must (refine (ptclone_any x 0 cap [] _ (by omega) hr).mono ?_; rintro e w2 ⟨g, c, rfl, hown, hgw, hbel⟩))
        | (go_at_call 30; go_must (refine (sortstable_none _ _ _).mono ?_; rintro e w' ⟨rfl, hw⟩; obtain rfl : w2 = w' := hw.symm)))
      go_ret
      exact ⟨some ⟨g, 0, none⟩, c, rfl, ⟨rfl, by omega, .inl rfl⟩, hbel⟩
    · go_enter Try.func18, Try.ntmps18
      go_wp2_with (first
        | (go_at_call 29; go_must (refine (ptclone_any x len cap ps _ hlen hr).mono ?_; rintro e w2 ⟨g, c, rfl, hown, hgw, hbel⟩; have hblk := blk_of_owns hown hfit))
        | (go_at_call 30; go_must (refine (sortstable_any _ _ _ w.heap.size ps _ hlen hblk).mono ?_; rintro e w3 ⟨rfl, hblk3, hbel3⟩)))
      go_ret
      refine ⟨some ⟨g, 0, none⟩, c, rfl, prow_of_blk hblk3 (by omega), ?_⟩
      have := hbel.size
      rcases hbel3 with h | h | h
      · exact hbel.trans h
      · exact absurd hgw h
      · exact absurd this h
end Go.Proofs.Ytmafbgfldojbbaa
