/- What the law VarintGets does. -/
import Derived.Test.YtiekjkgnljoccaaW12
namespace Go.Proofs.Ytiekjkgnljoccaa
open Go.RowKit

theorem al_lt : ∀ (n : Nat) (bs : List Nat) (at' : Nat) (l : List Nat), (∀ u ∈ l, u < 18446744073709551616) → ∀ u ∈ (Va.al n bs at' l).1, u < 18446744073709551616 := by
  intro n
  induction n with
  | zero => intro bs at' l h; exact h
  | succ n ih =>
    intro bs at' l h
    by_cases hz : (Va.get (bs.drop at')).2 = 0
    · rw [Va.al_none hz]; intro u hu; simp at hu
    · rw [Va.al_some hz]
      refine ih _ _ _ ?_
      intro u hu
      rcases List.mem_append.mp hu with h1 | h1
      · exact h u h1
      · simp at h1; rw [h1]; exact Va.get_lt _
theorem all_lt (bs : List Nat) (n : Nat) : ∀ u ∈ (Va.all bs n).1, u < lim .u64 := al_lt n bs 0 [] (by intro u hu; simp at hu)
theorem al_len : ∀ (n : Nat) (bs : List Nat) (at' : Nat) (l : List Nat), (Va.al n bs at' l).1.length ≤ l.length + n := by
  intro n
  induction n with
  | zero => intro bs at' l; exact Nat.le_refl _
  | succ n ih =>
    intro bs at' l
    by_cases hz : (Va.get (bs.drop at')).2 = 0
    · rw [Va.al_none hz]; simp
    · rw [Va.al_some hz]
      have := ih bs (at' + (Va.get (bs.drop at')).2) (l ++ [(Va.get (bs.drop at')).1])
      rw [List.length_append] at this
      simp only [List.length_singleton] at this
      omega
theorem all_len (bs : List Nat) (n : Nat) : (Va.all bs n).1.length ≤ n := by
  have := al_len n bs 0 []; simpa [Va.all] using this

theorem gets_long (a : Option Addr) (len cap : Nat) (z : Int) (w : World) (h : 500 < len) :
    Calls Try.prog 4 #[.slice a len cap, .int .i64 z] w fun e w' => e = .returned (.bool true) ∧ Below w.heap.size w w' := by
  go_enter Try.func4, Try.ntmps4
  go_wp2_with (go_at_call 7; refine (awake_any _).mono ?_; rintro e w' ⟨rfl, hbel⟩)
  go_ret
  exact ⟨rfl, by assumption⟩

set_option maxRecDepth 100000 in
set_option maxHeartbeats 2000000 in
theorem gets_in (a : Option Addr) (len cap : Nat) (n : Nat) (bs : List Nat) (w : World) (hlen : len ≤ 500) (hn : n ≤ 1000) (hshape : Shape a len cap) (hcap : len ≤ cap) (hr : Row .u8 w a len bs) :
    Calls Try.prog 4 #[.slice a len cap, .int .i64 n] w fun e w' => e = .returned (.bool true) ∧ Below w.heap.size w w' := by
  have hg1 := get_any a len cap bs w hr
  have hg2 := refget_any a len cap bs w hcap (by omega) hr
  have ha1 := fun W (h : Below w.heap.size w W) => all_any a len cap bs n W hn (by omega) hshape (hr.below h (Nat.le_refl _))
  have ha2 := fun W (h : Below w.heap.size w W) => refall_any a len cap bs n W hn (by omega) hshape (hr.below h (Nat.le_refl _))
  have hRs := all_lt bs n
  have hRl := all_len bs n
  generalize Va.all bs n = R at *
  obtain ⟨rl, ra, rc⟩ := R
  simp only at hRs hRl
  unfold AllRes at ha1 ha2
  simp only at ha1 ha2
  obtain ⟨m, hm⟩ : ∃ m, m = rl.length := ⟨_, rfl⟩
  simp only [← hm] at ha1 ha2
  rw [← hm] at hRl
  have hmr : Hid (m = rl.length) := hm
  clear hm
  generalize Va.get bs = g at *
  obtain ⟨g1, g2⟩ := g
  simp only at hg1 hg2
  clear hr hshape
  rcases Nat.eq_zero_or_pos g2 with h0 | h0
  · subst h0
    have hc0 : code 0 = 2 := rfl
    rw [hc0] at hg1
    go_enter Try.func4, Try.ntmps4
    go_wp2_with (first
      | (go_at_call 16; refine hg1.mono ?_; rintro e w' ⟨rfl, hw⟩; subst hw)
      | (go_at_call 17; refine hg2.mono ?_; rintro e w1 ⟨rfl, hbel1⟩)
      | (go_at_call 18; have := hbel1; go_must (refine (ha1 _ hbel1).mono ?_; rintro e w2 ⟨a2, c2, rfl, hown2, hbel2⟩; have hB2 := hbel1.trans (hbel2.mono hbel1.size)))
      | (go_at_call 19; have := hB2; go_must (refine (ha2 _ hB2).mono ?_; rintro e w3 ⟨a3, c3, rfl, hown3, hbel3⟩; have hB3 := hB2.trans (hbel3.mono hB2.size)))
      | (go_at_call 20; have := hB3; go_must (refine (Same_any _ _ _ _ _ _ _ _ _ ((row_of_owns hown2 hRs (by omega)).1.below hbel3 (Nat.le_refl _)) (row_of_owns hown3 hRs (by omega)).1).mono ?_; rintro e w4 ⟨rfl, m4, rfl⟩))
      | (go_at_call 7; refine (awake_any _).mono ?_; rintro e w5 ⟨rfl, hbel5⟩))
    have hB4 := hB3.trans (below_drewN _ _ m4)
    go_ret
    exact ⟨rfl, hB4.trans (hbel5.mono hB4.size)⟩
  · obtain ⟨q, rfl⟩ : ∃ q, g2 = q + 1 := ⟨g2 - 1, by omega⟩
    have hc0 : code (q + 1) = 0 := rfl
    rw [hc0] at hg1
    go_enter Try.func4, Try.ntmps4
    go_wp2_with (first
      | (go_at_call 16; refine hg1.mono ?_; rintro e w' ⟨rfl, hw⟩; subst hw)
      | (go_at_call 17; refine hg2.mono ?_; rintro e w1 ⟨rfl, hbel1⟩)
      | (go_at_call 18; have := hbel1; go_must (refine (ha1 _ hbel1).mono ?_; rintro e w2 ⟨a2, c2, rfl, hown2, hbel2⟩; have hB2 := hbel1.trans (hbel2.mono hbel1.size)))
      | (go_at_call 19; have := hB2; go_must (refine (ha2 _ hB2).mono ?_; rintro e w3 ⟨a3, c3, rfl, hown3, hbel3⟩; have hB3 := hB2.trans (hbel3.mono hB2.size)))
      | (go_at_call 20; have := hB3; go_must (refine (Same_any _ _ _ _ _ _ _ _ _ ((row_of_owns hown2 hRs (by omega)).1.below hbel3 (Nat.le_refl _)) (row_of_owns hown3 hRs (by omega)).1).mono ?_; rintro e w4 ⟨rfl, m4, rfl⟩))
      | (go_at_call 7; refine (awake_any _).mono ?_; rintro e w5 ⟨rfl, hbel5⟩))
    have hB4 := hB3.trans (below_drewN _ _ m4)
    go_ret
    exact ⟨rfl, hB4.trans (hbel5.mono hB4.size)⟩

set_option maxRecDepth 100000 in
set_option maxHeartbeats 2000000 in
theorem gets_out (a : Option Addr) (len cap : Nat) (z : Int) (bs : List Nat) (w : World) (hlen : len ≤ 500) (hz : z < 0 ∨ 1000 < z) (hcap : len ≤ cap) (hr : Row .u8 w a len bs) :
    Calls Try.prog 4 #[.slice a len cap, .int .i64 z] w fun e w' => e = .returned (.bool true) ∧ Below w.heap.size w w' := by
  have hg1 := get_any a len cap bs w hr
  have hg2 := refget_any a len cap bs w hcap (by omega) hr
  have ha1 := fun W => all_arg (.slice a len cap) z W hz
  generalize Va.get bs = g at *
  obtain ⟨g1, g2⟩ := g
  simp only at hg1 hg2
  clear hr
  by_cases hz0 : z < 0
  · have hz1 := hz0
    clear hz
    rcases Nat.eq_zero_or_pos g2 with h0 | h0
    · subst h0
      have hc0 : code 0 = 2 := rfl
      rw [hc0] at hg1
      go_enter Try.func4, Try.ntmps4
      go_wp2_with (first
        | (go_at_call 16; refine hg1.mono ?_; rintro e w' ⟨rfl, hw⟩; subst hw)
        | (go_at_call 17; refine hg2.mono ?_; rintro e w1 ⟨rfl, hbel1⟩)
        | (go_at_call 18; refine (ha1 _).mono ?_; rintro e w' ⟨rfl, hw⟩; subst hw)
        | (go_at_call 7; refine (awake_any _).mono ?_; rintro e w5 ⟨rfl, hbel5⟩))
      go_ret
      exact ⟨rfl, hbel1.trans (hbel5.mono hbel1.size)⟩
    · obtain ⟨q, rfl⟩ : ∃ q, g2 = q + 1 := ⟨g2 - 1, by omega⟩
      have hc0 : code (q + 1) = 0 := rfl
      rw [hc0] at hg1
      go_enter Try.func4, Try.ntmps4
      go_wp2_with (first
        | (go_at_call 16; refine hg1.mono ?_; rintro e w' ⟨rfl, hw⟩; subst hw)
        | (go_at_call 17; refine hg2.mono ?_; rintro e w1 ⟨rfl, hbel1⟩)
        | (go_at_call 18; refine (ha1 _).mono ?_; rintro e w' ⟨rfl, hw⟩; subst hw)
        | (go_at_call 7; refine (awake_any _).mono ?_; rintro e w5 ⟨rfl, hbel5⟩))
      go_ret
      exact ⟨rfl, hbel1.trans (hbel5.mono hbel1.size)⟩
  · have hz1 : 1000 < z := by omega
    clear hz
    rcases Nat.eq_zero_or_pos g2 with h0 | h0
    · subst h0
      have hc0 : code 0 = 2 := rfl
      rw [hc0] at hg1
      go_enter Try.func4, Try.ntmps4
      go_wp2_with (first
        | (go_at_call 16; refine hg1.mono ?_; rintro e w' ⟨rfl, hw⟩; subst hw)
        | (go_at_call 17; refine hg2.mono ?_; rintro e w1 ⟨rfl, hbel1⟩)
        | (go_at_call 18; refine (ha1 _).mono ?_; rintro e w' ⟨rfl, hw⟩; subst hw)
        | (go_at_call 7; refine (awake_any _).mono ?_; rintro e w5 ⟨rfl, hbel5⟩))
      go_ret
      exact ⟨rfl, hbel1.trans (hbel5.mono hbel1.size)⟩
    · obtain ⟨q, rfl⟩ : ∃ q, g2 = q + 1 := ⟨g2 - 1, by omega⟩
      have hc0 : code (q + 1) = 0 := rfl
      rw [hc0] at hg1
      go_enter Try.func4, Try.ntmps4
      go_wp2_with (first
        | (go_at_call 16; refine hg1.mono ?_; rintro e w' ⟨rfl, hw⟩; subst hw)
        | (go_at_call 17; refine hg2.mono ?_; rintro e w1 ⟨rfl, hbel1⟩)
        | (go_at_call 18; refine (ha1 _).mono ?_; rintro e w' ⟨rfl, hw⟩; subst hw)
        | (go_at_call 7; refine (awake_any _).mono ?_; rintro e w5 ⟨rfl, hbel5⟩))
      go_ret
      exact ⟨rfl, hbel1.trans (hbel5.mono hbel1.size)⟩

theorem shape_of {k : IntKind} {w : World} {a : Option Addr} {len cap : Nat} {zs : List Int} (h : IsRow k w a len cap zs) : Shape a len cap := by
  rcases h with ⟨rfl, rfl, rfl, rfl⟩ | ⟨x, rfl, hlc, hm, hz, hcell, _⟩
  · exact .inl ⟨rfl, rfl⟩
  · rcases Nat.eq_zero_or_pos cap with h0 | h0
    · exact .inl ⟨by omega, h0⟩
    · obtain ⟨b, off, spot⟩ := x
      have hs : spot = none := by simpa [Addr.add] using World.cell?_spot (hcell 0 (by omega))
      subst hs
      exact .inr ⟨b, off, rfl, hlc⟩
end Go.Proofs.Ytiekjkgnljoccaa
