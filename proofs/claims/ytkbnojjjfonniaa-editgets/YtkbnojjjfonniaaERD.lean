/- The law of reading edits. -/
import Derived.Test.YtkbnojjjfonniaaEPU
namespace Go.Proofs.Ytkbnojjjfonniaa
open Go.RowKit

theorem eput_len {l : List Ed.E} (hl : l.length ≤ 200) (h : ∀ e ∈ l, Ed.may e = true) : (Ed.put l).length ≤ 60000 := by
  have : ∀ (m : List Ed.E), (∀ e ∈ m, Ed.may e = true) → (m.flatMap Ed.one).length ≤ 250 * m.length := by
    intro m
    induction m with
    | nil => simp
    | cons e m ih =>
      intro he
      have h1 := eone_len (he e (by simp))
      have h2 := ih (fun x hx => he x (by simp [hx]))
      simp only [List.flatMap_cons, List.length_append, List.length_cons]; omega
  have := this l h
  have h10 := Va.one_len10 (u := l.length) (by omega)
  rw [Ed.put, List.length_append]; omega
theorem eget_yes {a : Option Addr} {len cap : Nat} {bs : List Nat} {w : World} (L : List Ed.E) (hL : Ed.get bs = L) (hne : L ≠ []) (hbig : len ≤ 100000) (hshape : Shape a len cap) (hr : Row .u8 w a len bs) :
    Calls Try.prog 15 #[.slice a len cap] w fun e w' => ∃ g, e = .returned (.tuple #[.slice (some ⟨g, 0, none⟩) L.length L.length, .int .i64 0]) ∧ w'.ownsRow w.heap.size 32 12 (.slice (some ⟨g, 0, none⟩) L.length L.length) L.length (tcells ee L) ∧ Below w.heap.size w w' := by
  subst hL
  exact (epget_any a len cap bs w hbig hshape hr).mono fun _ _ h => h.elim (fun h => absurd h.1 hne) (fun h => h.2)
theorem eget_no {a : Option Addr} {len cap : Nat} {bs : List Nat} {w : World} (hL : Ed.get bs = []) (hbig : len ≤ 100000) (hshape : Shape a len cap) (hr : Row .u8 w a len bs) :
    Calls Try.prog 15 #[.slice a len cap] w fun e w' => e = .returned (.tuple #[.slice none 0 0, .int .i64 2]) ∧ Below w.heap.size w w' :=
  (epget_any a len cap bs w hbig hshape hr).mono fun _ _ h => h.elim (fun h => h.2) (fun h => absurd hL h.1)
theorem shape_own {w : World} {B n c : Nat} {a : Option Addr} {xs : List Value} {e : TypeId} (h : w.ownsRow B e 1 (.slice a n c) n xs) : Shape a n c := by
  rcases h.2 with ⟨h1, h2⟩ | ⟨g, cap, cur, h1, _, _, h3⟩
  · left
    injection h1 with _ e2 e3
    exact ⟨e2, e3⟩
  · right
    injection h1 with e1 _ e3
    subst e3
    exact ⟨g, 0, e1, by simpa using h3.1⟩
set_option maxRecDepth 100000 in
set_option maxHeartbeats 8000000 in
theorem editreads_any (a0 : Option Addr) (len0 cap0 : Nat) (l0 : List Ed.E) (a1 : Option Addr) (len1 cap1 : Nat) (z1 : List Int) (w : World) (h0 : IsEdits w a0 len0 cap0 l0) (h1 : IsRow .u8 w a1 len1 cap1 z1) :
    Calls Try.prog 5 #[.slice a0 len0 cap0, .slice a1 len1 cap1] w fun e w' => e = .returned (.bool true) ∧ Below w.heap.size w w' := by
  obtain ⟨hr0, _, _, hl0⟩ := h0
  have hlt0 := fun W h => elight_any a0 len0 cap0 l0 W h hl0
  have haw := fun W => eawake_any W
  cases hg0 : elgt l0 with
  | false =>
    rw [hg0] at hlt0
    clear hg0
    go_enter Try.func5, Try.ntmps5
    go_wp2_with (first
      | (go_at_call 6; go_must (refine (hlt0 _ hr0).mono ?_; rintro e w2 ⟨rfl, rfl⟩))
      | (go_at_call 7; go_must (refine (haw _).mono ?_; rintro e w3 ⟨rfl, hb3⟩)))
    go_ret
    exact ⟨rfl, hb3⟩
  | true =>
    have h40 := elgt_len hg0
    rw [hg0] at hlt0
    clear hg0
    have hll : Hid (l0.length = len0) := hr0.1
    rw [hll.out] at h40
    by_cases hbig : (3000 : Int) < (len1 : Int)
    · go_enter Try.func5, Try.ntmps5
      go_wp2_with (first
        | (go_at_call 6; go_must (refine (hlt0 _ hr0).mono ?_; rintro e w2 ⟨rfl, rfl⟩))
        | (go_at_call 7; go_must (refine (haw _).mono ?_; rintro e w3 ⟨rfl, hb3⟩)))
      go_ret
      exact ⟨rfl, hb3⟩
    obtain ⟨bs, hrb⟩ := row_of (.inl rfl) h1 (by omega)
    have hshb := shape_of h1
    by_cases hgood : Good l0
    case neg =>
      have hnp := fun W h => eput_no (ad := a0) (len := len0) (cap := cap0) (l := l0) (w := W) h hgood
      go_enter Try.func5, Try.ntmps5
      go_wp2_with (first
        | (go_at_call 6; go_must (refine (hlt0 _ hr0).mono ?_; rintro e w2 ⟨rfl, hw⟩; obtain rfl : w = w2 := hw.symm; clear hw))
        | (go_at_call 10; go_must (refine (hnp _ hr0).mono ?_; rintro e w3 ⟨rfl, hb3⟩))
        | (go_at_call 7; go_must (refine (haw _).mono ?_; rintro e w4 ⟨rfl, hb4⟩)))
      go_ret
      exact ⟨rfl, hb3.trans (hb4.mono hb3.size)⟩
    have hgp := Ed.get_put hgood.2.1 hgood.2.2
    have hne : l0 ≠ [] := fun h => by have := hgood.1; rw [h] at this; simp at this
    have hyp := fun W h => eput_yes (ad := a0) (len := len0) (cap := cap0) (l := l0) (w := W) h hgood
    have hsmall : ∀ x ∈ Ed.put l0, x < 256 := by
      intro x hx
      rcases List.mem_append.mp hx with hx | hx
      · exact Va.one_small _ x hx
      · exact Ed.may_small hgood.2.2 x hx
    have hpl := eput_len hgood.2.1 hgood.2.2
    have hgb := fun a c W s h => eget_yes (a := a) (len := (Ed.put l0).length) (cap := c) (bs := Ed.put l0) (w := W) l0 hgp hne (by omega) s h
    rw [hll.out] at hgb
    have hcut : Hid (∀ Y, Ed.get bs = Y → Y ≠ [] → Y = l0 → bs = Ed.put l0) := (fun Y hY hn he => by
      have := (Ed.get_ok (fun x hx => hrb.2.2.1 x hx) (by rw [hY]; exact hn)).1
      rw [hY, he] at this
      exact this.symm : ∀ Y, _)
    have hs1 := fun ax c W g1 g2 => epsame_any ax len0 c l0 a0 len0 cap0 l0 W true (by simp) g1 g2
    have hs2 := fun ax c W g1 g2 => ersame_any ax len0 c l0 a0 len0 cap0 l0 W true (by simp) g1 g2
    generalize Ed.put l0 = PB at *
    clear hgp hgood hne
    cases hY : Ed.get bs with
    | nil =>
      have hgo := fun W h => eget_no (a := a1) (len := len1) (cap := cap1) (w := W) hY (by omega) hshb h
      clear hY hcut
      go_enter Try.func5, Try.ntmps5
      go_wp2_with (first
        | (go_at_call 6; go_must (refine (hlt0 _ hr0).mono ?_; rintro e w2 ⟨rfl, hw⟩; obtain rfl : w = w2 := hw.symm; clear hw))
        | (go_at_call 10; go_must (refine (hyp _ hr0).mono ?_; rintro e w3 ⟨a3, c3, rfl, hown3, hb3⟩; have hp3 := (row_of_owns hown3 hsmall (by omega)).1; have hsh3 := shape_own hown3; have tG : Hid (0 = 0) := (rfl : 0 = 0)))
        | (go_at_call 15; clear tG; go_must (refine (hgb _ _ _ hsh3 hp3).mono ?_; rintro e w4 ⟨g4, rfl, hown4, hb4⟩; have hB4 := hb3.trans (hb4.mono hb3.size); have hx4 : ERow w4 (some ⟨g4, 0, none⟩) len0 l0 := trow_of_owns (d := Ed.zero) eeE hown4 (by omega) (by omega)))
        | (go_at_call 15; go_must (refine (hgo _ (hrb.below hB4 (Nat.le_refl _))).mono ?_; rintro e w5 ⟨rfl, hb5⟩; have hB5 := hB4.trans (hb5.mono hB4.size); have hx5 := hx4.below hb5 (Nat.le_refl _)))
        | (go_at_call 11; go_must (refine (hs1 _ _ _ hx5 (hr0.below hB5 (Nat.le_refl _))).mono ?_; rintro e w6 ⟨rfl, hb6⟩; have hB6 := hB5.trans (hb6.mono hB5.size); have hx6 := hx5.below hb6 (Nat.le_refl _)))
        | (go_at_call 12; go_must (refine (hs2 _ _ _ hx6 (hr0.below hB6 (Nat.le_refl _))).mono ?_; rintro e w7 ⟨rfl, hb7⟩; have hB7 := hB6.trans (hb7.mono hB6.size)))
        | (go_at_call 7; go_must (refine (haw _).mono ?_; rintro e w8 ⟨rfl, hb8⟩; have hB8 := hB7.trans (hb8.mono hB7.size))))
      go_ret
      exact ⟨rfl, hB8⟩
    | cons y0 ys =>
      have hYne : y0 :: ys ≠ [] := List.cons_ne_nil _ _
      have hYl := (Ed.get_ok (fun x hx => hrb.2.2.1 x hx) (by rw [hY]; exact hYne)).2.2
      rw [hY] at hYl
      have hgo := fun W h => eget_yes (a := a1) (len := len1) (cap := cap1) (w := W) (y0 :: ys) hY hYne (by omega) hshb h
      have hcut2 := fun h => hcut.out _ hY hYne h
      clear hY hYne hcut
      generalize y0 :: ys = Y at *
      obtain ⟨ny, hny⟩ : ∃ ny, Y.length = ny := ⟨_, rfl⟩
      rw [hny] at hgo hYl
      clear hny
      by_cases hYl0 : Y = l0
      · have hbs := hcut2 hYl0
        have hbs : Hid (bs = PB) := hbs
        have hs3 := fun ax n c W g1 g2 => ersame_any ax n c Y a0 len0 cap0 l0 W true (by simp [hYl0]) g1 g2
        clear hcut2 hYl0
        go_enter Try.func5, Try.ntmps5
        go_wp2_with (first
          | (go_at_call 6; go_must (refine (hlt0 _ hr0).mono ?_; rintro e w2 ⟨rfl, hw⟩; obtain rfl : w = w2 := hw.symm; clear hw))
          | (go_at_call 10; go_must (refine (hyp _ hr0).mono ?_; rintro e w3 ⟨a3, c3, rfl, hown3, hb3⟩; have hp3 := (row_of_owns hown3 hsmall (by omega)).1; have hsh3 := shape_own hown3; have tG : Hid (0 = 0) := (rfl : 0 = 0)))
          | (go_at_call 15; clear tG; go_must (refine (hgb _ _ _ hsh3 hp3).mono ?_; rintro e w4 ⟨g4, rfl, hown4, hb4⟩; have hB4 := hb3.trans (hb4.mono hb3.size); have hx4 : ERow w4 (some ⟨g4, 0, none⟩) len0 l0 := trow_of_owns (d := Ed.zero) eeE hown4 (by omega) (by omega); have hp4 := hp3.below hb4 (Nat.le_refl _)))
          | (go_at_call 15; go_must (refine (hgo _ (hrb.below hB4 (Nat.le_refl _))).mono ?_; rintro e w5 ⟨g5, rfl, hown5, hb5⟩; have hB5 := hB4.trans (hb5.mono hB4.size); have hx5 := hx4.below hb5 (Nat.le_refl _); have hy5 : ERow w5 (some ⟨g5, 0, none⟩) ny Y := trow_of_owns (d := Ed.zero) eeE hown5 (by omega) (by omega); have hp5 := hp4.below hb5 (Nat.le_refl _)))
          | (go_at_call 11; go_must (refine (hs1 _ _ _ hx5 (hr0.below hB5 (Nat.le_refl _))).mono ?_; rintro e w6 ⟨rfl, hb6⟩; have hB6 := hB5.trans (hb6.mono hB5.size); have hx6 := hx5.below hb6 (Nat.le_refl _); have hy6 := hy5.below hb6 (Nat.le_refl _); have hp6 := hp5.below hb6 (Nat.le_refl _); have tS : Hid (0 = 0) := (rfl : 0 = 0)))
          | (go_at_call 12; clear tS; go_must (refine (hs2 _ _ _ hx6 (hr0.below hB6 (Nat.le_refl _))).mono ?_; rintro e w7 ⟨rfl, hb7⟩; have hB7 := hB6.trans (hb7.mono hB6.size); have hy7 := hy6.below hb7 (Nat.le_refl _); have hp7 := hp6.below hb7 (Nat.le_refl _)))
          | (go_at_call 12; go_must (refine (hs3 _ _ _ _ hy7 (hr0.below hB7 (Nat.le_refl _))).mono ?_; rintro e w8 ⟨rfl, hb8⟩; have hB8 := hB7.trans (hb8.mono hB7.size); have hp8 := hp7.below hb8 (Nat.le_refl _); have ho8 := hrb.below hB8 (Nat.le_refl _); rw [hbs.out] at ho8))
          | (go_at_call 13; go_must (refine (bytes_any _ _ _ _ _ _ _ _ _ ho8 hp8).mono ?_; rintro e w9 ⟨rfl, n9, rfl⟩; rw [decide_eq_true (rfl : PB = PB)]; have hB9 := hB8.trans (below_drewN _ w8 n9)))
          | (go_at_call 7; go_must (refine (haw _).mono ?_; rintro e w10 ⟨rfl, hb10⟩; have hB10 := hB9.trans (hb10.mono hB9.size))))
        go_ret
        exact ⟨rfl, hB10⟩
      · have hs3 := fun ax n c W g1 g2 => ersame_any ax n c Y a0 len0 cap0 l0 W false (by simp [hYl0]) g1 g2
        clear hcut2 hYl0
        go_enter Try.func5, Try.ntmps5
        go_wp2_with (first
          | (go_at_call 6; go_must (refine (hlt0 _ hr0).mono ?_; rintro e w2 ⟨rfl, hw⟩; obtain rfl : w = w2 := hw.symm; clear hw))
          | (go_at_call 10; go_must (refine (hyp _ hr0).mono ?_; rintro e w3 ⟨a3, c3, rfl, hown3, hb3⟩; have hp3 := (row_of_owns hown3 hsmall (by omega)).1; have hsh3 := shape_own hown3; have tG : Hid (0 = 0) := (rfl : 0 = 0)))
          | (go_at_call 15; clear tG; go_must (refine (hgb _ _ _ hsh3 hp3).mono ?_; rintro e w4 ⟨g4, rfl, hown4, hb4⟩; have hB4 := hb3.trans (hb4.mono hb3.size); have hx4 : ERow w4 (some ⟨g4, 0, none⟩) len0 l0 := trow_of_owns (d := Ed.zero) eeE hown4 (by omega) (by omega)))
          | (go_at_call 15; go_must (refine (hgo _ (hrb.below hB4 (Nat.le_refl _))).mono ?_; rintro e w5 ⟨g5, rfl, hown5, hb5⟩; have hB5 := hB4.trans (hb5.mono hB4.size); have hx5 := hx4.below hb5 (Nat.le_refl _); have hy5 : ERow w5 (some ⟨g5, 0, none⟩) ny Y := trow_of_owns (d := Ed.zero) eeE hown5 (by omega) (by omega)))
          | (go_at_call 11; go_must (refine (hs1 _ _ _ hx5 (hr0.below hB5 (Nat.le_refl _))).mono ?_; rintro e w6 ⟨rfl, hb6⟩; have hB6 := hB5.trans (hb6.mono hB5.size); have hx6 := hx5.below hb6 (Nat.le_refl _); have hy6 := hy5.below hb6 (Nat.le_refl _); have tS : Hid (0 = 0) := (rfl : 0 = 0)))
          | (go_at_call 12; clear tS; go_must (refine (hs2 _ _ _ hx6 (hr0.below hB6 (Nat.le_refl _))).mono ?_; rintro e w7 ⟨rfl, hb7⟩; have hB7 := hB6.trans (hb7.mono hB6.size); have hy7 := hy6.below hb7 (Nat.le_refl _)))
          | (go_at_call 12; go_must (refine (hs3 _ _ _ _ hy7 (hr0.below hB7 (Nat.le_refl _))).mono ?_; rintro e w8 ⟨rfl, hb8⟩; have hB8 := hB7.trans (hb8.mono hB7.size)))
          | (go_at_call 7; go_must (refine (haw _).mono ?_; rintro e w10 ⟨rfl, hb10⟩; have hB10 := hB8.trans (hb10.mono hB8.size))))
        go_ret
        exact ⟨rfl, hB10⟩
end Go.Proofs.Ytkbnojjjfonniaa
