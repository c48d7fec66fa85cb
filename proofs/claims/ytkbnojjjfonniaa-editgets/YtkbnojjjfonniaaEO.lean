/- Edits: are they alike? -/
import Derived.Test.YtkbnojjjfonniaaEN
import Derived.Deep.QuietTactic
import Derived.BigQuiet
namespace Go.Proofs.Ytkbnojjjfonniaa
open Go.RowKit

theorem eeq_of_getD {a b : List Ed.E} (hl : a.length = b.length) (h : ∀ j, j < a.length → a.getD j Ed.zero = b.getD j Ed.zero) : a = b := by
  apply List.ext_getElem hl
  intro i h1 h2
  have := h i h1
  simpa [h1, h2] using this
theorem unlike {k n i t a b c p q r k' n' i' t' a' b' c' p' q' r' : Int} {f g f' g' : ByteArray} (h : ¬ (Ed.E.mk k n i t a b c ⟨p, q, r, f, g⟩ = Ed.E.mk k' n' i' t' a' b' c' ⟨p', q', r', f', g'⟩)) : ∀ (α : Type) (X Y : α), (if k = k' then (if n = n' then (if i = i' then (if t = t' then (if a = a' then (if b = b' then (if c = c' then (if p = p' then (if q = q' then (if r = r' then (if f.toList = f'.toList then (if g.toList = g'.toList then X else Y) else Y) else Y) else Y) else Y) else Y) else Y) else Y) else Y) else Y) else Y) else Y) = Y := by
  intro α X Y
  by_cases h0 : k = k'
  case neg => rw [if_neg h0]
  rw [if_pos h0]
  by_cases h1 : n = n'
  case neg => rw [if_neg h1]
  rw [if_pos h1]
  by_cases h2 : i = i'
  case neg => rw [if_neg h2]
  rw [if_pos h2]
  by_cases h3 : t = t'
  case neg => rw [if_neg h3]
  rw [if_pos h3]
  by_cases h4 : a = a'
  case neg => rw [if_neg h4]
  rw [if_pos h4]
  by_cases h5 : b = b'
  case neg => rw [if_neg h5]
  rw [if_pos h5]
  by_cases h6 : c = c'
  case neg => rw [if_neg h6]
  rw [if_pos h6]
  by_cases h7 : p = p'
  case neg => rw [if_neg h7]
  rw [if_pos h7]
  by_cases h8 : q = q'
  case neg => rw [if_neg h8]
  rw [if_pos h8]
  by_cases h9 : r = r'
  case neg => rw [if_neg h9]
  rw [if_pos h9]
  by_cases h10 : f.toList = f'.toList
  case neg => rw [if_neg h10]
  rw [if_pos h10]
  by_cases h11 : g.toList = g'.toList
  case neg => rw [if_neg h11]
  rw [if_pos h11]
  exfalso; apply h; simp only [Ed.E.mk.injEq, Lv.T.mk.injEq]; exact ⟨h0, h1, h2, h3, h4, h5, h6, h7, h8, h9, toList_inj h10, toList_inj h11⟩

set_option maxRecDepth 100000 in
set_option maxHeartbeats 2000000 in
theorem eequal_any (a1 : Option Addr) (l1 c1 : Nat) (ps : List Ed.E) (a2 : Option Addr) (l2 c2 : Nat) (qs : List Ed.E) (w : World) (R : Bool) (hR : R = true ↔ ps = qs) (hr1 : ERow w a1 l1 ps) (hr2 : ERow w a2 l2 qs) :
    Calls Try.prog 25 #[.slice a1 l1 c1, .slice a2 l2 c2] w fun e w' => e = .returned (.bool R) ∧ Below w.heap.size w w' := by
  have hl1 : Hid (ps.length = l1) := hr1.1
  have hl2 : Hid (qs.length = l2) := hr2.1
  by_cases hll : l1 = l2
  · subst hll
    have H : Hid (R = true ↔ ps = qs) := hR
    clear hR
    have hb := hr1.2.1
    go_enter Try.func25, Try.ntmps25
    go_wp2
    go_loopw [13] (fun iv wr => ∃ j : Nat, j ≤ l1 ∧ iv = .int .i64 j ∧ Hid (∀ m, m < j → ps.getD m Ed.zero = qs.getD m Ed.zero) ∧ Below w.heap.size w wr) (fun iv _ => l1 - (intOf iv).toNat)
    case atStart => exact ⟨0, by omega, rfl, (fun m hm => by omega : ∀ m, m < 0 → ps.getD m Ed.zero = qs.getD m Ed.zero), Below.refl _ _⟩
    case round =>
      obtain ⟨j, hj, rfl, HM, hbel⟩ := hrel
      by_cases hlt : j < l1
      · obtain ⟨B, O, k, n, i, t, a, b, c, p, q, r, f, g, rfl, hx, q0, q1, q2, q3, q4, q5, q6, q7, q8, q9, q10, q11⟩ := eget hr1 hbel hlt
        obtain ⟨B', O', k', n', i', t', a', b', c', p', q', r', f', g', rfl, hy, p0, p1, p2, p3, p4, p5, p6, p7, p8, p9, p10, p11⟩ := eget hr2 hbel hlt
        have i0 : (0 : Int) ≤ (j : Int) := by omega
        have i1 : (j : Int) < (l1 : Int) := by omega
        by_cases hxy : ps.getD j Ed.zero = qs.getD j Ed.zero
        · have HM2 : Hid (∀ m, m < j + 1 → ps.getD m Ed.zero = qs.getD m Ed.zero) := (by
            intro m hm
            rcases Nat.lt_or_ge m j with h | h
            · exact HM.out m h
            · obtain rfl : m = j := by omega
              exact hxy : ∀ m, m < j + 1 → ps.getD m Ed.zero = qs.getD m Ed.zero)
          rw [hx.out, hy.out] at hxy
          simp only [Ed.E.mk.injEq, Lv.T.mk.injEq] at hxy
          obtain ⟨rfl, rfl, rfl, rfl, rfl, rfl, rfl, rfl, rfl, rfl, rfl, rfl⟩ := hxy
          clear hx hy HM
          go_wp2
          go_quiet (fail)
          go_wp2
          go_roundw
          case rel => exact ⟨j + 1, by omega, by go_num, HM2, by first | exact hbel | exact hbel.drew | exact hbel.trans (below_drewN _ _ _)⟩
          case measure => simp [intOf]; omega
        · have HF : Hid (R = false) := (by
            cases hR : R with
            | false => rfl
            | true => exact absurd (by rw [H.out.mp hR]) hxy : R = false)
          rw [hx.out, hy.out] at hxy
          have hif := unlike hxy
          clear hx hy HM hxy
          go_wp2
          go_quiet (fail)
          go_wp2
          go_ret
          rw [HF.out]
          exact ⟨rfl, by first | exact hbel | exact hbel.drew | exact hbel.trans (below_drewN _ _ _)⟩
      · obtain rfl : j = l1 := by omega
        have HT : Hid (R = true) := (H.out.mpr (eeq_of_getD (by rw [hl1.out, hl2.out]) (fun m hm => HM.out m (by rw [hl1.out] at hm; exact hm))) : R = true)
        clear HM
        go_wp2
        go_ret
        rw [HT.out]
        exact ⟨rfl, hbel⟩
  · have HF : Hid (R = false) := (by
      cases h : R with
      | false => rfl
      | true => exact absurd (by have := congrArg List.length (hR.mp h); rw [hl1.out, hl2.out] at this; exact this) hll : R = false)
    have h3 : ¬ (l1 : Int) = (l2 : Int) := by omega
    clear hR
    go_enter Try.func25, Try.ntmps25
    go_wp2
    go_ret
    rw [HF.out]
    exact ⟨rfl, Below.refl _ _⟩

set_option maxRecDepth 100000 in
set_option maxHeartbeats 2000000 in
theorem ersame_any (a1 : Option Addr) (l1 c1 : Nat) (ps : List Ed.E) (a2 : Option Addr) (l2 c2 : Nat) (qs : List Ed.E) (w : World) (R : Bool) (hR : R = true ↔ ps = qs) (hr1 : ERow w a1 l1 ps) (hr2 : ERow w a2 l2 qs) :
    Calls Try.prog 12 #[.slice a1 l1 c1, .slice a2 l2 c2] w fun e w' => e = .returned (.bool R) ∧ Below w.heap.size w w' := by
  have hl1 : Hid (ps.length = l1) := hr1.1
  have hl2 : Hid (qs.length = l2) := hr2.1
  by_cases hll : l1 = l2
  · subst hll
    have H : Hid (R = true ↔ ps = qs) := hR
    clear hR
    have hb := hr1.2.1
    go_enter Try.func12, Try.ntmps12
    go_wp2
    go_loopw [5] (fun iv wr => ∃ j : Nat, j ≤ l1 ∧ iv = .int .i64 j ∧ Hid (∀ m, m < j → ps.getD m Ed.zero = qs.getD m Ed.zero) ∧ Below w.heap.size w wr) (fun iv _ => l1 - (intOf iv).toNat)
    case atStart => exact ⟨0, by omega, rfl, (fun m hm => by omega : ∀ m, m < 0 → ps.getD m Ed.zero = qs.getD m Ed.zero), Below.refl _ _⟩
    case round =>
      obtain ⟨j, hj, rfl, HM, hbel⟩ := hrel
      by_cases hlt : j < l1
      · obtain ⟨B, O, k, n, i, t, a, b, c, p, q, r, f, g, rfl, hx, q0, q1, q2, q3, q4, q5, q6, q7, q8, q9, q10, q11⟩ := eget hr1 hbel hlt
        obtain ⟨B', O', k', n', i', t', a', b', c', p', q', r', f', g', rfl, hy, p0, p1, p2, p3, p4, p5, p6, p7, p8, p9, p10, p11⟩ := eget hr2 hbel hlt
        have i0 : (0 : Int) ≤ (j : Int) := by omega
        have i1 : (j : Int) < (l1 : Int) := by omega
        by_cases hxy : ps.getD j Ed.zero = qs.getD j Ed.zero
        · have HM2 : Hid (∀ m, m < j + 1 → ps.getD m Ed.zero = qs.getD m Ed.zero) := (by
            intro m hm
            rcases Nat.lt_or_ge m j with h | h
            · exact HM.out m h
            · obtain rfl : m = j := by omega
              exact hxy : ∀ m, m < j + 1 → ps.getD m Ed.zero = qs.getD m Ed.zero)
          rw [hx.out, hy.out] at hxy
          simp only [Ed.E.mk.injEq, Lv.T.mk.injEq] at hxy
          obtain ⟨rfl, rfl, rfl, rfl, rfl, rfl, rfl, rfl, rfl, rfl, rfl, rfl⟩ := hxy
          clear hx hy HM
          go_wp2
          go_quiet (fail)
          go_wp2
          go_roundw
          case rel => exact ⟨j + 1, by omega, by go_num, HM2, by first | exact hbel | exact hbel.drew | exact hbel.trans (below_drewN _ _ _)⟩
          case measure => simp [intOf]; omega
        · have HF : Hid (R = false) := (by
            cases hR : R with
            | false => rfl
            | true => exact absurd (by rw [H.out.mp hR]) hxy : R = false)
          rw [hx.out, hy.out] at hxy
          have hif := unlike hxy
          clear hx hy HM hxy
          go_wp2
          go_quiet (fail)
          go_wp2
          go_ret
          rw [HF.out]
          exact ⟨rfl, by first | exact hbel | exact hbel.drew | exact hbel.trans (below_drewN _ _ _)⟩
      · obtain rfl : j = l1 := by omega
        have HT : Hid (R = true) := (H.out.mpr (eeq_of_getD (by rw [hl1.out, hl2.out]) (fun m hm => HM.out m (by rw [hl1.out] at hm; exact hm))) : R = true)
        clear HM
        go_wp2
        go_ret
        rw [HT.out]
        exact ⟨rfl, hbel⟩
  · have HF : Hid (R = false) := (by
      cases h : R with
      | false => rfl
      | true => exact absurd (by have := congrArg List.length (hR.mp h); rw [hl1.out, hl2.out] at this; exact this) hll : R = false)
    have h3 : ¬ (l1 : Int) = (l2 : Int) := by omega
    clear hR
    go_enter Try.func12, Try.ntmps12
    go_wp2
    go_ret
    rw [HF.out]
    exact ⟨rfl, Below.refl _ _⟩

set_option maxRecDepth 100000 in
set_option maxHeartbeats 400000 in
theorem epsame_any (a1 : Option Addr) (l1 c1 : Nat) (ps : List Ed.E) (a2 : Option Addr) (l2 c2 : Nat) (qs : List Ed.E) (w : World) (R : Bool) (hR : R = true ↔ ps = qs) (hr1 : ERow w a1 l1 ps) (hr2 : ERow w a2 l2 qs) :
    Calls Try.prog 11 #[.slice a1 l1 c1, .slice a2 l2 c2] w fun e w' => e = .returned (.bool R) ∧ Below w.heap.size w w' := by
  have he := eequal_any a1 l1 c1 ps a2 l2 c2 qs w R hR hr1 hr2
  clear hR
  go_enter Try.func11, Try.ntmps11
  go_wp2_with (go_at_call 25; refine he.mono ?_; rintro e w2 ⟨rfl, hb2⟩)
  go_ret
  exact ⟨rfl, hb2⟩
end Go.Proofs.Ytkbnojjjfonniaa
