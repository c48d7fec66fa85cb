/- What slices' symMerge wants of numbers and lists. -/
import Derived.Test.YtmafbgfldojbbaaT6
namespace Go.Proofs.Ytmafbgfldojbbaa
open Go.RowKit

/-- what symMerge does to two stretches of together at most f points -/
def SymC (f : Nat) : Prop := ∀ (g n c : Nat) (P1 A B P2 : List Po.P) (a m b : Nat) (w : World), n ≤ 1000000000 → A.length + B.length ≤ f → PBlk w g n (P1 ++ (A ++ (B ++ P2))) → a = P1.length → m = a + A.length → b = m + B.length → 1 ≤ A.length → 1 ≤ B.length → So.Sorted Po.less A → So.Sorted Po.less B →
  Calls Try.prog 42 #[.slice (some ⟨g, 0, none⟩) n c, .int .i64 a, .int .i64 m, .int .i64 b, cmpv] w fun e w' => ∃ X, e = .returned (.tuple #[]) ∧ PBlk w' g n (P1 ++ X ++ P2) ∧ So.Stab Po.less (A ++ B) X ∧ So.Sorted Po.less X ∧ w.grownBy w' (some g)

/-- the numbers of one symMerge -/
structure SymN (n a m b mid nn pp lo hi H lA lB lP : Nat) : Prop where
  hn : n ≤ 1000000000
  ha : a = lP
  hm : m = a + lA
  hb : b = m + lB
  hbn : b ≤ n
  hA : 2 ≤ lA
  hB : 2 ≤ lB
  hmid : mid = a + H
  hH : H = (lA + lB) / 2
  hnn : nn = mid + m
  hpp : pp + 1 = nn
  hlo : lo = a + (H - lB)
  hhi : hi = a + min H lA

theorem SymN.mk' {n a m b lA lB lP : Nat} (hn : n ≤ 1000000000) (ha : a = lP) (hm : m = a + lA) (hb : b = m + lB) (hbn : b ≤ n) (hA : 2 ≤ lA) (hB : 2 ≤ lB) : ∃ mid nn pp lo hi H, SymN n a m b mid nn pp lo hi H lA lB lP :=
  ⟨a + (lA + lB) / 2, a + (lA + lB) / 2 + m, a + (lA + lB) / 2 + m - 1, a + ((lA + lB) / 2 - lB), a + min ((lA + lB) / 2) lA, (lA + lB) / 2, ⟨hn, ha, hm, hb, hbn, hA, hB, rfl, rfl, rfl, by omega, rfl, rfl⟩⟩

/-- ahead of the search -/
theorem SymN.start {n a m b mid nn pp lo hi H lA lB lP : Nat} (h : SymN n a m b mid nn pp lo hi H lA lB lP) :
    IntKind.i64.wrap ((m : Int) - (a : Int)) = (m : Int) - (a : Int) ∧ ((m : Int) - (a : Int) == 1) = false ∧ IntKind.i64.wrap ((b : Int) - (m : Int)) = (b : Int) - (m : Int) ∧ ((b : Int) - (m : Int) == 1) = false ∧
    IntKind.i64.wrap ((a : Int) + (b : Int)) = (a : Int) + (b : Int) ∧ IntKind.u64.wrap ((a : Int) + (b : Int)) = (a : Int) + (b : Int) ∧ ((a : Int) + (b : Int)) / 2 = (mid : Int) ∧ IntKind.i64.wrap (mid : Int) = (mid : Int) ∧
    (mid : Int) + (m : Int) = (nn : Int) ∧ IntKind.i64.wrap (nn : Int) = (nn : Int) ∧ IntKind.i64.wrap ((nn : Int) - 1) = (pp : Int) ∧ (nn : Int) - 1 = (pp : Int) ∧ IntKind.i64.wrap (pp : Int) = (pp : Int) := by
  obtain ⟨hn, ha, hm, hb, hbn, hA, hB, hmid, hH, hnn, hpp, hlo, hhi⟩ := h
  simp only [IntKind.wrap_i64, IntKind.wrap_u64, beq_eq_false_iff_ne, ne_eq]
  refine ⟨?_, ?_, ?_, ?_, ?_, ?_, ?_, ?_, ?_, ?_, ?_, ?_, ?_⟩ <;> omega
theorem SymN.turn {n a m b mid nn pp lo hi H lA lB lP : Nat} (h : SymN n a m b mid nn pp lo hi H lA lB lP) :
    (mid < m → IntKind.i64.wrap ((nn : Int) - (b : Int)) = (lo : Int) ∧ (mid : Int) = (hi : Int)) ∧ (¬ mid < m → (a : Int) = (lo : Int) ∧ (m : Int) = (hi : Int)) ∧ lo ≤ hi := by
  obtain ⟨hn, ha, hm, hb, hbn, hA, hB, hmid, hH, hnn, hpp, hlo, hhi⟩ := h
  simp only [IntKind.wrap_i64]
  refine ⟨fun hx => ⟨?_, ?_⟩, fun hx => ⟨?_, ?_⟩, ?_⟩ <;> omega

/-- one step of the search -/
theorem SymN.step {n a m b mid nn pp lo hi H : Nat} {P1 A B P2 : List Po.P} (h : SymN n a m b mid nn pp lo hi H A.length B.length P1.length) {i j : Nat} (h1 : lo ≤ i) (h2 : i < j) (h3 : j ≤ hi) :
    ∃ hh ii : Nat, i ≤ hh ∧ hh < j ∧ hh - a + 1 ≤ H ∧ a ≤ hh ∧ ((i : Int) + (j : Int)) / 2 = (hh : Int) ∧ IntKind.i64.wrap ((i : Int) + (j : Int)) = (i : Int) + (j : Int) ∧ IntKind.u64.wrap ((i : Int) + (j : Int)) = (i : Int) + (j : Int) ∧ IntKind.i64.wrap (hh : Int) = (hh : Int) ∧ IntKind.i64.wrap ((pp : Int) - (hh : Int)) = (ii : Int) ∧
      ((0 : Int) ≤ (hh : Int) ∧ (hh : Int) < (n : Int) ∧ (0 : Int) ≤ (ii : Int) ∧ (ii : Int) < (n : Int)) ∧
      ∀ W g, PBlk W g n (P1 ++ (A ++ (B ++ P2))) → PCell W g (ii * 4) (B.getD (H - 1 - (hh - a)) Po.zero) ∧ PCell W g (hh * 4) (A.getD (hh - a) Po.zero) := by
  obtain ⟨hn, ha, hm, hb, hbn, hA, hB, hmid, hH, hnn, hpp, hlo, hhi⟩ := h
  have hii : pp - (i + j) / 2 = m + (H - 1 - ((i + j) / 2 - a)) := by omega
  refine ⟨(i + j) / 2, pp - (i + j) / 2, by omega, by omega, by omega, by omega, half_nat i j, by rw [IntKind.wrap_i64]; omega, by rw [IntKind.wrap_u64]; omega, by rw [IntKind.wrap_i64]; omega, by rw [IntKind.wrap_i64]; omega, ⟨by omega, by omega, by omega, by omega⟩, fun W g hb => ?_⟩
  have c1 := hb.cell (pp - (i + j) / 2) (by omega)
  have c2 := hb.cell ((i + j) / 2) (by omega)
  rw [← List.append_assoc, getD_off (P1 ++ A) B P2 _ (H - 1 - ((i + j) / 2 - a)) (by rw [List.length_append]; omega) (by omega)] at c1
  rw [getD_off P1 A (B ++ P2) _ ((i + j) / 2 - a) (by omega) (by omega)] at c2
  exact ⟨c1, c2⟩

set_option maxHeartbeats 1000000 in
/-- behind the search -/
theorem SymN.tail {f n a m b mid nn pp lo hi H : Nat} {P1 A B P2 : List Po.P} (h : SymN n a m b mid nn pp lo hi H A.length B.length P1.length) (ih : SymC f) (hf : A.length + B.length ≤ f + 1) (hlen : P1.length + A.length + B.length + P2.length = n) {i : Nat} (h1 : lo ≤ i) (h2 : i ≤ hi) (sA : So.Sorted Po.less A) (sB : So.Sorted Po.less B)
    (HH : (i = lo ∨ Po.less (B.getD (H - (i - a)) Po.zero) (A.getD (i - a - 1) Po.zero) = false) ∧ (i = hi ∨ Po.less (B.getD (H - 1 - (i - a)) Po.zero) (A.getD (i - a) Po.zero) = true)) :
    ∃ (en : Nat) (A1 A2 B1 B2 : List Po.P), IntKind.i64.wrap ((nn : Int) - (i : Int)) = (en : Int) ∧ (∀ W g, PBlk W g n (P1 ++ (A ++ (B ++ P2))) → PBlk W g n (P1 ++ (A1 ++ (A2 ++ (B1 ++ (B2 ++ P2)))))) ∧
      (¬ (a < i ∧ i < mid) → So.Sorted Po.less (A1 ++ B1)) ∧ (¬ (mid < en ∧ en < b) → So.Sorted Po.less (A2 ++ B2)) ∧
      (¬ (i < m ∧ m < en) → ∀ W g, PBlk W g n (P1 ++ (A1 ++ (A2 ++ (B1 ++ (B2 ++ P2))))) → PBlk W g n (P1 ++ (A1 ++ (B1 ++ (A2 ++ (B2 ++ P2)))))) ∧
      (i < m → m < en → ∀ W g c, PBlk W g n (P1 ++ (A1 ++ (A2 ++ (B1 ++ (B2 ++ P2))))) → Calls Try.prog 43 #[.slice (some ⟨g, 0, none⟩) n c, .int .i64 i, .int .i64 m, .int .i64 en, cmpv] W fun e w' => e = .returned (.tuple #[]) ∧ PBlk w' g n (P1 ++ (A1 ++ (B1 ++ (A2 ++ (B2 ++ P2))))) ∧ W.grownBy w' (some g)) ∧
      (a < i → i < mid → ∀ W g c, PBlk W g n (P1 ++ (A1 ++ (B1 ++ (A2 ++ (B2 ++ P2))))) → Calls Try.prog 42 #[.slice (some ⟨g, 0, none⟩) n c, .int .i64 a, .int .i64 i, .int .i64 mid, cmpv] W fun e w' => ∃ X, e = .returned (.tuple #[]) ∧ PBlk w' g n (P1 ++ X ++ (A2 ++ (B2 ++ P2))) ∧ So.Stab Po.less (A1 ++ B1) X ∧ So.Sorted Po.less X ∧ W.grownBy w' (some g)) ∧
      (mid < en → en < b → ∀ X1 W g c, PBlk W g n (P1 ++ X1 ++ (A2 ++ (B2 ++ P2))) → Calls Try.prog 42 #[.slice (some ⟨g, 0, none⟩) n c, .int .i64 mid, .int .i64 en, .int .i64 b, cmpv] W fun e w' => ∃ X, e = .returned (.tuple #[]) ∧ PBlk w' g n (P1 ++ X1 ++ X ++ P2) ∧ So.Stab Po.less (A2 ++ B2) X ∧ So.Sorted Po.less X ∧ W.grownBy w' (some g)) ∧
      (∀ X1 X2, So.Stab Po.less (A1 ++ B1) X1 → So.Sorted Po.less X1 → So.Stab Po.less (A2 ++ B2) X2 → So.Sorted Po.less X2 → So.Sorted Po.less (X1 ++ X2) ∧ So.Stab Po.less (A ++ B) (X1 ++ X2)) := by
  obtain ⟨hn, ha, hm, hb, hbn, hA, hB, hmid, hH, hnn, hpp, hlo, hhi⟩ := h
  obtain ⟨s, hs'⟩ : ∃ s, s = i - a := ⟨_, rfl⟩
  have hcross := So.sym_cross Po.less_sw (A := A) (B := B) Po.zero sA sB H s (by omega) (by omega) (by
    rcases HH.1 with e | e
    · left; omega
    · right; rw [hs']; exact e) (by
    rcases HH.2 with e | e
    · left; omega
    · right; rw [hs']; exact e)
  obtain ⟨A1, hA1⟩ : ∃ A1, A1 = A.take s := ⟨_, rfl⟩
  obtain ⟨A2, hA2⟩ : ∃ A2, A2 = A.drop s := ⟨_, rfl⟩
  obtain ⟨B1, hB1⟩ : ∃ B1, B1 = B.take (H - s) := ⟨_, rfl⟩
  obtain ⟨B2, hB2⟩ : ∃ B2, B2 = B.drop (H - s) := ⟨_, rfl⟩
  have lA1 : A1.length = s := by rw [hA1, List.length_take]; omega
  have lA2 : A2.length = A.length - s := by rw [hA2, List.length_drop]
  have lB1 : B1.length = H - s := by rw [hB1, List.length_take]; omega
  have lB2 : B2.length = B.length - (H - s) := by rw [hB2, List.length_drop]
  have eA : A = A1 ++ A2 := by rw [hA1, hA2, List.take_append_drop]
  have eB : B = B1 ++ B2 := by rw [hB1, hB2, List.take_append_drop]
  rw [← hA1, ← hA2, ← hB1, ← hB2] at hcross
  rw [eA] at sA
  rw [eB] at sB
  have hAs := So.sorted_app.mp sA
  have hBs := So.sorted_app.mp sB
  refine ⟨nn - i, A1, A2, B1, B2, by rw [IntKind.wrap_i64]; omega, ?_, ?_, ?_, ?_, ?_, ?_, ?_, ?_⟩
  · intro W g hW
    rw [eA, eB] at hW; simpa using hW
  · intro hx
    by_cases hz : A1.length = 0
    · rw [List.length_eq_zero_iff.mp hz, List.nil_append]; exact hBs.1
    · have : B1.length = 0 := by omega
      rw [List.length_eq_zero_iff.mp this, List.append_nil]; exact hAs.1
  · intro hx
    by_cases hz : A2.length = 0
    · rw [List.length_eq_zero_iff.mp hz, List.nil_append]; exact hBs.2.1
    · have : B2.length = 0 := by omega
      rw [List.length_eq_zero_iff.mp this, List.append_nil]; exact hAs.2.1
  · intro hx W g hW
    by_cases hz : A2.length = 0
    · rw [List.length_eq_zero_iff.mp hz] at hW ⊢; simpa using hW
    · have : B1.length = 0 := by omega
      rw [List.length_eq_zero_iff.mp this] at hW ⊢; simpa using hW
  · intro h1 h2 W g c hW
    refine (rotate_any g n c (P1 ++ A1) A2 B1 (B2 ++ P2) i m (nn - i) cmpv W hn (by simpa using hW) (by rw [List.length_append]; omega) (by omega) (by omega) (by omega) (by omega)).mono ?_
    rintro e w' ⟨h1, h2, h3⟩
    exact ⟨h1, by simpa using h2, h3⟩
  · intro h1 h2 W g c hW
    exact ih g n c P1 A1 B1 (A2 ++ (B2 ++ P2)) a i mid W hn (by omega) hW (by omega) (by omega) (by omega) (by omega) (by omega) hAs.1 hBs.1
  · intro h1 h2 X1 W g c hW
    have hl := hW.len
    simp only [List.length_append] at hl
    exact ih g n c (P1 ++ X1) A2 B2 P2 mid (nn - i) b W hn (by omega) hW (by rw [List.length_append]; omega) (by omega) (by omega) (by omega) (by omega) hAs.2.1 hBs.2.1
  · intro X1 X2 s1 o1 s2 o2
    have := So.sym_join Po.less_sw sA sB hcross.1 hcross.2 s1 o1 s2 o2
    rw [eA, eB]; exact this
end Go.Proofs.Ytmafbgfldojbbaa
