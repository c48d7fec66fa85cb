/- What is asked of the program's own functions over names; the laws NameOf, NameParse and NameOrders, given that. -/
import Derived.Test.YtaikgdgajkggiaaDoorN0
namespace Go.Proofs.YtaikgdgajkggiaaDoor
open Go.RowKit

/-- OK or ErrArg -/
def ncode (b : Bool) : Nat := if b = true then 0 else 1
/-- is there a file? -/
def nthere (f : Na.F) : Bool := decide (f ≠ (0, 0))
def NOfC : Prop := ∀ (k n : Int) (w : World), (-9223372036854775808 ≤ k ∧ k ≤ 9223372036854775807) → (-9223372036854775808 ≤ n ∧ n ≤ 9223372036854775807) → Tab w → Calls Tryd.prog 7 #[.agg #[.int .i64 k, .int .i64 n]] w fun e w' => ∃ s, e = .returned (.tuple #[.string s, .int .i64 (ncode (Na.may (k, n)) : Nat)]) ∧ kb s = Na.of (k, n) ∧ Below w.heap.size w w'
def NParseC : Prop := ∀ (s : ByteArray) (w : World), s.size ≤ 500 → Calls Tryd.prog 10 #[.string s] w fun e w' => e = .returned (.tuple #[.agg #[.int .i64 (Na.parse (kb s)).1, .int .i64 (Na.parse (kb s)).2], .bool (nthere (Na.parse (kb s)))]) ∧ Below w.heap.size w w'

theorem na512 : Na.of (5, 12) = [116, 48, 48, 48, 48, 48, 48, 48, 48, 49, 50] := by decide
set_option maxRecDepth 100000 in
set_option maxHeartbeats 1000000 in
theorem naawake (hO : NOfC) (w : World) (hT : Tab w) : Calls Tryd.prog 9 #[] w fun e w' => e = .returned (.bool true) ∧ Below w.heap.size w w' := by
  have ho : ∀ W, Tab W → Calls Tryd.prog 7 #[.agg #[.int .i64 5, .int .i64 12]] W fun e w' => ∃ s, e = .returned (.tuple #[.string s, .int .i64 0]) ∧ kb s = [116, 48, 48, 48, 48, 48, 48, 48, 48, 49, 50] ∧ Below W.heap.size W w' := fun W hW => by
    have := hO 5 12 W (by decide) (by decide) hW
    rw [na512] at this
    exact this
  go_enter Tryd.func9, Tryd.ntmps9
  go_wp2_with (go_at_call 7; go_must (refine (ho _ hT).mono ?_; rintro e w1 ⟨s, rfl, hk, hbel1⟩; obtain rfl : s = ⟨#[116, 48, 48, 48, 48, 48, 48, 48, 48, 49, 50]⟩ := kb_inj (by rw [hk]; decide)))
  go_ret
  exact ⟨by simp, hbel1⟩

set_option maxRecDepth 100000 in
set_option maxHeartbeats 1000000 in
theorem naparse_long (hO : NOfC) (s : ByteArray) (w : World) (hT : Tab w) (hl : 500 < s.size) (hm : s.size ≤ maxLen) :
    Calls Tryd.prog 4 #[.string s] w fun e w' => e = .returned (.bool true) ∧ Below w.heap.size w w' := by
  have hA := fun W (h : Tab W) => naawake hO W h
  unfold maxLen at hm
  go_enter Tryd.func4, Tryd.ntmps4
  go_wp2_with (go_at_call 9; refine (hA _ hT).mono ?_; rintro e w1 ⟨rfl, hbel⟩)
  go_ret
  exact ⟨rfl, hbel⟩

theorem parse_there (s : List Nat) : Na.parse s = (0, 0) ∨ (1 ≤ (Na.parse s).1 ∧ Na.parse s ≠ (0, 0)) := by
  by_cases h : Na.parse s = (0, 0)
  · exact .inl h
  · refine .inr ⟨?_, h⟩
    have := (Na.of_parse h).1
    simp only [Na.may, decide_eq_true_eq] at this
    rcases this with e | e | e
    · rw [e]; decide
    · rw [e]; decide
    · omega

set_option maxRecDepth 100000 in
set_option maxHeartbeats 1000000 in
theorem naparse_any (hO : NOfC) (hP : NParseC) (s : ByteArray) (w : World) (hT : Tab w) (hl : s.size ≤ 500) :
    Calls Tryd.prog 4 #[.string s] w fun e w' => e = .returned (.bool true) ∧ Below w.heap.size w w' := by
  have hA := fun W (h : Tab W) => naawake hO W h
  have h1 := fun W => hP s W hl
  have h2 := fun W => nparse_any s W
  simp only [fv] at h2
  have h3 := parse_there (kb s)
  generalize Na.parse (kb s) = P at *
  obtain ⟨k, n⟩ := P
  simp only at h1 h2 h3
  rcases h3 with h3 | ⟨h3, h4⟩
  · simp only [Prod.mk.injEq] at h3
    obtain ⟨rfl, rfl⟩ := h3
    have h1 : ∀ W, Calls Tryd.prog 10 #[.string s] W fun e w' => e = .returned (.tuple #[.agg #[.int .i64 0, .int .i64 0], .bool false]) ∧ Below W.heap.size W w' := h1
    go_enter Tryd.func4, Tryd.ntmps4
    go_wp2_with (first
      | (go_at_call 9; have := hb2; go_must (refine (hA _ (hT.next hb2 _)).mono ?_; rintro e w3 ⟨rfl, hbel3⟩))
      | (go_at_call 11; have := hbel1; go_must (refine (h2 _).mono ?_; rintro e w2 ⟨rfl, hbel2⟩; obtain ⟨n0, n1, _, _, hbw2, hlt2⟩ := two_keep hbel2; have hb2 := hbel1.trans (hbw2.mono hbel1.size)))
      | (go_at_call 10; go_must (refine (h1 _).mono ?_; rintro e w1 ⟨rfl, hbel1⟩)))
    have hb3 := hb2.alloc hb2.size (.cells #[.int .i64 0, .int .i64 0] 23)
    go_ret
    exact ⟨by simp, hb3.trans (hbel3.mono hb3.size)⟩
  · have h1 : ∀ W, Calls Tryd.prog 10 #[.string s] W fun e w' => e = .returned (.tuple #[.agg #[.int .i64 k, .int .i64 n], .bool true]) ∧ Below W.heap.size W w' := by
      have : nthere (k, n) = true := by simp only [nthere, decide_eq_true_eq]; exact h4
      rw [this] at h1
      exact h1
    have hd : decide (0 < k) = true := by simp; omega
    go_enter Tryd.func4, Tryd.ntmps4
    go_wp2_with (first
      | (go_at_call 9; have := hb2; go_must (refine (hA _ (hT.next hb2 _)).mono ?_; rintro e w3 ⟨rfl, hbel3⟩))
      | (go_at_call 11; have := hbel1; go_must (refine (h2 _).mono ?_; rintro e w2 ⟨rfl, hbel2⟩; obtain ⟨n0, n1, _, _, hbw2, hlt2⟩ := two_keep hbel2; have hb2 := hbel1.trans (hbw2.mono hbel1.size)))
      | (go_at_call 10; go_must (refine (h1 _).mono ?_; rintro e w1 ⟨rfl, hbel1⟩)))
    have hb3 := hb2.alloc hb2.size (.cells #[.int .i64 k, .int .i64 n] 23)
    go_ret
    exact ⟨by simp, hb3.trans (hbel3.mono hb3.size)⟩

set_option maxRecDepth 100000 in
set_option maxHeartbeats 1000000 in
theorem naof_any (hO : NOfC) (hP : NParseC) (k n : Int) (w : World) (hk : -9223372036854775808 ≤ k ∧ k ≤ 9223372036854775807) (hn : -9223372036854775808 ≤ n ∧ n ≤ 9223372036854775807) (hT : Tab w) :
    Calls Tryd.prog 3 #[.agg #[.int .i64 k, .int .i64 n]] w fun e w' => e = .returned (.bool true) ∧ Below w.heap.size w w' := by
  have hA := fun W (h : Tab W) => naawake hO W h
  have ho := fun W (h : Tab W) => hO k n W hk hn h
  have hr := fun W => nof_any (k, n) W
  simp only [fv] at hr
  cases hM : Na.may (k, n) with
  | false =>
    rw [hM, Na.of_empty.mpr hM] at ho
    rw [Na.of_empty.mpr hM] at hr
    have ho : ∀ W, Tab W → Calls Tryd.prog 7 #[.agg #[.int .i64 k, .int .i64 n]] W fun e w' => ∃ s, e = .returned (.tuple #[.string s, .int .i64 1]) ∧ kb s = [] ∧ Below W.heap.size W w' := ho
    clear hM
    go_enter Tryd.func3, Tryd.ntmps3
    go_wp2_with (first
      | (go_at_call 9; have := hb2; go_must (refine (hA _ (hT.keep hb2)).mono ?_; rintro e w3 ⟨rfl, hbel3⟩))
      | (go_at_call 8; have := hbel1; go_must (refine (hr _).mono ?_; rintro e w2 ⟨s2, rfl, hk2, hbel2⟩; obtain rfl := (kb_nil s2).mp hk2; have hb2 := hbw1.trans (hbel2.mono hbw1.size)))
      | (go_at_call 7; go_must (refine (ho _ (hT.new _)).mono ?_; rintro e w1 ⟨s1, rfl, hk1, hbel1⟩; obtain rfl := (kb_nil s1).mp hk1; obtain ⟨n0, n1, _, _, hbw1, hlt1⟩ := two_keep hbel1)))
    go_ret
    exact ⟨by simp, hb2.trans (hbel3.mono hb2.size)⟩
  | true =>
    have hp := Na.parse_of hM
    have hne : Na.of (k, n) ≠ [] := fun e => by rw [Na.of_empty.mp e] at hM; cases hM
    rw [hM] at ho
    have ho : ∀ W, Tab W → Calls Tryd.prog 7 #[.agg #[.int .i64 k, .int .i64 n]] W fun e w' => ∃ s, e = .returned (.tuple #[.string s, .int .i64 0]) ∧ kb s = Na.of (k, n) ∧ Below W.heap.size W w' := ho
    have hlen : (Na.of (k, n)).length ≤ 11 := by
      unfold Na.of
      repeat' split
      all_goals simp [Na.roster, Na.rosterNew, Na.dig_len]
    have h1 : ∀ (s : ByteArray) (W : World), kb s = Na.of (k, n) → Calls Tryd.prog 10 #[.string s] W fun e w' => e = .returned (.tuple #[.agg #[.int .i64 k, .int .i64 n], .bool true]) ∧ Below W.heap.size W w' := fun s W hs => by
      have := hP s W (by rw [← kb_len, hs]; omega)
      rw [hs, hp] at this
      have e : nthere (k, n) = true := by
        simp only [nthere, decide_eq_true_eq]
        intro e
        rw [e] at hM
        exact absurd hM (by decide)
      rw [e] at this
      exact this
    have Hne : Hid (Na.of (k, n) ≠ []) := hne
    clear hM hp hlen hne
    go_enter Tryd.func3, Tryd.ntmps3
    go_wp2_with (first
      | (go_at_call 9; have := hb3; go_must (refine (hA _ (hT.next hb3 _)).mono ?_; rintro e w4 ⟨rfl, hbel4⟩))
      | (go_at_call 10; have := hb2; go_must (refine (h1 _ _ hk1).mono ?_; rintro e w3 ⟨rfl, hbel3⟩; have hb3 := hb2.trans (hbel3.mono hb2.size); obtain ⟨x0, x1, _, _, _, hlt3⟩ := two_keep (hb02.trans (hbel3.mono hb02.size))))
      | (go_at_call 8; have := hbel1; go_must (refine (hr _).mono ?_; rintro e w2 ⟨s2, rfl, hk2, hbel2⟩; obtain rfl : s1 = s2 := kb_inj (hk1.trans hk2.symm); have hb02 := hbel1.trans (hbel2.mono hbel1.size); have hb2 := hbw1.trans (hbel2.mono hbw1.size); have hse : s1.toList.isEmpty = false := by rw [isEmpty_kb]; exact decide_eq_false (fun e => Hne.out (by rw [← hk1, e]; rfl))))
      | (go_at_call 7; go_must (refine (ho _ (hT.new _)).mono ?_; rintro e w1 ⟨s1, rfl, hk1, hbel1⟩; obtain ⟨n0, n1, _, _, hbw1, hlt1⟩ := two_keep hbel1)))
    have hb4 := hb3.alloc hb3.size (.cells #[.int .i64 k, .int .i64 n] 23)
    go_ret
    exact ⟨by simp, hb4.trans (hbel4.mono hb4.size)⟩
end Go.Proofs.YtaikgdgajkggiaaDoor
