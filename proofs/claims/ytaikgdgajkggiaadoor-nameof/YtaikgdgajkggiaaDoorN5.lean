/- The law NameOrders, given the program's contracts. -/
import Derived.Test.YtaikgdgajkggiaaDoorN4
namespace Go.Proofs.YtaikgdgajkggiaaDoor
open Go.RowKit

/-- names of one kind: their order -/
theorem na_order {k a b : Int} (h1 : Na.may (k, a) = true) (h2 : Na.may (k, b) = true) : Na.lt (Na.of (k, a)) (Na.of (k, b)) = decide (a < b) ∧ (Na.of (k, a) = Na.of (k, b) ↔ a = b) := by
  simp only [Na.may, decide_eq_true_eq, Prod.mk.injEq] at h1 h2
  by_cases hk : 3 ≤ k
  · exact Na.of_lt (by omega) (by omega) (by omega)
  · obtain rfl : a = 0 := by omega
    obtain rfl : b = 0 := by omega
    have hk2 : k = 1 ∨ k = 2 := by omega
    rcases hk2 with rfl | rfl
    · exact ⟨by decide, by simp⟩
    · exact ⟨by decide, by simp⟩
theorem less_list : ∀ l m : List UInt8, Op.bytesLess l m = Na.lt (l.map (·.toNat)) (m.map (·.toNat))
  | [], [] => rfl
  | _ :: _, [] => rfl
  | [], _ :: _ => by simp [Op.bytesLess, Na.lt]
  | a :: x, b :: y => by
    simp only [Op.bytesLess, List.map_cons, Na.lt, less_list x y]
    by_cases h1 : a < b
    · have : a.toNat < b.toNat := h1
      simp [h1, this]
    · have h1' : ¬ a.toNat < b.toNat := h1
      by_cases h2 : a = b
      · subst h2; simp [h1]
      · have h2' : ¬ a.toNat = b.toNat := fun e => h2 (UInt8.toNat_inj.mp e)
        simp [h1, h2, h1', h2']
theorem less_kb (s t : ByteArray) : Op.bytesLess s.toList t.toList = Na.lt (kb s) (kb t) := by
  rw [less_list, Lib.toList_data, Lib.toList_data]; rfl

set_option maxRecDepth 100000 in
set_option maxHeartbeats 1000000 in
theorem naorders_any (hO : NOfC) (k a b : Int) (w : World) (hk : -9223372036854775808 ≤ k ∧ k ≤ 9223372036854775807) (ha : -9223372036854775808 ≤ a ∧ a ≤ 9223372036854775807) (hb : -9223372036854775808 ≤ b ∧ b ≤ 9223372036854775807) (hT : Tab w) :
    Calls Tryd.prog 6 #[.int .i64 k, .int .i64 a, .int .i64 b] w fun e w' => e = .returned (.bool true) ∧ Below w.heap.size w w' := by
  have hA := fun W (h : Tab W) => naawake hO W h
  have ho1 := fun W (h : Tab W) => hO k a W hk ha h
  have ho2 := fun W (h : Tab W) => hO k b W hk hb h
  cases h1 : Na.may (k, a) with
  | false =>
    rw [h1] at ho1
    have ho1 : ∀ W, Tab W → Calls Tryd.prog 7 #[.agg #[.int .i64 k, .int .i64 a]] W fun e w' => ∃ s, e = .returned (.tuple #[.string s, .int .i64 1]) ∧ kb s = Na.of (k, a) ∧ Below W.heap.size W w' := ho1
    obtain ⟨c, hc⟩ : ∃ c : Nat, c = ncode (Na.may (k, b)) := ⟨_, rfl⟩
    rw [← hc] at ho2
    clear hc h1
    go_enter Tryd.func6, Tryd.ntmps6
    go_wp2_with (first
      | (go_at_call 9; have := hb2; go_must (refine (hA _ (hT.keep hb2)).mono ?_; rintro e w3 ⟨rfl, hbel3⟩))
      | (go_at_call 7; have := hbel1; go_must (refine (ho2 _ (hT.keep hbel1)).mono ?_; rintro e w2 ⟨s2, rfl, hk2, hbel2⟩; have hb2 := hbel1.trans (hbel2.mono hbel1.size)))
      | (go_at_call 7; go_must (refine (ho1 _ hT).mono ?_; rintro e w1 ⟨s1, rfl, hk1, hbel1⟩)))
    go_ret
    exact ⟨rfl, hb2.trans (hbel3.mono hb2.size)⟩
  | true =>
    rw [h1] at ho1
    have ho1 : ∀ W, Tab W → Calls Tryd.prog 7 #[.agg #[.int .i64 k, .int .i64 a]] W fun e w' => ∃ s, e = .returned (.tuple #[.string s, .int .i64 0]) ∧ kb s = Na.of (k, a) ∧ Below W.heap.size W w' := ho1
    cases h2 : Na.may (k, b) with
    | false =>
      rw [h2] at ho2
      have ho2 : ∀ W, Tab W → Calls Tryd.prog 7 #[.agg #[.int .i64 k, .int .i64 b]] W fun e w' => ∃ s, e = .returned (.tuple #[.string s, .int .i64 1]) ∧ kb s = Na.of (k, b) ∧ Below W.heap.size W w' := ho2
      clear h1 h2
      go_enter Tryd.func6, Tryd.ntmps6
      go_wp2_with (first
        | (go_at_call 9; have := hb2; go_must (refine (hA _ (hT.keep hb2)).mono ?_; rintro e w3 ⟨rfl, hbel3⟩))
        | (go_at_call 7; have := hbel1; go_must (refine (ho2 _ (hT.keep hbel1)).mono ?_; rintro e w2 ⟨s2, rfl, hk2, hbel2⟩; have hb2 := hbel1.trans (hbel2.mono hbel1.size)))
        | (go_at_call 7; go_must (refine (ho1 _ hT).mono ?_; rintro e w1 ⟨s1, rfl, hk1, hbel1⟩)))
      go_ret
      exact ⟨rfl, hb2.trans (hbel3.mono hb2.size)⟩
    | true =>
      rw [h2] at ho2
      have ho2 : ∀ W, Tab W → Calls Tryd.prog 7 #[.agg #[.int .i64 k, .int .i64 b]] W fun e w' => ∃ s, e = .returned (.tuple #[.string s, .int .i64 0]) ∧ kb s = Na.of (k, b) ∧ Below W.heap.size W w' := ho2
      have hord : Hid (Na.lt (Na.of (k, a)) (Na.of (k, b)) = decide (a < b) ∧ (Na.of (k, a) = Na.of (k, b) ↔ a = b)) := na_order h1 h2
      clear h1 h2
      go_enter Tryd.func6, Tryd.ntmps6
      go_wp2_with (first
        | (go_at_call 9; have := hb2; go_must (refine (hA _ (hT.keep hb2)).mono ?_; rintro e w3 ⟨rfl, hbel3⟩))
        | (go_at_call 7; have := hbel1; go_must (refine (ho2 _ (hT.keep hbel1)).mono ?_; rintro e w2 ⟨s2, rfl, hk2, hbel2⟩; have hb2 := hbel1.trans (hbel2.mono hbel1.size); have hless : Op.bytesLess s1.toList s2.toList = decide (a < b) := (by rw [less_kb, hk1, hk2]; exact hord.out.1); have hsame : (s1.toList == s2.toList) = (a == b) := str_eq (a == b) (by rw [hk1, hk2, beq_iff_eq]; exact hord.out.2.symm)))
        | (go_at_call 7; go_must (refine (ho1 _ hT).mono ?_; rintro e w1 ⟨s1, rfl, hk1, hbel1⟩)))
      go_ret
      exact ⟨rfl, hb2.trans (hbel3.mono hb2.size)⟩
end Go.Proofs.YtaikgdgajkggiaaDoor
