/- What the program's Check of a point does. -/
import Derived.Test.YtgdefibgifcbaaaBS
namespace Go.Proofs.Ytgdefibgifcbaaa
open Go.RowKit

set_option maxRecDepth 100000 in
set_option maxHeartbeats 1000000 in
theorem pcheck_any : ∀ (p : Po.P) (w : World), Po.Fits p → Calls Try.prog 30 #[pv p] w fun e w' => e = .returned (.int .i64 (if Po.may p = true then 0 else 1 : Nat)) ∧ Below w.heap.size w w' := by
  intro p w hf
  obtain ⟨s, a, l, m⟩ := p
  obtain ⟨r, hr⟩ : ∃ r : Nat, r = if Po.may (s, a, l, m) = true then 0 else 1 := ⟨_, rfl⟩
  simp only [pv]
  rw [← hr]
  have hb := below_alloc w (.cells #[.int .i64 s, .int .i64 a, .int .i64 l, .int .u32 (m : Nat)] 32)
  have done : ∀ (z : Nat) (c : Bool), z = (if c = true then 0 else 1) → c = decide (1 ≤ s ∧ s ≤ 2147483647 ∧ 0 ≤ a ∧ a ≤ 2147483647 ∧ 0 ≤ l ∧ l ≤ 4096) → Ending.returned (.int .i64 (z : Nat)) = .returned (.int .i64 (r : Nat)) := by
    intro z c hz hc
    rw [hz, hr, hc]; rfl
  have Done : Hid (_) := done
  clear done hr
  go_enter Try.func30, Try.ntmps30
  by_cases h1 : 1 ≤ s
  · by_cases h2 : s ≤ 2147483647
    · by_cases h3 : 0 ≤ a
      · by_cases h4 : a ≤ 2147483647
        · by_cases h5 : 0 ≤ l
          · by_cases h6 : l ≤ 4096
            · go_wp2
              go_ret
              exact ⟨Done.out 0 true rfl (decide_eq_true (by omega)).symm, hb⟩
            · go_wp2
              go_ret
              exact ⟨Done.out 1 false rfl (decide_eq_false (by omega)).symm, hb⟩
          · go_wp2
            go_ret
            exact ⟨Done.out 1 false rfl (decide_eq_false (by omega)).symm, hb⟩
        · go_wp2
          go_ret
          exact ⟨Done.out 1 false rfl (decide_eq_false (by omega)).symm, hb⟩
      · go_wp2
        go_ret
        exact ⟨Done.out 1 false rfl (decide_eq_false (by omega)).symm, hb⟩
    · go_wp2
      go_ret
      exact ⟨Done.out 1 false rfl (decide_eq_false (by omega)).symm, hb⟩
  · go_wp2
    go_ret
    exact ⟨Done.out 1 false rfl (decide_eq_false (by omega)).symm, hb⟩
end Go.Proofs.Ytgdefibgifcbaaa
