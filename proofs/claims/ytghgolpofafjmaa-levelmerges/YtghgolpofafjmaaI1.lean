/- What the reference's Ints does. -/
import Derived.Test.YtghgolpofafjmaaGa
import Derived.Deep.QuietTactic
import Derived.BigQuiet
namespace Go.Proofs.Ytghgolpofafjmaa
open Go.RowKit

set_option maxHeartbeats 400000 in
theorem ints_any (a1 : Option Addr) (l1 c1 : Nat) (bs1 : List Nat) (a2 : Option Addr) (l2 c2 : Nat) (bs2 : List Nat) (w : World) (hr1 : Row .i64 w a1 l1 bs1) (hr2 : Row .i64 w a2 l2 bs2) :
    Calls Try.prog 14 #[.slice a1 l1 c1, .slice a2 l2 c2] w fun e w' => e = .returned (.bool (decide (bs1 = bs2))) ∧ ∃ n, w' = w.drewN n := by
  by_cases hl : l1 = l2
  · subst hl
    rcases Nat.eq_zero_or_pos l1 with h0 | h0
    · have he : Hid (decide (bs1 = bs2) = true) := (by
        have e1 := List.length_eq_zero_iff.mp (hr1.1.trans h0); have e2 := List.length_eq_zero_iff.mp (hr2.1.trans h0)
        rw [e1, e2]; rfl : decide (bs1 = bs2) = true)
      subst h0
      go_enter Try.func14, Try.ntmps14
      go_wp2
      go_loop [5] (fun i => i = .int .i64 (0 : Nat)) (fun _ => 0)
      case atStart => rfl
      case round =>
        subst hrel
        go_wp2
        go_ret
        exact ⟨by rw [he.out]; rfl, 0, rfl⟩
    · obtain ⟨b1, o1, rfl, hc1⟩ := hr1.at h0
      obtain ⟨b2, o2, rfl, hc2⟩ := hr2.at h0
      have hb := hr1.2.1
      have hlen : Hid (bs1.length = bs2.length) := (by rw [hr1.1, hr2.1] : bs1.length = bs2.length)
      have hlen1 : Hid (bs1.length = l1) := hr1.1
      clear hr1 hr2
      go_enter Try.func14, Try.ntmps14
      go_wp2
      go_loopw [5] (fun i wr => ∃ k n : Nat, k ≤ l1 ∧ i = .int .i64 k ∧ wr = w.drewN n ∧ Hid (∀ j, j < k → bs1.getD j 0 = bs2.getD j 0)) (fun i _ => l1 - (intOf i).toNat)
      case atStart => exact ⟨0, 0, by omega, rfl, rfl, (fun j hj => by omega : ∀ j, j < 0 → bs1.getD j 0 = bs2.getD j 0)⟩
      case round =>
        obtain ⟨k, n, hk, rfl, rfl, hsame⟩ := hrel
        by_cases hlt : k < l1
        · have h1 := hc1 k hlt
          have h2 := hc2 k hlt
          clear hc1 hc2
          have i0 : (0 : Int) ≤ (k : Int) := Int.natCast_nonneg _
          have i1 : (k : Int) < (l1 : Int) := by omega
          by_cases hxy : bs1.getD k 0 = bs2.getD k 0
          · have H : Hid (∀ j, j < k + 1 → bs1.getD j 0 = bs2.getD j 0) := (by
              intro j hj
              rcases Nat.lt_or_ge j k with h | h
              · exact hsame.out j h
              · obtain rfl : j = k := by omega
                exact hxy : ∀ j, j < k + 1 → bs1.getD j 0 = bs2.getD j 0)
            rw [← hxy] at h2
            clear hxy hsame
            generalize bs1.getD k 0 = x at *
            go_wp2_with fail
            go_quiet (fail)
            go_wp2
            go_roundw
            case rel => exact ⟨k + 1, _, by omega, by go_num, by first | rfl | exact (World.drewN_drewN _ _ _), H⟩
            case measure => simp [intOf]; omega
          · have he : Hid (decide (bs1 = bs2) = false) := (by simp; intro h; exact hxy (by rw [h]) : decide (bs1 = bs2) = false)
            generalize bs1.getD k 0 = x at *
            generalize bs2.getD k 0 = y at *
            have hxy' : ((x : Int) == (y : Int)) = false := by simp; omega
            go_wp2_with fail
            go_quiet (fail)
            go_wp2
            go_ret
            exact ⟨by rw [he.out]; rfl, _, by first | rfl | exact (World.drewN_drewN _ _ _)⟩
        · have he : Hid (decide (bs1 = bs2) = true) := (by
            simp; exact eq_of_getD hlen.out (fun j hj => hsame.out j (by have := hlen1.out; omega)) : decide (bs1 = bs2) = true)
          go_wp2
          go_ret
          exact ⟨by rw [he.out]; rfl, _, by first | rfl | exact (World.drewN_drewN _ _ _)⟩
  · have he : Hid (decide (bs1 = bs2) = false) := (by
      simp; intro h; apply hl; rw [← hr1.1, ← hr2.1, h] : decide (bs1 = bs2) = false)
    go_enter Try.func14, Try.ntmps14
    go_wp2
    go_ret
    exact ⟨by rw [he.out]; rfl, 0, rfl⟩
end Go.Proofs.Ytghgolpofafjmaa
