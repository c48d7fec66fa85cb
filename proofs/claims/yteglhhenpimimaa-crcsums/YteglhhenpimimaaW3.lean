/- What the law CrcSums does. -/
import Derived.Test.YteglhhenpimimaaW2
namespace Go.Proofs.Yteglhhenpimimaa
open Go.RowKit

set_option maxHeartbeats 400000 in
theorem sums_any (s : Nat) (a : Option Addr) (len cap : Nat) (bs : List Nat) (w : World) (hs : s < 4294967296) (hl : len ≤ 2000) (hrow : Row w a len bs) :
    Calls Try.prog 3 #[.int .u32 s, .slice a len cap] w fun e w' => e = .returned (.bool true) ∧ Below w.heap.size w w' := by
  go_enter Try.func3, Try.ntmps3
  go_wp2_with (first | (go_at_call 8; refine (of_any _ _ _ _ _ hrow).mono ?_; rintro e w' ⟨rfl, rfl⟩) | (go_at_call 9; refine (refof_any _ _ _ _ _ hrow).mono ?_; rintro e w' ⟨rfl, rfl⟩) | (go_at_call 10; refine (more_any _ _ _ _ _ _ hs hrow).mono ?_; rintro e w' ⟨rfl, rfl⟩) | (go_at_call 11; refine (refmore_any _ _ _ _ _ _ hs hrow).mono ?_; rintro e w' ⟨rfl, rfl⟩) | (go_at_call 7; refine (awake_any _).mono ?_; rintro e w' ⟨rfl, hbel⟩))
  go_ret
  exact ⟨rfl, by assumption⟩
set_option maxHeartbeats 400000 in
theorem sums_long (s : Int) (a : Option Addr) (len cap : Nat) (w : World) (hl : 2000 < len) :
    Calls Try.prog 3 #[.int .u32 s, .slice a len cap] w fun e w' => e = .returned (.bool true) ∧ Below w.heap.size w w' := by
  go_enter Try.func3, Try.ntmps3
  go_wp2_with (go_at_call 7; refine (awake_any _).mono ?_; rintro e w' ⟨rfl, hbel⟩)
  go_ret
  exact ⟨rfl, by assumption⟩
end Go.Proofs.Yteglhhenpimimaa
