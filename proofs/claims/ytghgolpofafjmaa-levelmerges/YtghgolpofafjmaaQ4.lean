/- What the program's compare and Less of points do. -/
import Derived.Test.YtghgolpofafjmaaBS
namespace Go.Proofs.Ytghgolpofafjmaa
open Go.RowKit

/-- Compare of two integers -/
def icmp (a b : Int) : Int := if a < b then -1 else if b < a then 1 else 0
theorem icmp_lt {a b : Int} (h : a < b) : icmp a b = -1 := by simp [icmp, h]
theorem icmp_gt {a b : Int} (h : b < a) : icmp a b = 1 := by rw [icmp, if_neg (by omega), if_pos h]
theorem icmp_eq (a : Int) : icmp a a = 0 := by rw [icmp, if_neg (by omega), if_neg (by omega)]
theorem icmp_zero {a b : Int} : icmp a b = 0 ↔ a = b := by unfold icmp; split <;> (try split) <;> omega
theorem icmp_abs (a b : Int) : -1 ≤ icmp a b ∧ icmp a b ≤ 1 := by unfold icmp; split <;> (try split) <;> omega
/-- the first of two that is not zero -/
def or2 (x y : Int) : Int := if x = 0 then y else x
def pcmp (f g : Po.P) : Int := if icmp f.1 g.1 = 0 then icmp f.2.1 g.2.1 else icmp f.1 g.1
theorem pcmp_less (f g : Po.P) : decide (pcmp f g < 0) = Po.less f g := by
  unfold pcmp Po.less
  by_cases h : f.1 = g.1
  · rw [if_pos (icmp_zero.mpr h), if_pos h]; unfold icmp; congr 1; apply propext; constructor <;> intro h' <;> (repeat' split at *) <;> omega
  · rw [if_neg (fun e => h (icmp_zero.mp e)), if_neg h]; unfold icmp; congr 1; apply propext; constructor <;> intro h' <;> (repeat' split at *) <;> omega

set_option maxRecDepth 100000 in
set_option maxHeartbeats 400000 in
theorem isnan_any (a : Int) (w : World) : Calls Try.prog 58 #[.int .i64 a] w fun e w' => e = .returned (.bool false) ∧ w' = w := by
  go_enter Try.func58, Try.ntmps58
  go_wp2
  go_ret
  exact ⟨by simp, rfl⟩

set_option maxRecDepth 100000 in
set_option maxHeartbeats 400000 in
theorem compare_any (a b : Int) (w : World) : Calls Try.prog 43 #[.int .i64 a, .int .i64 b] w fun e w' => e = .returned (.int .i64 (icmp a b)) ∧ w' = w := by
  rcases Int.lt_trichotomy a b with h | h | h
  · have H : Hid (icmp a b = -1) := icmp_lt h
    generalize icmp a b = r at *
    go_enter Try.func43, Try.ntmps43
    go_wp2_with (go_at_call 58; refine (isnan_any _ _).mono ?_; rintro e w' ⟨rfl, rfl⟩)
    go_ret
    exact ⟨ret_int H.out.symm, rfl⟩
  · subst h
    have H : Hid (icmp a a = 0) := icmp_eq a
    generalize icmp a a = r at *
    go_enter Try.func43, Try.ntmps43
    go_wp2_with (go_at_call 58; refine (isnan_any _ _).mono ?_; rintro e w' ⟨rfl, rfl⟩)
    go_ret
    exact ⟨ret_int H.out.symm, rfl⟩
  · have H : Hid (icmp a b = 1) := icmp_gt h
    generalize icmp a b = r at *
    have h' : ¬ a < b := by omega
    go_enter Try.func43, Try.ntmps43
    go_wp2_with (go_at_call 58; refine (isnan_any _ _).mono ?_; rintro e w' ⟨rfl, rfl⟩)
    go_ret
    exact ⟨ret_int H.out.symm, rfl⟩

end Go.Proofs.Ytghgolpofafjmaa
