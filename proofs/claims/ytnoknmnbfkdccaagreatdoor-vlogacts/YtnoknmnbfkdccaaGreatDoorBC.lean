/- What bytes.Clone does. -/
import Derived.Test.YtnoknmnbfkdccaaGreatDoorGa
import Derived.Lib.Slices
namespace Go.Proofs.YtnoknmnbfkdccaaGreatDoor
open Go.RowKit

set_option maxRecDepth 100000 in
set_option maxHeartbeats 400000 in
theorem bclone_any (a : Option Addr) (n c : Nat) (bs : List Nat) (w : World) (hr : Row .u8 w a n bs) (hn : a = none → n = 0 ∧ c = 0) (hsm : n ≤ 1000000) :
    Calls Tryz.prog 85 #[.slice a n c] w fun e w' => ∃ a' c', e = .returned (.slice a' n c') ∧ w'.ownsRow w.heap.size 5 1 (.slice a' n c') n (kcells .u8 bs) ∧ Below w.heap.size w w' := by
  cases a with
  | none =>
    obtain ⟨rfl, rfl⟩ := hn rfl
    obtain rfl : bs = [] := List.length_eq_zero_iff.mp hr.1
    go_enter Tryz.func85, Tryz.ntmps85
    go_wp2_with fail
    rw [Lib.run_eql_slice_nil _ 39 5 none 0 0 0 0 Tryz.underlying39]
    go_wp2
    go_ret
    exact ⟨none, 0, rfl, ⟨rfl, .inl ⟨rfl, rfl⟩⟩, Below.refl _ _⟩
  | some p =>
    have hb0 : Below w.heap.size w (w.alloc (.cells #[] 5)) := below_alloc w _
    have ho := made_at w 5 w.heap.size rfl (Nat.le_refl _)
    go_enter Tryz.func85, Tryz.ntmps85
    go_wp2_with fail
    rw [Lib.run_eql_slice_nil _ 39 5 (some p) n c 0 0 Tryz.underlying39]
    go_wp2_with (at_builtin; go_must (refine append_u8 (w0 := w) rfl (.tmp 5) (.tmp 6) rfl _ 0 [] rfl ho (some p) n c bs rfl (hr.below hb0 (Nat.le_refl _)) hn (by omega) hb0 (by simp) ?_; intro a' c' w1 hown1 hbel1 hB1; rw [Nat.zero_add, List.nil_append] at hown1))
    go_ret
    exact ⟨a', c', by simp, hown1, hbel1⟩
end Go.Proofs.YtnoknmnbfkdccaaGreatDoor
