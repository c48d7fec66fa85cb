/- What the law CrcJoins does. -/
import Derived.Test.YteglhhenpimimaaW4
namespace Go.Proofs.Yteglhhenpimimaa
open Go.RowKit

theorem row_nil (w : World) : Row w none 0 [] := ⟨rfl, by omega, by simp, .inl rfl⟩
theorem small_append {a b : List Nat} (ha : ∀ n ∈ a, n < 256) (hb : ∀ n ∈ b, n < 256) : ∀ n ∈ a ++ b, n < 256 := by
  intro n hn; rcases List.mem_append.mp hn with h | h
  · exact ha n h
  · exact hb n h

set_option maxHeartbeats 400000 in
theorem joins_any (a1 a2 : Option Addr) (l1 c1 l2 c2 : Nat) (bs1 bs2 : List Nat) (w : World) (h1 : l1 ≤ 2000) (h2 : l2 ≤ 2000)
    (hr1 : Row w a1 l1 bs1) (hr2 : Row w a2 l2 bs2) (hn1 : a1 = none → l1 = 0 ∧ c1 = 0) (hn2 : a2 = none → l2 = 0 ∧ c2 = 0) :
    Calls Try.prog 4 #[.slice a1 l1 c1, .slice a2 l2 c2] w fun e w' => e = .returned (.bool true) ∧ Below w.heap.size w w' := by
  have hb0 : Below w.heap.size w (w.alloc (.cells #[] 5)) := (Below.refl _ _).alloc (Nat.le_refl _) _
  have hmade := World.ownsRow_made (base := w.heap.size) (e := 5) (size := 1) w #[] 0 (Nat.le_refl _) (by decide) (by simp)
  have hk1 := Crc.more_lt (s := 0) bs1 (by omega) hr1.2.2.1
  have hj := Crc.more_append 0 bs1 bs2
  have hnil := Crc.more_nil 0
  go_enter Try.func4, Try.ntmps4
  go_wp2_with (first | (at_builtin; refine wpList_append_row rfl (.tmp 15) (.tmp 16) rfl _ 0 [] rfl hmade a1 l1 c1 bs1 rfl (hr1.below hb0 (Nat.le_refl _)) hn1 (by omega) hb0 hb0.size ?_; intro v1 w1 hown1 hbel1 hsz1; simp only [Nat.zero_add, List.nil_append] at hown1) | (at_builtin; have := hown1; go_must (refine wpList_append_row rfl (.tmp 17) (.tmp 18) rfl _ _ _ rfl hown1 a2 l2 c2 bs2 rfl (hr2.below hbel1 (Nat.le_refl _)) hn2 (by omega) hbel1 hsz1 ?_; intro v2 w2 hown2 hbel2 hsz2; obtain ⟨a3, c3, rfl, hr3⟩ := row_of_owns hown2 (small_append hr1.2.2.1 hr2.2.2.1) (by omega); have hr1' := hr1.below hbel2 (Nat.le_refl _); have hr2' := hr2.below hbel2 (Nat.le_refl _); clear hown1 hown2 hbel1 hr1 hr2 hmade hb0 this)) | (go_at_call 8; refine (of_any _ _ _ _ _ (by first | assumption | exact row_nil _)).mono ?_; rintro e w' ⟨rfl, rfl⟩) | (go_at_call 10; refine (more_any _ _ _ _ _ _ hk1 (by assumption)).mono ?_; rintro e w' ⟨rfl, rfl⟩) | (go_at_call 7; refine (awake_any _).mono ?_; rintro e w' ⟨rfl, hbel⟩))
  go_ret
  exact ⟨rfl, hbel2.trans (hbel.mono hsz2)⟩

set_option maxHeartbeats 400000 in
theorem joins_long (a1 a2 : Option Addr) (l1 c1 l2 c2 : Nat) (w : World) (h : 2000 < l1 ∨ 2000 < l2) :
    Calls Try.prog 4 #[.slice a1 l1 c1, .slice a2 l2 c2] w fun e w' => e = .returned (.bool true) ∧ Below w.heap.size w w' := by
  by_cases h1 : 2000 < l1
  · clear h
    go_enter Try.func4, Try.ntmps4
    go_wp2_with (go_at_call 7; refine (awake_any _).mono ?_; rintro e w' ⟨rfl, hbel⟩)
    go_ret
    exact ⟨rfl, by assumption⟩
  · have h2 : 2000 < l2 := by omega
    clear h
    go_enter Try.func4, Try.ntmps4
    go_wp2_with (go_at_call 7; refine (awake_any _).mono ?_; rintro e w' ⟨rfl, hbel⟩)
    go_ret
    exact ⟨rfl, by assumption⟩

theorem nil_of {w : World} {a : Option Addr} {len cap : Nat} {zs : List Int} (h : IsRow .u8 w a len cap zs) : a = none → len = 0 ∧ cap = 0 := by
  rcases h with ⟨rfl, rfl, rfl, rfl⟩ | ⟨x, rfl, _⟩
  · exact fun _ => ⟨rfl, rfl⟩
  · exact fun h => by cases h
end Go.Proofs.Yteglhhenpimimaa
