/- What the reference's May, Less, Sum and Put of a point do. -/
import Derived.Test.YtgmcjalcpgldhaaU1
import Derived.Test.YtgmcjalcpgldhaaPoMath
import Derived.Test.YtgmcjalcpgldhaaW6
namespace Go.Proofs.Ytgmcjalcpgldhaa
open Go.RowKit

set_option maxRecDepth 100000 in
set_option maxHeartbeats 1000000 in
theorem pomay_any (s a l : Int) (m : Nat) (w : World) :
    Calls Try.prog 21 #[.agg #[.int .i64 s, .int .i64 a, .int .i64 l, .int .u32 m]] w fun e w' => e = .returned (.bool (Po.may (s, a, l, m))) ∧ Below w.heap.size w w' := by
  by_cases h1 : 1 ≤ s
  · skip
    by_cases h2 : s ≤ 2147483647
    · skip
      by_cases h3 : 0 ≤ a
      · skip
        by_cases h4 : a ≤ 2147483647
        · skip
          by_cases h5 : 0 ≤ l
          · skip
            have hm : Hid (Po.may (s, a, l, m) = decide (l ≤ 4096)) := (by unfold Po.may; simp only [h1, h2, h3, h4, h5, true_and] : Po.may (s, a, l, m) = decide (l ≤ 4096))
            go_enter Try.func21, Try.ntmps21
            go_wp2
            go_ret
            exact ⟨by rw [hm.out]; rfl, (Below.refl _ _).alloc (Nat.le_refl _) _⟩
          · have hm : Hid (Po.may (s, a, l, m) = false) := (by unfold Po.may; simp; omega : Po.may (s, a, l, m) = false)
            go_enter Try.func21, Try.ntmps21
            go_wp2
            go_ret
            exact ⟨by rw [hm.out]; rfl, (Below.refl _ _).alloc (Nat.le_refl _) _⟩
        · have hm : Hid (Po.may (s, a, l, m) = false) := (by unfold Po.may; simp; omega : Po.may (s, a, l, m) = false)
          go_enter Try.func21, Try.ntmps21
          go_wp2
          go_ret
          exact ⟨by rw [hm.out]; rfl, (Below.refl _ _).alloc (Nat.le_refl _) _⟩
      · have hm : Hid (Po.may (s, a, l, m) = false) := (by unfold Po.may; simp; omega : Po.may (s, a, l, m) = false)
        go_enter Try.func21, Try.ntmps21
        go_wp2
        go_ret
        exact ⟨by rw [hm.out]; rfl, (Below.refl _ _).alloc (Nat.le_refl _) _⟩
    · have hm : Hid (Po.may (s, a, l, m) = false) := (by unfold Po.may; simp; omega : Po.may (s, a, l, m) = false)
      go_enter Try.func21, Try.ntmps21
      go_wp2
      go_ret
      exact ⟨by rw [hm.out]; rfl, (Below.refl _ _).alloc (Nat.le_refl _) _⟩
  · have hm : Hid (Po.may (s, a, l, m) = false) := (by unfold Po.may; simp; omega : Po.may (s, a, l, m) = false)
    go_enter Try.func21, Try.ntmps21
    go_wp2
    go_ret
    exact ⟨by rw [hm.out]; rfl, (Below.refl _ _).alloc (Nat.le_refl _) _⟩

set_option maxRecDepth 100000 in
set_option maxHeartbeats 1000000 in
theorem posum_any (S : Nat) (w : World) (hS : S < 4294967296) : Calls Try.prog 40 #[.int .u32 S] w (Made .u8 5 w (Fr.le4 S)) := by
  have hb0 := below_alloc w (.cells #[] 5)
  have hm0 := made_at w 5 w.heap.size rfl (Nat.le_refl _)
  go_enter Try.func40, Try.ntmps40
  go_wp2
  go_loopw [3, 0, 4] (fun v t i wr => ∃ (j : Nat) (q : Nat) (a' : Option Addr) (c' : Nat), j ≤ 4 ∧ i = .int .i64 j ∧ t = .int .u32 q ∧ q < 4294967296 ∧ v = .slice a' j c' ∧ wr.ownsRow w.heap.size 5 1 (.slice a' j c') j (kcells .u8 ((Fr.le4 S).take j)) ∧ Below w.heap.size w wr ∧ Hid (q = S / 256 ^ j))
    (fun _ _ i _ => 4 - (intOf i).toNat)
  case atStart => exact ⟨0, S, _, 0, by omega, rfl, rfl, hS, rfl, hm0, hb0, (by simp : S = S / 256 ^ 0)⟩
  case round =>
    obtain ⟨j, q, a', c', hj, rfl, rfl, hq, rfl, hown, hbel, hqs⟩ := hrel
    have hsz := hbel.size
    by_cases hlt4 : j < 4
    · have Hl : Hid ((Fr.le4 S).take (j + 1) = (Fr.le4 S).take j ++ [q % 256]) := (by rw [le4_take S j hlt4, hqs.out] : (Fr.le4 S).take (j + 1) = (Fr.le4 S).take j ++ [q % 256])
      have Hq : Hid (q / 256 = S / 256 ^ (j + 1)) := (by rw [hqs.out, div_step] : q / 256 = S / 256 ^ (j + 1))
      clear hm0 hqs
      go_wp2_with (at_builtin; go_must (refine append_u8 (w0 := w) rfl (.tmp 10) (.tmp 14) rfl _ j _ rfl (hown.alloc _) _ 1 1 [q % 256] rfl (row_newz .u8 _ 5 _ (q % 256) (by omega) (by show _ < 256; omega)) (fun h => by cases h) (by omega) (hbel.alloc hsz _) (by simp; omega) ?_; intro a6 c6 w6 hown6 hbel6 hsz6))
      go_roundw
      case rel => exact ⟨j + 1, q / 256, a6, c6, by omega, by go_num, val_int (by omega), by omega, rfl, by rw [Hl.out]; exact hown6, hbel6, Hq⟩
      case measure => simp [intOf]; omega
    · obtain rfl : j = 4 := by omega
      clear hm0
      go_wp2
      go_ret
      exact ⟨a', c', rfl, hown, hbel⟩
end Go.Proofs.Ytgmcjalcpgldhaa
