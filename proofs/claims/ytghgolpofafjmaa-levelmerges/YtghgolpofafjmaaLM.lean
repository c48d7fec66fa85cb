/- What the program's isFull does. -/
import Derived.Test.YtghgolpofafjmaaLH
namespace Go.Proofs.Ytghgolpofafjmaa
open Go.RowKit

theorem full_room {h : List Lv.T} {n : Nat} {base z Z : Int} (hn : n ≠ 0) (hZ : Z = base * 4 ^ (n - 1)) (hz : z = Z - Lv.tot h) : decide (z < 0) = Lv.full h n base := by
  unfold Lv.full
  rw [if_neg hn, ← hZ]
  exact decide_eq_decide.mpr (by omega)
theorem pow_room {base z : Int} {j : Nat} (hb : 1 ≤ base) (hb2 : base ≤ 1048576) (hj : j ≤ 2) (hz : z = base * 4 ^ j) : 1 ≤ z ∧ z ≤ 16777216 := by
  match j, hj with
  | 0, _ | 1, _ | 2, _ => simp at hz; omega
set_option maxRecDepth 100000 in
set_option maxHeartbeats 1000000 in
theorem lfull_any (a : Option Addr) (len cap : Nat) (l : List Lv.T) (n : Nat) (base : Int) (w : World) (hlen : len ≤ 64) (hr : LRow w a len l) (ho : ∀ x ∈ l, Lv.One x) (hn : n ≤ 3) (hb : 1 ≤ base) (hb2 : base ≤ 1048576) :
    Calls Try.prog 28 #[.slice a len cap, .int .i64 (n : Int), .int .i64 base] w fun e w' => e = .returned (.bool (Lv.full l n base)) ∧ Below w.heap.size w w' := by
  have hll : Hid (l.length = len) := hr.1
  rcases Nat.eq_zero_or_pos n with rfl | h0
  · have HR : Hid (Lv.full l 0 base = decide (4 ≤ (len : Int))) := (by unfold Lv.full; rw [if_pos rfl, hll.out]; exact decide_eq_decide.mpr (by omega) : Lv.full l 0 base = decide (4 ≤ (len : Int)))
    generalize Lv.full l 0 base = R at *
    go_enter Try.func28, Try.ntmps28
    go_wp2
    go_ret
    obtain rfl := HR.out
    exact ⟨rfl, Below.refl _ _⟩
  obtain ⟨n', rfl⟩ : ∃ n', n = n' + 1 := ⟨n - 1, by omega⟩
  have Hfull : Hid (∀ z, z = base * 4 ^ n' - Lv.tot l → decide (z < 0) = Lv.full l (n' + 1) base) := (fun z hz => full_room (n := n' + 1) (by omega) rfl hz : ∀ z, z = base * 4 ^ n' - Lv.tot l → decide (z < 0) = Lv.full l (n' + 1) base)
  generalize Lv.full l (n' + 1) base = R at *
  have d0 : (((n' + 1 : Nat) : Int) == 0) = false := by simp; omega
  have e1 : (((n' + 1 : Nat) : Int)) = (n' : Int) + 1 := by omega
  rw [e1] at d0 ⊢
  clear e1
  have i2 : IntKind.i64.wrap ((n' : Int) + 1 - 1) = (n' : Int) := by rw [IntKind.wrap_i64]; omega
  have i3 : IntKind.i64.wrap (n' : Int) = (n' : Int) := by rw [IntKind.wrap_i64]; omega
  go_enter Try.func28, Try.ntmps28
  go_wp2
  go_loop [7, 18] (fun v i => ∃ (j : Nat) (z : Int), j ≤ n' ∧ i = .int .i64 j ∧ v = .int .i64 z ∧ Hid (z = base * 4 ^ j)) (fun _ i => n' - (intOf i).toNat)
  case atStart => exact ⟨0, base, by omega, rfl, rfl, (by simp : base = base * 4 ^ 0)⟩
  case round =>
    obtain ⟨j, z, hj, rfl, rfl, Hz⟩ := hrel
    obtain ⟨z1, z2⟩ := pow_room hb hb2 (by omega) Hz.out
    by_cases hlt : j < n'
    · have Hz2 : Hid (z * 4 = base * 4 ^ (j + 1)) := (by rw [Hz.out, Int.pow_succ, Int.mul_assoc] : z * 4 = base * 4 ^ (j + 1))
      clear Hz
      go_wp2
      go_round
      case rel => exact ⟨j + 1, z * 4, by omega, by go_num, by go_num, Hz2⟩
      case measure => simp [intOf]; omega
    · obtain rfl : j = n' := by omega
      have ht := Hz
      go_wp2
      go_loopw [7, 25] (fun v i wr => ∃ (k : Nat) (y : Int), k ≤ len ∧ i = .int .i64 k ∧ v = .int .i64 y ∧ y ≤ 16777216 ∧ -((k : Int) * 1073741824) ≤ y ∧ Hid (y = z - Lv.tot l + Lv.tot (l.drop k)) ∧ Below w.heap.size w wr) (fun _ i _ => len - (intOf i).toNat)
      case atStart => exact ⟨0, z, by omega, rfl, rfl, by omega, by omega, (by rw [List.drop_zero]; omega : z = z - Lv.tot l + Lv.tot (l.drop 0)), Below.refl _ _⟩
      case round =>
        obtain ⟨k, y, hk, rfl, rfl, hy1, hy2, H, hbel⟩ := hrel
        by_cases hklt : k < len
        · obtain ⟨b, off, x1, x2, x3, x4, x5, rfl, hx, q0, q1, q2, q3, q4⟩ := lget hr hbel hklt
          have hk' : k < l.length := by rw [hll.out]; exact hklt
          have hox := ho (l.getD k Lv.zero) (by simp [hk'])
          rw [hx.out] at hox
          have o1 := hox.s1
          have o2 := hox.s2
          simp only at o1 o2
          have H2 : Hid (y - x3 = z - Lv.tot l + Lv.tot (l.drop (k + 1))) := (by rw [H.out, ldrop hk', hx.out]; simp only [Lv.tot]; omega : y - x3 = z - Lv.tot l + Lv.tot (l.drop (k + 1)))
          have k0 : (0 : Int) ≤ (k : Int) := by omega
          have k1 : (k : Int) < (len : Int) := by omega
          have hb3 := hbel.alloc hbel.size (otab x1 x2 x3 x4 x5)
          clear H hx hox Hz ht ho
          go_wp2
          go_roundw
          case rel => exact ⟨k + 1, y - x3, by omega, by go_num, by go_num, by omega, by omega, H2, hb3⟩
          case measure => simp [intOf]; omega
        · obtain rfl : k = len := by omega
          have HE : Hid (decide (y < 0) = R) := (by
            refine Hfull.out y ?_
            have h := H.out
            rw [List.drop_of_length_le (by rw [hll.out]; omega)] at h
            simp only [Lv.tot] at h
            rw [← Hz.out]; omega : decide (y < 0) = R)
          clear H Hz ht
          go_wp2
          go_ret
          obtain rfl := HE.out
          exact ⟨rfl, hbel⟩
end Go.Proofs.Ytghgolpofafjmaa
