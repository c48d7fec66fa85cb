/- What the reference's full does. -/
import Derived.Test.YtghgolpofafjmaaLT
import Derived.Test.YtghgolpofafjmaaLM
namespace Go.Proofs.Ytghgolpofafjmaa
open Go.RowKit
theorem full_size {h : List Lv.T} {n : Nat} {base y Z : Int} (hZ : Z = base * 4 ^ n) (hy : y = Lv.tot h) : decide (Z < y) = Lv.full h (n + 1) base := by
  unfold Lv.full
  rw [if_neg (by omega), Nat.add_sub_cancel, ← hZ, ← hy]
set_option maxRecDepth 100000 in
set_option maxHeartbeats 1000000 in
theorem rfull_any (a : Option Addr) (len cap : Nat) (l : List Lv.T) (n : Nat) (base : Int) (w : World) (hr : LRow w a len l) (hm : Lv.May l) (hn : n ≤ 3) (hb : 1 ≤ base) (hb2 : base ≤ 1048576) :
    Calls Try.prog 31 #[.slice a len cap, .int .i64 (n : Int), .int .i64 base] w fun e w' => e = .returned (.bool (Lv.full (Lv.lv (Lv.ord l) n) n base)) ∧ Below w.heap.size w w' := by
  have hlen : len ≤ 64 := by have := hm.len; rw [hr.1] at this; omega
  have hlv := rlevel_any a len cap l n w (by omega) hr
  rw [Lv.iord_ord hm] at hlv
  have hlF : (Lv.lv (Lv.ord l) n).length ≤ 64 := Nat.le_trans (List.length_filter_le ..) (by rw [lord_length, hr.1]; exact hlen)
  have ho : ∀ x ∈ Lv.lv (Lv.ord l) n, Lv.One x := fun x hx => (hm.perm (Lv.ord_perm l)).one x (List.mem_filter.mp hx).1
  clear hr hm
  generalize Lv.lv (Lv.ord l) (n : Int) = F at *
  rcases Nat.eq_zero_or_pos n with rfl | h0
  · have HR : Hid (Lv.full F 0 base = decide (4 ≤ F.length)) := (rfl : Lv.full F 0 base = decide (4 ≤ F.length))
    generalize Lv.full F 0 base = R at *
    go_enter Try.func31, Try.ntmps31
    go_wp2_with (go_at_call 32; go_must (refine hlv.mono ?_; rintro e w2 ⟨A2, C2, rfl, hown2, hb3⟩))
    go_ret
    obtain rfl := HR.out
    exact ⟨by first | rfl | exact congrArg _ (congrArg _ (decide_eq_decide.mpr (by omega))), hb3⟩
  obtain ⟨n', rfl⟩ : ∃ n', n = n' + 1 := ⟨n - 1, by omega⟩
  have Hfull : Hid (∀ y Z, Z = base * 4 ^ n' → y = Lv.tot F → decide (Z < y) = Lv.full F (n' + 1) base) := (fun y Z h1 h2 => full_size h1 h2 : ∀ y Z, Z = base * 4 ^ n' → y = Lv.tot F → decide (Z < y) = Lv.full F (n' + 1) base)
  generalize Lv.full F (n' + 1) base = R at *
  have d0 : (((n' + 1 : Nat) : Int) == 0) = false := by simp; omega
  have e1 : (((n' + 1 : Nat) : Int)) = (n' : Int) + 1 := by omega
  rw [e1] at d0 hlv ⊢
  clear e1
  go_enter Try.func31, Try.ntmps31
  go_wp2_with (go_at_call 32; go_must (refine hlv.mono ?_; rintro e w2 ⟨A2, C2, rfl, hown2, hb3⟩))
  have hrF := lrowD hown2 (by omega)
  clear hown2 hlv
  go_loop [8, 9] (fun v i => ∃ (k : Nat) (y : Int), k ≤ F.length ∧ i = .int .i64 k ∧ v = .int .i64 y ∧ 0 ≤ y ∧ y ≤ (k : Int) * 1073741824 ∧ Hid (y + Lv.tot (F.drop k) = Lv.tot F)) (fun _ i => F.length - (intOf i).toNat)
  case atStart => exact ⟨0, 0, by omega, rfl, rfl, by omega, by omega, (by rw [List.drop_zero]; omega : 0 + Lv.tot (F.drop 0) = Lv.tot F)⟩
  case round =>
    obtain ⟨k, y, hk, rfl, rfl, hy1, hy2, H⟩ := hrel
    by_cases hklt : k < F.length
    · obtain ⟨b, off, x1, x2, x3, x4, x5, rfl, hx, q0, q1, q2, q3, q4⟩ := lget hrF (Below.refl _ _) hklt
      have hox := ho (F.getD k Lv.zero) (by simp [hklt])
      rw [hx.out] at hox
      have o1 := hox.s1
      have o2 := hox.s2
      simp only at o1 o2
      have H2 : Hid (y + x3 + Lv.tot (F.drop (k + 1)) = Lv.tot F) := (by rw [← H.out, ldrop hklt, hx.out]; simp only [Lv.tot]; omega : y + x3 + Lv.tot (F.drop (k + 1)) = Lv.tot F)
      have k0 : (0 : Int) ≤ (k : Int) := by omega
      have k1 : (k : Int) < ((F.length : Nat) : Int) := by omega
      clear H hx hox ho
      go_wp2
      go_round
      case rel => exact ⟨k + 1, y + x3, by omega, by go_num, by go_num, by omega, by omega, H2⟩
      case measure => simp [intOf]; omega
    · obtain rfl : k = F.length := by omega
      have Hy : Hid (y = Lv.tot F) := (by have h := H.out; rw [List.drop_of_length_le (by omega)] at h; simp only [Lv.tot] at h; omega : y = Lv.tot F)
      clear H
      go_wp2
      go_loop [2, 10] (fun v i => ∃ (j : Nat) (z : Int), j ≤ n' ∧ i = .int .i64 ((j : Int) + 1) ∧ v = .int .i64 z ∧ Hid (z = base * 4 ^ j)) (fun _ i => n' + 1 - (intOf i).toNat)
      case atStart => exact ⟨0, base, by omega, rfl, rfl, (by simp : base = base * 4 ^ 0)⟩
      case round =>
        obtain ⟨j, z, hj, rfl, rfl, Hz⟩ := hrel
        obtain ⟨z1, z2⟩ := pow_room hb hb2 (by omega) Hz.out
        by_cases hlt : j < n'
        · have Hz2 : Hid (z * 4 = base * 4 ^ (j + 1)) := (by rw [Hz.out, Int.pow_succ, Int.mul_assoc] : z * 4 = base * 4 ^ (j + 1))
          clear Hz
          go_wp2
          go_round
          case rel => exact ⟨j + 1, z * 4, by omega, by go_num, by go_num, Hz2⟩
          case measure => simp [intOf]; omega
        · obtain rfl : j = n' := by omega
          have HE : Hid (decide (z < y) = R) := Hfull.out y z Hz.out Hy.out
          clear Hz Hy Hfull
          go_wp2
          go_ret
          obtain rfl := HE.out
          exact ⟨rfl, hb3⟩
end Go.Proofs.Ytghgolpofafjmaa
