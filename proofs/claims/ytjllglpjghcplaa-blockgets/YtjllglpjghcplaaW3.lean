/- What Bytes, value and the program's Get do. -/
import Derived.Test.YtjllglpjghcplaaW2
namespace Go.Proofs.Ytjllglpjghcplaa
open Go.RowKit

set_option maxHeartbeats 400000 in
theorem bytes_any (a1 : Option Addr) (l1 c1 : Nat) (bs1 : List Nat) (a2 : Option Addr) (l2 c2 : Nat) (bs2 : List Nat) (w : World) (hr1 : Row .u8 w a1 l1 bs1) (hr2 : Row .u8 w a2 l2 bs2) :
    Calls Try.prog 12 #[.slice a1 l1 c1, .slice a2 l2 c2] w fun e w' => e = .returned (.bool (decide (bs1 = bs2))) ∧ ∃ n, w' = w.drewN n := by
  have hs := same_any a1 l1 c1 bs1 a2 l2 c2 bs2 w hr1 hr2
  clear hr1 hr2
  go_enter Try.func12, Try.ntmps12
  go_wp2_with (go_at_call 24; refine hs.mono ?_; rintro e w' ⟨rfl, n, rfl⟩)
  go_ret
  exact ⟨rfl, n, rfl⟩

theorem value_step (u x v : Nat) (hu : u = v % 18446744073709551616) : (u * 128 + x % 128) % 18446744073709551616 = (x % 128 + 128 * v) % 18446744073709551616 := by
  subst hu; omega

set_option maxHeartbeats 400000 in
theorem value_any (a : Option Addr) (len cap : Nat) (bs : List Nat) (w : World) (hr : Row .u8 w a len bs) :
    Calls Try.prog 42 #[.slice a len cap] w fun e w' => e = .returned (.int .u64 (Va.val bs % 18446744073709551616 : Nat)) ∧ w' = w := by
  have hlen : Hid (bs.length = len) := hr.1
  have hbig := hr.2.1
  go_enter Try.func42, Try.ntmps42
  go_wp2
  go_loop [3, 4] (fun t i => ∃ k u : Nat, k ≤ len ∧ i = .int .i64 ((k : Int) - 1) ∧ t = .int .u64 u ∧ Hid (u = Va.val (bs.drop k) % 18446744073709551616)) (fun _ i => (intOf i + 1).toNat)
  case atStart => exact ⟨len, 0, by omega, rfl, rfl, (by rw [List.drop_of_length_le (by rw [hlen.out]; omega)]; rfl : 0 = Va.val (bs.drop len) % 18446744073709551616)⟩
  case round =>
    obtain ⟨k, u, hk, rfl, rfl, hu⟩ := hrel
    rcases Nat.eq_zero_or_pos k with h0 | h0
    · subst h0
      go_wp2
      go_ret
      exact ⟨ret_int (by rw [hu.out]; rfl), rfl⟩
    · obtain ⟨b, off, rfl, hc⟩ := hr.at (by omega)
      obtain ⟨j, rfl⟩ : ∃ j, k = j + 1 := ⟨k - 1, by omega⟩
      have hcell := hc j (by omega)
      have hx := getD_lt8 hr.2.2.1 j
      have hub : u < 18446744073709551616 := by rw [hu.out]; exact Nat.mod_lt _ (by omega)
      have H : Hid ((u * 128 + bs.getD j 0 % 128) % 18446744073709551616 = Va.val (bs.drop j) % 18446744073709551616) := (by
        rw [value_step _ _ _ hu.out, Va.drop_get bs j (by rw [hlen.out]; omega)]; rfl : _ = _)
      clear hc hr hu
      have e : ((j + 1 : Nat) : Int) - 1 = (j : Int) := by omega
      rw [e]
      clear e
      generalize bs.getD j 0 = x at *
      go_wp2
      go_round
      case rel => exact ⟨j, (u * 128 + x % 128) % 18446744073709551616, by omega, by go_num, val_int (by simp only [IntKind.wrap_u64]; omega), H⟩
      case measure => simp [intOf]

/-- the code that goes with how many bytes were read -/
def code (n : Nat) : Nat := if n = 0 then 2 else 0
theorem code_zero : code 0 = 2 := rfl
theorem code_succ (k : Nat) : code (k + 1) = 0 := rfl
theorem ret3 {k1 k2 k3 : IntKind} {a a' b b' c c' : Int} (h1 : a = a') (h2 : b = b') (h3 : c = c') :
    Ending.returned (.tuple #[.int k1 a, .int k2 b, .int k3 c]) = .returned (.tuple #[.int k1 a', .int k2 b', .int k3 c']) := by rw [h1, h2, h3]

theorem or_walk (u x k : Nat) (hu : u < 128 ^ k) (hx : x < 256) (hk : k ≤ 8 ∨ k = 9 ∧ x ≤ 1) :
    bits .or .u64 (u : Int) (IntKind.u64.wrap (IntKind.u64.wrap (bits .and .u8 (x : Int) 127) * 2 ^ (7 * k))) = ((u + 128 ^ k * (x % 128) : Nat) : Int) := by
  have e1 : bits .and .u8 (x : Int) 127 = ((x % 128 : Nat) : Int) := by
    have := u8_and_nat x 127 hx (by omega); rw [nat_mask7] at this; exact_mod_cast this
  have e2 : (128 : Nat) ^ k = 2 ^ (7 * k) := by rw [show 128 = 2 ^ 7 from rfl, ← Nat.pow_mul]
  have hb : x % 128 * 2 ^ (7 * k) < 18446744073709551616 := by
    rcases hk with hk | ⟨rfl, h1⟩
    · have h2 : 2 ^ (7 * k) ≤ 2 ^ 56 := Nat.pow_le_pow_right (by omega) (by omega)
      have h3 : x % 128 * 2 ^ (7 * k) ≤ 127 * 2 ^ 56 := Nat.mul_le_mul (by omega) h2
      omega
    · have : x % 128 ≤ 1 := by omega
      have h3 : x % 128 * 2 ^ (7 * 9) ≤ 1 * 2 ^ (7 * 9) := Nat.mul_le_mul_right _ this
      omega
  have e3 : (((x % 128 : Nat) : Int) % 18446744073709551616) = ((x % 128 : Nat) : Int) := by omega
  have e4 : ((x % 128 : Nat) : Int) * 2 ^ (7 * k) = ((x % 128 * 2 ^ (7 * k) : Nat) : Int) := by simp
  have hub : u < 18446744073709551616 := by
    have : (128 : Nat) ^ k ≤ 128 ^ 9 := Nat.pow_le_pow_right (by omega) (by omega)
    have : (128 : Nat) ^ 9 < 18446744073709551616 := by decide
    omega
  rw [e1]
  simp only [IntKind.wrap_u64]
  rw [e3, e4]
  rw [e2] at hu ⊢
  have e5 : (((x % 128 * 2 ^ (7 * k) : Nat) : Int) % 18446744073709551616) = ((x % 128 * 2 ^ (7 * k) : Nat) : Int) := by omega
  rw [e5, u64_or_nat _ _ hub hb, Nat.or_comm, nat_join (7 * k) _ _ (Nat.mul_mod_left _ _) hu, Nat.add_comm, Nat.mul_comm (x % 128)]
theorem acc_lt (u x k : Nat) (hu : u < 128 ^ k) : u + 128 ^ k * (x % 128) < 128 ^ (k + 1) := by
  rw [Nat.pow_succ]
  have : 128 ^ k * (x % 128) ≤ 128 ^ k * 127 := Nat.mul_le_mul_left _ (by omega)
  omega

set_option maxRecDepth 100000 in
set_option maxHeartbeats 1000000 in
theorem get_any (a : Option Addr) (len cap : Nat) (bs : List Nat) (w : World) (hr : Row .u8 w a len bs) :
    Calls Try.prog 27 #[.slice a len cap] w fun e w' => e = .returned (.tuple #[.int .u64 ((Va.get bs).1 : Nat), .int .i64 ((Va.get bs).2 : Nat), .int .i64 (code (Va.get bs).2 : Nat)]) ∧ w' = w := by
  have hlen : Hid (bs.length = len) := hr.1
  have hbig := hr.2.1
  obtain ⟨g, hg⟩ : ∃ g, g = Va.get bs := ⟨_, rfl⟩
  rw [← hg]
  have HG : Hid (g = Va.get bs) := hg
  clear hg
  go_enter Try.func27, Try.ntmps27
  go_wp2
  go_loop [5, 10] (fun t i => ∃ k u : Nat, k ≤ len ∧ k ≤ 9 ∧ i = .int .i64 k ∧ t = .int .u64 u ∧ Hid (u < 128 ^ k ∧ g = Va.lp k u (bs.drop k))) (fun _ i => len - (intOf i).toNat)
  case atStart => exact ⟨0, 0, by omega, by omega, rfl, rfl, (⟨by omega, HG.out⟩ : 0 < 128 ^ 0 ∧ g = Va.lp 0 0 (bs.drop 0))⟩
  case round =>
    obtain ⟨k, u, hk, hk9, rfl, rfl, hu⟩ := hrel
    clear HG
    by_cases hlt : k < len
    · obtain ⟨b, off, rfl, hc⟩ := hr.at (by omega)
      have hcell := hc k hlt
      have hx := getD_lt8 hr.2.2.1 k
      clear hc hr
      have H := hu.out.2
      rw [Va.drop_get bs k (by rw [hlen.out]; omega), Va.lp] at H
      generalize bs.getD k 0 = x at *
      by_cases h1 : k = 9 ∧ 1 < x
      · rw [if_pos h1] at H
        obtain ⟨rfl, h1⟩ := h1
        replace H : Hid (g = (0, 0)) := H
        clear hu
        go_wp2
        go_ret3
        exact ⟨ret3 (by rw [H.out]; rfl) (by rw [H.out]; rfl) (by rw [H.out]; rfl), rfl⟩
      · rw [if_neg h1] at H
        by_cases h2 : 0 < k ∧ x = 0
        · rw [if_pos h2] at H
          obtain ⟨h2, rfl⟩ := h2
          replace H : Hid (g = (0, 0)) := H
          clear hu
          by_cases h9 : k = 9
          · subst h9
            go_wp2
            go_ret3
            exact ⟨ret3 (by rw [H.out]; rfl) (by rw [H.out]; rfl) (by rw [H.out]; rfl), rfl⟩
          · go_wp2
            go_ret3
            exact ⟨ret3 (by rw [H.out]; rfl) (by rw [H.out]; rfl) (by rw [H.out]; rfl), rfl⟩
        · rw [if_neg h2] at H
          have hur : Hid (u < 128 ^ k) := hu.out.1
          have hub : u < 9223372036854775808 := Nat.lt_of_lt_of_le hu.out.1 (Nat.pow_le_pow_right (n := 128) (j := 9) (by omega) hk9)
          clear hu
          by_cases h3 : x < 128
          · rw [if_pos h3] at H
            replace H : Hid (_ = _) := H
            by_cases h9 : k = 9
            · subst h9
              have h1' : x ≤ 1 := by omega
              go_wp2
              go_ret3
              exact ⟨ret3 (by rw [H.out]; exact or_walk u x 9 hur.out hx (.inr ⟨rfl, h1'⟩)) (by rw [H.out]; rfl) (by rw [H.out]; rfl), rfl⟩
            · go_wp2
              all_goals
                go_ret3
                exact ⟨ret3 (by rw [H.out]; exact or_walk u x k hur.out hx (.inl (by omega))) (by rw [H.out]; show (k : Int) + 1 = ((k + 1 : Nat) : Int); omega) (by rw [H.out]; rfl), rfl⟩
          · rw [if_neg h3] at H
            replace H : Hid (_ = _) := H
            by_cases h9 : k = 9
            · omega
            · go_wp2
              all_goals
                go_round
                case rel => exact ⟨k + 1, u + 128 ^ k * (x % 128), by omega, by omega, by go_num, val_int (or_walk u x k hur.out hx (.inl (by omega))), (⟨acc_lt _ _ _ hur.out, H.out⟩ : _ ∧ _)⟩
                case measure => simp [intOf]; omega
    · have H : Hid (g = (0, 0)) := (by rw [hu.out.2, List.drop_of_length_le (by rw [hlen.out]; omega)]; rfl : g = (0, 0))
      clear hu
      go_wp2
      go_ret3
      exact ⟨ret3 (by rw [H.out]; rfl) (by rw [H.out]; rfl) (by rw [H.out]; rfl), rfl⟩
end Go.Proofs.Ytjllglpjghcplaa
