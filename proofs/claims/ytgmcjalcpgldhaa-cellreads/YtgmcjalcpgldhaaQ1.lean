/- What the program's Check and sumOf of a point, and slices.Max, do. -/
import Derived.Test.YtgmcjalcpgldhaaS5
import Derived.Test.YtgmcjalcpgldhaaQ0
namespace Go.Proofs.Ytgmcjalcpgldhaa
open Go.RowKit

set_option maxRecDepth 100000 in
set_option maxHeartbeats 1000000 in
theorem pcheckC : PCheckC := by
  intro p w hf
  obtain ⟨s, a, l, m⟩ := p
  obtain ⟨r, hr⟩ : ∃ r : Nat, r = if Po.may (s, a, l, m) = true then 0 else 1 := ⟨_, rfl⟩
  simp only [pv]
  rw [← hr]
  have hb := below_alloc w (.cells #[.int .i64 s, .int .i64 a, .int .i64 l, .int .u32 (m : Nat)] 25)
  have done : ∀ (z : Nat) (c : Bool), z = (if c = true then 0 else 1) → c = decide (1 ≤ s ∧ s ≤ 2147483647 ∧ 0 ≤ a ∧ a ≤ 2147483647 ∧ 0 ≤ l ∧ l ≤ 4096) → Ending.returned (.int .i64 (z : Nat)) = .returned (.int .i64 (r : Nat)) := by
    intro z c hz hc
    rw [hz, hr, hc]; rfl
  have Done : Hid (_) := done
  clear done hr
  go_enter Try.func26, Try.ntmps26
  by_cases h1 : 1 ≤ s
  · by_cases h2 : s ≤ 2147483647
    · by_cases h3 : 0 ≤ a
      · by_cases h4 : a ≤ 2147483647
        · by_cases h5 : 0 ≤ l
          · by_cases h6 : l ≤ 4096
            · go_wp2
              go_ret
              exact ⟨Done.out 0 true rfl (decide_eq_true (by omega)).symm, hb⟩
            · go_wp2
              go_ret
              exact ⟨Done.out 1 false rfl (decide_eq_false (by omega)).symm, hb⟩
          · go_wp2
            go_ret
            exact ⟨Done.out 1 false rfl (decide_eq_false (by omega)).symm, hb⟩
        · go_wp2
          go_ret
          exact ⟨Done.out 1 false rfl (decide_eq_false (by omega)).symm, hb⟩
      · go_wp2
        go_ret
        exact ⟨Done.out 1 false rfl (decide_eq_false (by omega)).symm, hb⟩
    · go_wp2
      go_ret
      exact ⟨Done.out 1 false rfl (decide_eq_false (by omega)).symm, hb⟩
  · go_wp2
    go_ret
    exact ⟨Done.out 1 false rfl (decide_eq_false (by omega)).symm, hb⟩

set_option maxRecDepth 100000 in
set_option maxHeartbeats 400000 in
theorem sumof_any (a : Option Addr) (cap z : Nat) (bs : List Nat) (w : World) (hz : z = 4) (hr : Row .u8 w a 4 bs) :
    Calls Try.prog 44 #[.slice a z cap] w fun e w' => e = .returned (.int .u32 (Fr.val4 bs : Nat)) ∧ w' = w := by
  subst hz
  obtain ⟨b, off, rfl, hc⟩ := hr.at (by omega)
  go_enter Try.func44, Try.ntmps44
  go_wp2
  go_loop [3, 8] (fun t i => ∃ k n : Nat, k ≤ 4 ∧ i = .int .i64 k ∧ t = .int .u32 n ∧ n < 256 ^ k ∧ Hid (n = vk bs k)) (fun _ i => 4 - (intOf i).toNat)
  case atStart => exact ⟨0, 0, by omega, rfl, rfl, by omega, (rfl : 0 = vk bs 0)⟩
  case round =>
    obtain ⟨k, n, hk, rfl, rfl, hn, Hn⟩ := hrel
    by_cases hlt : k < 4
    · have hcell := hc k hlt
      have hx8 := getD_lt8 hr.2.2.1 k
      have H : Hid (n + 256 ^ k * bs.getD k 0 = vk bs (k + 1)) := (by rw [Hn.out]; rfl : n + 256 ^ k * bs.getD k 0 = vk bs (k + 1))
      clear hc hr Hn
      generalize bs.getD k 0 = x at *
      have hk4 : k = 0 ∨ k = 1 ∨ k = 2 ∨ k = 3 := by omega
      rcases hk4 with rfl | rfl | rfl | rfl
      · rw [Nat.add_zero] at hcell
        go_wp2
        go_round
        case rel => exact ⟨1, n + 256 ^ 0 * x, by omega, by go_num, val_int (by have := or32 n x 0 1 rfl (by omega) (by omega) (by omega); simpa using this), by omega, H⟩
        case measure => simp [intOf]
      · go_wp2
        go_round
        case rel => exact ⟨2, n + 256 ^ 1 * x, by omega, by go_num, val_int (by have := or32 n x 8 256 rfl (by omega) (by omega) (by omega); exact this), by omega, H⟩
        case measure => simp [intOf]
      · go_wp2
        go_round
        case rel => exact ⟨3, n + 256 ^ 2 * x, by omega, by go_num, val_int (by have := or32 n x 16 65536 rfl (by omega) (by omega) (by omega); exact this), by omega, H⟩
        case measure => simp [intOf]
      · go_wp2
        go_round
        case rel => exact ⟨4, n + 256 ^ 3 * x, by omega, by go_num, val_int (by have := or32 n x 24 16777216 rfl (by omega) (by omega) (by omega); exact this), by omega, H⟩
        case measure => simp [intOf]
    · obtain rfl : k = 4 := by omega
      have H : Hid (n = Fr.val4 bs) := (by rw [Hn.out, vk4] : n = Fr.val4 bs)
      clear Hn hc hr
      go_wp2
      go_ret
      exact ⟨ret_int (by rw [H.out]), rfl⟩

/-- the greatest of three numbers -/
def max3 (x y z : Nat) : Nat := max (max x y) z

set_option maxRecDepth 100000 in
set_option maxHeartbeats 400000 in
theorem max3_any (g c x y z : Nat) (w : World) (h0 : w.cell? ⟨g, 0, none⟩ = some (.int .u64 (x : Nat))) (h1 : w.cell? ⟨g, 1, none⟩ = some (.int .u64 (y : Nat))) (h2 : w.cell? ⟨g, 2, none⟩ = some (.int .u64 (z : Nat))) :
    Calls Try.prog 43 #[.slice (some ⟨g, 0, none⟩) 3 c] w fun e w' => e = .returned (.int .u64 (max3 x y z : Nat)) ∧ w' = w := by
  go_enter Try.func43, Try.ntmps43
  go_wp2
  go_loop [3, 4] (fun t i => ∃ k : Nat, 1 ≤ k ∧ k ≤ 3 ∧ i = .int .i64 k ∧ ((k = 1 ∧ t = .int .u64 (x : Nat)) ∨ (k = 2 ∧ t = .int .u64 (max x y : Nat)) ∨ (k = 3 ∧ t = .int .u64 (max3 x y z : Nat)))) (fun _ i => 3 - (intOf i).toNat)
  case atStart => exact ⟨1, by omega, by omega, rfl, .inl ⟨rfl, rfl⟩⟩
  case round =>
    obtain ⟨k, hk1, hk, rfl, ⟨rfl, rfl⟩ | ⟨rfl, rfl⟩ | ⟨rfl, rfl⟩⟩ := hrel
    · go_wp2
      go_round
      case rel => exact ⟨2, by omega, by omega, rfl, .inr (.inl ⟨rfl, val_int (by omega)⟩)⟩
      case measure => simp [intOf]
    · go_wp2
      go_round
      case rel => exact ⟨3, by omega, by omega, rfl, .inr (.inr ⟨rfl, val_int (by unfold max3; omega)⟩)⟩
      case measure => simp [intOf]
    · go_wp2
      go_ret
      exact ⟨rfl, rfl⟩
end Go.Proofs.Ytgmcjalcpgldhaa
