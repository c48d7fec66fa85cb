/- What the program's sumAt and Clone do. -/
import Derived.Test.YtjioipkohnlipaaP1
import Derived.Test.YtjioipkohnlipaaPMath
import Derived.Test.YtjioipkohnlipaaF6
namespace Go.Proofs.Ytjioipkohnlipaa
open Go.RowKit

/-- the first bytes' number, the lowest first -/
def vk (bs : List Nat) : Nat → Nat
  | 0 => 0
  | k + 1 => vk bs k + 256 ^ k * bs.getD k 0
theorem vk4 (bs : List Nat) : vk bs 4 = Fr.val4 bs := by simp [vk, Fr.val4]

theorem or32 (n x m M : Nat) (hM : M = 2 ^ m) (hn : n < M) (hn2 : n < 4294967296) (hx : x * M < 4294967296) : bits .or .u32 (n : Int) ((x : Int) * (M : Int)) = ((n + M * x : Nat) : Int) := by
  subst hM
  have e : (x : Int) * ((2 ^ m : Nat) : Int) = ((x * 2 ^ m : Nat) : Int) := by simp
  rw [e, u32_or_nat _ _ hn2 hx, Nat.or_comm, nat_join m _ _ (Nat.mul_mod_left _ _) hn, Nat.add_comm, Nat.mul_comm x]

set_option maxRecDepth 100000 in
set_option maxHeartbeats 400000 in
theorem sumat_any (a : Option Addr) (cap : Nat) (bs : List Nat) (w : World) (hr : Row .u8 w a 4 bs) :
    Calls Try.prog 32 #[.slice a 4 cap] w fun e w' => e = .returned (.int .u32 (Fr.val4 bs : Nat)) ∧ w' = w := by
  obtain ⟨b, off, rfl, hc⟩ := hr.at (by omega)
  go_enter Try.func32, Try.ntmps32
  go_wp2
  go_loop [3, 8] (fun t i => ∃ k n : Nat, k ≤ 4 ∧ i = .int .i64 k ∧ t = .int .u32 n ∧ n < 256 ^ k ∧ Hid (n = vk bs k)) (fun _ i => 4 - (intOf i).toNat)
  case atStart => exact ⟨0, 0, by omega, rfl, rfl, by omega, (rfl : 0 = vk bs 0)⟩
  case round =>
    obtain ⟨k, n, hk, rfl, rfl, hn, Hn⟩ := hrel
    by_cases hlt : k < 4
    · have hcell := hc k hlt
      have hx8 := getD_lt8 hr.2.2.1 k
      have H : Hid (n + 256 ^ k * bs.getD k 0 = vk bs (k + 1)) := (by rw [Hn.out]; rfl : n + 256 ^ k * bs.getD k 0 = vk bs (k + 1))
      clear hc hr Hn
      generalize bs.getD k 0 = x at *
      have hk4 : k = 0 ∨ k = 1 ∨ k = 2 ∨ k = 3 := by omega
      rcases hk4 with rfl | rfl | rfl | rfl
      · rw [Nat.add_zero] at hcell
        go_wp2
        go_round
        case rel => exact ⟨1, n + 256 ^ 0 * x, by omega, by go_num, val_int (by have := or32 n x 0 1 rfl (by omega) (by omega) (by omega); simpa using this), by omega, H⟩
        case measure => simp [intOf]
      · go_wp2
        go_round
        case rel => exact ⟨2, n + 256 ^ 1 * x, by omega, by go_num, val_int (by have := or32 n x 8 256 rfl (by omega) (by omega) (by omega); exact this), by omega, H⟩
        case measure => simp [intOf]
      · go_wp2
        go_round
        case rel => exact ⟨3, n + 256 ^ 2 * x, by omega, by go_num, val_int (by have := or32 n x 16 65536 rfl (by omega) (by omega) (by omega); exact this), by omega, H⟩
        case measure => simp [intOf]
      · go_wp2
        go_round
        case rel => exact ⟨4, n + 256 ^ 3 * x, by omega, by go_num, val_int (by have := or32 n x 24 16777216 rfl (by omega) (by omega) (by omega); exact this), by omega, H⟩
        case measure => simp [intOf]
    · obtain rfl : k = 4 := by omega
      have H : Hid (n = Fr.val4 bs) := (by rw [Hn.out, vk4] : n = Fr.val4 bs)
      clear Hn hc hr
      go_wp2
      go_ret
      exact ⟨ret_int (by rw [H.out]), rfl⟩

set_option maxRecDepth 100000 in
set_option maxHeartbeats 400000 in
theorem clone_any (p : Addr) (len cap : Nat) (bs : List Nat) (w : World) (hlen : len ≤ 1000000) (hr : Row .u8 w (some p) len bs) :
    Calls Try.prog 33 #[.slice (some p) len cap] w (Made .u8 5 w bs) := by
  have hl : Hid (bs.length = len) := hr.1
  have hr2 := hr.below (below_alloc w (.cells #[] 5)) (Nat.le_refl _)
  go_enter Try.func33, Try.ntmps33
  go_wp2_with fail
  rw [Lib.run_eql_slice_nil _ 26 5 (some p) len cap 0 0 Try.underlying26]
  go_wp2_with (at_builtin; refine append_u8 (w0 := w) (B := w.heap.size) rfl (.tmp 5) (.tmp 6) rfl _ 0 [] rfl (made_at w 5 w.heap.size rfl (Nat.le_refl _)) (some p) len cap bs rfl hr2 (fun h => by cases h) (by omega) (below_alloc _ _) (by simp) ?_; intro A C w2 hown2 hbel2 hsz2)
  rw [Nat.zero_add, List.nil_append] at hown2
  go_ret
  exact ⟨A, C, by rw [hl.out]; rfl, by rw [hl.out]; exact hown2, hbel2⟩
end Go.Proofs.Ytjioipkohnlipaa
