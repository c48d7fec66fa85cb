/- Four bytes as a number, the lowest first: what walks want of it. -/
import Derived.Test.YtgdefibgifcbaaaGa
import Derived.Test.YtgdefibgifcbaaaMa
import Derived.Test.YtgdefibgifcbaaaBS
namespace Go.Proofs.Ytgdefibgifcbaaa
open Go.RowKit

/-- the first bytes' number, the lowest first -/
def vk (bs : List Nat) : Nat → Nat
  | 0 => 0
  | k + 1 => vk bs k + 256 ^ k * bs.getD k 0
theorem vk4 (bs : List Nat) : vk bs 4 = Fr.val4 bs := by simp [vk, Fr.val4]

theorem or32 (n x m M : Nat) (hM : M = 2 ^ m) (hn : n < M) (hn2 : n < 4294967296) (hx : x * M < 4294967296) : bits .or .u32 (n : Int) ((x : Int) * (M : Int)) = ((n + M * x : Nat) : Int) := by
  subst hM
  have e : (x : Int) * ((2 ^ m : Nat) : Int) = ((x * 2 ^ m : Nat) : Int) := by simp
  rw [e, u32_or_nat _ _ hn2 hx, Nat.or_comm, nat_join m _ _ (Nat.mul_mod_left _ _) hn, Nat.add_comm, Nat.mul_comm x]
end Go.Proofs.Ytgdefibgifcbaaa

/- What the program's Check and sumOf of a point, and slices.Max, do. -/
namespace Go.Proofs.Ytgdefibgifcbaaa
open Go.RowKit

set_option maxRecDepth 100000 in
set_option maxHeartbeats 1000000 in
theorem pcheckC : PCheckC := by
  intro p w hf
  obtain ⟨s, a, l, m⟩ := p
  obtain ⟨r, hr⟩ : ∃ r : Nat, r = if Po.may (s, a, l, m) = true then 0 else 1 := ⟨_, rfl⟩
  simp only [pv]
  rw [← hr]
  have hb := below_alloc w (.cells #[.int .i64 s, .int .i64 a, .int .i64 l, .int .u32 (m : Nat)] 32)
  have done : ∀ (z : Nat) (c : Bool), z = (if c = true then 0 else 1) → c = decide (1 ≤ s ∧ s ≤ 2147483647 ∧ 0 ≤ a ∧ a ≤ 2147483647 ∧ 0 ≤ l ∧ l ≤ 4096) → Ending.returned (.int .i64 (z : Nat)) = .returned (.int .i64 (r : Nat)) := by
    intro z c hz hc
    rw [hz, hr, hc]; rfl
  have Done : Hid (_) := done
  clear done hr
  go_enter Try.func30, Try.ntmps30
  by_cases h1 : 1 ≤ s
  · by_cases h2 : s ≤ 2147483647
    · by_cases h3 : 0 ≤ a
      · by_cases h4 : a ≤ 2147483647
        · by_cases h5 : 0 ≤ l
          · by_cases h6 : l ≤ 4096
            · go_wp2
              go_ret
              exact ⟨Done.out 0 true rfl (decide_eq_true (by omega)).symm, hb⟩
            · go_wp2
              go_ret
              exact ⟨Done.out 1 false rfl (decide_eq_false (by omega)).symm, hb⟩
          · go_wp2
            go_ret
            exact ⟨Done.out 1 false rfl (decide_eq_false (by omega)).symm, hb⟩
        · go_wp2
          go_ret
          exact ⟨Done.out 1 false rfl (decide_eq_false (by omega)).symm, hb⟩
      · go_wp2
        go_ret
        exact ⟨Done.out 1 false rfl (decide_eq_false (by omega)).symm, hb⟩
    · go_wp2
      go_ret
      exact ⟨Done.out 1 false rfl (decide_eq_false (by omega)).symm, hb⟩
  · go_wp2
    go_ret
    exact ⟨Done.out 1 false rfl (decide_eq_false (by omega)).symm, hb⟩

/-- the greatest of three numbers -/
def max3 (x y z : Nat) : Nat := max (max x y) z

end Go.Proofs.Ytgdefibgifcbaaa


/- What the program's Put of a point does. -/
namespace Go.Proofs.Ytgdefibgifcbaaa
open Go.RowKit

theorem shr_byte (m k : Nat) : m / 2 ^ (8 * k) % 256 = m / 256 ^ k % 256 := by
  rw [show (256 : Nat) = 2 ^ 8 from rfl, ← Nat.pow_mul]

end Go.Proofs.Ytgdefibgifcbaaa


/- What the program's Get of a point does. -/
namespace Go.Proofs.Ytgdefibgifcbaaa
open Go.RowKit

theorem get_code (bs : List Nat) (h : Po.get bs = (Po.zero, 0)) : code (Po.get bs).2 = 2 := by rw [h]; rfl

end Go.Proofs.Ytgdefibgifcbaaa
