/- What the reference's May, Less, Sum and Put of a point do. -/
import Derived.Test.YtnoknmnbfkdccaaGreatDoorGa
import Derived.Test.YtnoknmnbfkdccaaGreatDoorMa
namespace Go.Proofs.YtnoknmnbfkdccaaGreatDoor
open Go.RowKit

set_option maxRecDepth 100000 in
set_option maxHeartbeats 1000000 in
theorem pomay_any (s a l : Int) (m : Nat) (w : World) :
    Calls Tryz.prog 94 #[.agg #[.int .i64 s, .int .i64 a, .int .i64 l, .int .u32 m]] w fun e w' => e = .returned (.bool (Po.may (s, a, l, m))) ∧ Below w.heap.size w w' := by
  by_cases h1 : 1 ≤ s
  · skip
    by_cases h2 : s ≤ 2147483647
    · skip
      by_cases h3 : 0 ≤ a
      · skip
        by_cases h4 : a ≤ 2147483647
        · skip
          by_cases h5 : 0 ≤ l
          · skip
            have hm : Hid (Po.may (s, a, l, m) = decide (l ≤ 4096)) := (by unfold Po.may; simp only [h1, h2, h3, h4, h5, true_and] : Po.may (s, a, l, m) = decide (l ≤ 4096))
            go_enter Tryz.func94, Tryz.ntmps94
            go_wp2
            go_ret
            exact ⟨by rw [hm.out]; rfl, (Below.refl _ _).alloc (Nat.le_refl _) _⟩
          · have hm : Hid (Po.may (s, a, l, m) = false) := (by unfold Po.may; simp; omega : Po.may (s, a, l, m) = false)
            go_enter Tryz.func94, Tryz.ntmps94
            go_wp2
            go_ret
            exact ⟨by rw [hm.out]; rfl, (Below.refl _ _).alloc (Nat.le_refl _) _⟩
        · have hm : Hid (Po.may (s, a, l, m) = false) := (by unfold Po.may; simp; omega : Po.may (s, a, l, m) = false)
          go_enter Tryz.func94, Tryz.ntmps94
          go_wp2
          go_ret
          exact ⟨by rw [hm.out]; rfl, (Below.refl _ _).alloc (Nat.le_refl _) _⟩
      · have hm : Hid (Po.may (s, a, l, m) = false) := (by unfold Po.may; simp; omega : Po.may (s, a, l, m) = false)
        go_enter Tryz.func94, Tryz.ntmps94
        go_wp2
        go_ret
        exact ⟨by rw [hm.out]; rfl, (Below.refl _ _).alloc (Nat.le_refl _) _⟩
    · have hm : Hid (Po.may (s, a, l, m) = false) := (by unfold Po.may; simp; omega : Po.may (s, a, l, m) = false)
      go_enter Tryz.func94, Tryz.ntmps94
      go_wp2
      go_ret
      exact ⟨by rw [hm.out]; rfl, (Below.refl _ _).alloc (Nat.le_refl _) _⟩
  · have hm : Hid (Po.may (s, a, l, m) = false) := (by unfold Po.may; simp; omega : Po.may (s, a, l, m) = false)
    go_enter Tryz.func94, Tryz.ntmps94
    go_wp2
    go_ret
    exact ⟨by rw [hm.out]; rfl, (Below.refl _ _).alloc (Nat.le_refl _) _⟩

end Go.Proofs.YtnoknmnbfkdccaaGreatDoor


/- What the reference's Put of a point does. -/
namespace Go.Proofs.YtnoknmnbfkdccaaGreatDoor
open Go.RowKit

theorem cell_four (w : World) (c0 c1 c2 c3 : Value) (e : TypeId) {b : Nat} (hb : w.heap.size = b) : (w.alloc (.cells #[c0, c1, c2, c3] e)).cell? ⟨b, 0, none⟩ = some c0 ∧ (w.alloc (.cells #[c0, c1, c2, c3] e)).cell? ⟨b, 1, none⟩ = some c1 ∧ (w.alloc (.cells #[c0, c1, c2, c3] e)).cell? ⟨b, 2, none⟩ = some c2 ∧ (w.alloc (.cells #[c0, c1, c2, c3] e)).cell? ⟨b, 3, none⟩ = some c3 := by
  subst hb
  exact ⟨by rw [cell_new]; rfl, by rw [cell_new]; rfl, by rw [cell_new]; rfl, by rw [cell_new]; rfl⟩

end Go.Proofs.YtnoknmnbfkdccaaGreatDoor


/- What the reference's Get of a point does. -/
namespace Go.Proofs.YtnoknmnbfkdccaaGreatDoor
open Go.RowKit

/-- a point as a value -/
abbrev pv (p : Po.P) : Value := .agg #[.int .i64 p.1, .int .i64 p.2.1, .int .i64 p.2.2.1, .int .u32 (p.2.2.2 : Nat)]
end Go.Proofs.YtnoknmnbfkdccaaGreatDoor


/- What is asked of the program's own functions over points; the laws PointPuts, PointGets, PointReads, given that. -/
namespace Go.Proofs.YtnoknmnbfkdccaaGreatDoor
open Go.RowKit

def PCheckC : Prop := ∀ (p : Po.P) (w : World), Po.Fits p → Calls Tryz.prog 83 #[pv p] w fun e w' => e = .returned (.int .i64 (if Po.may p = true then 0 else 1 : Nat)) ∧ Below w.heap.size w w'

end Go.Proofs.YtnoknmnbfkdccaaGreatDoor


/- The laws PointGets and PointReads, given the program's contracts. -/
namespace Go.Proofs.YtnoknmnbfkdccaaGreatDoor
open Go.RowKit

theorem four_keep {w W : World} {c0 c1 c2 c3 : Value} {e : TypeId} (h : Below (w.alloc (.cells #[c0, c1, c2, c3] e)).heap.size (w.alloc (.cells #[c0, c1, c2, c3] e)) W) :
    W.cell? ⟨w.heap.size, 0, none⟩ = some c0 ∧ W.cell? ⟨w.heap.size, 1, none⟩ = some c1 ∧ W.cell? ⟨w.heap.size, 2, none⟩ = some c2 ∧ W.cell? ⟨w.heap.size, 3, none⟩ = some c3 ∧ w.heap.size < W.heap.size ∧ Below w.heap.size w W := by
  obtain ⟨k0, k1, k2, k3⟩ := cell_four w c0 c1 c2 c3 e rfl
  have hl : w.heap.size < (w.alloc (.cells #[c0, c1, c2, c3] e)).heap.size := by simp
  exact ⟨(h.cell (p := ⟨w.heap.size, 0, none⟩) hl).trans k0, (h.cell (p := ⟨w.heap.size, 1, none⟩) hl).trans k1, (h.cell (p := ⟨w.heap.size, 2, none⟩) hl).trans k2, (h.cell (p := ⟨w.heap.size, 3, none⟩) hl).trans k3, Nat.lt_of_lt_of_le hl h.size, (below_alloc _ _).trans (h.mono (by simp))⟩

theorem own_shape {w : World} {B n c : Nat} {a : Option Addr} {e : TypeId} {xs : List Value} (h : w.ownsRow B e 1 (.slice a n c) n xs) : Shape a n c := by
  rcases h.2 with ⟨e, h0⟩ | ⟨g, cap, cur, e, _, _, hnc, _⟩
  · simp only [Value.slice.injEq] at e
    exact .inl ⟨h0, e.2.2⟩
  · simp only [Value.slice.injEq] at e
    obtain ⟨rfl, _, rfl⟩ := e
    exact .inr ⟨g, 0, rfl, hnc⟩

end Go.Proofs.YtnoknmnbfkdccaaGreatDoor

/- Four bytes as a number, the lowest first: what walks want of it. -/
namespace Go.Proofs.YtnoknmnbfkdccaaGreatDoor
open Go.RowKit

/-- the first bytes' number, the lowest first -/
def vk (bs : List Nat) : Nat → Nat
  | 0 => 0
  | k + 1 => vk bs k + 256 ^ k * bs.getD k 0
theorem vk4 (bs : List Nat) : vk bs 4 = Fr.val4 bs := by simp [vk, Fr.val4]

theorem or32 (n x m M : Nat) (hM : M = 2 ^ m) (hn : n < M) (hn2 : n < 4294967296) (hx : x * M < 4294967296) : bits .or .u32 (n : Int) ((x : Int) * (M : Int)) = ((n + M * x : Nat) : Int) := by
  subst hM
  have e : (x : Int) * ((2 ^ m : Nat) : Int) = ((x * 2 ^ m : Nat) : Int) := by simp
  rw [e, u32_or_nat _ _ hn2 hx, Nat.or_comm, nat_join m _ _ (Nat.mul_mod_left _ _) hn, Nat.add_comm, Nat.mul_comm x]
end Go.Proofs.YtnoknmnbfkdccaaGreatDoor

/- What the program's Check and sumOf of a point, and slices.Max, do. -/
namespace Go.Proofs.YtnoknmnbfkdccaaGreatDoor
open Go.RowKit

set_option maxRecDepth 100000 in
set_option maxHeartbeats 1000000 in
theorem pcheckC : PCheckC := by
  intro p w hf
  obtain ⟨s, a, l, m⟩ := p
  obtain ⟨r, hr⟩ : ∃ r : Nat, r = if Po.may (s, a, l, m) = true then 0 else 1 := ⟨_, rfl⟩
  simp only [pv]
  rw [← hr]
  have hb := below_alloc w (.cells #[.int .i64 s, .int .i64 a, .int .i64 l, .int .u32 (m : Nat)] 42)
  have done : ∀ (z : Nat) (c : Bool), z = (if c = true then 0 else 1) → c = decide (1 ≤ s ∧ s ≤ 2147483647 ∧ 0 ≤ a ∧ a ≤ 2147483647 ∧ 0 ≤ l ∧ l ≤ 4096) → Ending.returned (.int .i64 (z : Nat)) = .returned (.int .i64 (r : Nat)) := by
    intro z c hz hc
    rw [hz, hr, hc]; rfl
  have Done : Hid (_) := done
  clear done hr
  go_enter Tryz.func83, Tryz.ntmps83
  by_cases h1 : 1 ≤ s
  · by_cases h2 : s ≤ 2147483647
    · by_cases h3 : 0 ≤ a
      · by_cases h4 : a ≤ 2147483647
        · by_cases h5 : 0 ≤ l
          · by_cases h6 : l ≤ 4096
            · go_wp2
              go_ret
              exact ⟨Done.out 0 true rfl (decide_eq_true (by omega)).symm, hb⟩
            · go_wp2
              go_ret
              exact ⟨Done.out 1 false rfl (decide_eq_false (by omega)).symm, hb⟩
          · go_wp2
            go_ret
            exact ⟨Done.out 1 false rfl (decide_eq_false (by omega)).symm, hb⟩
        · go_wp2
          go_ret
          exact ⟨Done.out 1 false rfl (decide_eq_false (by omega)).symm, hb⟩
      · go_wp2
        go_ret
        exact ⟨Done.out 1 false rfl (decide_eq_false (by omega)).symm, hb⟩
    · go_wp2
      go_ret
      exact ⟨Done.out 1 false rfl (decide_eq_false (by omega)).symm, hb⟩
  · go_wp2
    go_ret
    exact ⟨Done.out 1 false rfl (decide_eq_false (by omega)).symm, hb⟩

end Go.Proofs.YtnoknmnbfkdccaaGreatDoor


/- What the program's Put of a point does. -/
namespace Go.Proofs.YtnoknmnbfkdccaaGreatDoor
open Go.RowKit

end Go.Proofs.YtnoknmnbfkdccaaGreatDoor


/- What the program's Get of a point does. -/
namespace Go.Proofs.YtnoknmnbfkdccaaGreatDoor
open Go.RowKit

end Go.Proofs.YtnoknmnbfkdccaaGreatDoor
