/- What the reference's May, Less, Sum and Put of a point do. -/
import Derived.Test.YtgdefibgifcbaaaGa
import Derived.Test.YtgdefibgifcbaaaMa
import Derived.Test.YtgdefibgifcbaaaWa
namespace Go.Proofs.Ytgdefibgifcbaaa
open Go.RowKit

set_option maxRecDepth 100000 in
set_option maxHeartbeats 1000000 in
theorem pomay_any (s a l : Int) (m : Nat) (w : World) :
    Calls Try.prog 12 #[.agg #[.int .i64 s, .int .i64 a, .int .i64 l, .int .u32 m]] w fun e w' => e = .returned (.bool (Po.may (s, a, l, m))) ∧ Below w.heap.size w w' := by
  by_cases h1 : 1 ≤ s
  · skip
    by_cases h2 : s ≤ 2147483647
    · skip
      by_cases h3 : 0 ≤ a
      · skip
        by_cases h4 : a ≤ 2147483647
        · skip
          by_cases h5 : 0 ≤ l
          · skip
            have hm : Hid (Po.may (s, a, l, m) = decide (l ≤ 4096)) := (by unfold Po.may; simp only [h1, h2, h3, h4, h5, true_and] : Po.may (s, a, l, m) = decide (l ≤ 4096))
            go_enter Try.func12, Try.ntmps12
            go_wp2
            go_ret
            exact ⟨by rw [hm.out]; rfl, (Below.refl _ _).alloc (Nat.le_refl _) _⟩
          · have hm : Hid (Po.may (s, a, l, m) = false) := (by unfold Po.may; simp; omega : Po.may (s, a, l, m) = false)
            go_enter Try.func12, Try.ntmps12
            go_wp2
            go_ret
            exact ⟨by rw [hm.out]; rfl, (Below.refl _ _).alloc (Nat.le_refl _) _⟩
        · have hm : Hid (Po.may (s, a, l, m) = false) := (by unfold Po.may; simp; omega : Po.may (s, a, l, m) = false)
          go_enter Try.func12, Try.ntmps12
          go_wp2
          go_ret
          exact ⟨by rw [hm.out]; rfl, (Below.refl _ _).alloc (Nat.le_refl _) _⟩
      · have hm : Hid (Po.may (s, a, l, m) = false) := (by unfold Po.may; simp; omega : Po.may (s, a, l, m) = false)
        go_enter Try.func12, Try.ntmps12
        go_wp2
        go_ret
        exact ⟨by rw [hm.out]; rfl, (Below.refl _ _).alloc (Nat.le_refl _) _⟩
    · have hm : Hid (Po.may (s, a, l, m) = false) := (by unfold Po.may; simp; omega : Po.may (s, a, l, m) = false)
      go_enter Try.func12, Try.ntmps12
      go_wp2
      go_ret
      exact ⟨by rw [hm.out]; rfl, (Below.refl _ _).alloc (Nat.le_refl _) _⟩
  · have hm : Hid (Po.may (s, a, l, m) = false) := (by unfold Po.may; simp; omega : Po.may (s, a, l, m) = false)
    go_enter Try.func12, Try.ntmps12
    go_wp2
    go_ret
    exact ⟨by rw [hm.out]; rfl, (Below.refl _ _).alloc (Nat.le_refl _) _⟩

end Go.Proofs.Ytgdefibgifcbaaa


/- What the reference's Put of a point does. -/
namespace Go.Proofs.Ytgdefibgifcbaaa
open Go.RowKit

theorem cell_four (w : World) (c0 c1 c2 c3 : Value) (e : TypeId) {b : Nat} (hb : w.heap.size = b) : (w.alloc (.cells #[c0, c1, c2, c3] e)).cell? ⟨b, 0, none⟩ = some c0 ∧ (w.alloc (.cells #[c0, c1, c2, c3] e)).cell? ⟨b, 1, none⟩ = some c1 ∧ (w.alloc (.cells #[c0, c1, c2, c3] e)).cell? ⟨b, 2, none⟩ = some c2 ∧ (w.alloc (.cells #[c0, c1, c2, c3] e)).cell? ⟨b, 3, none⟩ = some c3 := by
  subst hb
  exact ⟨by rw [cell_new]; rfl, by rw [cell_new]; rfl, by rw [cell_new]; rfl, by rw [cell_new]; rfl⟩

end Go.Proofs.Ytgdefibgifcbaaa


/- What the reference's Get of a point does. -/
namespace Go.Proofs.Ytgdefibgifcbaaa
open Go.RowKit

/-- a point as a value -/
abbrev pv (p : Po.P) : Value := .agg #[.int .i64 p.1, .int .i64 p.2.1, .int .i64 p.2.2.1, .int .u32 (p.2.2.2 : Nat)]
def RGetRes (w : World) (R : Po.P × Nat) (e : Ending) (w' : World) : Prop := e = .returned (.tuple #[pv R.1, .int .i64 (R.2 : Nat)]) ∧ Below w.heap.size w w'
theorem three_of {w : World} {B c l0 l1 l2 : Nat} {a : Option Addr} {e : TypeId} (h : w.ownsRow B e 1 (.slice a 3 c) 3 (kcells .u64 [l0, l1, l2])) (hs : ∀ u ∈ [l0, l1, l2], u < 18446744073709551616) :
    ∃ g, a = some ⟨g, 0, none⟩ ∧ 3 ≤ c ∧ w.cell? ⟨g, 0, none⟩ = some (.int .u64 (l0 : Nat)) ∧ w.cell? ⟨g, 1, none⟩ = some (.int .u64 (l1 : Nat)) ∧ w.cell? ⟨g, 2, none⟩ = some (.int .u64 (l2 : Nat)) ∧ g < w.heap.size := by
  have hr := (row_of_owns h hs (by omega)).1
  rcases h.2 with ⟨e, h0⟩ | ⟨g, cap, cur, e, _, _, hnc, _⟩
  · omega
  · simp only [Value.slice.injEq] at e
    obtain ⟨rfl, _, rfl⟩ := e
    have c0 := hr.cell 0 (by omega)
    have c1 := hr.cell 1 (by omega)
    have c2 := hr.cell 2 (by omega)
    exact ⟨g, rfl, hnc, c0, c1, c2, cell_lt c0⟩

end Go.Proofs.Ytgdefibgifcbaaa


/- What is asked of the program's own functions over points; the laws PointPuts, PointGets, PointReads, given that. -/
namespace Go.Proofs.Ytgdefibgifcbaaa
open Go.RowKit

def PCheckC : Prop := ∀ (p : Po.P) (w : World), Po.Fits p → Calls Try.prog 30 #[pv p] w fun e w' => e = .returned (.int .i64 (if Po.may p = true then 0 else 1 : Nat)) ∧ Below w.heap.size w w'

theorem po1234 : Po.put (1, 2, 3, 4) = [1, 2, 3, 4, 0, 0, 0] := by
  have h1 : Va.one 1 = [1] := Va.one_lo (by omega)
  have h2 : Va.one 2 = [2] := Va.one_lo (by omega)
  have h3 : Va.one 3 = [3] := Va.one_lo (by omega)
  simp [Po.put, Po.nums, Va.put, h1, h2, h3, Fr.le4]

end Go.Proofs.Ytgdefibgifcbaaa


/- The laws PointGets and PointReads, given the program's contracts. -/
namespace Go.Proofs.Ytgdefibgifcbaaa
open Go.RowKit

theorem four_keep {w W : World} {c0 c1 c2 c3 : Value} {e : TypeId} (h : Below (w.alloc (.cells #[c0, c1, c2, c3] e)).heap.size (w.alloc (.cells #[c0, c1, c2, c3] e)) W) :
    W.cell? ⟨w.heap.size, 0, none⟩ = some c0 ∧ W.cell? ⟨w.heap.size, 1, none⟩ = some c1 ∧ W.cell? ⟨w.heap.size, 2, none⟩ = some c2 ∧ W.cell? ⟨w.heap.size, 3, none⟩ = some c3 ∧ w.heap.size < W.heap.size ∧ Below w.heap.size w W := by
  obtain ⟨k0, k1, k2, k3⟩ := cell_four w c0 c1 c2 c3 e rfl
  have hl : w.heap.size < (w.alloc (.cells #[c0, c1, c2, c3] e)).heap.size := by simp
  exact ⟨(h.cell (p := ⟨w.heap.size, 0, none⟩) hl).trans k0, (h.cell (p := ⟨w.heap.size, 1, none⟩) hl).trans k1, (h.cell (p := ⟨w.heap.size, 2, none⟩) hl).trans k2, (h.cell (p := ⟨w.heap.size, 3, none⟩) hl).trans k3, Nat.lt_of_lt_of_le hl h.size, (below_alloc _ _).trans (h.mono (by simp))⟩

theorem own_shape {w : World} {B n c : Nat} {a : Option Addr} {e : TypeId} {xs : List Value} (h : w.ownsRow B e 1 (.slice a n c) n xs) : Shape a n c := by
  rcases h.2 with ⟨e, h0⟩ | ⟨g, cap, cur, e, _, _, hnc, _⟩
  · simp only [Value.slice.injEq] at e
    exact .inl ⟨h0, e.2.2⟩
  · simp only [Value.slice.injEq] at e
    obtain ⟨rfl, _, rfl⟩ := e
    exact .inr ⟨g, 0, rfl, hnc⟩

end Go.Proofs.Ytgdefibgifcbaaa
