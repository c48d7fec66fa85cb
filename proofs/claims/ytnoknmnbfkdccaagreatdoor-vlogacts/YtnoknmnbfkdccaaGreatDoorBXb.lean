/- What slices.Clone, slices.Grow and slices.Concat of three rows of bytes do. -/
import Derived.Test.YtnoknmnbfkdccaaGreatDoorGa
import Derived.Lib.AppendZeros
import Derived.Test.YtnoknmnbfkdccaaGreatDoorX1
namespace Go.Proofs.YtnoknmnbfkdccaaGreatDoor
open Go.RowKit

end Go.Proofs.YtnoknmnbfkdccaaGreatDoor


/- What the program's getBytes of a near cell does. -/
namespace Go.Proofs.YtnoknmnbfkdccaaGreatDoor
open Go.RowKit

end Go.Proofs.YtnoknmnbfkdccaaGreatDoor

/- What the program's Put of a cell does. -/
namespace Go.Proofs.YtnoknmnbfkdccaaGreatDoor
open Go.RowKit

end Go.Proofs.YtnoknmnbfkdccaaGreatDoor


/- The program's Put, Near and Far of cells, as the laws ask for them. -/
namespace Go.Proofs.YtnoknmnbfkdccaaGreatDoor
open Go.RowKit

/-- two blocks of the call's own: a result of six cells, a point -/
theorem both_keep {w W : World} {c0 c1 c2 c3 c4 c5 d0 d1 d2 d3 : Value} {e e' : TypeId} (h : Below ((w.alloc (.cells #[c0, c1, c2, c3, c4, c5] e)).alloc (.cells #[d0, d1, d2, d3] e')).heap.size ((w.alloc (.cells #[c0, c1, c2, c3, c4, c5] e)).alloc (.cells #[d0, d1, d2, d3] e')) W) :
    ((W.cell? ⟨w.heap.size, 0, none⟩ = some c0 ∧ W.cell? ⟨w.heap.size, 1, none⟩ = some c1 ∧ W.cell? ⟨w.heap.size, 2, none⟩ = some c2 ∧ W.cell? ⟨w.heap.size, 3, none⟩ = some c3 ∧ W.cell? ⟨w.heap.size, 4, none⟩ = some c4 ∧ W.cell? ⟨w.heap.size, 5, none⟩ = some c5) ∧
    (W.frozen? ⟨w.heap.size, 0, none⟩ = false ∧ W.frozen? ⟨w.heap.size, 1, none⟩ = false ∧ W.frozen? ⟨w.heap.size, 2, none⟩ = false ∧ W.frozen? ⟨w.heap.size, 3, none⟩ = false ∧ W.frozen? ⟨w.heap.size, 4, none⟩ = false ∧ W.frozen? ⟨w.heap.size, 5, none⟩ = false) ∧ Below w.heap.size w W ∧ w.heap.size < W.heap.size) ∧
    (W.cell? ⟨w.heap.size + 1, 0, none⟩ = some d0 ∧ W.cell? ⟨w.heap.size + 1, 1, none⟩ = some d1 ∧ W.cell? ⟨w.heap.size + 1, 2, none⟩ = some d2 ∧ W.cell? ⟨w.heap.size + 1, 3, none⟩ = some d3) ∧ W.frozen? ⟨w.heap.size + 1, 3, none⟩ = false := by
  have hs : (w.alloc (.cells #[c0, c1, c2, c3, c4, c5] e)).heap.size = w.heap.size + 1 := by simp
  have hl : (w.alloc (.cells #[c0, c1, c2, c3, c4, c5] e)).heap.size < ((w.alloc (.cells #[c0, c1, c2, c3, c4, c5] e)).alloc (.cells #[d0, d1, d2, d3] e')).heap.size := by simp
  refine ⟨res_keep ((below_alloc _ _).trans (h.mono (by simp))), ?_⟩
  have k : ∀ i, W.cell? ⟨(w.alloc (.cells #[c0, c1, c2, c3, c4, c5] e)).heap.size, i, none⟩ = #[d0, d1, d2, d3][i]? := fun i => (h.cell (p := ⟨_, i, none⟩) hl).trans (cell_new _ _ e' i)
  have f : ∀ i, W.frozen? ⟨(w.alloc (.cells #[c0, c1, c2, c3, c4, c5] e)).heap.size, i, none⟩ = false := fun i => (h.frozen (p := ⟨_, i, none⟩) hl).trans (frozen_new _ _ e' i)
  rw [hs] at k f
  exact ⟨⟨k 0, k 1, k 2, k 3⟩, f 3⟩

def CFarRes (s y : Int) (n : Nat) (vs : List Nat) (w : World) (e : Ending) (w' : World) : Prop :=
  (Po.may (s, y, (n : Int), 0) = true ∧ ∃ a' c', e = .returned (.tuple #[cv true a' 0 c' (s, y, (n : Int), Crc.more 0 vs), .int .i64 0]) ∧ Below w.heap.size w w') ∨
  (Po.may (s, y, (n : Int), 0) = false ∧ ∃ a' c', e = .returned (.tuple #[cv false a' 0 c' Po.zero, .int .i64 1]) ∧ Below w.heap.size w w')

set_option maxRecDepth 100000 in
set_option maxHeartbeats 1000000 in
theorem cfar_any (s y : Int) (a : Option Addr) (n c : Nat) (vs : List Nat) (w : World) (hn : n ≤ 5000) (hs : -9223372036854775808 ≤ s ∧ s ≤ 9223372036854775807) (hy : -9223372036854775808 ≤ y ∧ y ≤ 9223372036854775807) (hr : Row .u8 w a n vs) : Calls Tryz.prog 68 #[.int .i64 s, .int .i64 y, .slice a n c] w (CFarRes s y n vs w) := by
  have hb0 := below_alloc w (.cells #[.bool false, .slice none 0 0, .int .i64 0, .int .i64 0, .int .i64 0, .int .u32 0] 116)
  have hkeep : Hid (∀ W, Below ((w.alloc (.cells #[.bool false, .slice none 0 0, .int .i64 0, .int .i64 0, .int .i64 0, .int .u32 0] 116)).alloc (.cells #[.int .i64 s, .int .i64 y, .int .i64 (n : Nat), .int .u32 0] 42)).heap.size ((w.alloc (.cells #[.bool false, .slice none 0 0, .int .i64 0, .int .i64 0, .int .i64 0, .int .u32 0] 116)).alloc (.cells #[.int .i64 s, .int .i64 y, .int .i64 (n : Nat), .int .u32 0] 42)) W → _) := (fun W h => both_keep (w := w) (W := W) h)
  have hck := fun W => pcheckC (s, y, (n : Int), 0) W ⟨hs, hy, (by show -9223372036854775808 ≤ (n : Int) ∧ (n : Int) ≤ 9223372036854775807; omega), (by show 0 < 4294967296; omega)⟩
  have hof := fun W (h : Below w.heap.size w W) => of_any a n c vs W (hr.below h (Nat.le_refl _))
  simp only [pv] at hck
  clear hr
  by_cases hm : Po.may (s, y, (n : Int), 0) = true
  · have Hm : Hid (Po.may (s, y, (n : Int), 0) = true) := hm
    rw [if_pos hm] at hck
    have hck2 : ∀ W, Calls Tryz.prog 83 #[.agg #[.int .i64 s, .int .i64 y, .int .i64 n, .int .u32 0]] W fun e w' => e = .returned (.int .i64 0) ∧ Below W.heap.size W w' := hck
    clear hm hck
    obtain ⟨S, hS⟩ : ∃ S, S = Crc.more 0 vs := ⟨_, rfl⟩
    rw [← hS] at hof
    have HS : Hid (S = Crc.more 0 vs) := hS
    clear hS
    go_enter Tryz.func68, Tryz.ntmps68
    go_wp2_with (first
      | (go_at_call 83; go_must (refine (hck2 _).mono ?_; rintro e w1 ⟨rfl, hbel1⟩; obtain ⟨⟨⟨m0, m1, m2, m3, m4, m5⟩, ⟨g0, g1, g2, g3, g4, g5⟩, hb1, hs1⟩, ⟨q0, q1, q2, q3⟩, q4⟩ := hkeep.out w1 hbel1))
      | (go_at_call 100; go_must (refine (hof _ hb1).mono ?_; rintro e w2 ⟨rfl, hw⟩; obtain rfl : w1 = w2 := hw.symm)))
    have hb3 := hb1.setCell (p := ⟨w.heap.size + 1, 3, none⟩) (Nat.le_succ _) (.int .u32 (S : Nat))
    exact bodyPost_ret (v := .tuple #[cv true none 0 0 (s, y, (n : Int), S), .int .i64 0]) (by simp [cv, results, Tryz.results68, go_sem, m0, m1, m2, m3, m4, m5]) rfl (.inl ⟨Hm.out, none, 0, by rw [HS.out], below_six hb3 _ _ _ _ _ _⟩)
  · have Hm : Hid (Po.may (s, y, (n : Int), 0) = false) := (by simpa using hm : Po.may (s, y, (n : Int), 0) = false)
    rw [if_neg hm] at hck
    have hck2 : ∀ W, Calls Tryz.prog 83 #[.agg #[.int .i64 s, .int .i64 y, .int .i64 n, .int .u32 0]] W fun e w' => e = .returned (.int .i64 1) ∧ Below W.heap.size W w' := hck
    clear hm hck hof
    go_enter Tryz.func68, Tryz.ntmps68
    go_wp2_with (go_at_call 83; go_must (refine (hck2 _).mono ?_; rintro e w1 ⟨rfl, hbel1⟩; obtain ⟨⟨⟨m0, m1, m2, m3, m4, m5⟩, ⟨g0, g1, g2, g3, g4, g5⟩, hb1, hs1⟩, ⟨q0, q1, q2, q3⟩, q4⟩ := hkeep.out w1 hbel1))
    exact bodyPost_ret (v := .tuple #[cv false none 0 0 Po.zero, .int .i64 1]) (by simp [cv, Po.zero, results, Tryz.results68, go_sem, m0, m1, m2, m3, m4, m5]) rfl (.inr ⟨Hm.out, none, 0, rfl, below_six hb1 _ _ _ _ _ _⟩)
end Go.Proofs.YtnoknmnbfkdccaaGreatDoor

/- What the program's Get of a cell does. -/
namespace Go.Proofs.YtnoknmnbfkdccaaGreatDoor
open Go.RowKit

theorem get_none {bs : List Nat} (h : bs.length = 0 ∨ 1 < bs.getD 0 0) : Ce.get bs = (Ce.zero, 0) := by
  unfold Ce.get; rw [if_pos h]

end Go.Proofs.YtnoknmnbfkdccaaGreatDoor
