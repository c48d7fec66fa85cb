/- What the program's tooLong and Next of layer 19 do. -/
import Derived.Test.YtnoknmnbfkdccaaGreatDoorPA
import Derived.Test.YtnoknmnbfkdccaaGreatDoorBXb
import Derived.Test.YtnoknmnbfkdccaaGreatDoorSgMath
namespace Go.Proofs.YtnoknmnbfkdccaaGreatDoor
open Go.RowKit

set_option maxRecDepth 100000 in
theorem toolong_any (a : Option Addr) (n c : Nat) (b : Bool) (w : World) (hn : n ≤ 1000000000) (hb : decide (4096 < n) = b) :
    Calls Tryz.prog 66 #[.slice a n c] w fun e w' => e = .returned (.bool b) ∧ w' = w := by
  have hb' : decide (4096 < (n : Int)) = b := by rw [← hb]; simp; omega
  go_enter Tryz.func66, Tryz.ntmps66
  go_wp2
  go_ret
  exact ⟨rfl, rfl⟩

/-- a result's block of four cells, kept by a call -/
theorem four_froz {w W : World} {c0 c1 c2 c3 : Value} {e : TypeId} (h : Below (w.alloc (.cells #[c0, c1, c2, c3] e)).heap.size (w.alloc (.cells #[c0, c1, c2, c3] e)) W) :
    (W.cell? ⟨w.heap.size, 0, none⟩ = some c0 ∧ W.cell? ⟨w.heap.size, 1, none⟩ = some c1 ∧ W.cell? ⟨w.heap.size, 2, none⟩ = some c2 ∧ W.cell? ⟨w.heap.size, 3, none⟩ = some c3) ∧
    (W.frozen? ⟨w.heap.size, 0, none⟩ = false ∧ W.frozen? ⟨w.heap.size, 1, none⟩ = false ∧ W.frozen? ⟨w.heap.size, 2, none⟩ = false ∧ W.frozen? ⟨w.heap.size, 3, none⟩ = false) ∧ w.heap.size < W.heap.size ∧ Below w.heap.size w W := by
  obtain ⟨k0, k1, k2, k3, k4, k5⟩ := four_keep h
  have hl : w.heap.size < (w.alloc (.cells #[c0, c1, c2, c3] e)).heap.size := by simp
  have f : ∀ i, W.frozen? ⟨w.heap.size, i, none⟩ = false := fun i => (h.frozen (p := ⟨_, i, none⟩) hl).trans (frozen_new _ _ e i)
  exact ⟨⟨k0, k1, k2, k3⟩, ⟨f 0, f 1, f 2, f 3⟩, k4, k5⟩
theorem below_four {w W : World} (h : Below w.heap.size w W) (v0 v1 v2 v3 : Value) : Below w.heap.size w ((((W.setCell ⟨w.heap.size, 0, none⟩ v0).setCell ⟨w.heap.size, 1, none⟩ v1).setCell ⟨w.heap.size, 2, none⟩ v2).setCell ⟨w.heap.size, 3, none⟩ v3) :=
  (((h.setCell (Nat.le_refl _) _).setCell (Nat.le_refl _) _).setCell (Nat.le_refl _) _).setCell (Nat.le_refl _) _
theorem below_four_alloc {w W : World} (h : Below w.heap.size w W) (v0 v1 v2 v3 : Value) (o : Obj) : Below w.heap.size w (((((W.setCell ⟨w.heap.size, 0, none⟩ v0).setCell ⟨w.heap.size, 1, none⟩ v1).setCell ⟨w.heap.size, 2, none⟩ v2).setCell ⟨w.heap.size, 3, none⟩ v3).alloc o) :=
  (below_four h v0 v1 v2 v3).alloc (below_four h v0 v1 v2 v3).size _

/-- what Next tells -/
def Sg.next (s : Int) (z : Nat) (v : List Nat) : Po.P × Nat :=
  if 4096 < v.length then (Po.zero, 6) else if Po.may (s, ((z + Sg.head v.length : Nat) : Int), (v.length : Int), 0) = true then (Sg.pt s z v, 0) else (Po.zero, 1)

set_option maxRecDepth 100000 in
set_option maxHeartbeats 1000000 in
theorem snext_any (s : Int) (z : Nat) (a : Option Addr) (n c : Nat) (vs : List Nat) (w : World) (hn : n ≤ 1000000) (hz : z ≤ 1000000000) (hs : -9223372036854775808 ≤ s ∧ s ≤ 9223372036854775807) (hr : Row .u8 w a n vs) :
    Calls Tryz.prog 37 #[.int .i64 s, .int .i64 z, .slice a n c] w fun e w' => e = .returned (.tuple #[pv (Sg.next s z vs).1, .int .i64 ((Sg.next s z vs).2 : Nat)]) ∧ Below w.heap.size w w' := by
  have hl : Hid (vs.length = n) := hr.1
  have hb0 := below_alloc w (.cells #[.int .i64 0, .int .i64 0, .int .i64 0, .int .u32 0] 42)
  by_cases hn4 : 4096 < n
  · have H : Hid (Sg.next s z vs = (Po.zero, 6)) := (by rw [Sg.next, if_pos (by rw [hl.out]; exact hn4)] : Sg.next s z vs = (Po.zero, 6))
    have htl := fun W => toolong_any a n c true W (by omega) (by simpa using hn4)
    clear hr
    go_enter Tryz.func37, Tryz.ntmps37
    go_wp2_with (go_at_call 66; refine (htl _).mono ?_; rintro e w1 ⟨rfl, rfl⟩)
    exact bodyPost_ret (v := .tuple #[pv Po.zero, .int .i64 6]) (by simp [pv, Po.zero, results, Tryz.results37, go_sem]) rfl ⟨by rw [H.out]; rfl, by first | exact hb0 | exact ((((hb0.setCell (Nat.le_refl _) _).setCell (Nat.le_refl _) _).setCell (Nat.le_refl _) _).setCell (Nat.le_refl _) _)⟩
  · have htl := fun W => toolong_any a n c false W (by omega) (by simpa using hn4)
    have hhd := fun W => head_in n W (by omega)
    obtain ⟨o, ho⟩ : ∃ o, o = (Va.one n).length + 1 := ⟨_, rfl⟩
    have ho4 := Fr.one3 (n := n) (by omega)
    rw [← ho] at hhd
    have Ho : Hid (Sg.head n = o) := (by rw [ho]; rfl : Sg.head n = o)
    obtain ⟨y, hy⟩ : ∃ y, y = z + o := ⟨_, rfl⟩
    have hy9 : y ≤ 2000000000 := by omega
    have hzo : IntKind.i64.wrap ((z : Int) + (o : Int)) = (y : Int) := by rw [IntKind.wrap_i64]; omega
    have hz0 : decide ((z : Int) < 0) = false := by simp
    have hkeep : Hid (∀ W, Below (w.alloc (.cells #[.int .i64 0, .int .i64 0, .int .i64 0, .int .u32 0] 42)).heap.size (w.alloc (.cells #[.int .i64 0, .int .i64 0, .int .i64 0, .int .u32 0] 42)) W → _) := (fun W h => four_froz (w := w) (W := W) h)
    have hfar := fun W (h : Below w.heap.size w W) => cfar_any s (y : Int) a n c vs W (by omega) hs (by omega) (hr.below h (Nat.le_refl _))
    have h64 : wrap64 ((z : Int) + (o : Int)) = (y : Int) := by unfold wrap64; omega
    clear hr
    by_cases hm : Po.may (s, (y : Int), (n : Int), 0) = true
    · have H : Hid (Sg.next s z vs = ((s, (y : Int), (n : Int), Crc.more 0 vs), 0)) := (by rw [Sg.next, hl.out, if_neg hn4, Ho.out, ← hy, if_pos hm, Sg.pt, hl.out, Ho.out, ← hy] : Sg.next s z vs = ((s, (y : Int), (n : Int), Crc.more 0 vs), 0))
      have Hm : Hid (Po.may (s, (y : Int), (n : Int), 0) = true) := hm
      clear hm ho hy
      go_enter Tryz.func37, Tryz.ntmps37
      go_wp2_with (first
        | (go_at_call 68; go_must (refine (hfar _ (by assumption)).mono ?_; rintro e w1 hx; obtain ⟨_, a', c', rfl, hb1⟩ := hx.resolve_right (fun h => by rw [Hm.out] at h; cases h.1); obtain ⟨⟨m0, m1, m2, m3⟩, ⟨g0, g1, g2, g3⟩, hs1, hb2⟩ := hkeep.out w1 hb1))
        | (go_at_call 69; refine (hhd _).mono ?_; rintro e w1 ⟨rfl, rfl⟩)
        | (go_at_call 66; refine (htl _).mono ?_; rintro e w1 ⟨rfl, rfl⟩))
      exact bodyPost_ret (v := .tuple #[pv (s, (y : Int), (n : Int), Crc.more 0 vs), .int .i64 0]) (by simp [pv, results, Tryz.results37, go_sem, m0, m1, m2, m3, hs1]) rfl ⟨by rw [H.out]; rfl, by first | exact below_four_alloc hb2 _ _ _ _ _ | exact below_four hb2 _ _ _ _⟩
    · have H : Hid (Sg.next s z vs = (Po.zero, 1)) := (by rw [Sg.next, hl.out, if_neg hn4, Ho.out, ← hy, if_neg hm] : Sg.next s z vs = (Po.zero, 1))
      have Hm : Hid (¬ Po.may (s, (y : Int), (n : Int), 0) = true) := hm
      clear hm ho hy
      go_enter Tryz.func37, Tryz.ntmps37
      go_wp2_with (first
        | (go_at_call 68; go_must (refine (hfar _ (by assumption)).mono ?_; rintro e w1 hx; obtain ⟨_, a', c', rfl, hb1⟩ := hx.resolve_left (fun h => Hm.out h.1); obtain ⟨⟨m0, m1, m2, m3⟩, ⟨g0, g1, g2, g3⟩, hs1, hb2⟩ := hkeep.out w1 hb1))
        | (go_at_call 69; refine (hhd _).mono ?_; rintro e w1 ⟨rfl, rfl⟩)
        | (go_at_call 66; refine (htl _).mono ?_; rintro e w1 ⟨rfl, rfl⟩))
      exact bodyPost_ret (v := .tuple #[pv Po.zero, .int .i64 1]) (by simp [pv, Po.zero, results, Tryz.results37, go_sem, m0, m1, m2, m3, hs1]) rfl ⟨by rw [H.out]; rfl, by first | exact below_four_alloc hb2 _ _ _ _ _ | exact below_four hb2 _ _ _ _⟩
end Go.Proofs.YtnoknmnbfkdccaaGreatDoor
