/- What the laws' awake and Light do. -/
import Derived.Test.YtghgolpofafjmaaLS
import Derived.Test.YtghgolpofafjmaaLI
import Derived.Test.YtghgolpofafjmaaI1
namespace Go.Proofs.Ytghgolpofafjmaa
open Go.RowKit
abbrev sa : ByteArray := ⟨#[97]⟩
abbrev sb : ByteArray := ⟨#[98]⟩
abbrev sc : ByteArray := ⟨#[99]⟩
abbrev sd : ByteArray := ⟨#[100]⟩
def aw : List Lv.T := [⟨1, 0, 0, sa, sc⟩, ⟨2, 0, 0, sa, sc⟩, ⟨3, 0, 0, sa, sc⟩, ⟨4, 0, 0, sb, sd⟩]
theorem aw_may : Lv.May aw := (Lv.may_iff aw).mp (by decide)
theorem aw_pn : 0 = Lv.pn (Lv.ord aw) 100 := by decide
theorem aw_nm : nm (Lv.inn (Lv.ord aw) 0) = [4, 3, 2, 1] := by decide
theorem aw_drop : Lv.hides (Lv.ord aw) (Lv.inn (Lv.ord aw) 0) 1 = false := by decide
theorem aw_meet : Lv.meet ⟨1, 0, 0, sa, sc⟩ ⟨4, 0, 0, sb, sd⟩ = true := by decide
theorem lit_tabs (w : World) (l : List Lv.T) (hl : l.length ≤ 1000) : LRow (w.alloc (.cells (tcells le l).toArray 30)) (some ⟨w.heap.size, 0, none⟩) l.length l := by
  refine ⟨rfl, by omega, .inr ⟨w.heap.size, 0, rfl, fun i hi j v hj => ?_⟩⟩
  have h5 : j < 5 := by
    rcases Nat.lt_or_ge j 5 with h | h
    · exact h
    · rw [List.getElem?_eq_none (by rw [leE.len]; exact h)] at hj; cases hj
  rw [cell_new, List.getElem?_toArray, Nat.zero_add, tcells_get (d := Lv.zero) leE l i j hi h5]
  exact hj
theorem aw_pick (G : Nat) (W : World) (hr : LRow W (some ⟨G, 0, none⟩) 4 aw) : Calls Try.prog 18 #[.slice (some ⟨G, 0, none⟩) 4 4, .int .i64 100] W fun e w' => ∃ g c, e = .returned (.tuple #[.agg #[.slice g 4 c, .int .i64 1, .bool true], .bool true]) ∧ w'.ownsRow W.heap.size 3 1 (.slice g 4 c) 4 (tcells ie [4, 3, 2, 1]) ∧ Below W.heap.size W w' := by
  refine (lpick_any (some ⟨G, 0, none⟩) 4 4 aw 100 W (by omega) hr (fun h => by cases h) aw_may (by omega) (by omega) 0 aw_pn).mono ?_
  rintro e w' (⟨h, _⟩ | ⟨_, g, c, rfl, hown, hb⟩)
  · cases h
  · have e1 : (((0 : Nat) : Int) + 1) = 1 := rfl
    rw [e1, aw_nm] at *
    rw [aw_drop]
    exact ⟨g, c, rfl, hown, hb⟩
set_option maxRecDepth 100000 in
set_option maxHeartbeats 1000000 in
theorem awake_level (w : World) : Calls Try.prog 7 #[] w fun e w' => e = .returned (.bool true) ∧ Below w.heap.size w w' := by
  have hb0 := below_alloc w (.cells (tcells le aw).toArray 30)
  have hr0 := lit_tabs w aw (by decide)
  have hp := aw_pick w.heap.size _ hr0
  have hme := fun V => lmeet_any 1 0 0 sa sc 4 0 0 sb sd V
  rw [aw_meet] at hme
  go_enter Try.func7, Try.ntmps7
  go_wp2_with (go_at_call 18; go_must (refine hp.mono ?_; rintro e w2 ⟨g, c, rfl, hown2, hb2⟩))
  have hc0 : ∀ V, Below w2.heap.size w2 V → L5 V w.heap.size 0 ⟨1, 0, 0, sa, sc⟩ ∧ L5 V w.heap.size 15 ⟨4, 0, 0, sb, sd⟩ := fun V hV => by
    obtain ⟨b, off, e, hc⟩ := hr0.at (by decide)
    simp only [Option.some.injEq, Addr.mk.injEq] at e
    obtain ⟨rfl, rfl, _⟩ := e
    exact ⟨((L5.of (hc 0 (by decide))).below hb2 (Nat.le_refl _)).below hV (Nat.le_refl _), ((L5.of (hc 3 (by decide))).below hb2 (Nat.le_refl _)).below hV (Nat.le_refl _)⟩
  have hW3 := below_alloc w2 (oj (.slice g 4 c) 1 true)
  have hj : ∀ V, Below (w2.alloc (oj (.slice g 4 c) 1 true)).heap.size (w2.alloc (oj (.slice g 4 c) 1 true)) V → (V.cell? ⟨w2.heap.size, 0, none⟩ = some (.slice g 4 c) ∧ V.cell? ⟨w2.heap.size, 1, none⟩ = some (.int .i64 1) ∧ V.cell? ⟨w2.heap.size, 2, none⟩ = some (.bool true)) ∧ L5 V w.heap.size 0 ⟨1, 0, 0, sa, sc⟩ ∧ L5 V w.heap.size 15 ⟨4, 0, 0, sb, sd⟩ := fun V hV =>
    ⟨(blk3 (blk_kept (heap_alloc_new w2 (oj (.slice g 4 c) 1 true)) hV)).1, hc0 V (hW3.trans (hV.mono hW3.size))⟩
  have hI : ∀ V, Below ((w2.alloc (oj (.slice g 4 c) 1 true)).alloc (.cells #[.int .i64 4, .int .i64 3, .int .i64 2, .int .i64 1] 3)).heap.size ((w2.alloc (oj (.slice g 4 c) 1 true)).alloc (.cells #[.int .i64 4, .int .i64 3, .int .i64 2, .int .i64 1] 3)) V → Calls Try.prog 14 #[.slice g 4 c, .slice (some ⟨w2.heap.size + 1, 0, none⟩) 4 4] V fun e w' => e = .returned (.bool true) ∧ Below V.heap.size V w' := fun V hV => by
    have h4 := hW3.alloc hW3.size (.cells #[.int .i64 4, .int .i64 3, .int .i64 2, .int .i64 1] 3)
    have hr1 : IRow V g 4 [4, 3, 2, 1] := (trow_of_owns ieE hown2 (by omega) (by omega)).below (h4.trans (hV.mono h4.size)) (Nat.le_refl _)
    have hr2 : IRow V (some ⟨w2.heap.size + 1, 0, none⟩) 4 [4, 3, 2, 1] := by
      refine TRow.below (w := (w2.alloc (oj (.slice g 4 c) 1 true)).alloc (.cells #[.int .i64 4, .int .i64 3, .int .i64 2, .int .i64 1] 3)) ⟨rfl, by omega, .inr ⟨_, 0, rfl, fun i hi j v hj => ?_⟩⟩ hV (Nat.le_refl _)
      rw [cell_newb _ _ _ _ (by simp)]
      match i, j, hi, hj with
      | 0, 0, _, hj | 1, 0, _, hj | 2, 0, _, hj | 3, 0, _, hj => exact hj
      | _, j + 1, _, hj => simp [ie] at hj
      | i + 4, 0, hi, _ => omega
    refine (ints_any g 4 c [4, 3, 2, 1] (some ⟨w2.heap.size + 1, 0, none⟩) 4 4 [4, 3, 2, 1] V (hr1.row (by decide)) (hr2.row (by decide))).mono ?_
    rintro e w' ⟨rfl, n, rfl⟩
    exact ⟨by simp, below_drewN _ _ _⟩
  obtain ⟨⟨j0, j1, j2⟩, ⟨a0, a1, a2, a3, a4⟩, b0, b1, b2, b3, b4⟩ := hj _ (Below.refl _ _)
  simp only [Nat.zero_add] at a0 a1 a2 a3 a4 b0 b1 b2 b3 b4
  have hkeep : Hid (∀ V, Below (w2.alloc (oj (.slice g 4 c) 1 true)).heap.size (w2.alloc (oj (.slice g 4 c) 1 true)) V → (V.cell? ⟨w2.heap.size, 0, none⟩ = some (.slice g 4 c) ∧ V.cell? ⟨w2.heap.size, 1, none⟩ = some (.int .i64 1) ∧ V.cell? ⟨w2.heap.size, 2, none⟩ = some (.bool true)) ∧ L5 V w.heap.size 0 ⟨1, 0, 0, sa, sc⟩ ∧ L5 V w.heap.size 15 ⟨4, 0, 0, sb, sd⟩) := hj
  have hB3 := hb0.trans ((hb2.trans (hW3.mono hb2.size)).mono hb0.size)
  have h34 := below_alloc (w2.alloc (oj (.slice g 4 c) 1 true)) (.cells #[.int .i64 4, .int .i64 3, .int .i64 2, .int .i64 1] 3)
  clear hc0 hj hp hr0 hown2
  go_region_held3 (fun w' => w'.cell? ⟨w2.heap.size, 0, none⟩ = some (.slice g 4 c) ∧ w'.cell? ⟨w2.heap.size, 1, none⟩ = some (.int .i64 1) ∧ w'.cell? ⟨w2.heap.size, 2, none⟩ = some (.bool true) ∧ w'.cell? ⟨w.heap.size, 0, none⟩ = some (.int .i64 1) ∧ w'.cell? ⟨w.heap.size, 1, none⟩ = some (.int .i64 0) ∧ w'.cell? ⟨w.heap.size, 2, none⟩ = some (.int .i64 0) ∧ w'.cell? ⟨w.heap.size, 3, none⟩ = some (.string ⟨#[97]⟩) ∧ w'.cell? ⟨w.heap.size, 4, none⟩ = some (.string ⟨#[99]⟩) ∧ w'.cell? ⟨w.heap.size, 15, none⟩ = some (.int .i64 4) ∧ w'.cell? ⟨w.heap.size, 16, none⟩ = some (.int .i64 0) ∧ w'.cell? ⟨w.heap.size, 17, none⟩ = some (.int .i64 0) ∧ w'.cell? ⟨w.heap.size, 18, none⟩ = some (.string ⟨#[98]⟩) ∧ w'.cell? ⟨w.heap.size, 19, none⟩ = some (.string ⟨#[100]⟩)) (first | go_keep | (refine ⟨?_, ?_, ?_, ?_, ?_, ?_, ?_, ?_, ?_, ?_, ?_, ?_, ?_⟩ <;> assumption))
    (first
      | ((go_at_call 14; go_must (refine (hI _ (by first | exact (Below.refl _ _).drew | exact Below.refl _ _)).mono ?_; rintro e w3 ⟨rfl, hbI0⟩; have hbI : Below (w2.alloc (oj (.slice g 4 c) 1 true)).heap.size (w2.alloc (oj (.slice g 4 c) 1 true)) w3 := h34.trans ((below_of_drew hbI0).mono h34.size); obtain ⟨⟨k0, k1, k2⟩, ⟨c0, c1, c2, c3, c4⟩, d0, d1, d2, d3, d4⟩ := hkeep.out w3 hbI; simp only [Nat.zero_add] at c0 c1 c2 c3 c4 d0 d1 d2 d3 d4)))
      | ((go_at_call 10; go_must (refine (hme _).mono ?_; rintro e w4 ⟨rfl, hbM⟩; have hbM2 : Below (w2.alloc (oj (.slice g 4 c) 1 true)).heap.size (w2.alloc (oj (.slice g 4 c) 1 true)) w4 := hbI.trans (hbM.mono hbI.size); obtain ⟨⟨l0, l1, l2⟩, ⟨e0, e1, e2, e3, e4⟩, f0, f1, f2, f3, f4⟩ := hkeep.out w4 hbM2; simp only [Nat.zero_add] at e0 e1 e2 e3 e4 f0 f1 f2 f3 f4))))
  go_wp2
  go_ret
  exact ⟨rfl, hB3.trans (hbM2.mono hB3.size)⟩
end Go.Proofs.Ytghgolpofafjmaa
