/- The disk's small functions: made, Dead, Used, Room, isName, clamp. -/
import Derived.Test.YtefadkengfjdmaaDK2
import Derived.BigQuiet
namespace Go.Proofs.Ytefadkengfjdmaa
open Go.RowKit

theorem run_equalIn_map_nil {P : Program} (w : World) (d : Nat) (t k e : TypeId) (b : Nat) (h : P.underlying t = some (.map k e)) : (Op.equalIn (d + 1) t (.map (some b)) (.map none)).run P w = .ok false w := by
  simp [Op.equalIn, run_underlying h]
theorem run_neq_map_nil {P : Program} (w : World) (t k e : TypeId) (b : Nat) (h : P.underlying t = some (.map k e)) : (binOp .neq t (.map (some b)) (.map none)).run P w = .ok (.bool true) w := by
  simp only [binOp]
  simp [show Op.equal t (.map (some b)) (.map none) = Op.equalIn (9999 + 1) t (.map (some b)) (.map none) from rfl, run_equalIn_map_nil w 9999 t k e b h]

/-- the disk's cells -/
theorem Parts.cells {w : World} {p u fm nm sm : Nat} {D : Dk.D} {tv : Value} {J : List (Nat × FH × Dk.F)} (h : Parts w p D u fm nm sm tv J) :
    (w.cell? ⟨p, 0, none⟩ = some (.int .i64 (D.quota : Int)) ∧ w.cell? ⟨p, 1, none⟩ = some (.map (some fm)) ∧ w.cell? ⟨p, 2, none⟩ = some (.int .i64 (D.last : Int)) ∧ w.cell? ⟨p, 3, none⟩ = some (.int .i64 (u : Int)) ∧ w.cell? ⟨p, 4, none⟩ = some (.map (some nm)) ∧ w.cell? ⟨p, 5, none⟩ = some (.map (some sm)) ∧ w.cell? ⟨p, 6, none⟩ = some tv ∧ w.cell? ⟨p, 7, none⟩ = some (.int .i64 D.stop) ∧ w.cell? ⟨p, 8, none⟩ = some (.int .i64 D.fault) ∧ w.cell? ⟨p, 9, none⟩ = some (.bool D.dead)) ∧
    (∀ i, w.frozen? ⟨p, i, none⟩ = false) := by
  have hb := h.blk
  refine ⟨⟨?_, ?_, ?_, ?_, ?_, ?_, ?_, ?_, ?_, ?_⟩, fun i => ?_⟩
  all_goals first | exact (Go.Joins.cell_of_block hb _).trans rfl | exact Go.Joins.unfrozen_of_block hb _

theorem made_any {w : World} {p u fm nm sm : Nat} {D : Dk.D} {tv : Value} {J : List (Nat × FH × Dk.F)} (h : Parts w p D u fm nm sm tv J) :
    Calls Try.prog 20 #[.pointer (some ⟨p, 0, none⟩)] w fun e w' => e = .returned (.bool true) ∧ w' = w := by
  obtain ⟨⟨c0, c1, c2, c3, c4, c5, c6, c7, c8, c9⟩, hf⟩ := h.cells
  have hq := fun w => run_neq_map_nil (P := Try.prog) w 45 _ _ fm Try.underlying45
  go_enter Try.func20, Try.ntmps20
  go_wp2
  all_goals go_ret
  all_goals exact ⟨rfl, rfl⟩

theorem dead_any {w : World} {p u fm nm sm : Nat} {D : Dk.D} {tv : Value} {J : List (Nat × FH × Dk.F)} (h : Parts w p D u fm nm sm tv J) :
    Calls Try.prog 21 #[.pointer (some ⟨p, 0, none⟩)] w fun e w' => e = .returned (.bool D.dead) ∧ w' = w := by
  obtain ⟨⟨c0, c1, c2, c3, c4, c5, c6, c7, c8, c9⟩, hf⟩ := h.cells
  have hm := made_any h
  go_enter Try.func21, Try.ntmps21
  go_wp2_with (go_at_call 20; go_must (refine hm.mono ?_; rintro e w1 ⟨rfl, hw⟩; subst hw))
  all_goals go_ret
  all_goals exact ⟨rfl, rfl⟩

theorem used_any {w : World} {p u fm nm sm : Nat} {D : Dk.D} {tv : Value} {J : List (Nat × FH × Dk.F)} (h : Parts w p D u fm nm sm tv J) :
    Calls Try.prog 8 #[.pointer (some ⟨p, 0, none⟩)] w fun e w' => e = .returned (.int .i64 (u : Int)) ∧ w' = w := by
  obtain ⟨⟨c0, c1, c2, c3, c4, c5, c6, c7, c8, c9⟩, hf⟩ := h.cells
  have hm := made_any h
  go_enter Try.func8, Try.ntmps8
  go_wp2_with (go_at_call 20; go_must (refine hm.mono ?_; rintro e w1 ⟨rfl, hw⟩; subst hw))
  all_goals go_ret
  all_goals exact ⟨rfl, rfl⟩

theorem room_any {w : World} {p u fm nm sm : Nat} {D : Dk.D} {tv : Value} {J : List (Nat × FH × Dk.F)} (h : Parts w p D u fm nm sm tv J) (hu : u ≤ D.quota) (hq : D.quota ≤ 4194304) :
    Calls Try.prog 9 #[.pointer (some ⟨p, 0, none⟩)] w fun e w' => e = .returned (.int .i64 ((D.quota : Int) - (u : Int))) ∧ ∃ n, w' = w.drewN n := by
  obtain ⟨⟨c0, c1, c2, c3, c4, c5, c6, c7, c8, c9⟩, hf⟩ := h.cells
  have hm := made_any h
  have hwr : IntKind.i64.wrap ((D.quota : Int) - (u : Int)) = (D.quota : Int) - (u : Int) := by rw [IntKind.wrap_i64]; omega
  go_enter Try.func9, Try.ntmps9
  go_wp2_with (go_at_call 20; go_must (refine hm.mono ?_; rintro e w1 ⟨rfl, hw⟩; subst hw))
  go_quiet (fail)
  go_wp2
  go_ret
  exact ⟨rfl, _, rfl⟩

theorem isname_any (s : ByteArray) (w : World) :
    Calls Try.prog 22 #[.string s] w fun e w' => e = .returned (.bool (decide (1 ≤ s.size ∧ s.size ≤ 16))) ∧ w' = w := by
  go_enter Try.func22, Try.ntmps22
  go_wp2
  all_goals go_ret
  all_goals refine ⟨ret_bool ?_, rfl⟩
  · rw [decide_eq_decide]; omega
  · symm; rw [Bool.and_eq_false_iff, decide_eq_false_iff_not]; omega

theorem clamp_any (n m : Int) (w : World) : Calls Try.prog 30 #[.int .i64 n, .int .i64 m] w fun e w' => e = .returned (.int .i64 (min (max n 0) m)) ∧ w' = w := by
  go_enter Try.func30, Try.ntmps30
  go_wp2
  all_goals go_ret
  all_goals exact ⟨by simp, rfl⟩
end Go.Proofs.Ytefadkengfjdmaa
