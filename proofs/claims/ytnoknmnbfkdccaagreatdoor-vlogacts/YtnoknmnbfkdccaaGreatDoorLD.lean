/- From the reading of an argument that is a point, or a slice of points, to the points. -/
import Derived.Test.YtnoknmnbfkdccaaGreatDoorS4
import Derived.Lib.SmallJoins
import Derived.SizedLaws
import Derived.ProofKit
import Derived.Test.YtnoknmnbfkdccaaGreatDoorRows
import Derived.Test.YtnoknmnbfkdccaaGreatDoorN4
import Derived.LaidMore
import Derived.Stop.LaidErr
import Derived.MakeChecks
namespace Go.Proofs.YtnoknmnbfkdccaaGreatDoor
open Go.ChangeShapes Go.WideShapes Go.RowKit

set_option maxRecDepth 100000 in
theorem i64_fits {k : Int} (h : (Lit.int .i64 k).wf = true) : -9223372036854775808 ≤ k ∧ k ≤ 9223372036854775807 := by
  simp [Lit.wf, IntKind.min, IntKind.max, IntKind.bits, IntKind.signed] at h
  omega
set_option maxRecDepth 100000 in
theorem u32_fits {k : Int} (h : (Lit.int .u32 k).wf = true) : 0 ≤ k ∧ k < 4294967296 := by
  simp [Lit.wf, IntKind.min, IntKind.max, IntKind.bits, IntKind.signed] at h
  omega

set_option maxRecDepth 100000 in
/-- four cells that read as a point's fields -/
theorem point_cells {H : Type} {enc : TypeId × Value → H} {W : World} {n : Nat} {V0 V1 V2 V3 : Value} {y0 y1 y2 y3 : DataW H × List MemPlace}
    (t0 : DataW.trod enc Tryz.prog W 0 (fun _ => true) true n 3 [V0] = some y0) (t1 : DataW.trod enc Tryz.prog W 0 (fun _ => true) true n 3 [V1] = some y1) (t2 : DataW.trod enc Tryz.prog W 0 (fun _ => true) true n 3 [V2] = some y2) (t3 : DataW.trod enc Tryz.prog W 0 (fun _ => true) true n 40 [V3] = some y3) :
    ∃ q : Po.P, Po.Fits q ∧ V0 = .int .i64 q.1 ∧ V1 = .int .i64 q.2.1 ∧ V2 = .int .i64 q.2.2.1 ∧ V3 = .int .u32 (q.2.2.2 : Nat) := by
  obtain ⟨k0, h0, _, w0⟩ := DataW.trod_int Tryz.underlying3 t0
  obtain ⟨k1, h1, _, w1⟩ := DataW.trod_int Tryz.underlying3 t1
  obtain ⟨k2, h2, _, w2⟩ := DataW.trod_int Tryz.underlying3 t2
  obtain ⟨k3, h3, _, w3⟩ := DataW.trod_int Tryz.underlying40 t3
  simp only [List.cons.injEq, and_true] at h0 h1 h2 h3
  have f3 := u32_fits w3
  obtain ⟨m, rfl⟩ : ∃ m : Nat, k3 = (m : Int) := ⟨k3.toNat, by omega⟩
  exact ⟨(k0, k1, k2, m), ⟨i64_fits w0, i64_fits w1, i64_fits w2, by simp only []; omega⟩, h0, h1, h2, h3⟩

end Go.Proofs.YtnoknmnbfkdccaaGreatDoor

/- What the rows list of the library's tables: the world that the program's own initialisers leave meets it, and whatever meets it holds the table of tens. -/
namespace Go.Proofs.YtnoknmnbfkdccaaGreatDoor
open Go.RowKit

theorem gTens : Tryz.prog.globalNamed "internal/strconv.uint64pow10" = some 0 := by kernel_rfl
theorem tTens : (Tryz.prog.globals[0]?).map (·.type) = some 222 := by kernel_rfl
theorem uTens : Tryz.prog.underlying 222 = some (.array 20 152) := by kernel_rfl
theorem cTens : Tryz.prog.cellsOf 222 = 20 := by kernel_rfl
theorem cTen : Tryz.prog.cellsOf 152 = 1 := by kernel_rfl
theorem door_met (os : Os) (args : Array Value) : laidMetH Tryz.prog Rows.vlogActsRow.laid ((World.doorLaid Tryz.prog 24 os).forCall (fun _ _ => 0) ⟨#[], args, []⟩).memory :=
  laidMetH_of_parts3 (fuel := 8) (laidMet_of_run' 8 (by kernel_rfl) (by kernel_rfl)) (by kernel_rfl) (by kernel_rfl)
theorem tab_of_laid {W : World} (h : laidMetH Tryz.prog Rows.vlogActsRow.laid W) : Tab W := by
  rw [MakeChecks.laidMetH_plain _ _ _ (by kernel_rfl)] at h
  have h1 : laidMet Tryz.prog _ W := h
  have h2 := h1.tail.tail
  exact Lib.tabIs_of_head gTens tTens uTens Tryz.underlying152 cTen cTens h2
end Go.Proofs.YtnoknmnbfkdccaaGreatDoor
