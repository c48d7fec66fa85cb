/- What the rows list of the library's tables: the world that the program's own initialisers leave meets it, and whatever meets it holds the table of tens. -/
import Derived.Test.YtnoknmnbfkdccaaGreatDoorRows
import Derived.Test.YtnoknmnbfkdccaaGreatDoorN4
import Derived.LaidMore
import Derived.Stop.LaidErr
import Derived.MakeChecks
namespace Go.Proofs.YtnoknmnbfkdccaaGreatDoor
open Go.RowKit

theorem gTens : Tryz.prog.globalNamed "internal/strconv.uint64pow10" = some 0 := by kernel_rfl
theorem tTens : (Tryz.prog.globals[0]?).map (·.type) = some 222 := by kernel_rfl
theorem uTens : Tryz.prog.underlying 222 = some (.array 20 152) := by kernel_rfl
theorem cTens : Tryz.prog.cellsOf 222 = 20 := by kernel_rfl
theorem cTen : Tryz.prog.cellsOf 152 = 1 := by kernel_rfl
theorem door_met (os : Os) (args : Array Value) : laidMetH Tryz.prog Rows.vlogActsRow.laid ((World.doorLaid Tryz.prog 24 os).forCall (fun _ _ => 0) ⟨#[], args, []⟩).memory :=
  laidMetH_of_parts3 (fuel := 8) (laidMet_of_run' 8 (by kernel_rfl) (by kernel_rfl)) (by kernel_rfl) (by kernel_rfl)
theorem tab_of_laid {W : World} (h : laidMetH Tryz.prog Rows.vlogActsRow.laid W) : Tab W := by
  rw [MakeChecks.laidMetH_plain _ _ _ (by kernel_rfl)] at h
  have h1 : laidMet Tryz.prog _ W := h
  have h2 := h1.tail.tail
  exact Lib.tabIs_of_head gTens tTens uTens Tryz.underlying152 cTen cTens h2
end Go.Proofs.YtnoknmnbfkdccaaGreatDoor
