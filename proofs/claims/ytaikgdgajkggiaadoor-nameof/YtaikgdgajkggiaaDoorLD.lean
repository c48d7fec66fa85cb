/- What the rows list of the library's tables: the world that the program's own initialisers leave meets it, and whatever meets it holds the table of tens. -/
import Derived.Test.YtaikgdgajkggiaaDoorRows
import Derived.Test.YtaikgdgajkggiaaDoorN0
import Derived.LaidMore
import Derived.Stop.LaidErr
import Derived.MakeChecks
namespace Go.Proofs.YtaikgdgajkggiaaDoor
open Go.RowKit

theorem gTens : Tryd.prog.globalNamed "internal/strconv.uint64pow10" = some 1 := by kernel_rfl
theorem tTens : (Tryd.prog.globals[1]?).map (·.type) = some 101 := by kernel_rfl
theorem uTens : Tryd.prog.underlying 101 = some (.array 20 65) := by kernel_rfl
theorem cTens : Tryd.prog.cellsOf 101 = 20 := by kernel_rfl
theorem cTen : Tryd.prog.cellsOf 65 = 1 := by kernel_rfl
theorem dTens {H : Type} : (Rows.laid_internal_strconv_uint64pow10 : DataW H) = Lib.tabData .u64 Lib.pow10Tab := rfl
theorem door_met (os : Os) (args : Array Value) : laidMetH Tryd.prog Rows.nameOfRow.laid ((World.doorLaid Tryd.prog 24 os).forCall (fun _ _ => 0) ⟨#[], args, []⟩).memory :=
  laidMetH_of_parts3 (fuel := 8) (laidMet_of_run' 8 (by kernel_rfl) (by kernel_rfl)) (by kernel_rfl) (by kernel_rfl)
theorem tab_of_laid {W : World} (h : laidMetH Tryd.prog Rows.nameOfRow.laid W) : Tab W := by
  rw [MakeChecks.laidMetH_plain _ _ _ (by kernel_rfl)] at h
  have h1 : laidMet Tryd.prog _ W := h
  have h2 := h1.tail.tail
  exact Lib.tabIs_of_head gTens tTens uTens Tryd.underlying65 cTen cTens h2
end Go.Proofs.YtaikgdgajkggiaaDoor
