/- What the program's Of reads besides its argument: the library's table of tens, as it is laid at the start; it stays where nothing below is turned. -/
import Derived.Test.YtaikgdgajkggiaaDoorN3
import Derived.Lib.LaidTab
import Derived.Lib.ItoaNum
namespace Go.Proofs.YtaikgdgajkggiaaDoor
open Go.RowKit

/-- the table of tens lies as it was laid -/
def Tab (w : World) : Prop := Lib.TabIs Tryd.prog w "internal/strconv.uint64pow10" .u64 Lib.pow10Tab
theorem Tab.lt {w : World} (h : Tab w) : ∃ g, Tryd.prog.globalNamed "internal/strconv.uint64pow10" = some g ∧ g < w.heap.size := by
  unfold Tab Lib.TabIs World.var? at h
  revert h
  cases hg : Tryd.prog.globalNamed "internal/strconv.uint64pow10" with
  | none => intro h; simp at h
  | some g =>
    intro h
    refine ⟨g, rfl, ?_⟩
    have h1 : w.var? Tryd.prog "internal/strconv.uint64pow10" = some (Lib.pow10Tab.map fun z => Value.int .u64 z).toArray := by unfold World.var?; rw [hg]; exact h
    have := Lib.TabIs.cell (P := Tryd.prog) (W := w) h1 hg 0 (by decide)
    exact cell_lt this
theorem Tab.keep {w w' : World} (h : Tab w) (hb : Below w.heap.size w w') : Tab w' := by
  obtain ⟨g, hg, hl⟩ := h.lt
  unfold Tab Lib.TabIs World.var? at *
  rw [hg] at h ⊢
  simp only [Option.bind_some] at h ⊢
  rw [hb.block g hl]
  exact h
theorem Tab.new {w : World} (h : Tab w) (o : Obj) : Tab (w.alloc o) := h.keep ((Below.refl _ _).alloc (Nat.le_refl _) o)
theorem Tab.next {w W : World} (h : Tab w) (hb : Below w.heap.size w W) (o : Obj) : Tab (W.alloc o) := h.keep (hb.alloc hb.size o)
end Go.Proofs.YtaikgdgajkggiaaDoor
