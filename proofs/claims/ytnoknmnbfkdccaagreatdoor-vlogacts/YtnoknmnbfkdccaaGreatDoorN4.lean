/- What the reference's Of of a file does. -/
import Derived.Test.YtnoknmnbfkdccaaGreatDoorMa
import Derived.Test.YtnoknmnbfkdccaaGreatDoorGa
import Derived.WalkKit
import Derived.OwnWalk
import Derived.Below
import Derived.Lib.LaidTab
import Derived.Lib.ItoaNum
namespace Go.Proofs.YtnoknmnbfkdccaaGreatDoor
open Go.RowKit

end Go.Proofs.YtnoknmnbfkdccaaGreatDoor

/- What the reference's number and Parse of a text do. -/
namespace Go.Proofs.YtnoknmnbfkdccaaGreatDoor
open Go.RowKit

end Go.Proofs.YtnoknmnbfkdccaaGreatDoor

/- What the reference's Parse of a text does. -/
namespace Go.Proofs.YtnoknmnbfkdccaaGreatDoor
open Go.RowKit

end Go.Proofs.YtnoknmnbfkdccaaGreatDoor

/- What the program's Of reads besides its argument: the library's table of tens, as it is laid at the start; it stays where nothing below is turned. -/
namespace Go.Proofs.YtnoknmnbfkdccaaGreatDoor
open Go.RowKit

/-- the table of tens lies as it was laid -/
def Tab (w : World) : Prop := Lib.TabIs Tryz.prog w "internal/strconv.uint64pow10" .u64 Lib.pow10Tab
theorem Tab.lt {w : World} (h : Tab w) : ∃ g, Tryz.prog.globalNamed "internal/strconv.uint64pow10" = some g ∧ g < w.heap.size := by
  unfold Tab Lib.TabIs World.var? at h
  revert h
  cases hg : Tryz.prog.globalNamed "internal/strconv.uint64pow10" with
  | none => intro h; simp at h
  | some g =>
    intro h
    refine ⟨g, rfl, ?_⟩
    have h1 : w.var? Tryz.prog "internal/strconv.uint64pow10" = some (Lib.pow10Tab.map fun z => Value.int .u64 z).toArray := by unfold World.var?; rw [hg]; exact h
    have := Lib.TabIs.cell (P := Tryz.prog) (W := w) h1 hg 0 (by decide)
    exact cell_lt this
theorem Tab.keep {w w' : World} (h : Tab w) (hb : Below w.heap.size w w') : Tab w' := by
  obtain ⟨g, hg, hl⟩ := h.lt
  unfold Tab Lib.TabIs World.var? at *
  rw [hg] at h ⊢
  simp only [Option.bind_some] at h ⊢
  rw [hb.block g hl]
  exact h
theorem Tab.new {w : World} (h : Tab w) (o : Obj) : Tab (w.alloc o) := h.keep ((Below.refl _ _).alloc (Nat.le_refl _) o)
theorem Tab.next {w W : World} (h : Tab w) (hb : Below w.heap.size w W) (o : Obj) : Tab (W.alloc o) := h.keep (hb.alloc hb.size o)
end Go.Proofs.YtnoknmnbfkdccaaGreatDoor

/- What is asked of the program's own functions over names; the laws NameOf, NameParse and NameOrders, given that. -/
namespace Go.Proofs.YtnoknmnbfkdccaaGreatDoor
open Go.RowKit

/-- OK or ErrArg -/
def ncode (b : Bool) : Nat := if b = true then 0 else 1
def NOfC : Prop := ∀ (k n : Int) (w : World), (-9223372036854775808 ≤ k ∧ k ≤ 9223372036854775807) → (-9223372036854775808 ≤ n ∧ n ≤ 9223372036854775807) → Tab w → Calls Tryz.prog 75 #[.agg #[.int .i64 k, .int .i64 n]] w fun e w' => ∃ s, e = .returned (.tuple #[.string s, .int .i64 (ncode (Na.may (k, n)) : Nat)]) ∧ kb s = Na.of (k, n) ∧ Below w.heap.size w w'

end Go.Proofs.YtnoknmnbfkdccaaGreatDoor
