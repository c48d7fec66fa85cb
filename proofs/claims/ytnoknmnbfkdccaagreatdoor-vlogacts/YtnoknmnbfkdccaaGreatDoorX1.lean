/- What the program's Check of a point does. -/
import Derived.Test.YtnoknmnbfkdccaaGreatDoorBQ
import Derived.Test.YtnoknmnbfkdccaaGreatDoorBV
import Derived.Laws.BytesArg
import Derived.Laws.BytesString
namespace Go.Proofs.YtnoknmnbfkdccaaGreatDoor
open Go.RowKit

end Go.Proofs.YtnoknmnbfkdccaaGreatDoor

/- What the program's Check and Same of cells, and bytes.Equal, do. -/
namespace Go.Proofs.YtnoknmnbfkdccaaGreatDoor
open Go.RowKit

end Go.Proofs.YtnoknmnbfkdccaaGreatDoor

/- What the program's Check, Fits and Same of cells do. -/
namespace Go.Proofs.YtnoknmnbfkdccaaGreatDoor
open Go.RowKit

set_option maxRecDepth 100000 in
set_option maxHeartbeats 2000000 in
theorem cfitsC : CFitsC := by
  intro p a n c vs w _ hr
  have hl : vs.length = n := hr.1
  obtain ⟨s, y, l, m⟩ := p
  have hof := fun k => of_any a n c vs ((w.alloc (.cells #[.int .i64 s, .int .i64 y, .int .i64 l, .int .u32 (m : Nat)] 42)).drewN k) (hr.below ((below_alloc w _).trans (below_drewN _ _ _)) (Nat.le_refl _))
  have Hf : Hid (Ce.fits (s, y, l, m) vs = (decide (l = (n : Int)) && decide (m = Crc.more 0 vs))) := (by simp [Ce.fits, hl] : Ce.fits (s, y, l, m) vs = (decide (l = (n : Int)) && decide (m = Crc.more 0 vs)))
  have hb0 := below_alloc w (.cells #[.int .i64 s, .int .i64 y, .int .i64 l, .int .u32 (m : Nat)] 42)
  have hb := hr.2.1
  simp only [pv]
  clear hl hr
  generalize Crc.more 0 vs = S at *
  by_cases h : l = (n : Int)
  · subst h
    have hd : ((n : Int) == (n : Int)) = true := by simp
    go_enter Tryz.func84, Tryz.ntmps84
    go_wp2_with fail
    go_quiet ((go_at_call 100; exact Calls.quiet_of_same (hof _)))
    go_wp2
    go_ret
    exact ⟨by rw [Hf.out]; refine ret_bool ?_; by_cases e : m = S; subst e; simp; simp [e]; omega, hb0.trans (below_drewN _ _ _)⟩
  · have hd : (l == (n : Int)) = false := by simpa using h
    go_enter Tryz.func84, Tryz.ntmps84
    go_wp2_with fail
    go_quiet (fail)
    go_wp2
    go_ret
    exact ⟨by rw [Hf.out]; simp [h], hb0.trans (below_drewN _ _ _)⟩

end Go.Proofs.YtnoknmnbfkdccaaGreatDoor
