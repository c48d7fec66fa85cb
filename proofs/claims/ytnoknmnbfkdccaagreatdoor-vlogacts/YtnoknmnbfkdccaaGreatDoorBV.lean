/- Cells as values; what the reference's May, Fits and Same of cells do. -/
import Derived.Test.YtnoknmnbfkdccaaGreatDoorBQ
import Derived.Test.YtnoknmnbfkdccaaGreatDoorMa
import Derived.Test.YtnoknmnbfkdccaaGreatDoorFB
import Derived.Deep.QuietTactic
import Derived.BigQuiet
import Derived.Laws.OwnMore
namespace Go.Proofs.YtnoknmnbfkdccaaGreatDoor
open Go.RowKit

/-- a cell as a value: Far, where its bytes lie, its point -/
abbrev cv (f : Bool) (a : Option Addr) (n c : Nat) (p : Po.P) : Value := .agg #[.bool f, .slice a n c, .int .i64 p.1, .int .i64 p.2.1, .int .i64 p.2.2.1, .int .u32 (p.2.2.2 : Nat)]
theorem six_keep {w W : World} {c0 c1 c2 c3 c4 c5 : Value} {e : TypeId} (h : Below (w.alloc (.cells #[c0, c1, c2, c3, c4, c5] e)).heap.size (w.alloc (.cells #[c0, c1, c2, c3, c4, c5] e)) W) :
    (W.cell? ⟨w.heap.size, 0, none⟩ = some c0 ∧ W.cell? ⟨w.heap.size, 1, none⟩ = some c1 ∧ W.cell? ⟨w.heap.size, 2, none⟩ = some c2 ∧ W.cell? ⟨w.heap.size, 3, none⟩ = some c3 ∧ W.cell? ⟨w.heap.size, 4, none⟩ = some c4 ∧ W.cell? ⟨w.heap.size, 5, none⟩ = some c5) ∧ w.heap.size < W.heap.size ∧ Below w.heap.size w W := by
  have hl : w.heap.size < (w.alloc (.cells #[c0, c1, c2, c3, c4, c5] e)).heap.size := by simp
  have k : ∀ i, W.cell? ⟨w.heap.size, i, none⟩ = #[c0, c1, c2, c3, c4, c5][i]? := fun i => (h.cell (p := ⟨w.heap.size, i, none⟩) hl).trans (cell_new w _ e i)
  exact ⟨⟨k 0, k 1, k 2, k 3, k 4, k 5⟩, Nat.lt_of_lt_of_le hl h.size, (below_alloc _ _).trans (h.mono (by simp))⟩

set_option maxRecDepth 100000 in
set_option maxHeartbeats 1000000 in
theorem cefits_any (p : Po.P) (a : Option Addr) (n c : Nat) (vs : List Nat) (w : World) (hr : Row .u8 w a n vs) :
    Calls Tryz.prog 119 #[pv p, .slice a n c] w fun e w' => e = .returned (.bool (Ce.fits p vs)) ∧ Below w.heap.size w w' := by
  have hl : vs.length = n := hr.1
  obtain ⟨s, y, l, m⟩ := p
  have hof := fun k => refof_any a n c vs ((w.alloc (.cells #[.int .i64 s, .int .i64 y, .int .i64 l, .int .u32 (m : Nat)] 42)).drewN k) (hr.below ((below_alloc w _).trans (below_drewN _ _ _)) (Nat.le_refl _))
  have Hf : Hid (Ce.fits (s, y, l, m) vs = (decide (l = (n : Int)) && decide (m = Crc.more 0 vs))) := (by simp [Ce.fits, hl] : Ce.fits (s, y, l, m) vs = (decide (l = (n : Int)) && decide (m = Crc.more 0 vs)))
  have hb0 := below_alloc w (.cells #[.int .i64 s, .int .i64 y, .int .i64 l, .int .u32 (m : Nat)] 42)
  have hb := hr.2.1
  simp only [pv]
  clear hl hr
  generalize Crc.more 0 vs = S at *
  by_cases h : l = (n : Int)
  · subst h
    have hd : ((n : Int) == (n : Int)) = true := by simp
    go_enter Tryz.func119, Tryz.ntmps119
    go_wp2_with fail
    go_quiet ((go_at_call 117; exact Calls.quiet_of_same (hof _)))
    go_wp2
    go_ret
    exact ⟨by rw [Hf.out]; refine ret_bool ?_; by_cases e : m = S; subst e; simp; simp [e]; omega, hb0.trans (below_drewN _ _ _)⟩
  · have hd : (l == (n : Int)) = false := by simpa using h
    go_enter Tryz.func119, Tryz.ntmps119
    go_wp2_with fail
    go_quiet (fail)
    go_wp2
    go_ret
    exact ⟨by rw [Hf.out]; simp [h], hb0.trans (below_drewN _ _ _)⟩

/-- whether cells are alike -/
def Ce.same (x y : Ce.C) : Bool := decide (x = y)

end Go.Proofs.YtnoknmnbfkdccaaGreatDoor

/- What the reference's Put of a cell does. -/
namespace Go.Proofs.YtnoknmnbfkdccaaGreatDoor
open Go.RowKit

end Go.Proofs.YtnoknmnbfkdccaaGreatDoor


/- What the reference's Get of a cell does. -/
namespace Go.Proofs.YtnoknmnbfkdccaaGreatDoor
open Go.RowKit

theorem below_six {w W : World} (h : Below w.heap.size w W) (v0 v1 v2 v3 v4 v5 : Value) : Below w.heap.size w ((((((W.setCell ⟨w.heap.size, 0, none⟩ v0).setCell ⟨w.heap.size, 1, none⟩ v1).setCell ⟨w.heap.size, 2, none⟩ v2).setCell ⟨w.heap.size, 3, none⟩ v3).setCell ⟨w.heap.size, 4, none⟩ v4).setCell ⟨w.heap.size, 5, none⟩ v5) :=
  (((((h.setCell (Nat.le_refl _) _).setCell (Nat.le_refl _) _).setCell (Nat.le_refl _) _).setCell (Nat.le_refl _) _).setCell (Nat.le_refl _) _).setCell (Nat.le_refl _) _
theorem Row.set {k : IntKind} {W : World} {a : Option Addr} {n : Nat} {bs : List Nat} (h : Row k W a n bs) (B : Nat) (hne : ∀ b off, a = some ⟨b, off, none⟩ → B < b) (i : Nat) (v : Value) : Row k (W.setCell ⟨B, i, none⟩ v) a n bs := by
  obtain ⟨h1, h2, h3, h4⟩ := h
  refine ⟨h1, h2, h3, ?_⟩
  rcases h4 with h0 | ⟨b, off, e, hc⟩
  · exact .inl h0
  · refine .inr ⟨b, off, e, fun j hj => ?_⟩
    have := hne b off e
    rw [World.cell?_setCell_other W ⟨B, i, none⟩ ⟨b, off + j, none⟩ v (by intro e; simp only [Addr.mk.injEq] at e; omega)]
    exact hc j hj
/-- a result's block: its cells, and that they may be written -/
theorem res_keep {w W : World} {c0 c1 c2 c3 c4 c5 : Value} {e : TypeId} (h : Below (w.alloc (.cells #[c0, c1, c2, c3, c4, c5] e)).heap.size (w.alloc (.cells #[c0, c1, c2, c3, c4, c5] e)) W) :
    (W.cell? ⟨w.heap.size, 0, none⟩ = some c0 ∧ W.cell? ⟨w.heap.size, 1, none⟩ = some c1 ∧ W.cell? ⟨w.heap.size, 2, none⟩ = some c2 ∧ W.cell? ⟨w.heap.size, 3, none⟩ = some c3 ∧ W.cell? ⟨w.heap.size, 4, none⟩ = some c4 ∧ W.cell? ⟨w.heap.size, 5, none⟩ = some c5) ∧
    (W.frozen? ⟨w.heap.size, 0, none⟩ = false ∧ W.frozen? ⟨w.heap.size, 1, none⟩ = false ∧ W.frozen? ⟨w.heap.size, 2, none⟩ = false ∧ W.frozen? ⟨w.heap.size, 3, none⟩ = false ∧ W.frozen? ⟨w.heap.size, 4, none⟩ = false ∧ W.frozen? ⟨w.heap.size, 5, none⟩ = false) ∧ Below w.heap.size w W ∧ w.heap.size < W.heap.size := by
  have hl : w.heap.size < (w.alloc (.cells #[c0, c1, c2, c3, c4, c5] e)).heap.size := by simp
  have k : ∀ i, W.frozen? ⟨w.heap.size, i, none⟩ = false := fun i => (h.frozen (p := ⟨w.heap.size, i, none⟩) hl).trans (frozen_new w _ e i)
  exact ⟨(six_keep h).1, ⟨k 0, k 1, k 2, k 3, k 4, k 5⟩, (six_keep h).2.2, (six_keep h).2.1⟩

end Go.Proofs.YtnoknmnbfkdccaaGreatDoor


/- What is asked of the program's own functions over cells; the laws CellGets and CellReads, given that. -/
namespace Go.Proofs.YtnoknmnbfkdccaaGreatDoor
open Go.RowKit

def CFitsC : Prop := ∀ (p : Po.P) (a : Option Addr) (n c : Nat) (vs : List Nat) (w : World), Po.Fits p → Row .u8 w a n vs → Calls Tryz.prog 84 #[pv p, .slice a n c] w fun e w' => e = .returned (.bool (Ce.fits p vs)) ∧ Below w.heap.size w w'

end Go.Proofs.YtnoknmnbfkdccaaGreatDoor
