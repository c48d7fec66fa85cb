/- Rows of points; what the reference's Same of points does. -/
import Derived.Test.YtnoknmnbfkdccaaGreatDoorBQ
import Derived.BigQuiet
import Derived.Deep.QuietTactic
import Derived.Deep.RegionLawGrows
namespace Go.Proofs.YtnoknmnbfkdccaaGreatDoor
open Go.RowKit

/-- a point's cells at a place -/
def PAt (w : World) (b o : Nat) (p : Po.P) : Prop :=
  w.cell? ⟨b, o, none⟩ = some (.int .i64 p.1) ∧ w.cell? ⟨b, o + 1, none⟩ = some (.int .i64 p.2.1) ∧ w.cell? ⟨b, o + 2, none⟩ = some (.int .i64 p.2.2.1) ∧ w.cell? ⟨b, o + 3, none⟩ = some (.int .u32 (p.2.2.2 : Nat)) ∧ Po.Fits p
def PRow (w : World) (a : Option Addr) (len : Nat) (ps : List Po.P) : Prop :=
  ps.length = len ∧ len ≤ 1000000000000000 ∧ (len = 0 ∨ ∃ b off, a = some ⟨b, off, none⟩ ∧ ∀ i, i < len → PAt w b (off + i * 4) (ps.getD i Po.zero))
theorem PAt.below {w w' : World} {B b o : Nat} {p : Po.P} (h : PAt w b o p) (hb : Below B w w') (hB : w.heap.size ≤ B) : PAt w' b o p := by
  obtain ⟨h0, h1, h2, h3, h4⟩ := h
  exact ⟨(hb.cell (p := ⟨b, o, none⟩) (Nat.lt_of_lt_of_le (cell_lt h0) hB)).trans h0, (hb.cell (p := ⟨b, o + 1, none⟩) (Nat.lt_of_lt_of_le (cell_lt h1) hB)).trans h1, (hb.cell (p := ⟨b, o + 2, none⟩) (Nat.lt_of_lt_of_le (cell_lt h2) hB)).trans h2, (hb.cell (p := ⟨b, o + 3, none⟩) (Nat.lt_of_lt_of_le (cell_lt h3) hB)).trans h3, h4⟩
theorem PRow.below {w w' : World} {B : Nat} {a : Option Addr} {l : Nat} {ps : List Po.P} (h : PRow w a l ps) (hb : Below B w w') (hB : w.heap.size ≤ B) : PRow w' a l ps := by
  obtain ⟨h1, h2, h3⟩ := h
  refine ⟨h1, h2, ?_⟩
  rcases h3 with h0 | ⟨b, off, e, hc⟩
  · exact .inl h0
  · exact .inr ⟨b, off, e, fun i hi => (hc i hi).below hb hB⟩
theorem PRow.at {w : World} {a : Option Addr} {n : Nat} {ps : List Po.P} (h : PRow w a n ps) (hn : 0 < n) : ∃ b off, a = some ⟨b, off, none⟩ ∧ ∀ i, i < n → PAt w b (off + i * 4) (ps.getD i Po.zero) := by
  obtain ⟨_, _, h0 | h0⟩ := h
  · omega
  · exact h0
def pcells (ps : List Po.P) : List Value := ps.flatMap fun p => [.int .i64 p.1, .int .i64 p.2.1, .int .i64 p.2.2.1, .int .u32 (p.2.2.2 : Nat)]
end Go.Proofs.YtnoknmnbfkdccaaGreatDoor
