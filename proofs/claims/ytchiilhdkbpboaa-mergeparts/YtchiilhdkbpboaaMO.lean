/- What the program's walks do at their end, and where there is none. -/
import Derived.Test.YtchiilhdkbpboaaMJ
namespace Go.Proofs.Ytchiilhdkbpboaa
open Go.RowKit

/-- nothing is told -/
def NextNo (w : World) (e : Ending) (w' : World) : Prop := e = .returned (.tuple #[iv ihz, .int .i64 0, .bool false]) ∧ Below w.heap.size w w'

set_option maxRecDepth 100000 in
set_option maxHeartbeats 1000000 in
theorem mnext_end (b : Nat) (a : Option Addr) (c : Nat) (w : World) (hc : w.cell? ⟨b, 0, none⟩ = some (.slice a 0 c)) :
    Calls Try.prog 19 #[.pointer (some ⟨b, 0, none⟩)] w (NextNo w) := by
  have hl := cell_lt hc
  obtain ⟨z0, z1, z2, z3, z4, z5, z6, z7, zf⟩ := eight_of (heap_alloc_new w (.cells #[.string ⟨#[]⟩, .bool false, .bool false, .slice none 0 0, .int .i64 0, .int .i64 0, .int .i64 0, .int .u32 0] 37))
  clear zf
  go_enter Try.func19, Try.ntmps19
  go_wp2
  refine bodyPost_ret (v := .tuple #[.agg #[.string ⟨#[]⟩, .bool false, .bool false, .slice none 0 0, .int .i64 0, .int .i64 0, .int .i64 0, .int .u32 0], .int .i64 0, .bool false]) ?_ rfl ⟨rfl, below_alloc _ _⟩
  simp [results, Try.results19, go_sem, z0, z1, z2, z3, z4, z5, z6, z7]

set_option maxRecDepth 100000 in
set_option maxHeartbeats 1000000 in
theorem mnext_nil (w : World) : Calls Try.prog 19 #[.pointer none] w (NextNo w) := by
  obtain ⟨z0, z1, z2, z3, z4, z5, z6, z7, zf⟩ := eight_of (heap_alloc_new w (.cells #[.string ⟨#[]⟩, .bool false, .bool false, .slice none 0 0, .int .i64 0, .int .i64 0, .int .i64 0, .int .u32 0] 37))
  clear zf
  go_enter Try.func19, Try.ntmps19
  go_wp2
  refine bodyPost_ret (v := .tuple #[.agg #[.string ⟨#[]⟩, .bool false, .bool false, .slice none 0 0, .int .i64 0, .int .i64 0, .int .i64 0, .int .u32 0], .int .i64 0, .bool false]) ?_ rfl ⟨rfl, below_alloc _ _⟩
  simp [results, Try.results19, go_sem, z0, z1, z2, z3, z4, z5, z6, z7]
end Go.Proofs.Ytchiilhdkbpboaa
