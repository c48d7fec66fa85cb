/- What is asked of the program's own functions over points; the laws PointPuts, PointGets, PointReads, given that. -/
import Derived.Test.YtgmcjalcpgldhaaS3
namespace Go.Proofs.Ytgmcjalcpgldhaa
open Go.RowKit

def PPutRes (w : World) (p : Po.P) (e : Ending) (w' : World) : Prop :=
  (Po.may p = true ∧ ∃ a c, e = .returned (.tuple #[.slice a (Po.put p).length c, .int .i64 0]) ∧ w'.ownsRow w.heap.size 5 1 (.slice a (Po.put p).length c) (Po.put p).length (kcells .u8 (Po.put p)) ∧ Below w.heap.size w w') ∨
  (Po.may p = false ∧ ∃ a c, e = .returned (.tuple #[.slice a 0 c, .int .i64 1]) ∧ Below w.heap.size w w')
def PCheckC : Prop := ∀ (p : Po.P) (w : World), Po.Fits p → Calls Try.prog 26 #[pv p] w fun e w' => e = .returned (.int .i64 (if Po.may p = true then 0 else 1 : Nat)) ∧ Below w.heap.size w w'
def PPutC : Prop := ∀ (p : Po.P) (w : World), Po.Fits p → Calls Try.prog 22 #[pv p] w (PPutRes w p)
def PGetC : Prop := ∀ (a : Option Addr) (len cap : Nat) (bs : List Nat) (w : World), Shape a len cap → len ≤ cap → len ≤ 100000 → Row .u8 w a len bs → Calls Try.prog 31 #[.slice a len cap] w fun e w' => e = .returned (.tuple #[pv (Po.get bs).1, .int .i64 ((Po.get bs).2 : Nat), .int .i64 (code (Po.get bs).2 : Nat)]) ∧ Below w.heap.size w w'

theorem po1234 : Po.put (1, 2, 3, 4) = [1, 2, 3, 4, 0, 0, 0] := by
  have h1 : Va.one 1 = [1] := Va.one_lo (by omega)
  have h2 : Va.one 2 = [2] := Va.one_lo (by omega)
  have h3 : Va.one 3 = [3] := Va.one_lo (by omega)
  simp [Po.put, Po.nums, Va.put, h1, h2, h3, Fr.le4]

end Go.Proofs.Ytgmcjalcpgldhaa
