/-
  No cell of these rows narrows 'for every input' (looked for: loops, veiled, ifaces, maps, wideKeys, modest, calm, conditions, laid).
  DERIVED. THE GIVEN ROWS OF THIS SEAT. 4 by the template 'for every input the law returns true; each argument reads behind the call as it read before'; 0 by the template 'total and deterministic' (their statements: YtmafbgfldojbbaaTotals.lean).
  GIVEN WITH THE SEED: the statements are not yours to turn. If you find one false, say at which input.
  Laid BY PROGRAM, IN A SANDBOX (cutbox-rows.mjs): the forced cells as the released guide's own fill.sh prints them over the translation 7bee2ea27ca01d71… (all of the seat's roots in one cut). By AI agents, Wed Nov 11 2026. No macro, syntax, notation, axiom, sorry.
-/
import Derived.Test.YtmafbgfldojbbaaChecked
import GoSem.Claim
import GoSem.ClaimJoined
import GoSem.ClaimMapViews
import Derived.JoinedTies
import Derived.KernelRfl
namespace Go.Proofs.Ytmafbgfldojbbaa
/- THE CELL 'sum', in the pinned program and in every row, IS THE sha256 OF THE DUMP (.gsa) THAT YtmafbgfldojbbaaProg.lean LOADS. Nothing in Lean hashes anything: it is a label: what it is worth is what the hold of that sum in a sandbox is worth. -/
noncomputable def Try.pinned : Pinned := { name := "ytmafbgfldojbbaa", sum := "7bee2ea27ca01d71ad24e826f45f60cb6e16204984129e8fb4368bf44aee1f13", checked := Try.checked }
namespace Rows
def none {H : Type} : Left H := { results := [], args := [] }

/-- 'garnerlaw04.PointPuts': WHATEVER THE INPUT: true; the input reads as it did. -/
def pointPutsSpec : ChangeSpec := { name := "pointPuts", fn := fun _ => fun
  | [d] => { results := [.lit (.bool true)], args := [d] }
  | _ => none }
def pointPutsRow : OpenClaim := { program := "ytmafbgfldojbbaa", sum := "7bee2ea27ca01d71ad24e826f45f60cb6e16204984129e8fb4368bf44aee1f13", func := "garner/garnerlaw04.PointPuts", spec := "pointPuts", recurses := true, apart := false }
def PointPutsSaid : Prop := pointPutsRow.holds Try.pinned (OpenSpec.ofChange pointPutsSpec)

/-- ITS FALSE NEIGHBOUR: 'it returns false'. Refute it at one input. -/
def pointPutsWrong : ChangeSpec := { name := "pointPuts", fn := fun _ => fun
  | [d] => { results := [.lit (.bool false)], args := [d] }
  | _ => none }
def PointPutsWrongFalsely : Prop := pointPutsRow.holds Try.pinned (OpenSpec.ofChange pointPutsWrong)

/-- 'garnerlaw04.PointGets': WHATEVER THE INPUT: true; the input reads as it did. -/
def pointGetsSpec : ChangeSpec := { name := "pointGets", fn := fun _ => fun
  | [d] => { results := [.lit (.bool true)], args := [d] }
  | _ => none }
def pointGetsRow : OpenClaim := { program := "ytmafbgfldojbbaa", sum := "7bee2ea27ca01d71ad24e826f45f60cb6e16204984129e8fb4368bf44aee1f13", func := "garner/garnerlaw04.PointGets", spec := "pointGets", recurses := true, apart := false }
def PointGetsSaid : Prop := pointGetsRow.holds Try.pinned (OpenSpec.ofChange pointGetsSpec)

/-- ITS FALSE NEIGHBOUR: 'it returns false'. Refute it at one input. -/
def pointGetsWrong : ChangeSpec := { name := "pointGets", fn := fun _ => fun
  | [d] => { results := [.lit (.bool false)], args := [d] }
  | _ => none }
def PointGetsWrongFalsely : Prop := pointGetsRow.holds Try.pinned (OpenSpec.ofChange pointGetsWrong)

/-- 'garnerlaw04.PointReads': WHATEVER THE INPUT: true; the input reads as it did. -/
def pointReadsSpec : ChangeSpec := { name := "pointReads", fn := fun _ => fun
  | [d1, d2] => { results := [.lit (.bool true)], args := [d1, d2] }
  | _ => none }
def pointReadsRow : OpenClaim := { program := "ytmafbgfldojbbaa", sum := "7bee2ea27ca01d71ad24e826f45f60cb6e16204984129e8fb4368bf44aee1f13", func := "garner/garnerlaw04.PointReads", spec := "pointReads", apart := false }
def PointReadsSaid : Prop := pointReadsRow.holds Try.pinned (OpenSpec.ofChange pointReadsSpec)

/-- ITS FALSE NEIGHBOUR: 'it returns false'. Refute it at one input. -/
def pointReadsWrong : ChangeSpec := { name := "pointReads", fn := fun _ => fun
  | [d1, d2] => { results := [.lit (.bool false)], args := [d1, d2] }
  | _ => none }
def PointReadsWrongFalsely : Prop := pointReadsRow.holds Try.pinned (OpenSpec.ofChange pointReadsWrong)

/-- 'garnerlaw04.PointOrders': WHATEVER THE INPUT: true; the input reads as it did. -/
def pointOrdersSpec : ChangeSpec := { name := "pointOrders", fn := fun _ => fun
  | [d1, d2, d3] => { results := [.lit (.bool true)], args := [d1, d2, d3] }
  | _ => none }
def pointOrdersRow : OpenClaim := { program := "ytmafbgfldojbbaa", sum := "7bee2ea27ca01d71ad24e826f45f60cb6e16204984129e8fb4368bf44aee1f13", func := "garner/garnerlaw04.PointOrders", spec := "pointOrders", unfollowed := true, recurses := true, apart := false }
def PointOrdersSaid : Prop := pointOrdersRow.holds Try.pinned (OpenSpec.ofChange pointOrdersSpec)

/-- ITS FALSE NEIGHBOUR: 'it returns false'. Refute it at one input. -/
def pointOrdersWrong : ChangeSpec := { name := "pointOrders", fn := fun _ => fun
  | [d1, d2, d3] => { results := [.lit (.bool false)], args := [d1, d2, d3] }
  | _ => none }
def PointOrdersWrongFalsely : Prop := pointOrdersRow.holds Try.pinned (OpenSpec.ofChange pointOrdersWrong)

/- THE SECOND FORM. 'bulk': how many values and letters a reading holds, each counted each time it is reached (what is shared counts as often as it is met; a slice's spare places count too). A statement '..UptoSaid' is the law's where the arguments, and the package variables that the reading takes, are together of bulk at most 1048576: NARROWER than '..Said'. Prove '..Said' where nothing that the law and all that it calls make is longer than what came in: it says more and counts as full. Else prove '..UptoSaid'. A law counts once. -/
mutual
def uptoBulk {H : Type} : DataW H → Nat
  | .lit (.string bytes) => bytes.length + 1
  | .lit _ => 1
  | .nil => 1
  | .ptr d => uptoBulk d + 1
  | .slice elems spare => uptoBulkAll elems + uptoBulkAll spare + 1
  | .agg parts => uptoBulkAll parts + 1
  | .iface _ d => uptoBulk d + 1
  | .map entries => uptoBulkEntries entries + 1
  | .held _ => 1
def uptoBulkAll {H : Type} : List (DataW H) → Nat
  | [] => 0
  | d :: r => uptoBulk d + uptoBulkAll r
def uptoBulkEntries {H : Type} : List (Lit × DataW H) → Nat
  | [] => 0
  | x :: r => uptoBulkEntry x + uptoBulkEntries r
def uptoBulkEntry {H : Type} : Lit × DataW H → Nat
  | (.string bytes, d) => bytes.length + uptoBulk d + 1
  | (_, d) => uptoBulk d + 1
 end
def uptoSmall : (H : Type) → List (DataW H) → Bool := fun _ ds => decide (uptoBulkAll ds ≤ 1048576)
def OpenSpec.upto (s : _root_.Go.ChangeSpec) : _root_.Go.OpenSpec := { _root_.Go.OpenSpec.ofChange s with cond := some uptoSmall }

/-- 'garnerlaw04.PointPuts', WHERE WHAT IT READS IS OF BULK AT MOST 1048576: true; the input reads as it did. -/
def pointPutsUptoRow : OpenClaim := { program := "ytmafbgfldojbbaa", sum := "7bee2ea27ca01d71ad24e826f45f60cb6e16204984129e8fb4368bf44aee1f13", func := "garner/garnerlaw04.PointPuts", spec := "pointPuts", recurses := true, apart := false, narrowed := true }
def PointPutsUptoSaid : Prop := pointPutsUptoRow.holds Try.pinned (OpenSpec.upto pointPutsSpec)

/-- 'garnerlaw04.PointGets', WHERE WHAT IT READS IS OF BULK AT MOST 1048576: true; the input reads as it did. -/
def pointGetsUptoRow : OpenClaim := { program := "ytmafbgfldojbbaa", sum := "7bee2ea27ca01d71ad24e826f45f60cb6e16204984129e8fb4368bf44aee1f13", func := "garner/garnerlaw04.PointGets", spec := "pointGets", recurses := true, apart := false, narrowed := true }
def PointGetsUptoSaid : Prop := pointGetsUptoRow.holds Try.pinned (OpenSpec.upto pointGetsSpec)

/-- 'garnerlaw04.PointReads', WHERE WHAT IT READS IS OF BULK AT MOST 1048576: true; the input reads as it did. -/
def pointReadsUptoRow : OpenClaim := { program := "ytmafbgfldojbbaa", sum := "7bee2ea27ca01d71ad24e826f45f60cb6e16204984129e8fb4368bf44aee1f13", func := "garner/garnerlaw04.PointReads", spec := "pointReads", apart := false, narrowed := true }
def PointReadsUptoSaid : Prop := pointReadsUptoRow.holds Try.pinned (OpenSpec.upto pointReadsSpec)

/-- 'garnerlaw04.PointOrders', WHERE WHAT IT READS IS OF BULK AT MOST 1048576: true; the input reads as it did. -/
def pointOrdersUptoRow : OpenClaim := { program := "ytmafbgfldojbbaa", sum := "7bee2ea27ca01d71ad24e826f45f60cb6e16204984129e8fb4368bf44aee1f13", func := "garner/garnerlaw04.PointOrders", spec := "pointOrders", unfollowed := true, recurses := true, apart := false, narrowed := true }
def PointOrdersUptoSaid : Prop := pointOrdersUptoRow.holds Try.pinned (OpenSpec.upto pointOrdersSpec)

end Rows
end Go.Proofs.Ytmafbgfldojbbaa
