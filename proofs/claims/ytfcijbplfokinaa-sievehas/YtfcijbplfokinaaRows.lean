/-
  No cell of these rows narrows 'for every input' (looked for: loops, veiled, ifaces, maps, wideKeys, modest, calm, conditions, laid).
  DERIVED. THE GIVEN ROWS OF THIS SEAT. 3 by the template 'for every input the law returns true; each argument reads behind the call as it read before'; 0 by the template 'total and deterministic' (their statements: YtfcijbplfokinaaTotals.lean).
  GIVEN WITH THE SEED: the statements are not yours to turn. If you find one false, say at which input.
  Laid BY PROGRAM, IN A SANDBOX (cutbox-rows.mjs): the forced cells as the released guide's own fill.sh prints them over the translation bd84c116a97b8b3d… (all of the seat's roots in one cut). By AI agents, Wed Nov 11 2026. No macro, syntax, notation, axiom, sorry.
-/
import Derived.Test.YtfcijbplfokinaaChecked
import GoSem.Claim
import GoSem.ClaimJoined
import GoSem.ClaimMapViews
import Derived.JoinedTies
import Derived.KernelRfl
namespace Go.Proofs.Ytfcijbplfokinaa
/- THE CELL 'sum', in the pinned program and in every row, IS THE sha256 OF THE DUMP (.gsa) THAT YtfcijbplfokinaaProg.lean LOADS. Nothing in Lean hashes anything: it is a label: what it is worth is what the hold of that sum in a sandbox is worth. -/
noncomputable def Try.pinned : Pinned := { name := "ytfcijbplfokinaa", sum := "bd84c116a97b8b3d53e294e83934bb95da706bad5cc6649ac7cacaca140b10e7", checked := Try.checked }
namespace Rows
def none {H : Type} : Left H := { results := [], args := [] }

/-- 'garnerlaw11.SieveOf': WHATEVER THE INPUT: true; the input reads as it did. -/
def sieveOfSpec : ChangeSpec := { name := "sieveOf", fn := fun _ => fun
  | [d1, d2, d3] => { results := [.lit (.bool true)], args := [d1, d2, d3] }
  | _ => none }
def sieveOfRow : OpenClaim := { program := "ytfcijbplfokinaa", sum := "bd84c116a97b8b3d53e294e83934bb95da706bad5cc6649ac7cacaca140b10e7", func := "garner/garnerlaw11.SieveOf", spec := "sieveOf", unfollowed := true, recurses := true, apart := false }
def SieveOfSaid : Prop := sieveOfRow.holds Try.pinned (OpenSpec.ofChange sieveOfSpec)

/-- ITS FALSE NEIGHBOUR: 'it returns false'. Refute it at one input. -/
def sieveOfWrong : ChangeSpec := { name := "sieveOf", fn := fun _ => fun
  | [d1, d2, d3] => { results := [.lit (.bool false)], args := [d1, d2, d3] }
  | _ => none }
def SieveOfWrongFalsely : Prop := sieveOfRow.holds Try.pinned (OpenSpec.ofChange sieveOfWrong)

/-- 'garnerlaw11.SieveHas': WHATEVER THE INPUT: true; the input reads as it did. -/
def sieveHasSpec : ChangeSpec := { name := "sieveHas", fn := fun _ => fun
  | [d1, d2] => { results := [.lit (.bool true)], args := [d1, d2] }
  | _ => none }
def sieveHasRow : OpenClaim := { program := "ytfcijbplfokinaa", sum := "bd84c116a97b8b3d53e294e83934bb95da706bad5cc6649ac7cacaca140b10e7", func := "garner/garnerlaw11.SieveHas", spec := "sieveHas", unfollowed := true, recurses := true, apart := false }
def SieveHasSaid : Prop := sieveHasRow.holds Try.pinned (OpenSpec.ofChange sieveHasSpec)

/-- ITS FALSE NEIGHBOUR: 'it returns false'. Refute it at one input. -/
def sieveHasWrong : ChangeSpec := { name := "sieveHas", fn := fun _ => fun
  | [d1, d2] => { results := [.lit (.bool false)], args := [d1, d2] }
  | _ => none }
def SieveHasWrongFalsely : Prop := sieveHasRow.holds Try.pinned (OpenSpec.ofChange sieveHasWrong)

/-- 'garnerlaw11.SieveKeeps': WHATEVER THE INPUT: true; the input reads as it did. -/
def sieveKeepsSpec : ChangeSpec := { name := "sieveKeeps", fn := fun _ => fun
  | [d] => { results := [.lit (.bool true)], args := [d] }
  | _ => none }
def sieveKeepsRow : OpenClaim := { program := "ytfcijbplfokinaa", sum := "bd84c116a97b8b3d53e294e83934bb95da706bad5cc6649ac7cacaca140b10e7", func := "garner/garnerlaw11.SieveKeeps", spec := "sieveKeeps", unfollowed := true, recurses := true, apart := false }
def SieveKeepsSaid : Prop := sieveKeepsRow.holds Try.pinned (OpenSpec.ofChange sieveKeepsSpec)

/-- ITS FALSE NEIGHBOUR: 'it returns false'. Refute it at one input. -/
def sieveKeepsWrong : ChangeSpec := { name := "sieveKeeps", fn := fun _ => fun
  | [d] => { results := [.lit (.bool false)], args := [d] }
  | _ => none }
def SieveKeepsWrongFalsely : Prop := sieveKeepsRow.holds Try.pinned (OpenSpec.ofChange sieveKeepsWrong)

/- THE SECOND FORM. 'bulk': how many values and letters a reading holds, each counted each time it is reached (what is shared counts as often as it is met; a slice's spare places count too). A statement '..UptoSaid' is the law's where the arguments, and the package variables that the reading takes, are together of bulk at most 1048576: NARROWER than '..Said'. Prove '..Said' where nothing that the law and all that it calls make is longer than what came in: it says more and counts as full. Else prove '..UptoSaid'. A law counts once. -/
mutual
def uptoBulk {H : Type} : DataW H → Nat
  | .lit (.string bytes) => bytes.length + 1
  | .lit _ => 1
  | .nil => 1
  | .ptr d => uptoBulk d + 1
  | .slice elems spare => uptoBulkAll elems + uptoBulkAll spare + 1
  | .agg parts => uptoBulkAll parts + 1
  | .iface _ d => uptoBulk d + 1
  | .map entries => uptoBulkEntries entries + 1
  | .held _ => 1
def uptoBulkAll {H : Type} : List (DataW H) → Nat
  | [] => 0
  | d :: r => uptoBulk d + uptoBulkAll r
def uptoBulkEntries {H : Type} : List (Lit × DataW H) → Nat
  | [] => 0
  | x :: r => uptoBulkEntry x + uptoBulkEntries r
def uptoBulkEntry {H : Type} : Lit × DataW H → Nat
  | (.string bytes, d) => bytes.length + uptoBulk d + 1
  | (_, d) => uptoBulk d + 1
 end
def uptoSmall : (H : Type) → List (DataW H) → Bool := fun _ ds => decide (uptoBulkAll ds ≤ 1048576)
def OpenSpec.upto (s : _root_.Go.ChangeSpec) : _root_.Go.OpenSpec := { _root_.Go.OpenSpec.ofChange s with cond := some uptoSmall }

/-- 'garnerlaw11.SieveOf', WHERE WHAT IT READS IS OF BULK AT MOST 1048576: true; the input reads as it did. -/
def sieveOfUptoRow : OpenClaim := { program := "ytfcijbplfokinaa", sum := "bd84c116a97b8b3d53e294e83934bb95da706bad5cc6649ac7cacaca140b10e7", func := "garner/garnerlaw11.SieveOf", spec := "sieveOf", unfollowed := true, recurses := true, apart := false, narrowed := true }
def SieveOfUptoSaid : Prop := sieveOfUptoRow.holds Try.pinned (OpenSpec.upto sieveOfSpec)

/-- 'garnerlaw11.SieveHas', WHERE WHAT IT READS IS OF BULK AT MOST 1048576: true; the input reads as it did. -/
def sieveHasUptoRow : OpenClaim := { program := "ytfcijbplfokinaa", sum := "bd84c116a97b8b3d53e294e83934bb95da706bad5cc6649ac7cacaca140b10e7", func := "garner/garnerlaw11.SieveHas", spec := "sieveHas", unfollowed := true, recurses := true, apart := false, narrowed := true }
def SieveHasUptoSaid : Prop := sieveHasUptoRow.holds Try.pinned (OpenSpec.upto sieveHasSpec)

/-- 'garnerlaw11.SieveKeeps', WHERE WHAT IT READS IS OF BULK AT MOST 1048576: true; the input reads as it did. -/
def sieveKeepsUptoRow : OpenClaim := { program := "ytfcijbplfokinaa", sum := "bd84c116a97b8b3d53e294e83934bb95da706bad5cc6649ac7cacaca140b10e7", func := "garner/garnerlaw11.SieveKeeps", spec := "sieveKeeps", unfollowed := true, recurses := true, apart := false, narrowed := true }
def SieveKeepsUptoSaid : Prop := sieveKeepsUptoRow.holds Try.pinned (OpenSpec.upto sieveKeepsSpec)

end Rows
end Go.Proofs.Ytfcijbplfokinaa
