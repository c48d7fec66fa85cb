/-
  No cell of these rows narrows 'for every input' (looked for: loops, veiled, ifaces, maps, wideKeys, modest, calm, conditions, laid).
  DERIVED. THE GIVEN ROWS OF THIS SEAT. 4 by the template 'for every input the law returns true; each argument reads behind the call as it read before'; 0 by the template 'total and deterministic' (their statements: YtmodogmjfbcddaaGreatTotals.lean).
  GIVEN WITH THE SEED: the statements are not yours to turn. If you find one false, say at which input.
  Laid BY PROGRAM, IN A SANDBOX (cutbox-rows.mjs): the forced cells as the released guide's own fill.sh prints them over the translation 5964b5a566cd5f9f… (all of the seat's roots in one cut). By AI agents, Wed Nov 11 2026. No macro, syntax, notation, axiom, sorry.
-/
import Derived.Test.YtmodogmjfbcddaaGreatChecked
import GoSem.Claim
import GoSem.ClaimJoined
import GoSem.ClaimMapViews
import Derived.JoinedTies
import Derived.KernelRfl
namespace Go.Proofs.YtmodogmjfbcddaaGreat
/- THE CELL 'sum', in the pinned program and in every row, IS THE sha256 OF THE DUMP (.gsa) THAT YtmodogmjfbcddaaGreatProg.lean LOADS. Nothing in Lean hashes anything: it is a label: what it is worth is what the hold of that sum in a sandbox is worth. -/
noncomputable def Tryz.pinned : Pinned := { name := "ytmodogmjfbcddaagreat", sum := "5964b5a566cd5f9fae6ebe99f4271a48c1c2e6d6544ecba9c41acdbdf9a86de2", checked := Tryz.checked }
namespace Rows
def none {H : Type} : Left H := { results := [], args := [] }

/-- 'garnerlaw17.RosterApplies': WHATEVER THE INPUT: true; the input reads as it did. -/
def rosterAppliesSpec : ChangeSpec := { name := "rosterApplies", fn := fun _ => fun
  | [d1, d2] => { results := [.lit (.bool true)], args := [d1, d2] }
  | _ => none }
def rosterAppliesRow : OpenClaim := { program := "ytmodogmjfbcddaagreat", sum := "5964b5a566cd5f9fae6ebe99f4271a48c1c2e6d6544ecba9c41acdbdf9a86de2", func := "garner/garnerlaw17.RosterApplies", spec := "rosterApplies", inPlace := ["slices.overlaps[garner/api.Move]", "slices.overlaps[garner/api.Still]"], unfollowed := true, recurses := true, apart := false }
def RosterAppliesSaid : Prop := rosterAppliesRow.holds Tryz.pinned (OpenSpec.ofChange rosterAppliesSpec)

/-- ITS FALSE NEIGHBOUR: 'it returns false'. Refute it at one input. -/
def rosterAppliesWrong : ChangeSpec := { name := "rosterApplies", fn := fun _ => fun
  | [d1, d2] => { results := [.lit (.bool false)], args := [d1, d2] }
  | _ => none }
def RosterAppliesWrongFalsely : Prop := rosterAppliesRow.holds Tryz.pinned (OpenSpec.ofChange rosterAppliesWrong)

/-- 'garnerlaw17.RosterAgain': WHATEVER THE INPUT: true; the input reads as it did. -/
def rosterAgainSpec : ChangeSpec := { name := "rosterAgain", fn := fun _ => fun
  | [d] => { results := [.lit (.bool true)], args := [d] }
  | _ => none }
def rosterAgainRow : OpenClaim := { program := "ytmodogmjfbcddaagreat", sum := "5964b5a566cd5f9fae6ebe99f4271a48c1c2e6d6544ecba9c41acdbdf9a86de2", func := "garner/garnerlaw17.RosterAgain", spec := "rosterAgain", inPlace := ["slices.overlaps[garner/api.Move]", "slices.overlaps[garner/api.Still]"], unfollowed := true, recurses := true, apart := false }
def RosterAgainSaid : Prop := rosterAgainRow.holds Tryz.pinned (OpenSpec.ofChange rosterAgainSpec)

/-- ITS FALSE NEIGHBOUR: 'it returns false'. Refute it at one input. -/
def rosterAgainWrong : ChangeSpec := { name := "rosterAgain", fn := fun _ => fun
  | [d] => { results := [.lit (.bool false)], args := [d] }
  | _ => none }
def RosterAgainWrongFalsely : Prop := rosterAgainRow.holds Tryz.pinned (OpenSpec.ofChange rosterAgainWrong)

/-- 'garnerlaw17.RosterFiles': WHATEVER THE INPUT: true; the input reads as it did. -/
def rosterFilesSpec : ChangeSpec := { name := "rosterFiles", fn := fun _ => fun
  | [d1, d2] => { results := [.lit (.bool true)], args := [d1, d2] }
  | _ => none }
def rosterFilesRow : OpenClaim := { program := "ytmodogmjfbcddaagreat", sum := "5964b5a566cd5f9fae6ebe99f4271a48c1c2e6d6544ecba9c41acdbdf9a86de2", func := "garner/garnerlaw17.RosterFiles", spec := "rosterFiles", inPlace := ["slices.overlaps[garner/api.Move]", "slices.overlaps[garner/api.Still]"], unfollowed := true, recurses := true, apart := false }
def RosterFilesSaid : Prop := rosterFilesRow.holds Tryz.pinned (OpenSpec.ofChange rosterFilesSpec)

/-- ITS FALSE NEIGHBOUR: 'it returns false'. Refute it at one input. -/
def rosterFilesWrong : ChangeSpec := { name := "rosterFiles", fn := fun _ => fun
  | [d1, d2] => { results := [.lit (.bool false)], args := [d1, d2] }
  | _ => none }
def RosterFilesWrongFalsely : Prop := rosterFilesRow.holds Tryz.pinned (OpenSpec.ofChange rosterFilesWrong)

/-- 'garnerlaw17.RosterWhole': WHATEVER THE INPUT: true; the input reads as it did. -/
def rosterWholeSpec : ChangeSpec := { name := "rosterWhole", fn := fun _ => fun
  | [d1, d2] => { results := [.lit (.bool true)], args := [d1, d2] }
  | _ => none }
def rosterWholeRow : OpenClaim := { program := "ytmodogmjfbcddaagreat", sum := "5964b5a566cd5f9fae6ebe99f4271a48c1c2e6d6544ecba9c41acdbdf9a86de2", func := "garner/garnerlaw17.RosterWhole", spec := "rosterWhole", inPlace := ["slices.overlaps[garner/api.Move]", "slices.overlaps[garner/api.Still]"], unfollowed := true, recurses := true, apart := false }
def RosterWholeSaid : Prop := rosterWholeRow.holds Tryz.pinned (OpenSpec.ofChange rosterWholeSpec)

/-- ITS FALSE NEIGHBOUR: 'it returns false'. Refute it at one input. -/
def rosterWholeWrong : ChangeSpec := { name := "rosterWhole", fn := fun _ => fun
  | [d1, d2] => { results := [.lit (.bool false)], args := [d1, d2] }
  | _ => none }
def RosterWholeWrongFalsely : Prop := rosterWholeRow.holds Tryz.pinned (OpenSpec.ofChange rosterWholeWrong)

/- THE SECOND FORM. 'bulk': how many values and letters a reading holds, each counted each time it is reached (what is shared counts as often as it is met; a slice's spare places count too). A statement '..UptoSaid' is the law's where the arguments, and the package variables that the reading takes, are together of bulk at most 1048576: NARROWER than '..Said'. Prove '..Said' where nothing that the law and all that it calls make is longer than what came in: it says more and counts as full. Else prove '..UptoSaid'. A law counts once. -/
mutual
def uptoBulk {H : Type} : DataW H → Nat
  | .lit (.string bytes) => bytes.length + 1
  | .lit _ => 1
  | .nil => 1
  | .ptr d => uptoBulk d + 1
  | .slice elems spare => uptoBulkAll elems + uptoBulkAll spare + 1
  | .agg parts => uptoBulkAll parts + 1
  | .iface _ d => uptoBulk d + 1
  | .map entries => uptoBulkEntries entries + 1
  | .held _ => 1
def uptoBulkAll {H : Type} : List (DataW H) → Nat
  | [] => 0
  | d :: r => uptoBulk d + uptoBulkAll r
def uptoBulkEntries {H : Type} : List (Lit × DataW H) → Nat
  | [] => 0
  | x :: r => uptoBulkEntry x + uptoBulkEntries r
def uptoBulkEntry {H : Type} : Lit × DataW H → Nat
  | (.string bytes, d) => bytes.length + uptoBulk d + 1
  | (_, d) => uptoBulk d + 1
 end
def uptoSmall : (H : Type) → List (DataW H) → Bool := fun _ ds => decide (uptoBulkAll ds ≤ 1048576)
def OpenSpec.upto (s : _root_.Go.ChangeSpec) : _root_.Go.OpenSpec := { _root_.Go.OpenSpec.ofChange s with cond := some uptoSmall }

/-- 'garnerlaw17.RosterApplies', WHERE WHAT IT READS IS OF BULK AT MOST 1048576: true; the input reads as it did. -/
def rosterAppliesUptoRow : OpenClaim := { program := "ytmodogmjfbcddaagreat", sum := "5964b5a566cd5f9fae6ebe99f4271a48c1c2e6d6544ecba9c41acdbdf9a86de2", func := "garner/garnerlaw17.RosterApplies", spec := "rosterApplies", inPlace := ["slices.overlaps[garner/api.Move]", "slices.overlaps[garner/api.Still]"], unfollowed := true, recurses := true, apart := false, narrowed := true }
def RosterAppliesUptoSaid : Prop := rosterAppliesUptoRow.holds Tryz.pinned (OpenSpec.upto rosterAppliesSpec)

/-- 'garnerlaw17.RosterAgain', WHERE WHAT IT READS IS OF BULK AT MOST 1048576: true; the input reads as it did. -/
def rosterAgainUptoRow : OpenClaim := { program := "ytmodogmjfbcddaagreat", sum := "5964b5a566cd5f9fae6ebe99f4271a48c1c2e6d6544ecba9c41acdbdf9a86de2", func := "garner/garnerlaw17.RosterAgain", spec := "rosterAgain", inPlace := ["slices.overlaps[garner/api.Move]", "slices.overlaps[garner/api.Still]"], unfollowed := true, recurses := true, apart := false, narrowed := true }
def RosterAgainUptoSaid : Prop := rosterAgainUptoRow.holds Tryz.pinned (OpenSpec.upto rosterAgainSpec)

/-- 'garnerlaw17.RosterFiles', WHERE WHAT IT READS IS OF BULK AT MOST 1048576: true; the input reads as it did. -/
def rosterFilesUptoRow : OpenClaim := { program := "ytmodogmjfbcddaagreat", sum := "5964b5a566cd5f9fae6ebe99f4271a48c1c2e6d6544ecba9c41acdbdf9a86de2", func := "garner/garnerlaw17.RosterFiles", spec := "rosterFiles", inPlace := ["slices.overlaps[garner/api.Move]", "slices.overlaps[garner/api.Still]"], unfollowed := true, recurses := true, apart := false, narrowed := true }
def RosterFilesUptoSaid : Prop := rosterFilesUptoRow.holds Tryz.pinned (OpenSpec.upto rosterFilesSpec)

/-- 'garnerlaw17.RosterWhole', WHERE WHAT IT READS IS OF BULK AT MOST 1048576: true; the input reads as it did. -/
def rosterWholeUptoRow : OpenClaim := { program := "ytmodogmjfbcddaagreat", sum := "5964b5a566cd5f9fae6ebe99f4271a48c1c2e6d6544ecba9c41acdbdf9a86de2", func := "garner/garnerlaw17.RosterWhole", spec := "rosterWhole", inPlace := ["slices.overlaps[garner/api.Move]", "slices.overlaps[garner/api.Still]"], unfollowed := true, recurses := true, apart := false, narrowed := true }
def RosterWholeUptoSaid : Prop := rosterWholeUptoRow.holds Tryz.pinned (OpenSpec.upto rosterWholeSpec)

end Rows
end Go.Proofs.YtmodogmjfbcddaaGreat
