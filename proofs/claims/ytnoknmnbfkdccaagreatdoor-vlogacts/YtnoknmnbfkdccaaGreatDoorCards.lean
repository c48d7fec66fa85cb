/-
  DERIVED. GIVEN WITH THE SEED: THE CARDS: each row of YtnoknmnbfkdccaaGreatDoorRows.lean that lists a variable, with what it lists TIED to the program's text (the seventh form; the later family's looks); each row that meets fmt, with fmt's text TOLD by the authors' own Lean function (tested against real Go, not proved from fmt's source: count such statements apart). THE CARD IS WHAT COUNTS. Prove the row's statement (the work); the ties are given (YtnoknmnbfkdccaaGreatDoorTie.lean); close each card by the builder's one call (the guide's Derived/Test/ToyasCard.lean, 'card_holds'). Laid BY PROGRAM, IN A SANDBOX (cutbox-door.mjs). By AI agents, Wed Nov 11 2026. No macro, syntax, notation, axiom, sorry.
-/
import Derived.Test.YtnoknmnbfkdccaaGreatDoorRows
import GoSem.ClaimSeven
namespace Go.Proofs.YtnoknmnbfkdccaaGreatDoor
namespace Rows

/-- THE TIED CARD OF 'garnerlaw20.VlogActs'. -/
def vlogActsCard : Claim7 := { stood := { row := vlogActsRow, standIns := [], harness := (true, "ab534f317b98b1321b56147c049fa01990ffd85b39f872fffb7c6e6487b0e32c"), looks := true }, kinds := [], alts := [], laidByText := true, laidKinds := [.data, .data, .data], laidTests := true, laidLooks := .later }
def VlogActsCardSaid : Prop := Claim7.holds Tryz.pinned (.plain (OpenSpec.ofChange vlogActsSpec)) vlogActsCard

/-- THE TIED CARD OF 'garnerlaw20.VlogKeeps'. -/
def vlogKeepsCard : Claim7 := { stood := { row := vlogKeepsRow, standIns := [], harness := (true, "ab534f317b98b1321b56147c049fa01990ffd85b39f872fffb7c6e6487b0e32c"), looks := true }, kinds := [], alts := [], laidByText := true, laidKinds := [.data, .data, .data], laidTests := true, laidLooks := .later }
def VlogKeepsCardSaid : Prop := Claim7.holds Tryz.pinned (.plain (OpenSpec.ofChange vlogKeepsSpec)) vlogKeepsCard

/-- THE TIED CARD OF 'garnerlaw20.VlogNobody'. -/
def vlogNobodyCard : Claim7 := { stood := { row := vlogNobodyRow, standIns := [], harness := (true, "ab534f317b98b1321b56147c049fa01990ffd85b39f872fffb7c6e6487b0e32c"), looks := true }, kinds := [], alts := [], laidByText := true, laidKinds := [.data, .data, .data], laidTests := true, laidLooks := .later }
def VlogNobodyCardSaid : Prop := Claim7.holds Tryz.pinned (.plain (OpenSpec.ofChange vlogNobodySpec)) vlogNobodyCard

/-- THE SECOND FORM's CARD OF 'garnerlaw20.VlogActs'. -/
def vlogActsUptoCard : Claim7 := { stood := { row := vlogActsUptoRow, standIns := [], harness := (true, "ab534f317b98b1321b56147c049fa01990ffd85b39f872fffb7c6e6487b0e32c"), looks := true }, kinds := [], alts := [], laidByText := true, laidKinds := [.data, .data, .data], laidTests := true, laidLooks := .later }
def VlogActsUptoCardSaid : Prop := Claim7.holds Tryz.pinned (.plain (OpenSpec.upto vlogActsSpec)) vlogActsUptoCard

/-- THE SECOND FORM's CARD OF 'garnerlaw20.VlogKeeps'. -/
def vlogKeepsUptoCard : Claim7 := { stood := { row := vlogKeepsUptoRow, standIns := [], harness := (true, "ab534f317b98b1321b56147c049fa01990ffd85b39f872fffb7c6e6487b0e32c"), looks := true }, kinds := [], alts := [], laidByText := true, laidKinds := [.data, .data, .data], laidTests := true, laidLooks := .later }
def VlogKeepsUptoCardSaid : Prop := Claim7.holds Tryz.pinned (.plain (OpenSpec.upto vlogKeepsSpec)) vlogKeepsUptoCard

/-- THE SECOND FORM's CARD OF 'garnerlaw20.VlogNobody'. -/
def vlogNobodyUptoCard : Claim7 := { stood := { row := vlogNobodyUptoRow, standIns := [], harness := (true, "ab534f317b98b1321b56147c049fa01990ffd85b39f872fffb7c6e6487b0e32c"), looks := true }, kinds := [], alts := [], laidByText := true, laidKinds := [.data, .data, .data], laidTests := true, laidLooks := .later }
def VlogNobodyUptoCardSaid : Prop := Claim7.holds Tryz.pinned (.plain (OpenSpec.upto vlogNobodySpec)) vlogNobodyUptoCard
end Rows
end Go.Proofs.YtnoknmnbfkdccaaGreatDoor
