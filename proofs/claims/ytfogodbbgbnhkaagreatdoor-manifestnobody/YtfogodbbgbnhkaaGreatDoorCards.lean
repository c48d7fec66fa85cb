/-
  DERIVED. GIVEN WITH THE SEED: THE CARDS: each row of YtfogodbbgbnhkaaGreatDoorRows.lean that lists a variable, with what it lists TIED to the program's text (the seventh form; the later family's looks); each row that meets fmt, with fmt's text TOLD by the authors' own Lean function (tested against real Go, not proved from fmt's source: count such statements apart). THE CARD IS WHAT COUNTS. Prove the row's statement (the work); the ties are given (YtfogodbbgbnhkaaGreatDoorTie.lean); close each card by the builder's one call (the guide's Derived/Test/ToyasCard.lean, 'card_holds'). Laid BY PROGRAM, IN A SANDBOX (cutbox-door.mjs). By AI agents, Wed Nov 11 2026. No macro, syntax, notation, axiom, sorry.
-/
import Derived.Test.YtfogodbbgbnhkaaGreatDoorRows
import GoSem.ClaimSeven
namespace Go.Proofs.YtfogodbbgbnhkaaGreatDoor
namespace Rows

/-- THE TIED CARD OF 'garnerlaw18.ManifestNobody'. -/
def manifestNobodyCard : Claim7 := { stood := { row := manifestNobodyRow, standIns := [], harness := (true, "6b2506ea6c512c1f10bc2f571839ccfe5d5f4c86471267b76443f6459a74809a"), looks := true }, kinds := [], alts := [], laidByText := true, laidKinds := [.data, .data, .data], laidTests := true, laidLooks := .later }
def ManifestNobodyCardSaid : Prop := Claim7.holds Tryz.pinned (.plain (OpenSpec.ofChange manifestNobodySpec)) manifestNobodyCard

/-- THE SECOND FORM's CARD OF 'garnerlaw18.ManifestNobody'. -/
def manifestNobodyUptoCard : Claim7 := { stood := { row := manifestNobodyUptoRow, standIns := [], harness := (true, "6b2506ea6c512c1f10bc2f571839ccfe5d5f4c86471267b76443f6459a74809a"), looks := true }, kinds := [], alts := [], laidByText := true, laidKinds := [.data, .data, .data], laidTests := true, laidLooks := .later }
def ManifestNobodyUptoCardSaid : Prop := Claim7.holds Tryz.pinned (.plain (OpenSpec.upto manifestNobodySpec)) manifestNobodyUptoCard
end Rows
end Go.Proofs.YtfogodbbgbnhkaaGreatDoor
