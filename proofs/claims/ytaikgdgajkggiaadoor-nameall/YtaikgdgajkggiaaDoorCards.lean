/-
  DERIVED. GIVEN WITH THE SEED: THE CARDS: each row of YtaikgdgajkggiaaDoorRows.lean that lists a variable, with what it lists TIED to the program's text (the seventh form; the later family's looks); each row that meets fmt, with fmt's text TOLD by the authors' own Lean function (tested against real Go, not proved from fmt's source: count such statements apart). THE CARD IS WHAT COUNTS. Prove the row's statement (the work); the ties are given (YtaikgdgajkggiaaDoorTie.lean); close each card by the builder's one call (the guide's Derived/Test/ToyasCard.lean, 'card_holds'). Laid BY PROGRAM, IN A SANDBOX (cutbox-door.mjs). By AI agents, Wed Nov 11 2026. No macro, syntax, notation, axiom, sorry.
-/
import Derived.Test.YtaikgdgajkggiaaDoorRows
import GoSem.ClaimSeven
namespace Go.Proofs.YtaikgdgajkggiaaDoor
namespace Rows

/-- THE TIED CARD OF 'garnerlaw07.NameOf'. -/
def nameOfCard : Claim7 := { stood := { row := nameOfRow, standIns := [], harness := (true, "30a9414427ea1913269610d37362c069b7c41b4e3d2ebe2aaab4cba53c9863aa"), looks := false }, kinds := [], alts := [], laidByText := true, laidKinds := [.data, .data, .data], laidTests := true, laidLooks := .later }
def NameOfCardSaid : Prop := Claim7.holds Tryd.pinned (.plain (OpenSpec.ofChange nameOfSpec)) nameOfCard

/-- THE TIED CARD OF 'garnerlaw07.NameParse'. -/
def nameParseCard : Claim7 := { stood := { row := nameParseRow, standIns := [], harness := (true, "30a9414427ea1913269610d37362c069b7c41b4e3d2ebe2aaab4cba53c9863aa"), looks := false }, kinds := [], alts := [], laidByText := true, laidKinds := [.data, .data, .data], laidTests := true, laidLooks := .later }
def NameParseCardSaid : Prop := Claim7.holds Tryd.pinned (.plain (OpenSpec.ofChange nameParseSpec)) nameParseCard

/-- THE TIED CARD OF 'garnerlaw07.NameAll'. -/
def nameAllCard : Claim7 := { stood := { row := nameAllRow, standIns := [], harness := (true, "30a9414427ea1913269610d37362c069b7c41b4e3d2ebe2aaab4cba53c9863aa"), looks := false }, kinds := [], alts := [], laidByText := true, laidKinds := [.data, .data, .data], laidTests := true, laidLooks := .later }
def NameAllCardSaid : Prop := Claim7.holds Tryd.pinned (.plain (OpenSpec.ofChange nameAllSpec)) nameAllCard

/-- THE TIED CARD OF 'garnerlaw07.NameOrders'. -/
def nameOrdersCard : Claim7 := { stood := { row := nameOrdersRow, standIns := [], harness := (true, "30a9414427ea1913269610d37362c069b7c41b4e3d2ebe2aaab4cba53c9863aa"), looks := false }, kinds := [], alts := [], laidByText := true, laidKinds := [.data, .data, .data], laidTests := true, laidLooks := .later }
def NameOrdersCardSaid : Prop := Claim7.holds Tryd.pinned (.plain (OpenSpec.ofChange nameOrdersSpec)) nameOrdersCard

/-- THE SECOND FORM's CARD OF 'garnerlaw07.NameOf'. -/
def nameOfUptoCard : Claim7 := { stood := { row := nameOfUptoRow, standIns := [], harness := (true, "30a9414427ea1913269610d37362c069b7c41b4e3d2ebe2aaab4cba53c9863aa"), looks := false }, kinds := [], alts := [], laidByText := true, laidKinds := [.data, .data, .data], laidTests := true, laidLooks := .later }
def NameOfUptoCardSaid : Prop := Claim7.holds Tryd.pinned (.plain (OpenSpec.upto nameOfSpec)) nameOfUptoCard

/-- THE SECOND FORM's CARD OF 'garnerlaw07.NameParse'. -/
def nameParseUptoCard : Claim7 := { stood := { row := nameParseUptoRow, standIns := [], harness := (true, "30a9414427ea1913269610d37362c069b7c41b4e3d2ebe2aaab4cba53c9863aa"), looks := false }, kinds := [], alts := [], laidByText := true, laidKinds := [.data, .data, .data], laidTests := true, laidLooks := .later }
def NameParseUptoCardSaid : Prop := Claim7.holds Tryd.pinned (.plain (OpenSpec.upto nameParseSpec)) nameParseUptoCard

/-- THE SECOND FORM's CARD OF 'garnerlaw07.NameAll'. -/
def nameAllUptoCard : Claim7 := { stood := { row := nameAllUptoRow, standIns := [], harness := (true, "30a9414427ea1913269610d37362c069b7c41b4e3d2ebe2aaab4cba53c9863aa"), looks := false }, kinds := [], alts := [], laidByText := true, laidKinds := [.data, .data, .data], laidTests := true, laidLooks := .later }
def NameAllUptoCardSaid : Prop := Claim7.holds Tryd.pinned (.plain (OpenSpec.upto nameAllSpec)) nameAllUptoCard

/-- THE SECOND FORM's CARD OF 'garnerlaw07.NameOrders'. -/
def nameOrdersUptoCard : Claim7 := { stood := { row := nameOrdersUptoRow, standIns := [], harness := (true, "30a9414427ea1913269610d37362c069b7c41b4e3d2ebe2aaab4cba53c9863aa"), looks := false }, kinds := [], alts := [], laidByText := true, laidKinds := [.data, .data, .data], laidTests := true, laidLooks := .later }
def NameOrdersUptoCardSaid : Prop := Claim7.holds Tryd.pinned (.plain (OpenSpec.upto nameOrdersSpec)) nameOrdersUptoCard
end Rows
end Go.Proofs.YtaikgdgajkggiaaDoor
