/-
  DERIVED. GIVEN WITH THE SEED: THE CARDS: each row of YtlggoplffhdkhaaDoorRows.lean that lists a variable, with what it lists TIED to the program's text (the seventh form; the later family's looks); each row that meets fmt, with fmt's text TOLD by the authors' own Lean function (tested against real Go, not proved from fmt's source: count such statements apart). THE CARD IS WHAT COUNTS. Prove the row's statement (the work); the ties are given (YtlggoplffhdkhaaDoorTie.lean); close each card by the builder's one call (the guide's Derived/Test/ToyasCard.lean, 'card_holds'). Laid BY PROGRAM, IN A SANDBOX (cutbox-door.mjs). By AI agents, Wed Nov 11 2026. No macro, syntax, notation, axiom, sorry.
-/
import Derived.Test.YtlggoplffhdkhaaDoorRows
import GoSem.ClaimSeven
namespace Go.Proofs.YtlggoplffhdkhaaDoor
namespace Rows

/-- THE TIED CARD OF 'jalousielaw15.DeltaMakes'. -/
def deltaMakesCard : Claim7 := { stood := { row := deltaMakesRow, standIns := [], harness := (true, "205665170e50735b31d83924956eb61aa6fec1a8f92a127b4c7ddd50779a29be"), looks := false }, kinds := [], alts := [], laidByText := true, laidKinds := [.data, .data, .data], laidTests := true, laidLooks := .later }
def DeltaMakesCardSaid : Prop := Claim7.holds Tryd.pinned (.plain (OpenSpec.ofChange deltaMakesSpec)) deltaMakesCard

/-- THE TIED CARD OF 'jalousielaw15.DeltaBack'. -/
def deltaBackCard : Claim7 := { stood := { row := deltaBackRow, standIns := [], harness := (true, "205665170e50735b31d83924956eb61aa6fec1a8f92a127b4c7ddd50779a29be"), looks := false }, kinds := [], alts := [], laidByText := true, laidKinds := [.data, .data, .data], laidTests := true, laidLooks := .later }
def DeltaBackCardSaid : Prop := Claim7.holds Tryd.pinned (.plain (OpenSpec.ofChange deltaBackSpec)) deltaBackCard

/-- THE TIED CARD OF 'jalousielaw15.DeltaApplies'. -/
def deltaAppliesCard : Claim7 := { stood := { row := deltaAppliesRow, standIns := [], harness := (true, "205665170e50735b31d83924956eb61aa6fec1a8f92a127b4c7ddd50779a29be"), looks := false }, kinds := [], alts := [], laidByText := true, laidKinds := [.data, .data, .data], laidTests := true, laidLooks := .later }
def DeltaAppliesCardSaid : Prop := Claim7.holds Tryd.pinned (.plain (OpenSpec.ofChange deltaAppliesSpec)) deltaAppliesCard

/-- THE TIED CARD OF 'jalousielaw15.DeltaPrints'. -/
def deltaPrintsCard : Claim7 := { stood := { row := deltaPrintsRow, standIns := [], harness := (true, "205665170e50735b31d83924956eb61aa6fec1a8f92a127b4c7ddd50779a29be"), looks := false }, kinds := [], alts := [], laidByText := true, laidKinds := [.data, .data, .data], laidTests := true, laidLooks := .later }
def DeltaPrintsCardSaid : Prop := Claim7.holds Tryd.pinned (.plain (OpenSpec.ofChange deltaPrintsSpec)) deltaPrintsCard

/-- THE TIED CARD OF 'jalousielaw15.DeltaParses'. -/
def deltaParsesCard : Claim7 := { stood := { row := deltaParsesRow, standIns := [], harness := (true, "205665170e50735b31d83924956eb61aa6fec1a8f92a127b4c7ddd50779a29be"), looks := false }, kinds := [], alts := [], laidByText := true, laidKinds := [.data, .data, .data], laidTests := true, laidLooks := .later }
def DeltaParsesCardSaid : Prop := Claim7.holds Tryd.pinned (.plain (OpenSpec.ofChange deltaParsesSpec)) deltaParsesCard

/-- THE TIED CARD OF 'jalousielaw15.DeltaTexts'. -/
def deltaTextsCard : Claim7 := { stood := { row := deltaTextsRow, standIns := [], harness := (true, "205665170e50735b31d83924956eb61aa6fec1a8f92a127b4c7ddd50779a29be"), looks := false }, kinds := [], alts := [], laidByText := true, laidKinds := [.data, .data, .data], laidTests := true, laidLooks := .later }
def DeltaTextsCardSaid : Prop := Claim7.holds Tryd.pinned (.plain (OpenSpec.ofChange deltaTextsSpec)) deltaTextsCard

/-- THE TIED CARD OF 'jalousielaw15.DeltaSizes'. -/
def deltaSizesCard : Claim7 := { stood := { row := deltaSizesRow, standIns := [], harness := (true, "205665170e50735b31d83924956eb61aa6fec1a8f92a127b4c7ddd50779a29be"), looks := false }, kinds := [], alts := [], laidByText := true, laidKinds := [.data, .data, .data], laidTests := true, laidLooks := .later }
def DeltaSizesCardSaid : Prop := Claim7.holds Tryd.pinned (.plain (OpenSpec.ofChange deltaSizesSpec)) deltaSizesCard

/-- THE SECOND FORM's CARD OF 'jalousielaw15.DeltaMakes'. -/
def deltaMakesUptoCard : Claim7 := { stood := { row := deltaMakesUptoRow, standIns := [], harness := (true, "205665170e50735b31d83924956eb61aa6fec1a8f92a127b4c7ddd50779a29be"), looks := false }, kinds := [], alts := [], laidByText := true, laidKinds := [.data, .data, .data], laidTests := true, laidLooks := .later }
def DeltaMakesUptoCardSaid : Prop := Claim7.holds Tryd.pinned (.plain (OpenSpec.upto deltaMakesSpec)) deltaMakesUptoCard

/-- THE SECOND FORM's CARD OF 'jalousielaw15.DeltaBack'. -/
def deltaBackUptoCard : Claim7 := { stood := { row := deltaBackUptoRow, standIns := [], harness := (true, "205665170e50735b31d83924956eb61aa6fec1a8f92a127b4c7ddd50779a29be"), looks := false }, kinds := [], alts := [], laidByText := true, laidKinds := [.data, .data, .data], laidTests := true, laidLooks := .later }
def DeltaBackUptoCardSaid : Prop := Claim7.holds Tryd.pinned (.plain (OpenSpec.upto deltaBackSpec)) deltaBackUptoCard

/-- THE SECOND FORM's CARD OF 'jalousielaw15.DeltaApplies'. -/
def deltaAppliesUptoCard : Claim7 := { stood := { row := deltaAppliesUptoRow, standIns := [], harness := (true, "205665170e50735b31d83924956eb61aa6fec1a8f92a127b4c7ddd50779a29be"), looks := false }, kinds := [], alts := [], laidByText := true, laidKinds := [.data, .data, .data], laidTests := true, laidLooks := .later }
def DeltaAppliesUptoCardSaid : Prop := Claim7.holds Tryd.pinned (.plain (OpenSpec.upto deltaAppliesSpec)) deltaAppliesUptoCard

/-- THE SECOND FORM's CARD OF 'jalousielaw15.DeltaPrints'. -/
def deltaPrintsUptoCard : Claim7 := { stood := { row := deltaPrintsUptoRow, standIns := [], harness := (true, "205665170e50735b31d83924956eb61aa6fec1a8f92a127b4c7ddd50779a29be"), looks := false }, kinds := [], alts := [], laidByText := true, laidKinds := [.data, .data, .data], laidTests := true, laidLooks := .later }
def DeltaPrintsUptoCardSaid : Prop := Claim7.holds Tryd.pinned (.plain (OpenSpec.upto deltaPrintsSpec)) deltaPrintsUptoCard

/-- THE SECOND FORM's CARD OF 'jalousielaw15.DeltaParses'. -/
def deltaParsesUptoCard : Claim7 := { stood := { row := deltaParsesUptoRow, standIns := [], harness := (true, "205665170e50735b31d83924956eb61aa6fec1a8f92a127b4c7ddd50779a29be"), looks := false }, kinds := [], alts := [], laidByText := true, laidKinds := [.data, .data, .data], laidTests := true, laidLooks := .later }
def DeltaParsesUptoCardSaid : Prop := Claim7.holds Tryd.pinned (.plain (OpenSpec.upto deltaParsesSpec)) deltaParsesUptoCard

/-- THE SECOND FORM's CARD OF 'jalousielaw15.DeltaTexts'. -/
def deltaTextsUptoCard : Claim7 := { stood := { row := deltaTextsUptoRow, standIns := [], harness := (true, "205665170e50735b31d83924956eb61aa6fec1a8f92a127b4c7ddd50779a29be"), looks := false }, kinds := [], alts := [], laidByText := true, laidKinds := [.data, .data, .data], laidTests := true, laidLooks := .later }
def DeltaTextsUptoCardSaid : Prop := Claim7.holds Tryd.pinned (.plain (OpenSpec.upto deltaTextsSpec)) deltaTextsUptoCard

/-- THE SECOND FORM's CARD OF 'jalousielaw15.DeltaSizes'. -/
def deltaSizesUptoCard : Claim7 := { stood := { row := deltaSizesUptoRow, standIns := [], harness := (true, "205665170e50735b31d83924956eb61aa6fec1a8f92a127b4c7ddd50779a29be"), looks := false }, kinds := [], alts := [], laidByText := true, laidKinds := [.data, .data, .data], laidTests := true, laidLooks := .later }
def DeltaSizesUptoCardSaid : Prop := Claim7.holds Tryd.pinned (.plain (OpenSpec.upto deltaSizesSpec)) deltaSizesUptoCard
end Rows
end Go.Proofs.YtlggoplffhdkhaaDoor
