/-
  DERIVED. GIVEN WITH THE SEED: THE CARDS: each row of YtadhhamfikpimaaDoorRows.lean that lists a variable, with what it lists TIED to the program's text (the seventh form; the later family's looks); each row that meets fmt, with fmt's text TOLD by the authors' own Lean function (tested against real Go, not proved from fmt's source: count such statements apart). THE CARD IS WHAT COUNTS. Prove the row's statement (the work); the ties are given (YtadhhamfikpimaaDoorTie.lean); close each card by the builder's one call (the guide's Derived/Test/ToyasCard.lean, 'card_holds'). Laid BY PROGRAM, IN A SANDBOX (cutbox-door.mjs). By AI agents, Wed Nov 11 2026. No macro, syntax, notation, axiom, sorry.
-/
import Derived.Test.YtadhhamfikpimaaDoorRows
import GoSem.ClaimSeven
namespace Go.Proofs.YtadhhamfikpimaaDoor
namespace Rows

/-- THE TIED CARD OF 'jalousielaw03.PolicyParses'. -/
def policyParsesCard : Claim7 := { stood := { row := policyParsesRow, standIns := [], harness := (true, "2afeaa0bd7a7c83749b9cd6cb201c0ae21e47212b9b1e7cd2ecb8350a9dbb0ff"), looks := true }, kinds := [], alts := [], laidByText := true, laidKinds := [.data, .data, .data], laidTests := true, laidLooks := .later }
def PolicyParsesCardSaid : Prop := Claim7.holds Tryd.pinned (.plain (OpenSpec.ofChange policyParsesSpec)) policyParsesCard

/-- THE TIED CARD OF 'jalousielaw03.PolicyPrints'. -/
def policyPrintsCard : Claim7 := { stood := { row := policyPrintsRow, standIns := [], harness := (true, "2afeaa0bd7a7c83749b9cd6cb201c0ae21e47212b9b1e7cd2ecb8350a9dbb0ff"), looks := true }, kinds := [], alts := [], laidByText := true, laidKinds := [.data, .data, .data], laidTests := true, laidLooks := .later }
def PolicyPrintsCardSaid : Prop := Claim7.holds Tryd.pinned (.plain (OpenSpec.ofChange policyPrintsSpec)) policyPrintsCard

/-- THE TIED CARD OF 'jalousielaw03.PolicyBack'. -/
def policyBackCard : Claim7 := { stood := { row := policyBackRow, standIns := [], harness := (true, "2afeaa0bd7a7c83749b9cd6cb201c0ae21e47212b9b1e7cd2ecb8350a9dbb0ff"), looks := true }, kinds := [], alts := [], laidByText := true, laidKinds := [.data, .data, .data], laidTests := true, laidLooks := .later }
def PolicyBackCardSaid : Prop := Claim7.holds Tryd.pinned (.plain (OpenSpec.ofChange policyBackSpec)) policyBackCard

/-- THE TIED CARD OF 'jalousielaw03.PolicyFloors'. -/
def policyFloorsCard : Claim7 := { stood := { row := policyFloorsRow, standIns := [], harness := (true, "2afeaa0bd7a7c83749b9cd6cb201c0ae21e47212b9b1e7cd2ecb8350a9dbb0ff"), looks := true }, kinds := [], alts := [], laidByText := true, laidKinds := [.data, .data, .data], laidTests := true, laidLooks := .later }
def PolicyFloorsCardSaid : Prop := Claim7.holds Tryd.pinned (.plain (OpenSpec.ofChange policyFloorsSpec)) policyFloorsCard

/-- THE TIED CARD OF 'jalousielaw04.ItemPrints'. -/
def itemPrintsCard : Claim7 := { stood := { row := itemPrintsRow, standIns := [], harness := (true, "2afeaa0bd7a7c83749b9cd6cb201c0ae21e47212b9b1e7cd2ecb8350a9dbb0ff"), looks := true }, kinds := [], alts := [], laidByText := true, laidKinds := [.data, .data, .data], laidTests := true, laidLooks := .later }
def ItemPrintsCardSaid : Prop := Claim7.holds Tryd.pinned (.plain (OpenSpec.ofChange itemPrintsSpec)) itemPrintsCard

/-- THE TIED CARD OF 'jalousielaw04.ItemBack'. -/
def itemBackCard : Claim7 := { stood := { row := itemBackRow, standIns := [], harness := (true, "2afeaa0bd7a7c83749b9cd6cb201c0ae21e47212b9b1e7cd2ecb8350a9dbb0ff"), looks := true }, kinds := [], alts := [], laidByText := true, laidKinds := [.data, .data, .data], laidTests := true, laidLooks := .later }
def ItemBackCardSaid : Prop := Claim7.holds Tryd.pinned (.plain (OpenSpec.ofChange itemBackSpec)) itemBackCard

/-- THE TIED CARD OF 'jalousielaw04.ItemAgain'. -/
def itemAgainCard : Claim7 := { stood := { row := itemAgainRow, standIns := [], harness := (true, "2afeaa0bd7a7c83749b9cd6cb201c0ae21e47212b9b1e7cd2ecb8350a9dbb0ff"), looks := true }, kinds := [], alts := [], laidByText := true, laidKinds := [.data, .data, .data], laidTests := true, laidLooks := .later }
def ItemAgainCardSaid : Prop := Claim7.holds Tryd.pinned (.plain (OpenSpec.ofChange itemAgainSpec)) itemAgainCard

/-- THE TIED CARD OF 'jalousielaw04.ItemOwn'. -/
def itemOwnCard : Claim7 := { stood := { row := itemOwnRow, standIns := [], harness := (true, "2afeaa0bd7a7c83749b9cd6cb201c0ae21e47212b9b1e7cd2ecb8350a9dbb0ff"), looks := true }, kinds := [], alts := [], laidByText := true, laidKinds := [.data, .data, .data], laidTests := true, laidLooks := .later }
def ItemOwnCardSaid : Prop := Claim7.holds Tryd.pinned (.plain (OpenSpec.ofChange itemOwnSpec)) itemOwnCard

/-- THE TIED CARD OF 'jalousielaw04.ItemLines'. -/
def itemLinesCard : Claim7 := { stood := { row := itemLinesRow, standIns := [], harness := (true, "2afeaa0bd7a7c83749b9cd6cb201c0ae21e47212b9b1e7cd2ecb8350a9dbb0ff"), looks := true }, kinds := [], alts := [], laidByText := true, laidKinds := [.data, .data, .data], laidTests := true, laidLooks := .later }
def ItemLinesCardSaid : Prop := Claim7.holds Tryd.pinned (.plain (OpenSpec.ofChange itemLinesSpec)) itemLinesCard

/-- THE SECOND FORM's CARD OF 'jalousielaw03.PolicyParses'. -/
def policyParsesUptoCard : Claim7 := { stood := { row := policyParsesUptoRow, standIns := [], harness := (true, "2afeaa0bd7a7c83749b9cd6cb201c0ae21e47212b9b1e7cd2ecb8350a9dbb0ff"), looks := true }, kinds := [], alts := [], laidByText := true, laidKinds := [.data, .data, .data], laidTests := true, laidLooks := .later }
def PolicyParsesUptoCardSaid : Prop := Claim7.holds Tryd.pinned (.plain (OpenSpec.upto policyParsesSpec)) policyParsesUptoCard

/-- THE SECOND FORM's CARD OF 'jalousielaw03.PolicyPrints'. -/
def policyPrintsUptoCard : Claim7 := { stood := { row := policyPrintsUptoRow, standIns := [], harness := (true, "2afeaa0bd7a7c83749b9cd6cb201c0ae21e47212b9b1e7cd2ecb8350a9dbb0ff"), looks := true }, kinds := [], alts := [], laidByText := true, laidKinds := [.data, .data, .data], laidTests := true, laidLooks := .later }
def PolicyPrintsUptoCardSaid : Prop := Claim7.holds Tryd.pinned (.plain (OpenSpec.upto policyPrintsSpec)) policyPrintsUptoCard

/-- THE SECOND FORM's CARD OF 'jalousielaw03.PolicyBack'. -/
def policyBackUptoCard : Claim7 := { stood := { row := policyBackUptoRow, standIns := [], harness := (true, "2afeaa0bd7a7c83749b9cd6cb201c0ae21e47212b9b1e7cd2ecb8350a9dbb0ff"), looks := true }, kinds := [], alts := [], laidByText := true, laidKinds := [.data, .data, .data], laidTests := true, laidLooks := .later }
def PolicyBackUptoCardSaid : Prop := Claim7.holds Tryd.pinned (.plain (OpenSpec.upto policyBackSpec)) policyBackUptoCard

/-- THE SECOND FORM's CARD OF 'jalousielaw03.PolicyFloors'. -/
def policyFloorsUptoCard : Claim7 := { stood := { row := policyFloorsUptoRow, standIns := [], harness := (true, "2afeaa0bd7a7c83749b9cd6cb201c0ae21e47212b9b1e7cd2ecb8350a9dbb0ff"), looks := true }, kinds := [], alts := [], laidByText := true, laidKinds := [.data, .data, .data], laidTests := true, laidLooks := .later }
def PolicyFloorsUptoCardSaid : Prop := Claim7.holds Tryd.pinned (.plain (OpenSpec.upto policyFloorsSpec)) policyFloorsUptoCard

/-- THE SECOND FORM's CARD OF 'jalousielaw04.ItemPrints'. -/
def itemPrintsUptoCard : Claim7 := { stood := { row := itemPrintsUptoRow, standIns := [], harness := (true, "2afeaa0bd7a7c83749b9cd6cb201c0ae21e47212b9b1e7cd2ecb8350a9dbb0ff"), looks := true }, kinds := [], alts := [], laidByText := true, laidKinds := [.data, .data, .data], laidTests := true, laidLooks := .later }
def ItemPrintsUptoCardSaid : Prop := Claim7.holds Tryd.pinned (.plain (OpenSpec.upto itemPrintsSpec)) itemPrintsUptoCard

/-- THE SECOND FORM's CARD OF 'jalousielaw04.ItemBack'. -/
def itemBackUptoCard : Claim7 := { stood := { row := itemBackUptoRow, standIns := [], harness := (true, "2afeaa0bd7a7c83749b9cd6cb201c0ae21e47212b9b1e7cd2ecb8350a9dbb0ff"), looks := true }, kinds := [], alts := [], laidByText := true, laidKinds := [.data, .data, .data], laidTests := true, laidLooks := .later }
def ItemBackUptoCardSaid : Prop := Claim7.holds Tryd.pinned (.plain (OpenSpec.upto itemBackSpec)) itemBackUptoCard

/-- THE SECOND FORM's CARD OF 'jalousielaw04.ItemAgain'. -/
def itemAgainUptoCard : Claim7 := { stood := { row := itemAgainUptoRow, standIns := [], harness := (true, "2afeaa0bd7a7c83749b9cd6cb201c0ae21e47212b9b1e7cd2ecb8350a9dbb0ff"), looks := true }, kinds := [], alts := [], laidByText := true, laidKinds := [.data, .data, .data], laidTests := true, laidLooks := .later }
def ItemAgainUptoCardSaid : Prop := Claim7.holds Tryd.pinned (.plain (OpenSpec.upto itemAgainSpec)) itemAgainUptoCard

/-- THE SECOND FORM's CARD OF 'jalousielaw04.ItemOwn'. -/
def itemOwnUptoCard : Claim7 := { stood := { row := itemOwnUptoRow, standIns := [], harness := (true, "2afeaa0bd7a7c83749b9cd6cb201c0ae21e47212b9b1e7cd2ecb8350a9dbb0ff"), looks := true }, kinds := [], alts := [], laidByText := true, laidKinds := [.data, .data, .data], laidTests := true, laidLooks := .later }
def ItemOwnUptoCardSaid : Prop := Claim7.holds Tryd.pinned (.plain (OpenSpec.upto itemOwnSpec)) itemOwnUptoCard

/-- THE SECOND FORM's CARD OF 'jalousielaw04.ItemLines'. -/
def itemLinesUptoCard : Claim7 := { stood := { row := itemLinesUptoRow, standIns := [], harness := (true, "2afeaa0bd7a7c83749b9cd6cb201c0ae21e47212b9b1e7cd2ecb8350a9dbb0ff"), looks := true }, kinds := [], alts := [], laidByText := true, laidKinds := [.data, .data, .data], laidTests := true, laidLooks := .later }
def ItemLinesUptoCardSaid : Prop := Claim7.holds Tryd.pinned (.plain (OpenSpec.upto itemLinesSpec)) itemLinesUptoCard
end Rows
end Go.Proofs.YtadhhamfikpimaaDoor
