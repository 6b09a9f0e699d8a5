/-
  DERIVED. GIVEN WITH THE SEED: THE CARDS: each row of YtfndiggpnkjacaaDoorRows.lean that lists a variable, with what it lists TIED to the program's text (the seventh form; the later family's looks); each row that meets fmt, with fmt's text TOLD by the authors' own Lean function (tested against real Go, not proved from fmt's source: count such statements apart). THE CARD IS WHAT COUNTS. Prove the row's statement (the work); the ties are given (YtfndiggpnkjacaaDoorTie.lean); close each card by the builder's one call (the guide's Derived/Test/ToyasCard.lean, 'card_holds'). Laid BY PROGRAM, IN A SANDBOX (cutbox-door.mjs). By AI agents, Wed Nov 11 2026. No macro, syntax, notation, axiom, sorry.
-/
import Derived.Test.YtfndiggpnkjacaaDoorRows
import GoSem.ClaimSeven
namespace Go.Proofs.YtfndiggpnkjacaaDoor
namespace Rows

/-- THE TIED CARD OF 'jalousielaw23.RankLike'. -/
def rankLikeCard : Claim7 := { stood := { row := rankLikeRow, standIns := [], harness := (true, "8149127bd8c552f6bc08534a8b9f73b0f9296ddebdcbcc49555fd210c55adbc7"), looks := false }, kinds := [], alts := [], laidByText := true, laidKinds := [.data, .data, .data], laidTests := true, laidLooks := .later }
def RankLikeCardSaid : Prop := Claim7.holds Tryd.pinned (.plain (OpenSpec.ofChange rankLikeSpec)) rankLikeCard

/-- THE TIED CARD OF 'jalousielaw23.RankAll'. -/
def rankAllCard : Claim7 := { stood := { row := rankAllRow, standIns := [], harness := (true, "8149127bd8c552f6bc08534a8b9f73b0f9296ddebdcbcc49555fd210c55adbc7"), looks := false }, kinds := [], alts := [], laidByText := true, laidKinds := [.data, .data, .data], laidTests := true, laidLooks := .later }
def RankAllCardSaid : Prop := Claim7.holds Tryd.pinned (.plain (OpenSpec.ofChange rankAllSpec)) rankAllCard

/-- THE TIED CARD OF 'jalousielaw23.RankPrints'. -/
def rankPrintsCard : Claim7 := { stood := { row := rankPrintsRow, standIns := [], harness := (true, "8149127bd8c552f6bc08534a8b9f73b0f9296ddebdcbcc49555fd210c55adbc7"), looks := false }, kinds := [], alts := [], laidByText := true, laidKinds := [.data, .data, .data], laidTests := true, laidLooks := .later }
def RankPrintsCardSaid : Prop := Claim7.holds Tryd.pinned (.plain (OpenSpec.ofChange rankPrintsSpec)) rankPrintsCard

/-- THE TIED CARD OF 'jalousielaw23.RankTurns'. -/
def rankTurnsCard : Claim7 := { stood := { row := rankTurnsRow, standIns := [], harness := (true, "8149127bd8c552f6bc08534a8b9f73b0f9296ddebdcbcc49555fd210c55adbc7"), looks := false }, kinds := [], alts := [], laidByText := true, laidKinds := [.data, .data, .data], laidTests := true, laidLooks := .later }
def RankTurnsCardSaid : Prop := Claim7.holds Tryd.pinned (.plain (OpenSpec.ofChange rankTurnsSpec)) rankTurnsCard

/-- THE TIED CARD OF 'jalousielaw23.RankSelf'. -/
def rankSelfCard : Claim7 := { stood := { row := rankSelfRow, standIns := [], harness := (true, "8149127bd8c552f6bc08534a8b9f73b0f9296ddebdcbcc49555fd210c55adbc7"), looks := false }, kinds := [], alts := [], laidByText := true, laidKinds := [.data, .data, .data], laidTests := true, laidLooks := .later }
def RankSelfCardSaid : Prop := Claim7.holds Tryd.pinned (.plain (OpenSpec.ofChange rankSelfSpec)) rankSelfCard

/-- THE TIED CARD OF 'jalousielaw23.RankCounts'. -/
def rankCountsCard : Claim7 := { stood := { row := rankCountsRow, standIns := [], harness := (true, "8149127bd8c552f6bc08534a8b9f73b0f9296ddebdcbcc49555fd210c55adbc7"), looks := false }, kinds := [], alts := [], laidByText := true, laidKinds := [.data, .data, .data], laidTests := true, laidLooks := .later }
def RankCountsCardSaid : Prop := Claim7.holds Tryd.pinned (.plain (OpenSpec.ofChange rankCountsSpec)) rankCountsCard

/-- THE SECOND FORM's CARD OF 'jalousielaw23.RankLike'. -/
def rankLikeUptoCard : Claim7 := { stood := { row := rankLikeUptoRow, standIns := [], harness := (true, "8149127bd8c552f6bc08534a8b9f73b0f9296ddebdcbcc49555fd210c55adbc7"), looks := false }, kinds := [], alts := [], laidByText := true, laidKinds := [.data, .data, .data], laidTests := true, laidLooks := .later }
def RankLikeUptoCardSaid : Prop := Claim7.holds Tryd.pinned (.plain (OpenSpec.upto rankLikeSpec)) rankLikeUptoCard

/-- THE SECOND FORM's CARD OF 'jalousielaw23.RankAll'. -/
def rankAllUptoCard : Claim7 := { stood := { row := rankAllUptoRow, standIns := [], harness := (true, "8149127bd8c552f6bc08534a8b9f73b0f9296ddebdcbcc49555fd210c55adbc7"), looks := false }, kinds := [], alts := [], laidByText := true, laidKinds := [.data, .data, .data], laidTests := true, laidLooks := .later }
def RankAllUptoCardSaid : Prop := Claim7.holds Tryd.pinned (.plain (OpenSpec.upto rankAllSpec)) rankAllUptoCard

/-- THE SECOND FORM's CARD OF 'jalousielaw23.RankPrints'. -/
def rankPrintsUptoCard : Claim7 := { stood := { row := rankPrintsUptoRow, standIns := [], harness := (true, "8149127bd8c552f6bc08534a8b9f73b0f9296ddebdcbcc49555fd210c55adbc7"), looks := false }, kinds := [], alts := [], laidByText := true, laidKinds := [.data, .data, .data], laidTests := true, laidLooks := .later }
def RankPrintsUptoCardSaid : Prop := Claim7.holds Tryd.pinned (.plain (OpenSpec.upto rankPrintsSpec)) rankPrintsUptoCard

/-- THE SECOND FORM's CARD OF 'jalousielaw23.RankTurns'. -/
def rankTurnsUptoCard : Claim7 := { stood := { row := rankTurnsUptoRow, standIns := [], harness := (true, "8149127bd8c552f6bc08534a8b9f73b0f9296ddebdcbcc49555fd210c55adbc7"), looks := false }, kinds := [], alts := [], laidByText := true, laidKinds := [.data, .data, .data], laidTests := true, laidLooks := .later }
def RankTurnsUptoCardSaid : Prop := Claim7.holds Tryd.pinned (.plain (OpenSpec.upto rankTurnsSpec)) rankTurnsUptoCard

/-- THE SECOND FORM's CARD OF 'jalousielaw23.RankSelf'. -/
def rankSelfUptoCard : Claim7 := { stood := { row := rankSelfUptoRow, standIns := [], harness := (true, "8149127bd8c552f6bc08534a8b9f73b0f9296ddebdcbcc49555fd210c55adbc7"), looks := false }, kinds := [], alts := [], laidByText := true, laidKinds := [.data, .data, .data], laidTests := true, laidLooks := .later }
def RankSelfUptoCardSaid : Prop := Claim7.holds Tryd.pinned (.plain (OpenSpec.upto rankSelfSpec)) rankSelfUptoCard

/-- THE SECOND FORM's CARD OF 'jalousielaw23.RankCounts'. -/
def rankCountsUptoCard : Claim7 := { stood := { row := rankCountsUptoRow, standIns := [], harness := (true, "8149127bd8c552f6bc08534a8b9f73b0f9296ddebdcbcc49555fd210c55adbc7"), looks := false }, kinds := [], alts := [], laidByText := true, laidKinds := [.data, .data, .data], laidTests := true, laidLooks := .later }
def RankCountsUptoCardSaid : Prop := Claim7.holds Tryd.pinned (.plain (OpenSpec.upto rankCountsSpec)) rankCountsUptoCard
end Rows
end Go.Proofs.YtfndiggpnkjacaaDoor
