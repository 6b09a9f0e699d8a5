/-
  DERIVED. GIVEN WITH THE SEED: THE CARDS: each row of YtbfohfmipfapdaaDoorRows.lean that lists a variable, with what it lists TIED to the program's text (the seventh form; the later family's looks); each row that meets fmt, with fmt's text TOLD by the authors' own Lean function (tested against real Go, not proved from fmt's source: count such statements apart). THE CARD IS WHAT COUNTS. Prove the row's statement (the work); the ties are given (YtbfohfmipfapdaaDoorTie.lean); close each card by the builder's one call (the guide's Derived/Test/ToyasCard.lean, 'card_holds'). Laid BY PROGRAM, IN A SANDBOX (cutbox-door.mjs). By AI agents, Wed Nov 11 2026. No macro, syntax, notation, axiom, sorry.
-/
import Derived.Test.YtbfohfmipfapdaaDoorRows
import GoSem.ClaimSeven
namespace Go.Proofs.YtbfohfmipfapdaaDoor
namespace Rows

/-- THE TIED CARD OF 'jalousielaw20.AuditPlays'. -/
def auditPlaysCard : Claim7 := { stood := { row := auditPlaysRow, standIns := [], harness := (true, "4bd2f015db251c6a6c4a610d6c08a3de299c8180abc58d29842960b1017923b3"), looks := false }, kinds := [], alts := [], laidByText := true, laidKinds := [.data, .data, .data], laidTests := true, laidLooks := .later }
def AuditPlaysCardSaid : Prop := Claim7.holds Tryd.pinned (.plain (OpenSpec.ofChange auditPlaysSpec)) auditPlaysCard

/-- THE TIED CARD OF 'jalousielaw20.AuditBlind'. -/
def auditBlindCard : Claim7 := { stood := { row := auditBlindRow, standIns := [], harness := (true, "4bd2f015db251c6a6c4a610d6c08a3de299c8180abc58d29842960b1017923b3"), looks := false }, kinds := [], alts := [], laidByText := true, laidKinds := [.data, .data, .data], laidTests := true, laidLooks := .later }
def AuditBlindCardSaid : Prop := Claim7.holds Tryd.pinned (.plain (OpenSpec.ofChange auditBlindSpec)) auditBlindCard

/-- THE TIED CARD OF 'jalousielaw20.AuditGrows'. -/
def auditGrowsCard : Claim7 := { stood := { row := auditGrowsRow, standIns := [], harness := (true, "4bd2f015db251c6a6c4a610d6c08a3de299c8180abc58d29842960b1017923b3"), looks := false }, kinds := [], alts := [], laidByText := true, laidKinds := [.data, .data, .data], laidTests := true, laidLooks := .later }
def AuditGrowsCardSaid : Prop := Claim7.holds Tryd.pinned (.plain (OpenSpec.ofChange auditGrowsSpec)) auditGrowsCard

/-- THE TIED CARD OF 'jalousielaw20.AuditForks'. -/
def auditForksCard : Claim7 := { stood := { row := auditForksRow, standIns := [], harness := (true, "4bd2f015db251c6a6c4a610d6c08a3de299c8180abc58d29842960b1017923b3"), looks := false }, kinds := [], alts := [], laidByText := true, laidKinds := [.data, .data, .data], laidTests := true, laidLooks := .later }
def AuditForksCardSaid : Prop := Claim7.holds Tryd.pinned (.plain (OpenSpec.ofChange auditForksSpec)) auditForksCard

/-- THE SECOND FORM's CARD OF 'jalousielaw20.AuditPlays'. -/
def auditPlaysUptoCard : Claim7 := { stood := { row := auditPlaysUptoRow, standIns := [], harness := (true, "4bd2f015db251c6a6c4a610d6c08a3de299c8180abc58d29842960b1017923b3"), looks := false }, kinds := [], alts := [], laidByText := true, laidKinds := [.data, .data, .data], laidTests := true, laidLooks := .later }
def AuditPlaysUptoCardSaid : Prop := Claim7.holds Tryd.pinned (.plain (OpenSpec.upto auditPlaysSpec)) auditPlaysUptoCard

/-- THE SECOND FORM's CARD OF 'jalousielaw20.AuditBlind'. -/
def auditBlindUptoCard : Claim7 := { stood := { row := auditBlindUptoRow, standIns := [], harness := (true, "4bd2f015db251c6a6c4a610d6c08a3de299c8180abc58d29842960b1017923b3"), looks := false }, kinds := [], alts := [], laidByText := true, laidKinds := [.data, .data, .data], laidTests := true, laidLooks := .later }
def AuditBlindUptoCardSaid : Prop := Claim7.holds Tryd.pinned (.plain (OpenSpec.upto auditBlindSpec)) auditBlindUptoCard

/-- THE SECOND FORM's CARD OF 'jalousielaw20.AuditGrows'. -/
def auditGrowsUptoCard : Claim7 := { stood := { row := auditGrowsUptoRow, standIns := [], harness := (true, "4bd2f015db251c6a6c4a610d6c08a3de299c8180abc58d29842960b1017923b3"), looks := false }, kinds := [], alts := [], laidByText := true, laidKinds := [.data, .data, .data], laidTests := true, laidLooks := .later }
def AuditGrowsUptoCardSaid : Prop := Claim7.holds Tryd.pinned (.plain (OpenSpec.upto auditGrowsSpec)) auditGrowsUptoCard

/-- THE SECOND FORM's CARD OF 'jalousielaw20.AuditForks'. -/
def auditForksUptoCard : Claim7 := { stood := { row := auditForksUptoRow, standIns := [], harness := (true, "4bd2f015db251c6a6c4a610d6c08a3de299c8180abc58d29842960b1017923b3"), looks := false }, kinds := [], alts := [], laidByText := true, laidKinds := [.data, .data, .data], laidTests := true, laidLooks := .later }
def AuditForksUptoCardSaid : Prop := Claim7.holds Tryd.pinned (.plain (OpenSpec.upto auditForksSpec)) auditForksUptoCard
end Rows
end Go.Proofs.YtbfohfmipfapdaaDoor
