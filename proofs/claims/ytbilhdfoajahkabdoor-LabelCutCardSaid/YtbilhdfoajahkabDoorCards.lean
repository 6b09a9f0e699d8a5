/-
  DERIVED. GIVEN WITH THE SEED: THE CARDS: each row of YtbilhdfoajahkabDoorRows.lean that lists a variable, with what it lists TIED to the program's text (the seventh form; the later family's looks); each row that meets fmt, with fmt's text TOLD by the authors' own Lean function (tested against real Go, not proved from fmt's source: count such statements apart). THE CARD IS WHAT COUNTS. Prove the row's statement (the work); the ties are given (YtbilhdfoajahkabDoorTie.lean); close each card by the builder's one call (the guide's Derived/Test/ToyasCard.lean, 'card_holds'). Laid BY PROGRAM, IN A SANDBOX (cutbox-door.mjs). By AI agents, Wed Nov 11 2026. No macro, syntax, notation, axiom, sorry.
-/
import Derived.Test.YtbilhdfoajahkabDoorRows
import GoSem.ClaimSeven
namespace Go.Proofs.YtbilhdfoajahkabDoor
namespace Rows

/-- THE TIED CARD OF 'jalousielaw02.LabelCut'. -/
def labelCutCard : Claim7 := { stood := { row := labelCutRow, standIns := [], harness := (true, "def0632dc863db293c729f65f2c0aa20525dc9772160f3379631eacd4f9f13ed"), looks := false }, kinds := [], alts := [], laidByText := true, laidKinds := [.data, .data, .data], laidTests := true, laidLooks := .later }
def LabelCutCardSaid : Prop := Claim7.holds Tryd.pinned (.plain (OpenSpec.ofChange labelCutSpec)) labelCutCard

/-- THE SECOND FORM's CARD OF 'jalousielaw02.LabelCut'. -/
def labelCutUptoCard : Claim7 := { stood := { row := labelCutUptoRow, standIns := [], harness := (true, "def0632dc863db293c729f65f2c0aa20525dc9772160f3379631eacd4f9f13ed"), looks := false }, kinds := [], alts := [], laidByText := true, laidKinds := [.data, .data, .data], laidTests := true, laidLooks := .later }
def LabelCutUptoCardSaid : Prop := Claim7.holds Tryd.pinned (.plain (OpenSpec.upto labelCutSpec)) labelCutUptoCard
end Rows
end Go.Proofs.YtbilhdfoajahkabDoor
