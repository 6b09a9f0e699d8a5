/-
  No cell of these rows narrows 'for every input' (looked for: loops, veiled, ifaces, maps, wideKeys, modest, calm, conditions, laid).
  DERIVED. THE GIVEN ROWS OF THIS SEAT. 3 by the template 'for every input the law returns true; each argument reads behind the call as it read before'; 0 by the template 'total and deterministic' (their statements: YthcmljknpealhaaTotals.lean).
  GIVEN WITH THE SEED: the statements are not yours to turn. If you find one false, say at which input.
  Laid BY PROGRAM, IN A SANDBOX (cutbox-rows.mjs): the forced cells as the released guide's own fill.sh prints them over the translation bc9d108deed4d67a… (all of the seat's roots in one cut). By AI agents, Wed Nov 11 2026. No macro, syntax, notation, axiom, sorry.
-/
import Derived.Test.YthcmljknpealhaaChecked
import GoSem.Claim
import GoSem.ClaimJoined
import GoSem.ClaimMapViews
import Derived.JoinedTies
import Derived.KernelRfl
namespace Go.Proofs.Ythcmljknpealhaa
/- THE CELL 'sum', in the pinned program and in every row, IS THE sha256 OF THE DUMP (.gsa) THAT YthcmljknpealhaaProg.lean LOADS. Nothing in Lean hashes anything: it is a label: what it is worth is what the hold of that sum in a sandbox is worth. -/
noncomputable def Try.pinned : Pinned := { name := "ythcmljknpealhaa", sum := "bc9d108deed4d67aced40b7fa88dd90a0f85be9cdd9bb4c81c64baaa3c4cf93e", checked := Try.checked }
namespace Rows
def none {H : Type} : Left H := { results := [], args := [] }

/-- 'jalousielaw12.MatchComposes': WHATEVER THE INPUT: true; the input reads as it did. -/
def matchComposesSpec : ChangeSpec := { name := "matchComposes", fn := fun _ => fun
  | [d1, d2, d3, d4] => { results := [.lit (.bool true)], args := [d1, d2, d3, d4] }
  | _ => none }
def matchComposesRow : OpenClaim := { program := "ythcmljknpealhaa", sum := "bc9d108deed4d67aced40b7fa88dd90a0f85be9cdd9bb4c81c64baaa3c4cf93e", func := "jalousie/jalousielaw12.MatchComposes", spec := "matchComposes", unfollowed := true, recurses := true, apart := false }
def MatchComposesSaid : Prop := matchComposesRow.holds Try.pinned (OpenSpec.ofChange matchComposesSpec)

/-- ITS FALSE NEIGHBOUR: 'it returns false'. Refute it at one input. -/
def matchComposesWrong : ChangeSpec := { name := "matchComposes", fn := fun _ => fun
  | [d1, d2, d3, d4] => { results := [.lit (.bool false)], args := [d1, d2, d3, d4] }
  | _ => none }
def MatchComposesWrongFalsely : Prop := matchComposesRow.holds Try.pinned (OpenSpec.ofChange matchComposesWrong)

/-- 'jalousielaw12.MatchStays': WHATEVER THE INPUT: true; the input reads as it did. -/
def matchStaysSpec : ChangeSpec := { name := "matchStays", fn := fun _ => fun
  | [d1, d2, d3, d4, d5, d6] => { results := [.lit (.bool true)], args := [d1, d2, d3, d4, d5, d6] }
  | _ => none }
def matchStaysRow : OpenClaim := { program := "ythcmljknpealhaa", sum := "bc9d108deed4d67aced40b7fa88dd90a0f85be9cdd9bb4c81c64baaa3c4cf93e", func := "jalousie/jalousielaw12.MatchStays", spec := "matchStays", unfollowed := true, recurses := true, apart := false }
def MatchStaysSaid : Prop := matchStaysRow.holds Try.pinned (OpenSpec.ofChange matchStaysSpec)

/-- ITS FALSE NEIGHBOUR: 'it returns false'. Refute it at one input. -/
def matchStaysWrong : ChangeSpec := { name := "matchStays", fn := fun _ => fun
  | [d1, d2, d3, d4, d5, d6] => { results := [.lit (.bool false)], args := [d1, d2, d3, d4, d5, d6] }
  | _ => none }
def MatchStaysWrongFalsely : Prop := matchStaysRow.holds Try.pinned (OpenSpec.ofChange matchStaysWrong)

/-- 'jalousielaw12.MatchTurns': WHATEVER THE INPUT: true; the input reads as it did. -/
def matchTurnsSpec : ChangeSpec := { name := "matchTurns", fn := fun _ => fun
  | [d1, d2, d3] => { results := [.lit (.bool true)], args := [d1, d2, d3] }
  | _ => none }
def matchTurnsRow : OpenClaim := { program := "ythcmljknpealhaa", sum := "bc9d108deed4d67aced40b7fa88dd90a0f85be9cdd9bb4c81c64baaa3c4cf93e", func := "jalousie/jalousielaw12.MatchTurns", spec := "matchTurns", unfollowed := true, recurses := true, apart := false }
def MatchTurnsSaid : Prop := matchTurnsRow.holds Try.pinned (OpenSpec.ofChange matchTurnsSpec)

/-- ITS FALSE NEIGHBOUR: 'it returns false'. Refute it at one input. -/
def matchTurnsWrong : ChangeSpec := { name := "matchTurns", fn := fun _ => fun
  | [d1, d2, d3] => { results := [.lit (.bool false)], args := [d1, d2, d3] }
  | _ => none }
def MatchTurnsWrongFalsely : Prop := matchTurnsRow.holds Try.pinned (OpenSpec.ofChange matchTurnsWrong)

/- THE SECOND FORM. 'bulk': how many values and letters a reading holds, each counted each time it is reached (what is shared counts as often as it is met; a slice's spare places count too). A statement '..UptoSaid' is the law's where the arguments, and the package variables that the reading takes, are together of bulk at most 1048576: NARROWER than '..Said'. Prove '..Said' where nothing that the law and all that it calls make is longer than what came in: it says more and counts as full. Else prove '..UptoSaid'. A law counts once. -/
mutual
def uptoBulk {H : Type} : DataW H → Nat
  | .lit (.string bytes) => bytes.length + 1
  | .lit _ => 1
  | .nil => 1
  | .ptr d => uptoBulk d + 1
  | .slice elems spare => uptoBulkAll elems + uptoBulkAll spare + 1
  | .agg parts => uptoBulkAll parts + 1
  | .iface _ d => uptoBulk d + 1
  | .map entries => uptoBulkEntries entries + 1
  | .held _ => 1
def uptoBulkAll {H : Type} : List (DataW H) → Nat
  | [] => 0
  | d :: r => uptoBulk d + uptoBulkAll r
def uptoBulkEntries {H : Type} : List (Lit × DataW H) → Nat
  | [] => 0
  | x :: r => uptoBulkEntry x + uptoBulkEntries r
def uptoBulkEntry {H : Type} : Lit × DataW H → Nat
  | (.string bytes, d) => bytes.length + uptoBulk d + 1
  | (_, d) => uptoBulk d + 1
 end
def uptoSmall : (H : Type) → List (DataW H) → Bool := fun _ ds => decide (uptoBulkAll ds ≤ 1048576)
def OpenSpec.upto (s : _root_.Go.ChangeSpec) : _root_.Go.OpenSpec := { _root_.Go.OpenSpec.ofChange s with cond := some uptoSmall }

/-- 'jalousielaw12.MatchComposes', WHERE WHAT IT READS IS OF BULK AT MOST 1048576: true; the input reads as it did. -/
def matchComposesUptoRow : OpenClaim := { program := "ythcmljknpealhaa", sum := "bc9d108deed4d67aced40b7fa88dd90a0f85be9cdd9bb4c81c64baaa3c4cf93e", func := "jalousie/jalousielaw12.MatchComposes", spec := "matchComposes", unfollowed := true, recurses := true, apart := false, narrowed := true }
def MatchComposesUptoSaid : Prop := matchComposesUptoRow.holds Try.pinned (OpenSpec.upto matchComposesSpec)

/-- 'jalousielaw12.MatchStays', WHERE WHAT IT READS IS OF BULK AT MOST 1048576: true; the input reads as it did. -/
def matchStaysUptoRow : OpenClaim := { program := "ythcmljknpealhaa", sum := "bc9d108deed4d67aced40b7fa88dd90a0f85be9cdd9bb4c81c64baaa3c4cf93e", func := "jalousie/jalousielaw12.MatchStays", spec := "matchStays", unfollowed := true, recurses := true, apart := false, narrowed := true }
def MatchStaysUptoSaid : Prop := matchStaysUptoRow.holds Try.pinned (OpenSpec.upto matchStaysSpec)

/-- 'jalousielaw12.MatchTurns', WHERE WHAT IT READS IS OF BULK AT MOST 1048576: true; the input reads as it did. -/
def matchTurnsUptoRow : OpenClaim := { program := "ythcmljknpealhaa", sum := "bc9d108deed4d67aced40b7fa88dd90a0f85be9cdd9bb4c81c64baaa3c4cf93e", func := "jalousie/jalousielaw12.MatchTurns", spec := "matchTurns", unfollowed := true, recurses := true, apart := false, narrowed := true }
def MatchTurnsUptoSaid : Prop := matchTurnsUptoRow.holds Try.pinned (OpenSpec.upto matchTurnsSpec)

end Rows
end Go.Proofs.Ythcmljknpealhaa
