/-
  No cell of these rows narrows 'for every input' (looked for: loops, veiled, ifaces, maps, wideKeys, modest, calm, conditions, laid).
  DERIVED. THE GIVEN ROWS OF THIS SEAT. 5 by the template 'for every input the law returns true; each argument reads behind the call as it read before'; 0 by the template 'total and deterministic' (their statements: YtimalohdchhjgaaTotals.lean).
  GIVEN WITH THE SEED: the statements are not yours to turn. If you find one false, say at which input.
  Laid BY PROGRAM, IN A SANDBOX (cutbox-rows.mjs): the forced cells as the released guide's own fill.sh prints them over the translation 652e8a6dd2252f14… (all of the seat's roots in one cut). By AI agents, Wed Nov 11 2026. No macro, syntax, notation, axiom, sorry.
-/
import Derived.Test.YtimalohdchhjgaaChecked
import GoSem.Claim
import GoSem.ClaimJoined
import GoSem.ClaimMapViews
import Derived.JoinedTies
import Derived.KernelRfl
namespace Go.Proofs.Ytimalohdchhjgaa
/- THE CELL 'sum', in the pinned program and in every row, IS THE sha256 OF THE DUMP (.gsa) THAT YtimalohdchhjgaaProg.lean LOADS. Nothing in Lean hashes anything: it is a label: what it is worth is what the hold of that sum in a sandbox is worth. -/
noncomputable def Try.pinned : Pinned := { name := "ytimalohdchhjgaa", sum := "652e8a6dd2252f14b02a99d8ae7c36b1a002f60c4db57d289ab30907d2b3c3ec", checked := Try.checked }
namespace Rows
def none {H : Type} : Left H := { results := [], args := [] }

/-- 'jalousielaw09.HunkBuilds': WHATEVER THE INPUT: true; the input reads as it did. -/
def hunkBuildsSpec : ChangeSpec := { name := "hunkBuilds", fn := fun _ => fun
  | [d1, d2] => { results := [.lit (.bool true)], args := [d1, d2] }
  | _ => none }
def hunkBuildsRow : OpenClaim := { program := "ytimalohdchhjgaa", sum := "652e8a6dd2252f14b02a99d8ae7c36b1a002f60c4db57d289ab30907d2b3c3ec", func := "jalousie/jalousielaw09.HunkBuilds", spec := "hunkBuilds", unfollowed := true, recurses := true, apart := false }
def HunkBuildsSaid : Prop := hunkBuildsRow.holds Try.pinned (OpenSpec.ofChange hunkBuildsSpec)

/-- ITS FALSE NEIGHBOUR: 'it returns false'. Refute it at one input. -/
def hunkBuildsWrong : ChangeSpec := { name := "hunkBuilds", fn := fun _ => fun
  | [d1, d2] => { results := [.lit (.bool false)], args := [d1, d2] }
  | _ => none }
def HunkBuildsWrongFalsely : Prop := hunkBuildsRow.holds Try.pinned (OpenSpec.ofChange hunkBuildsWrong)

/-- 'jalousielaw09.HunkChecks': WHATEVER THE INPUT: true; the input reads as it did. -/
def hunkChecksSpec : ChangeSpec := { name := "hunkChecks", fn := fun _ => fun
  | [d] => { results := [.lit (.bool true)], args := [d] }
  | _ => none }
def hunkChecksRow : OpenClaim := { program := "ytimalohdchhjgaa", sum := "652e8a6dd2252f14b02a99d8ae7c36b1a002f60c4db57d289ab30907d2b3c3ec", func := "jalousie/jalousielaw09.HunkChecks", spec := "hunkChecks", unfollowed := true, recurses := true, apart := false }
def HunkChecksSaid : Prop := hunkChecksRow.holds Try.pinned (OpenSpec.ofChange hunkChecksSpec)

/-- ITS FALSE NEIGHBOUR: 'it returns false'. Refute it at one input. -/
def hunkChecksWrong : ChangeSpec := { name := "hunkChecks", fn := fun _ => fun
  | [d] => { results := [.lit (.bool false)], args := [d] }
  | _ => none }
def HunkChecksWrongFalsely : Prop := hunkChecksRow.holds Try.pinned (OpenSpec.ofChange hunkChecksWrong)

/-- 'jalousielaw09.HunkBack': WHATEVER THE INPUT: true; the input reads as it did. -/
def hunkBackSpec : ChangeSpec := { name := "hunkBack", fn := fun _ => fun
  | [d1, d2] => { results := [.lit (.bool true)], args := [d1, d2] }
  | _ => none }
def hunkBackRow : OpenClaim := { program := "ytimalohdchhjgaa", sum := "652e8a6dd2252f14b02a99d8ae7c36b1a002f60c4db57d289ab30907d2b3c3ec", func := "jalousie/jalousielaw09.HunkBack", spec := "hunkBack", unfollowed := true, recurses := true, apart := false }
def HunkBackSaid : Prop := hunkBackRow.holds Try.pinned (OpenSpec.ofChange hunkBackSpec)

/-- ITS FALSE NEIGHBOUR: 'it returns false'. Refute it at one input. -/
def hunkBackWrong : ChangeSpec := { name := "hunkBack", fn := fun _ => fun
  | [d1, d2] => { results := [.lit (.bool false)], args := [d1, d2] }
  | _ => none }
def HunkBackWrongFalsely : Prop := hunkBackRow.holds Try.pinned (OpenSpec.ofChange hunkBackWrong)

/-- 'jalousielaw09.HunkAround': WHATEVER THE INPUT: true; the input reads as it did. -/
def hunkAroundSpec : ChangeSpec := { name := "hunkAround", fn := fun _ => fun
  | [d1, d2] => { results := [.lit (.bool true)], args := [d1, d2] }
  | _ => none }
def hunkAroundRow : OpenClaim := { program := "ytimalohdchhjgaa", sum := "652e8a6dd2252f14b02a99d8ae7c36b1a002f60c4db57d289ab30907d2b3c3ec", func := "jalousie/jalousielaw09.HunkAround", spec := "hunkAround", unfollowed := true, recurses := true, apart := false }
def HunkAroundSaid : Prop := hunkAroundRow.holds Try.pinned (OpenSpec.ofChange hunkAroundSpec)

/-- ITS FALSE NEIGHBOUR: 'it returns false'. Refute it at one input. -/
def hunkAroundWrong : ChangeSpec := { name := "hunkAround", fn := fun _ => fun
  | [d1, d2] => { results := [.lit (.bool false)], args := [d1, d2] }
  | _ => none }
def HunkAroundWrongFalsely : Prop := hunkAroundRow.holds Try.pinned (OpenSpec.ofChange hunkAroundWrong)

/-- 'jalousielaw09.HunkFewer': WHATEVER THE INPUT: true; the input reads as it did. -/
def hunkFewerSpec : ChangeSpec := { name := "hunkFewer", fn := fun _ => fun
  | [d1, d2, d3] => { results := [.lit (.bool true)], args := [d1, d2, d3] }
  | _ => none }
def hunkFewerRow : OpenClaim := { program := "ytimalohdchhjgaa", sum := "652e8a6dd2252f14b02a99d8ae7c36b1a002f60c4db57d289ab30907d2b3c3ec", func := "jalousie/jalousielaw09.HunkFewer", spec := "hunkFewer", unfollowed := true, recurses := true, apart := false }
def HunkFewerSaid : Prop := hunkFewerRow.holds Try.pinned (OpenSpec.ofChange hunkFewerSpec)

/-- ITS FALSE NEIGHBOUR: 'it returns false'. Refute it at one input. -/
def hunkFewerWrong : ChangeSpec := { name := "hunkFewer", fn := fun _ => fun
  | [d1, d2, d3] => { results := [.lit (.bool false)], args := [d1, d2, d3] }
  | _ => none }
def HunkFewerWrongFalsely : Prop := hunkFewerRow.holds Try.pinned (OpenSpec.ofChange hunkFewerWrong)

/- THE SECOND FORM. 'bulk': how many values and letters a reading holds, each counted each time it is reached (what is shared counts as often as it is met; a slice's spare places count too). A statement '..UptoSaid' is the law's where the arguments, and the package variables that the reading takes, are together of bulk at most 1048576: NARROWER than '..Said'. Prove '..Said' where nothing that the law and all that it calls make is longer than what came in: it says more and counts as full. Else prove '..UptoSaid'. A law counts once. -/
mutual
def uptoBulk {H : Type} : DataW H → Nat
  | .lit (.string bytes) => bytes.length + 1
  | .lit _ => 1
  | .nil => 1
  | .ptr d => uptoBulk d + 1
  | .slice elems spare => uptoBulkAll elems + uptoBulkAll spare + 1
  | .agg parts => uptoBulkAll parts + 1
  | .iface _ d => uptoBulk d + 1
  | .map entries => uptoBulkEntries entries + 1
  | .held _ => 1
def uptoBulkAll {H : Type} : List (DataW H) → Nat
  | [] => 0
  | d :: r => uptoBulk d + uptoBulkAll r
def uptoBulkEntries {H : Type} : List (Lit × DataW H) → Nat
  | [] => 0
  | x :: r => uptoBulkEntry x + uptoBulkEntries r
def uptoBulkEntry {H : Type} : Lit × DataW H → Nat
  | (.string bytes, d) => bytes.length + uptoBulk d + 1
  | (_, d) => uptoBulk d + 1
 end
def uptoSmall : (H : Type) → List (DataW H) → Bool := fun _ ds => decide (uptoBulkAll ds ≤ 1048576)
def OpenSpec.upto (s : _root_.Go.ChangeSpec) : _root_.Go.OpenSpec := { _root_.Go.OpenSpec.ofChange s with cond := some uptoSmall }

/-- 'jalousielaw09.HunkBuilds', WHERE WHAT IT READS IS OF BULK AT MOST 1048576: true; the input reads as it did. -/
def hunkBuildsUptoRow : OpenClaim := { program := "ytimalohdchhjgaa", sum := "652e8a6dd2252f14b02a99d8ae7c36b1a002f60c4db57d289ab30907d2b3c3ec", func := "jalousie/jalousielaw09.HunkBuilds", spec := "hunkBuilds", unfollowed := true, recurses := true, apart := false, narrowed := true }
def HunkBuildsUptoSaid : Prop := hunkBuildsUptoRow.holds Try.pinned (OpenSpec.upto hunkBuildsSpec)

/-- 'jalousielaw09.HunkChecks', WHERE WHAT IT READS IS OF BULK AT MOST 1048576: true; the input reads as it did. -/
def hunkChecksUptoRow : OpenClaim := { program := "ytimalohdchhjgaa", sum := "652e8a6dd2252f14b02a99d8ae7c36b1a002f60c4db57d289ab30907d2b3c3ec", func := "jalousie/jalousielaw09.HunkChecks", spec := "hunkChecks", unfollowed := true, recurses := true, apart := false, narrowed := true }
def HunkChecksUptoSaid : Prop := hunkChecksUptoRow.holds Try.pinned (OpenSpec.upto hunkChecksSpec)

/-- 'jalousielaw09.HunkBack', WHERE WHAT IT READS IS OF BULK AT MOST 1048576: true; the input reads as it did. -/
def hunkBackUptoRow : OpenClaim := { program := "ytimalohdchhjgaa", sum := "652e8a6dd2252f14b02a99d8ae7c36b1a002f60c4db57d289ab30907d2b3c3ec", func := "jalousie/jalousielaw09.HunkBack", spec := "hunkBack", unfollowed := true, recurses := true, apart := false, narrowed := true }
def HunkBackUptoSaid : Prop := hunkBackUptoRow.holds Try.pinned (OpenSpec.upto hunkBackSpec)

/-- 'jalousielaw09.HunkAround', WHERE WHAT IT READS IS OF BULK AT MOST 1048576: true; the input reads as it did. -/
def hunkAroundUptoRow : OpenClaim := { program := "ytimalohdchhjgaa", sum := "652e8a6dd2252f14b02a99d8ae7c36b1a002f60c4db57d289ab30907d2b3c3ec", func := "jalousie/jalousielaw09.HunkAround", spec := "hunkAround", unfollowed := true, recurses := true, apart := false, narrowed := true }
def HunkAroundUptoSaid : Prop := hunkAroundUptoRow.holds Try.pinned (OpenSpec.upto hunkAroundSpec)

/-- 'jalousielaw09.HunkFewer', WHERE WHAT IT READS IS OF BULK AT MOST 1048576: true; the input reads as it did. -/
def hunkFewerUptoRow : OpenClaim := { program := "ytimalohdchhjgaa", sum := "652e8a6dd2252f14b02a99d8ae7c36b1a002f60c4db57d289ab30907d2b3c3ec", func := "jalousie/jalousielaw09.HunkFewer", spec := "hunkFewer", unfollowed := true, recurses := true, apart := false, narrowed := true }
def HunkFewerUptoSaid : Prop := hunkFewerUptoRow.holds Try.pinned (OpenSpec.upto hunkFewerSpec)

end Rows
end Go.Proofs.Ytimalohdchhjgaa
