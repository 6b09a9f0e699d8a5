/-
  No cell of these rows narrows 'for every input' (looked for: loops, veiled, ifaces, maps, wideKeys, modest, calm, conditions, laid).
  DERIVED. THE GIVEN ROWS OF THIS SEAT. 6 by the template 'for every input the law returns true; each argument reads behind the call as it read before'; 0 by the template 'total and deterministic' (their statements: YtcnnbchaelboeaaTotals.lean).
  GIVEN WITH THE SEED: the statements are not yours to turn. If you find one false, say at which input.
  Laid BY PROGRAM, IN A SANDBOX (cutbox-rows.mjs): the forced cells as the released guide's own fill.sh prints them over the translation dc2d5437ceb2cd1a… (all of the seat's roots in one cut). By AI agents, Wed Nov 11 2026. No macro, syntax, notation, axiom, sorry.
-/
import Derived.Test.YtcnnbchaelboeaaChecked
import GoSem.Claim
import GoSem.ClaimJoined
import GoSem.ClaimMapViews
import Derived.JoinedTies
import Derived.KernelRfl
namespace Go.Proofs.Ytcnnbchaelboeaa
/- THE CELL 'sum', in the pinned program and in every row, IS THE sha256 OF THE DUMP (.gsa) THAT YtcnnbchaelboeaaProg.lean LOADS. Nothing in Lean hashes anything: it is a label: what it is worth is what the hold of that sum in a sandbox is worth. -/
noncomputable def Try.pinned : Pinned := { name := "ytcnnbchaelboeaa", sum := "dc2d5437ceb2cd1a5f9d33af229a44a98b36c5ef187c9358b89e7e6ad4f8753c", checked := Try.checked }
namespace Rows
def none {H : Type} : Left H := { results := [], args := [] }

/-- 'jalousielaw13.ChunkOf': WHATEVER THE INPUT: true; the input reads as it did. -/
def chunkOfSpec : ChangeSpec := { name := "chunkOf", fn := fun _ => fun
  | [d1, d2, d3, d4, d5] => { results := [.lit (.bool true)], args := [d1, d2, d3, d4, d5] }
  | _ => none }
def chunkOfRow : OpenClaim := { program := "ytcnnbchaelboeaa", sum := "dc2d5437ceb2cd1a5f9d33af229a44a98b36c5ef187c9358b89e7e6ad4f8753c", func := "jalousie/jalousielaw13.ChunkOf", spec := "chunkOf", unfollowed := true, recurses := true, apart := false }
def ChunkOfSaid : Prop := chunkOfRow.holds Try.pinned (OpenSpec.ofChange chunkOfSpec)

/-- ITS FALSE NEIGHBOUR: 'it returns false'. Refute it at one input. -/
def chunkOfWrong : ChangeSpec := { name := "chunkOf", fn := fun _ => fun
  | [d1, d2, d3, d4, d5] => { results := [.lit (.bool false)], args := [d1, d2, d3, d4, d5] }
  | _ => none }
def ChunkOfWrongFalsely : Prop := chunkOfRow.holds Try.pinned (OpenSpec.ofChange chunkOfWrong)

/-- 'jalousielaw13.ChunkSteps': WHATEVER THE INPUT: true; the input reads as it did. -/
def chunkStepsSpec : ChangeSpec := { name := "chunkSteps", fn := fun _ => fun
  | [d1, d2, d3, d4] => { results := [.lit (.bool true)], args := [d1, d2, d3, d4] }
  | _ => none }
def chunkStepsRow : OpenClaim := { program := "ytcnnbchaelboeaa", sum := "dc2d5437ceb2cd1a5f9d33af229a44a98b36c5ef187c9358b89e7e6ad4f8753c", func := "jalousie/jalousielaw13.ChunkSteps", spec := "chunkSteps", unfollowed := true, recurses := true, apart := false }
def ChunkStepsSaid : Prop := chunkStepsRow.holds Try.pinned (OpenSpec.ofChange chunkStepsSpec)

/-- ITS FALSE NEIGHBOUR: 'it returns false'. Refute it at one input. -/
def chunkStepsWrong : ChangeSpec := { name := "chunkSteps", fn := fun _ => fun
  | [d1, d2, d3, d4] => { results := [.lit (.bool false)], args := [d1, d2, d3, d4] }
  | _ => none }
def ChunkStepsWrongFalsely : Prop := chunkStepsRow.holds Try.pinned (OpenSpec.ofChange chunkStepsWrong)

/-- 'jalousielaw13.ChunkTiles': WHATEVER THE INPUT: true; the input reads as it did. -/
def chunkTilesSpec : ChangeSpec := { name := "chunkTiles", fn := fun _ => fun
  | [d1, d2, d3, d4, d5] => { results := [.lit (.bool true)], args := [d1, d2, d3, d4, d5] }
  | _ => none }
def chunkTilesRow : OpenClaim := { program := "ytcnnbchaelboeaa", sum := "dc2d5437ceb2cd1a5f9d33af229a44a98b36c5ef187c9358b89e7e6ad4f8753c", func := "jalousie/jalousielaw13.ChunkTiles", spec := "chunkTiles", unfollowed := true, recurses := true, apart := false }
def ChunkTilesSaid : Prop := chunkTilesRow.holds Try.pinned (OpenSpec.ofChange chunkTilesSpec)

/-- ITS FALSE NEIGHBOUR: 'it returns false'. Refute it at one input. -/
def chunkTilesWrong : ChangeSpec := { name := "chunkTiles", fn := fun _ => fun
  | [d1, d2, d3, d4, d5] => { results := [.lit (.bool false)], args := [d1, d2, d3, d4, d5] }
  | _ => none }
def ChunkTilesWrongFalsely : Prop := chunkTilesRow.holds Try.pinned (OpenSpec.ofChange chunkTilesWrong)

/-- 'jalousielaw13.ChunkTurns': WHATEVER THE INPUT: true; the input reads as it did. -/
def chunkTurnsSpec : ChangeSpec := { name := "chunkTurns", fn := fun _ => fun
  | [d1, d2, d3, d4, d5] => { results := [.lit (.bool true)], args := [d1, d2, d3, d4, d5] }
  | _ => none }
def chunkTurnsRow : OpenClaim := { program := "ytcnnbchaelboeaa", sum := "dc2d5437ceb2cd1a5f9d33af229a44a98b36c5ef187c9358b89e7e6ad4f8753c", func := "jalousie/jalousielaw13.ChunkTurns", spec := "chunkTurns", unfollowed := true, recurses := true, apart := false }
def ChunkTurnsSaid : Prop := chunkTurnsRow.holds Try.pinned (OpenSpec.ofChange chunkTurnsSpec)

/-- ITS FALSE NEIGHBOUR: 'it returns false'. Refute it at one input. -/
def chunkTurnsWrong : ChangeSpec := { name := "chunkTurns", fn := fun _ => fun
  | [d1, d2, d3, d4, d5] => { results := [.lit (.bool false)], args := [d1, d2, d3, d4, d5] }
  | _ => none }
def ChunkTurnsWrongFalsely : Prop := chunkTurnsRow.holds Try.pinned (OpenSpec.ofChange chunkTurnsWrong)

/-- 'jalousielaw13.ChunkRight': WHATEVER THE INPUT: true; the input reads as it did. -/
def chunkRightSpec : ChangeSpec := { name := "chunkRight", fn := fun _ => fun
  | [d1, d2, d3, d4] => { results := [.lit (.bool true)], args := [d1, d2, d3, d4] }
  | _ => none }
def chunkRightRow : OpenClaim := { program := "ytcnnbchaelboeaa", sum := "dc2d5437ceb2cd1a5f9d33af229a44a98b36c5ef187c9358b89e7e6ad4f8753c", func := "jalousie/jalousielaw13.ChunkRight", spec := "chunkRight", unfollowed := true, recurses := true, apart := false }
def ChunkRightSaid : Prop := chunkRightRow.holds Try.pinned (OpenSpec.ofChange chunkRightSpec)

/-- ITS FALSE NEIGHBOUR: 'it returns false'. Refute it at one input. -/
def chunkRightWrong : ChangeSpec := { name := "chunkRight", fn := fun _ => fun
  | [d1, d2, d3, d4] => { results := [.lit (.bool false)], args := [d1, d2, d3, d4] }
  | _ => none }
def ChunkRightWrongFalsely : Prop := chunkRightRow.holds Try.pinned (OpenSpec.ofChange chunkRightWrong)

/-- 'jalousielaw13.ChunkOne': WHATEVER THE INPUT: true; the input reads as it did. -/
def chunkOneSpec : ChangeSpec := { name := "chunkOne", fn := fun _ => fun
  | [d1, d2, d3] => { results := [.lit (.bool true)], args := [d1, d2, d3] }
  | _ => none }
def chunkOneRow : OpenClaim := { program := "ytcnnbchaelboeaa", sum := "dc2d5437ceb2cd1a5f9d33af229a44a98b36c5ef187c9358b89e7e6ad4f8753c", func := "jalousie/jalousielaw13.ChunkOne", spec := "chunkOne", unfollowed := true, recurses := true, apart := false }
def ChunkOneSaid : Prop := chunkOneRow.holds Try.pinned (OpenSpec.ofChange chunkOneSpec)

/-- ITS FALSE NEIGHBOUR: 'it returns false'. Refute it at one input. -/
def chunkOneWrong : ChangeSpec := { name := "chunkOne", fn := fun _ => fun
  | [d1, d2, d3] => { results := [.lit (.bool false)], args := [d1, d2, d3] }
  | _ => none }
def ChunkOneWrongFalsely : Prop := chunkOneRow.holds Try.pinned (OpenSpec.ofChange chunkOneWrong)

/- THE SECOND FORM. 'bulk': how many values and letters a reading holds, each counted each time it is reached (what is shared counts as often as it is met; a slice's spare places count too). A statement '..UptoSaid' is the law's where the arguments, and the package variables that the reading takes, are together of bulk at most 1048576: NARROWER than '..Said'. Prove '..Said' where nothing that the law and all that it calls make is longer than what came in: it says more and counts as full. Else prove '..UptoSaid'. A law counts once. -/
mutual
def uptoBulk {H : Type} : DataW H → Nat
  | .lit (.string bytes) => bytes.length + 1
  | .lit _ => 1
  | .nil => 1
  | .ptr d => uptoBulk d + 1
  | .slice elems spare => uptoBulkAll elems + uptoBulkAll spare + 1
  | .agg parts => uptoBulkAll parts + 1
  | .iface _ d => uptoBulk d + 1
  | .map entries => uptoBulkEntries entries + 1
  | .held _ => 1
def uptoBulkAll {H : Type} : List (DataW H) → Nat
  | [] => 0
  | d :: r => uptoBulk d + uptoBulkAll r
def uptoBulkEntries {H : Type} : List (Lit × DataW H) → Nat
  | [] => 0
  | x :: r => uptoBulkEntry x + uptoBulkEntries r
def uptoBulkEntry {H : Type} : Lit × DataW H → Nat
  | (.string bytes, d) => bytes.length + uptoBulk d + 1
  | (_, d) => uptoBulk d + 1
 end
def uptoSmall : (H : Type) → List (DataW H) → Bool := fun _ ds => decide (uptoBulkAll ds ≤ 1048576)
def OpenSpec.upto (s : _root_.Go.ChangeSpec) : _root_.Go.OpenSpec := { _root_.Go.OpenSpec.ofChange s with cond := some uptoSmall }

/-- 'jalousielaw13.ChunkOf', WHERE WHAT IT READS IS OF BULK AT MOST 1048576: true; the input reads as it did. -/
def chunkOfUptoRow : OpenClaim := { program := "ytcnnbchaelboeaa", sum := "dc2d5437ceb2cd1a5f9d33af229a44a98b36c5ef187c9358b89e7e6ad4f8753c", func := "jalousie/jalousielaw13.ChunkOf", spec := "chunkOf", unfollowed := true, recurses := true, apart := false, narrowed := true }
def ChunkOfUptoSaid : Prop := chunkOfUptoRow.holds Try.pinned (OpenSpec.upto chunkOfSpec)

/-- 'jalousielaw13.ChunkSteps', WHERE WHAT IT READS IS OF BULK AT MOST 1048576: true; the input reads as it did. -/
def chunkStepsUptoRow : OpenClaim := { program := "ytcnnbchaelboeaa", sum := "dc2d5437ceb2cd1a5f9d33af229a44a98b36c5ef187c9358b89e7e6ad4f8753c", func := "jalousie/jalousielaw13.ChunkSteps", spec := "chunkSteps", unfollowed := true, recurses := true, apart := false, narrowed := true }
def ChunkStepsUptoSaid : Prop := chunkStepsUptoRow.holds Try.pinned (OpenSpec.upto chunkStepsSpec)

/-- 'jalousielaw13.ChunkTiles', WHERE WHAT IT READS IS OF BULK AT MOST 1048576: true; the input reads as it did. -/
def chunkTilesUptoRow : OpenClaim := { program := "ytcnnbchaelboeaa", sum := "dc2d5437ceb2cd1a5f9d33af229a44a98b36c5ef187c9358b89e7e6ad4f8753c", func := "jalousie/jalousielaw13.ChunkTiles", spec := "chunkTiles", unfollowed := true, recurses := true, apart := false, narrowed := true }
def ChunkTilesUptoSaid : Prop := chunkTilesUptoRow.holds Try.pinned (OpenSpec.upto chunkTilesSpec)

/-- 'jalousielaw13.ChunkTurns', WHERE WHAT IT READS IS OF BULK AT MOST 1048576: true; the input reads as it did. -/
def chunkTurnsUptoRow : OpenClaim := { program := "ytcnnbchaelboeaa", sum := "dc2d5437ceb2cd1a5f9d33af229a44a98b36c5ef187c9358b89e7e6ad4f8753c", func := "jalousie/jalousielaw13.ChunkTurns", spec := "chunkTurns", unfollowed := true, recurses := true, apart := false, narrowed := true }
def ChunkTurnsUptoSaid : Prop := chunkTurnsUptoRow.holds Try.pinned (OpenSpec.upto chunkTurnsSpec)

/-- 'jalousielaw13.ChunkRight', WHERE WHAT IT READS IS OF BULK AT MOST 1048576: true; the input reads as it did. -/
def chunkRightUptoRow : OpenClaim := { program := "ytcnnbchaelboeaa", sum := "dc2d5437ceb2cd1a5f9d33af229a44a98b36c5ef187c9358b89e7e6ad4f8753c", func := "jalousie/jalousielaw13.ChunkRight", spec := "chunkRight", unfollowed := true, recurses := true, apart := false, narrowed := true }
def ChunkRightUptoSaid : Prop := chunkRightUptoRow.holds Try.pinned (OpenSpec.upto chunkRightSpec)

/-- 'jalousielaw13.ChunkOne', WHERE WHAT IT READS IS OF BULK AT MOST 1048576: true; the input reads as it did. -/
def chunkOneUptoRow : OpenClaim := { program := "ytcnnbchaelboeaa", sum := "dc2d5437ceb2cd1a5f9d33af229a44a98b36c5ef187c9358b89e7e6ad4f8753c", func := "jalousie/jalousielaw13.ChunkOne", spec := "chunkOne", unfollowed := true, recurses := true, apart := false, narrowed := true }
def ChunkOneUptoSaid : Prop := chunkOneUptoRow.holds Try.pinned (OpenSpec.upto chunkOneSpec)

end Rows
end Go.Proofs.Ytcnnbchaelboeaa
