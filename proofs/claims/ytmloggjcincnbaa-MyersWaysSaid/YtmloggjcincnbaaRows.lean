/-
  No cell of these rows narrows 'for every input' (looked for: loops, veiled, ifaces, maps, wideKeys, modest, calm, conditions, laid).
  DERIVED. THE GIVEN ROWS OF THIS SEAT. 7 by the template 'for every input the law returns true; each argument reads behind the call as it read before'; 0 by the template 'total and deterministic' (their statements: YtmloggjcincnbaaTotals.lean).
  GIVEN WITH THE SEED: the statements are not yours to turn. If you find one false, say at which input.
  Laid BY PROGRAM, IN A SANDBOX (cutbox-rows.mjs): the forced cells as the released guide's own fill.sh prints them over the translation 6d469dd17f0e2539… (all of the seat's roots in one cut). By AI agents, Wed Nov 11 2026. No macro, syntax, notation, axiom, sorry.
-/
import Derived.Test.YtmloggjcincnbaaChecked
import GoSem.Claim
import GoSem.ClaimJoined
import GoSem.ClaimMapViews
import Derived.JoinedTies
import Derived.KernelRfl
namespace Go.Proofs.Ytmloggjcincnbaa
/- THE CELL 'sum', in the pinned program and in every row, IS THE sha256 OF THE DUMP (.gsa) THAT YtmloggjcincnbaaProg.lean LOADS. Nothing in Lean hashes anything: it is a label: what it is worth is what the hold of that sum in a sandbox is worth. -/
noncomputable def Try.pinned : Pinned := { name := "ytmloggjcincnbaa", sum := "6d469dd17f0e25396ad2a4663d5957107752e190bd533e7e616c663e6e098327", checked := Try.checked }
namespace Rows
def none {H : Type} : Left H := { results := [], args := [] }

/-- 'jalousielaw07.MyersWays': WHATEVER THE INPUT: true; the input reads as it did. -/
def myersWaysSpec : ChangeSpec := { name := "myersWays", fn := fun _ => fun
  | [d1, d2] => { results := [.lit (.bool true)], args := [d1, d2] }
  | _ => none }
def myersWaysRow : OpenClaim := { program := "ytmloggjcincnbaa", sum := "6d469dd17f0e25396ad2a4663d5957107752e190bd533e7e616c663e6e098327", func := "jalousie/jalousielaw07.MyersWays", spec := "myersWays", unfollowed := true, recurses := true, apart := false }
def MyersWaysSaid : Prop := myersWaysRow.holds Try.pinned (OpenSpec.ofChange myersWaysSpec)

/-- ITS FALSE NEIGHBOUR: 'it returns false'. Refute it at one input. -/
def myersWaysWrong : ChangeSpec := { name := "myersWays", fn := fun _ => fun
  | [d1, d2] => { results := [.lit (.bool false)], args := [d1, d2] }
  | _ => none }
def MyersWaysWrongFalsely : Prop := myersWaysRow.holds Try.pinned (OpenSpec.ofChange myersWaysWrong)

/-- 'jalousielaw07.MyersLongest': WHATEVER THE INPUT: true; the input reads as it did. -/
def myersLongestSpec : ChangeSpec := { name := "myersLongest", fn := fun _ => fun
  | [d1, d2, d3] => { results := [.lit (.bool true)], args := [d1, d2, d3] }
  | _ => none }
def myersLongestRow : OpenClaim := { program := "ytmloggjcincnbaa", sum := "6d469dd17f0e25396ad2a4663d5957107752e190bd533e7e616c663e6e098327", func := "jalousie/jalousielaw07.MyersLongest", spec := "myersLongest", unfollowed := true, recurses := true, apart := false }
def MyersLongestSaid : Prop := myersLongestRow.holds Try.pinned (OpenSpec.ofChange myersLongestSpec)

/-- ITS FALSE NEIGHBOUR: 'it returns false'. Refute it at one input. -/
def myersLongestWrong : ChangeSpec := { name := "myersLongest", fn := fun _ => fun
  | [d1, d2, d3] => { results := [.lit (.bool false)], args := [d1, d2, d3] }
  | _ => none }
def MyersLongestWrongFalsely : Prop := myersLongestRow.holds Try.pinned (OpenSpec.ofChange myersLongestWrong)

/-- 'jalousielaw07.MyersMetric': WHATEVER THE INPUT: true; the input reads as it did. -/
def myersMetricSpec : ChangeSpec := { name := "myersMetric", fn := fun _ => fun
  | [d1, d2, d3] => { results := [.lit (.bool true)], args := [d1, d2, d3] }
  | _ => none }
def myersMetricRow : OpenClaim := { program := "ytmloggjcincnbaa", sum := "6d469dd17f0e25396ad2a4663d5957107752e190bd533e7e616c663e6e098327", func := "jalousie/jalousielaw07.MyersMetric", spec := "myersMetric", unfollowed := true, recurses := true, apart := false }
def MyersMetricSaid : Prop := myersMetricRow.holds Try.pinned (OpenSpec.ofChange myersMetricSpec)

/-- ITS FALSE NEIGHBOUR: 'it returns false'. Refute it at one input. -/
def myersMetricWrong : ChangeSpec := { name := "myersMetric", fn := fun _ => fun
  | [d1, d2, d3] => { results := [.lit (.bool false)], args := [d1, d2, d3] }
  | _ => none }
def MyersMetricWrongFalsely : Prop := myersMetricRow.holds Try.pinned (OpenSpec.ofChange myersMetricWrong)

/-- 'jalousielaw07.MyersEnds': WHATEVER THE INPUT: true; the input reads as it did. -/
def myersEndsSpec : ChangeSpec := { name := "myersEnds", fn := fun _ => fun
  | [d1, d2, d3, d4] => { results := [.lit (.bool true)], args := [d1, d2, d3, d4] }
  | _ => none }
def myersEndsRow : OpenClaim := { program := "ytmloggjcincnbaa", sum := "6d469dd17f0e25396ad2a4663d5957107752e190bd533e7e616c663e6e098327", func := "jalousie/jalousielaw07.MyersEnds", spec := "myersEnds", unfollowed := true, recurses := true, apart := false }
def MyersEndsSaid : Prop := myersEndsRow.holds Try.pinned (OpenSpec.ofChange myersEndsSpec)

/-- ITS FALSE NEIGHBOUR: 'it returns false'. Refute it at one input. -/
def myersEndsWrong : ChangeSpec := { name := "myersEnds", fn := fun _ => fun
  | [d1, d2, d3, d4] => { results := [.lit (.bool false)], args := [d1, d2, d3, d4] }
  | _ => none }
def MyersEndsWrongFalsely : Prop := myersEndsRow.holds Try.pinned (OpenSpec.ofChange myersEndsWrong)

/-- 'jalousielaw07.MyersMakes': WHATEVER THE INPUT: true; the input reads as it did. -/
def myersMakesSpec : ChangeSpec := { name := "myersMakes", fn := fun _ => fun
  | [d1, d2] => { results := [.lit (.bool true)], args := [d1, d2] }
  | _ => none }
def myersMakesRow : OpenClaim := { program := "ytmloggjcincnbaa", sum := "6d469dd17f0e25396ad2a4663d5957107752e190bd533e7e616c663e6e098327", func := "jalousie/jalousielaw07.MyersMakes", spec := "myersMakes", unfollowed := true, recurses := true, apart := false }
def MyersMakesSaid : Prop := myersMakesRow.holds Try.pinned (OpenSpec.ofChange myersMakesSpec)

/-- ITS FALSE NEIGHBOUR: 'it returns false'. Refute it at one input. -/
def myersMakesWrong : ChangeSpec := { name := "myersMakes", fn := fun _ => fun
  | [d1, d2] => { results := [.lit (.bool false)], args := [d1, d2] }
  | _ => none }
def MyersMakesWrongFalsely : Prop := myersMakesRow.holds Try.pinned (OpenSpec.ofChange myersMakesWrong)

/-- 'jalousielaw07.MyersLong': WHATEVER THE INPUT: true; the input reads as it did. -/
def myersLongSpec : ChangeSpec := { name := "myersLong", fn := fun _ => fun
  | [d1, d2] => { results := [.lit (.bool true)], args := [d1, d2] }
  | _ => none }
def myersLongRow : OpenClaim := { program := "ytmloggjcincnbaa", sum := "6d469dd17f0e25396ad2a4663d5957107752e190bd533e7e616c663e6e098327", func := "jalousie/jalousielaw07.MyersLong", spec := "myersLong", unfollowed := true, recurses := true, apart := false }
def MyersLongSaid : Prop := myersLongRow.holds Try.pinned (OpenSpec.ofChange myersLongSpec)

/-- ITS FALSE NEIGHBOUR: 'it returns false'. Refute it at one input. -/
def myersLongWrong : ChangeSpec := { name := "myersLong", fn := fun _ => fun
  | [d1, d2] => { results := [.lit (.bool false)], args := [d1, d2] }
  | _ => none }
def MyersLongWrongFalsely : Prop := myersLongRow.holds Try.pinned (OpenSpec.ofChange myersLongWrong)

/-- 'jalousielaw07.MyersTurned': WHATEVER THE INPUT: true; the input reads as it did. -/
def myersTurnedSpec : ChangeSpec := { name := "myersTurned", fn := fun _ => fun
  | [d1, d2, d3] => { results := [.lit (.bool true)], args := [d1, d2, d3] }
  | _ => none }
def myersTurnedRow : OpenClaim := { program := "ytmloggjcincnbaa", sum := "6d469dd17f0e25396ad2a4663d5957107752e190bd533e7e616c663e6e098327", func := "jalousie/jalousielaw07.MyersTurned", spec := "myersTurned", unfollowed := true, recurses := true, apart := false }
def MyersTurnedSaid : Prop := myersTurnedRow.holds Try.pinned (OpenSpec.ofChange myersTurnedSpec)

/-- ITS FALSE NEIGHBOUR: 'it returns false'. Refute it at one input. -/
def myersTurnedWrong : ChangeSpec := { name := "myersTurned", fn := fun _ => fun
  | [d1, d2, d3] => { results := [.lit (.bool false)], args := [d1, d2, d3] }
  | _ => none }
def MyersTurnedWrongFalsely : Prop := myersTurnedRow.holds Try.pinned (OpenSpec.ofChange myersTurnedWrong)

/- THE SECOND FORM. 'bulk': how many values and letters a reading holds, each counted each time it is reached (what is shared counts as often as it is met; a slice's spare places count too). A statement '..UptoSaid' is the law's where the arguments, and the package variables that the reading takes, are together of bulk at most 1048576: NARROWER than '..Said'. Prove '..Said' where nothing that the law and all that it calls make is longer than what came in: it says more and counts as full. Else prove '..UptoSaid'. A law counts once. -/
mutual
def uptoBulk {H : Type} : DataW H → Nat
  | .lit (.string bytes) => bytes.length + 1
  | .lit _ => 1
  | .nil => 1
  | .ptr d => uptoBulk d + 1
  | .slice elems spare => uptoBulkAll elems + uptoBulkAll spare + 1
  | .agg parts => uptoBulkAll parts + 1
  | .iface _ d => uptoBulk d + 1
  | .map entries => uptoBulkEntries entries + 1
  | .held _ => 1
def uptoBulkAll {H : Type} : List (DataW H) → Nat
  | [] => 0
  | d :: r => uptoBulk d + uptoBulkAll r
def uptoBulkEntries {H : Type} : List (Lit × DataW H) → Nat
  | [] => 0
  | x :: r => uptoBulkEntry x + uptoBulkEntries r
def uptoBulkEntry {H : Type} : Lit × DataW H → Nat
  | (.string bytes, d) => bytes.length + uptoBulk d + 1
  | (_, d) => uptoBulk d + 1
 end
def uptoSmall : (H : Type) → List (DataW H) → Bool := fun _ ds => decide (uptoBulkAll ds ≤ 1048576)
def OpenSpec.upto (s : _root_.Go.ChangeSpec) : _root_.Go.OpenSpec := { _root_.Go.OpenSpec.ofChange s with cond := some uptoSmall }

/-- 'jalousielaw07.MyersWays', WHERE WHAT IT READS IS OF BULK AT MOST 1048576: true; the input reads as it did. -/
def myersWaysUptoRow : OpenClaim := { program := "ytmloggjcincnbaa", sum := "6d469dd17f0e25396ad2a4663d5957107752e190bd533e7e616c663e6e098327", func := "jalousie/jalousielaw07.MyersWays", spec := "myersWays", unfollowed := true, recurses := true, apart := false, narrowed := true }
def MyersWaysUptoSaid : Prop := myersWaysUptoRow.holds Try.pinned (OpenSpec.upto myersWaysSpec)

/-- 'jalousielaw07.MyersLongest', WHERE WHAT IT READS IS OF BULK AT MOST 1048576: true; the input reads as it did. -/
def myersLongestUptoRow : OpenClaim := { program := "ytmloggjcincnbaa", sum := "6d469dd17f0e25396ad2a4663d5957107752e190bd533e7e616c663e6e098327", func := "jalousie/jalousielaw07.MyersLongest", spec := "myersLongest", unfollowed := true, recurses := true, apart := false, narrowed := true }
def MyersLongestUptoSaid : Prop := myersLongestUptoRow.holds Try.pinned (OpenSpec.upto myersLongestSpec)

/-- 'jalousielaw07.MyersMetric', WHERE WHAT IT READS IS OF BULK AT MOST 1048576: true; the input reads as it did. -/
def myersMetricUptoRow : OpenClaim := { program := "ytmloggjcincnbaa", sum := "6d469dd17f0e25396ad2a4663d5957107752e190bd533e7e616c663e6e098327", func := "jalousie/jalousielaw07.MyersMetric", spec := "myersMetric", unfollowed := true, recurses := true, apart := false, narrowed := true }
def MyersMetricUptoSaid : Prop := myersMetricUptoRow.holds Try.pinned (OpenSpec.upto myersMetricSpec)

/-- 'jalousielaw07.MyersEnds', WHERE WHAT IT READS IS OF BULK AT MOST 1048576: true; the input reads as it did. -/
def myersEndsUptoRow : OpenClaim := { program := "ytmloggjcincnbaa", sum := "6d469dd17f0e25396ad2a4663d5957107752e190bd533e7e616c663e6e098327", func := "jalousie/jalousielaw07.MyersEnds", spec := "myersEnds", unfollowed := true, recurses := true, apart := false, narrowed := true }
def MyersEndsUptoSaid : Prop := myersEndsUptoRow.holds Try.pinned (OpenSpec.upto myersEndsSpec)

/-- 'jalousielaw07.MyersMakes', WHERE WHAT IT READS IS OF BULK AT MOST 1048576: true; the input reads as it did. -/
def myersMakesUptoRow : OpenClaim := { program := "ytmloggjcincnbaa", sum := "6d469dd17f0e25396ad2a4663d5957107752e190bd533e7e616c663e6e098327", func := "jalousie/jalousielaw07.MyersMakes", spec := "myersMakes", unfollowed := true, recurses := true, apart := false, narrowed := true }
def MyersMakesUptoSaid : Prop := myersMakesUptoRow.holds Try.pinned (OpenSpec.upto myersMakesSpec)

/-- 'jalousielaw07.MyersLong', WHERE WHAT IT READS IS OF BULK AT MOST 1048576: true; the input reads as it did. -/
def myersLongUptoRow : OpenClaim := { program := "ytmloggjcincnbaa", sum := "6d469dd17f0e25396ad2a4663d5957107752e190bd533e7e616c663e6e098327", func := "jalousie/jalousielaw07.MyersLong", spec := "myersLong", unfollowed := true, recurses := true, apart := false, narrowed := true }
def MyersLongUptoSaid : Prop := myersLongUptoRow.holds Try.pinned (OpenSpec.upto myersLongSpec)

/-- 'jalousielaw07.MyersTurned', WHERE WHAT IT READS IS OF BULK AT MOST 1048576: true; the input reads as it did. -/
def myersTurnedUptoRow : OpenClaim := { program := "ytmloggjcincnbaa", sum := "6d469dd17f0e25396ad2a4663d5957107752e190bd533e7e616c663e6e098327", func := "jalousie/jalousielaw07.MyersTurned", spec := "myersTurned", unfollowed := true, recurses := true, apart := false, narrowed := true }
def MyersTurnedUptoSaid : Prop := myersTurnedUptoRow.holds Try.pinned (OpenSpec.upto myersTurnedSpec)

end Rows
end Go.Proofs.Ytmloggjcincnbaa
