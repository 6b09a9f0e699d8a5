/-
  No cell of these rows narrows 'for every input' (looked for: loops, veiled, ifaces, maps, wideKeys, modest, calm, conditions, laid).
  DERIVED. THE GIVEN ROWS OF THIS SEAT. 7 by the template 'for every input the law returns true; each argument reads behind the call as it read before'; 0 by the template 'total and deterministic' (their statements: YtngboallknmepaaTotals.lean).
  GIVEN WITH THE SEED: the statements are not yours to turn. If you find one false, say at which input.
  Laid BY PROGRAM, IN A SANDBOX (cutbox-rows.mjs): the forced cells as the released guide's own fill.sh prints them over the translation 2895de8dcfd00d62… (all of the seat's roots in one cut). By AI agents, Wed Nov 11 2026. No macro, syntax, notation, axiom, sorry.
-/
import Derived.Test.YtngboallknmepaaChecked
import GoSem.Claim
import GoSem.ClaimJoined
import GoSem.ClaimMapViews
import Derived.JoinedTies
import Derived.KernelRfl
namespace Go.Proofs.Ytngboallknmepaa
/- THE CELL 'sum', in the pinned program and in every row, IS THE sha256 OF THE DUMP (.gsa) THAT YtngboallknmepaaProg.lean LOADS. Nothing in Lean hashes anything: it is a label: what it is worth is what the hold of that sum in a sandbox is worth. -/
noncomputable def Try.pinned : Pinned := { name := "ytngboallknmepaa", sum := "2895de8dcfd00d626aeb2826163f7d3e1ace6720aa2415baca6b19b7d1e678bc", checked := Try.checked }
namespace Rows
def none {H : Type} : Left H := { results := [], args := [] }

/-- 'jalousielaw22.ScoreRatios': WHATEVER THE INPUT: true; the input reads as it did. -/
def scoreRatiosSpec : ChangeSpec := { name := "scoreRatios", fn := fun _ => fun
  | [d1, d2, d3] => { results := [.lit (.bool true)], args := [d1, d2, d3] }
  | _ => none }
def scoreRatiosRow : OpenClaim := { program := "ytngboallknmepaa", sum := "2895de8dcfd00d626aeb2826163f7d3e1ace6720aa2415baca6b19b7d1e678bc", func := "jalousie/jalousielaw22.ScoreRatios", spec := "scoreRatios", inPlace := ["math.Float64frombits", "math.Float64bits", "math.archFloor", "math.archTrunc"], unfollowed := true, recurses := true, apart := false }
def ScoreRatiosSaid : Prop := scoreRatiosRow.holds Try.pinned (OpenSpec.ofChange scoreRatiosSpec)

/-- ITS FALSE NEIGHBOUR: 'it returns false'. Refute it at one input. -/
def scoreRatiosWrong : ChangeSpec := { name := "scoreRatios", fn := fun _ => fun
  | [d1, d2, d3] => { results := [.lit (.bool false)], args := [d1, d2, d3] }
  | _ => none }
def ScoreRatiosWrongFalsely : Prop := scoreRatiosRow.holds Try.pinned (OpenSpec.ofChange scoreRatiosWrong)

/-- 'jalousielaw22.ScoreOrders': WHATEVER THE INPUT: true; the input reads as it did. -/
def scoreOrdersSpec : ChangeSpec := { name := "scoreOrders", fn := fun _ => fun
  | [d1, d2, d3] => { results := [.lit (.bool true)], args := [d1, d2, d3] }
  | _ => none }
def scoreOrdersRow : OpenClaim := { program := "ytngboallknmepaa", sum := "2895de8dcfd00d626aeb2826163f7d3e1ace6720aa2415baca6b19b7d1e678bc", func := "jalousie/jalousielaw22.ScoreOrders", spec := "scoreOrders", inPlace := ["math.Float64bits", "math.Float64frombits", "math.archFloor", "math.archTrunc"], unfollowed := true, recurses := true, apart := false }
def ScoreOrdersSaid : Prop := scoreOrdersRow.holds Try.pinned (OpenSpec.ofChange scoreOrdersSpec)

/-- ITS FALSE NEIGHBOUR: 'it returns false'. Refute it at one input. -/
def scoreOrdersWrong : ChangeSpec := { name := "scoreOrders", fn := fun _ => fun
  | [d1, d2, d3] => { results := [.lit (.bool false)], args := [d1, d2, d3] }
  | _ => none }
def ScoreOrdersWrongFalsely : Prop := scoreOrdersRow.holds Try.pinned (OpenSpec.ofChange scoreOrdersWrong)

/-- 'jalousielaw22.ScoreSorts': WHATEVER THE INPUT: true; the input reads as it did. -/
def scoreSortsSpec : ChangeSpec := { name := "scoreSorts", fn := fun _ => fun
  | [d1, d2] => { results := [.lit (.bool true)], args := [d1, d2] }
  | _ => none }
def scoreSortsRow : OpenClaim := { program := "ytngboallknmepaa", sum := "2895de8dcfd00d626aeb2826163f7d3e1ace6720aa2415baca6b19b7d1e678bc", func := "jalousie/jalousielaw22.ScoreSorts", spec := "scoreSorts", inPlace := ["math.Float64bits", "math.Float64frombits", "math.archFloor", "math.archTrunc"], unfollowed := true, recurses := true, apart := false }
def ScoreSortsSaid : Prop := scoreSortsRow.holds Try.pinned (OpenSpec.ofChange scoreSortsSpec)

/-- ITS FALSE NEIGHBOUR: 'it returns false'. Refute it at one input. -/
def scoreSortsWrong : ChangeSpec := { name := "scoreSorts", fn := fun _ => fun
  | [d1, d2] => { results := [.lit (.bool false)], args := [d1, d2] }
  | _ => none }
def ScoreSortsWrongFalsely : Prop := scoreSortsRow.holds Try.pinned (OpenSpec.ofChange scoreSortsWrong)

/-- 'jalousielaw22.ScoreMeans': WHATEVER THE INPUT: true; the input reads as it did. -/
def scoreMeansSpec : ChangeSpec := { name := "scoreMeans", fn := fun _ => fun
  | [d] => { results := [.lit (.bool true)], args := [d] }
  | _ => none }
def scoreMeansRow : OpenClaim := { program := "ytngboallknmepaa", sum := "2895de8dcfd00d626aeb2826163f7d3e1ace6720aa2415baca6b19b7d1e678bc", func := "jalousie/jalousielaw22.ScoreMeans", spec := "scoreMeans", inPlace := ["math.Float64frombits", "math.Float64bits", "math.archFloor", "math.archTrunc"], unfollowed := true, recurses := true, apart := false }
def ScoreMeansSaid : Prop := scoreMeansRow.holds Try.pinned (OpenSpec.ofChange scoreMeansSpec)

/-- ITS FALSE NEIGHBOUR: 'it returns false'. Refute it at one input. -/
def scoreMeansWrong : ChangeSpec := { name := "scoreMeans", fn := fun _ => fun
  | [d] => { results := [.lit (.bool false)], args := [d] }
  | _ => none }
def ScoreMeansWrongFalsely : Prop := scoreMeansRow.holds Try.pinned (OpenSpec.ofChange scoreMeansWrong)

/-- 'jalousielaw22.ScoreClamps': WHATEVER THE INPUT: true; the input reads as it did. -/
def scoreClampsSpec : ChangeSpec := { name := "scoreClamps", fn := fun _ => fun
  | [d1, d2, d3] => { results := [.lit (.bool true)], args := [d1, d2, d3] }
  | _ => none }
def scoreClampsRow : OpenClaim := { program := "ytngboallknmepaa", sum := "2895de8dcfd00d626aeb2826163f7d3e1ace6720aa2415baca6b19b7d1e678bc", func := "jalousie/jalousielaw22.ScoreClamps", spec := "scoreClamps", inPlace := ["math.Float64bits", "math.Float64frombits", "math.archFloor", "math.archTrunc"], unfollowed := true, recurses := true, apart := false }
def ScoreClampsSaid : Prop := scoreClampsRow.holds Try.pinned (OpenSpec.ofChange scoreClampsSpec)

/-- ITS FALSE NEIGHBOUR: 'it returns false'. Refute it at one input. -/
def scoreClampsWrong : ChangeSpec := { name := "scoreClamps", fn := fun _ => fun
  | [d1, d2, d3] => { results := [.lit (.bool false)], args := [d1, d2, d3] }
  | _ => none }
def ScoreClampsWrongFalsely : Prop := scoreClampsRow.holds Try.pinned (OpenSpec.ofChange scoreClampsWrong)

/-- 'jalousielaw22.ScoreHalves': WHATEVER THE INPUT: true; the input reads as it did. -/
def scoreHalvesSpec : ChangeSpec := { name := "scoreHalves", fn := fun _ => fun
  | [d1, d2, d3] => { results := [.lit (.bool true)], args := [d1, d2, d3] }
  | _ => none }
def scoreHalvesRow : OpenClaim := { program := "ytngboallknmepaa", sum := "2895de8dcfd00d626aeb2826163f7d3e1ace6720aa2415baca6b19b7d1e678bc", func := "jalousie/jalousielaw22.ScoreHalves", spec := "scoreHalves", inPlace := ["math.Float64bits", "math.archFloor", "math.Float64frombits", "math.archTrunc"], unfollowed := true, recurses := true, apart := false }
def ScoreHalvesSaid : Prop := scoreHalvesRow.holds Try.pinned (OpenSpec.ofChange scoreHalvesSpec)

/-- ITS FALSE NEIGHBOUR: 'it returns false'. Refute it at one input. -/
def scoreHalvesWrong : ChangeSpec := { name := "scoreHalves", fn := fun _ => fun
  | [d1, d2, d3] => { results := [.lit (.bool false)], args := [d1, d2, d3] }
  | _ => none }
def ScoreHalvesWrongFalsely : Prop := scoreHalvesRow.holds Try.pinned (OpenSpec.ofChange scoreHalvesWrong)

/-- 'jalousielaw22.ScoreMilles': WHATEVER THE INPUT: true; the input reads as it did. -/
def scoreMillesSpec : ChangeSpec := { name := "scoreMilles", fn := fun _ => fun
  | [d1, d2, d3] => { results := [.lit (.bool true)], args := [d1, d2, d3] }
  | _ => none }
def scoreMillesRow : OpenClaim := { program := "ytngboallknmepaa", sum := "2895de8dcfd00d626aeb2826163f7d3e1ace6720aa2415baca6b19b7d1e678bc", func := "jalousie/jalousielaw22.ScoreMilles", spec := "scoreMilles", inPlace := ["math.archFloor", "math.Float64bits", "math.Float64frombits", "math.archTrunc"], unfollowed := true, recurses := true, apart := false }
def ScoreMillesSaid : Prop := scoreMillesRow.holds Try.pinned (OpenSpec.ofChange scoreMillesSpec)

/-- ITS FALSE NEIGHBOUR: 'it returns false'. Refute it at one input. -/
def scoreMillesWrong : ChangeSpec := { name := "scoreMilles", fn := fun _ => fun
  | [d1, d2, d3] => { results := [.lit (.bool false)], args := [d1, d2, d3] }
  | _ => none }
def ScoreMillesWrongFalsely : Prop := scoreMillesRow.holds Try.pinned (OpenSpec.ofChange scoreMillesWrong)

/- THE SECOND FORM. 'bulk': how many values and letters a reading holds, each counted each time it is reached (what is shared counts as often as it is met; a slice's spare places count too). A statement '..UptoSaid' is the law's where the arguments, and the package variables that the reading takes, are together of bulk at most 1048576: NARROWER than '..Said'. Prove '..Said' where nothing that the law and all that it calls make is longer than what came in: it says more and counts as full. Else prove '..UptoSaid'. A law counts once. -/
mutual
def uptoBulk {H : Type} : DataW H → Nat
  | .lit (.string bytes) => bytes.length + 1
  | .lit _ => 1
  | .nil => 1
  | .ptr d => uptoBulk d + 1
  | .slice elems spare => uptoBulkAll elems + uptoBulkAll spare + 1
  | .agg parts => uptoBulkAll parts + 1
  | .iface _ d => uptoBulk d + 1
  | .map entries => uptoBulkEntries entries + 1
  | .held _ => 1
def uptoBulkAll {H : Type} : List (DataW H) → Nat
  | [] => 0
  | d :: r => uptoBulk d + uptoBulkAll r
def uptoBulkEntries {H : Type} : List (Lit × DataW H) → Nat
  | [] => 0
  | x :: r => uptoBulkEntry x + uptoBulkEntries r
def uptoBulkEntry {H : Type} : Lit × DataW H → Nat
  | (.string bytes, d) => bytes.length + uptoBulk d + 1
  | (_, d) => uptoBulk d + 1
 end
def uptoSmall : (H : Type) → List (DataW H) → Bool := fun _ ds => decide (uptoBulkAll ds ≤ 1048576)
def OpenSpec.upto (s : _root_.Go.ChangeSpec) : _root_.Go.OpenSpec := { _root_.Go.OpenSpec.ofChange s with cond := some uptoSmall }

/-- 'jalousielaw22.ScoreRatios', WHERE WHAT IT READS IS OF BULK AT MOST 1048576: true; the input reads as it did. -/
def scoreRatiosUptoRow : OpenClaim := { program := "ytngboallknmepaa", sum := "2895de8dcfd00d626aeb2826163f7d3e1ace6720aa2415baca6b19b7d1e678bc", func := "jalousie/jalousielaw22.ScoreRatios", spec := "scoreRatios", inPlace := ["math.Float64frombits", "math.Float64bits", "math.archFloor", "math.archTrunc"], unfollowed := true, recurses := true, apart := false, narrowed := true }
def ScoreRatiosUptoSaid : Prop := scoreRatiosUptoRow.holds Try.pinned (OpenSpec.upto scoreRatiosSpec)

/-- 'jalousielaw22.ScoreOrders', WHERE WHAT IT READS IS OF BULK AT MOST 1048576: true; the input reads as it did. -/
def scoreOrdersUptoRow : OpenClaim := { program := "ytngboallknmepaa", sum := "2895de8dcfd00d626aeb2826163f7d3e1ace6720aa2415baca6b19b7d1e678bc", func := "jalousie/jalousielaw22.ScoreOrders", spec := "scoreOrders", inPlace := ["math.Float64bits", "math.Float64frombits", "math.archFloor", "math.archTrunc"], unfollowed := true, recurses := true, apart := false, narrowed := true }
def ScoreOrdersUptoSaid : Prop := scoreOrdersUptoRow.holds Try.pinned (OpenSpec.upto scoreOrdersSpec)

/-- 'jalousielaw22.ScoreSorts', WHERE WHAT IT READS IS OF BULK AT MOST 1048576: true; the input reads as it did. -/
def scoreSortsUptoRow : OpenClaim := { program := "ytngboallknmepaa", sum := "2895de8dcfd00d626aeb2826163f7d3e1ace6720aa2415baca6b19b7d1e678bc", func := "jalousie/jalousielaw22.ScoreSorts", spec := "scoreSorts", inPlace := ["math.Float64bits", "math.Float64frombits", "math.archFloor", "math.archTrunc"], unfollowed := true, recurses := true, apart := false, narrowed := true }
def ScoreSortsUptoSaid : Prop := scoreSortsUptoRow.holds Try.pinned (OpenSpec.upto scoreSortsSpec)

/-- 'jalousielaw22.ScoreMeans', WHERE WHAT IT READS IS OF BULK AT MOST 1048576: true; the input reads as it did. -/
def scoreMeansUptoRow : OpenClaim := { program := "ytngboallknmepaa", sum := "2895de8dcfd00d626aeb2826163f7d3e1ace6720aa2415baca6b19b7d1e678bc", func := "jalousie/jalousielaw22.ScoreMeans", spec := "scoreMeans", inPlace := ["math.Float64frombits", "math.Float64bits", "math.archFloor", "math.archTrunc"], unfollowed := true, recurses := true, apart := false, narrowed := true }
def ScoreMeansUptoSaid : Prop := scoreMeansUptoRow.holds Try.pinned (OpenSpec.upto scoreMeansSpec)

/-- 'jalousielaw22.ScoreClamps', WHERE WHAT IT READS IS OF BULK AT MOST 1048576: true; the input reads as it did. -/
def scoreClampsUptoRow : OpenClaim := { program := "ytngboallknmepaa", sum := "2895de8dcfd00d626aeb2826163f7d3e1ace6720aa2415baca6b19b7d1e678bc", func := "jalousie/jalousielaw22.ScoreClamps", spec := "scoreClamps", inPlace := ["math.Float64bits", "math.Float64frombits", "math.archFloor", "math.archTrunc"], unfollowed := true, recurses := true, apart := false, narrowed := true }
def ScoreClampsUptoSaid : Prop := scoreClampsUptoRow.holds Try.pinned (OpenSpec.upto scoreClampsSpec)

/-- 'jalousielaw22.ScoreHalves', WHERE WHAT IT READS IS OF BULK AT MOST 1048576: true; the input reads as it did. -/
def scoreHalvesUptoRow : OpenClaim := { program := "ytngboallknmepaa", sum := "2895de8dcfd00d626aeb2826163f7d3e1ace6720aa2415baca6b19b7d1e678bc", func := "jalousie/jalousielaw22.ScoreHalves", spec := "scoreHalves", inPlace := ["math.Float64bits", "math.archFloor", "math.Float64frombits", "math.archTrunc"], unfollowed := true, recurses := true, apart := false, narrowed := true }
def ScoreHalvesUptoSaid : Prop := scoreHalvesUptoRow.holds Try.pinned (OpenSpec.upto scoreHalvesSpec)

/-- 'jalousielaw22.ScoreMilles', WHERE WHAT IT READS IS OF BULK AT MOST 1048576: true; the input reads as it did. -/
def scoreMillesUptoRow : OpenClaim := { program := "ytngboallknmepaa", sum := "2895de8dcfd00d626aeb2826163f7d3e1ace6720aa2415baca6b19b7d1e678bc", func := "jalousie/jalousielaw22.ScoreMilles", spec := "scoreMilles", inPlace := ["math.archFloor", "math.Float64bits", "math.Float64frombits", "math.archTrunc"], unfollowed := true, recurses := true, apart := false, narrowed := true }
def ScoreMillesUptoSaid : Prop := scoreMillesUptoRow.holds Try.pinned (OpenSpec.upto scoreMillesSpec)

end Rows
end Go.Proofs.Ytngboallknmepaa
