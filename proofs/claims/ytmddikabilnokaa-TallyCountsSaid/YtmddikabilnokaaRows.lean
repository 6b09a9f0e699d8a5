/-
  No cell of these rows narrows 'for every input' (looked for: loops, veiled, ifaces, maps, wideKeys, modest, calm, conditions, laid).
  DERIVED. THE GIVEN ROWS OF THIS SEAT. 4 by the template 'for every input the law returns true; each argument reads behind the call as it read before'; 0 by the template 'total and deterministic' (their statements: YtmddikabilnokaaTotals.lean).
  GIVEN WITH THE SEED: the statements are not yours to turn. If you find one false, say at which input.
  Laid BY PROGRAM, IN A SANDBOX (cutbox-rows.mjs): the forced cells as the released guide's own fill.sh prints them over the translation d58db10fbae144ea… (all of the seat's roots in one cut). By AI agents, Wed Nov 11 2026. No macro, syntax, notation, axiom, sorry.
-/
import Derived.Test.YtmddikabilnokaaChecked
import GoSem.Claim
import GoSem.ClaimJoined
import GoSem.ClaimMapViews
import Derived.JoinedTies
import Derived.KernelRfl
namespace Go.Proofs.Ytmddikabilnokaa
/- THE CELL 'sum', in the pinned program and in every row, IS THE sha256 OF THE DUMP (.gsa) THAT YtmddikabilnokaaProg.lean LOADS. Nothing in Lean hashes anything: it is a label: what it is worth is what the hold of that sum in a sandbox is worth. -/
noncomputable def Try.pinned : Pinned := { name := "ytmddikabilnokaa", sum := "d58db10fbae144ea3ecf161b6193eab1ae163f255fa799358e7ad19323ba8a34", checked := Try.checked }
namespace Rows
def none {H : Type} : Left H := { results := [], args := [] }

/-- 'jalousielaw19.TallyCounts': WHATEVER THE INPUT: true; the input reads as it did. -/
def tallyCountsSpec : ChangeSpec := { name := "tallyCounts", fn := fun _ => fun
  | [d1, d2, d3] => { results := [.lit (.bool true)], args := [d1, d2, d3] }
  | _ => none }
def tallyCountsRow : OpenClaim := { program := "ytmddikabilnokaa", sum := "d58db10fbae144ea3ecf161b6193eab1ae163f255fa799358e7ad19323ba8a34", func := "jalousie/jalousielaw19.TallyCounts", spec := "tallyCounts", unfollowed := true, recurses := true, plainKeys := false, apart := false }
def TallyCountsSaid : Prop := tallyCountsRow.holds Try.pinned (OpenSpec.ofChange tallyCountsSpec)

/-- ITS FALSE NEIGHBOUR: 'it returns false'. Refute it at one input. -/
def tallyCountsWrong : ChangeSpec := { name := "tallyCounts", fn := fun _ => fun
  | [d1, d2, d3] => { results := [.lit (.bool false)], args := [d1, d2, d3] }
  | _ => none }
def TallyCountsWrongFalsely : Prop := tallyCountsRow.holds Try.pinned (OpenSpec.ofChange tallyCountsWrong)

/-- 'jalousielaw19.TallyFits': WHATEVER THE INPUT: true; the input reads as it did. -/
def tallyFitsSpec : ChangeSpec := { name := "tallyFits", fn := fun _ => fun
  | [d1, d2, d3, d4] => { results := [.lit (.bool true)], args := [d1, d2, d3, d4] }
  | _ => none }
def tallyFitsRow : OpenClaim := { program := "ytmddikabilnokaa", sum := "d58db10fbae144ea3ecf161b6193eab1ae163f255fa799358e7ad19323ba8a34", func := "jalousie/jalousielaw19.TallyFits", spec := "tallyFits", unfollowed := true, recurses := true, plainKeys := false, apart := false }
def TallyFitsSaid : Prop := tallyFitsRow.holds Try.pinned (OpenSpec.ofChange tallyFitsSpec)

/-- ITS FALSE NEIGHBOUR: 'it returns false'. Refute it at one input. -/
def tallyFitsWrong : ChangeSpec := { name := "tallyFits", fn := fun _ => fun
  | [d1, d2, d3, d4] => { results := [.lit (.bool false)], args := [d1, d2, d3, d4] }
  | _ => none }
def TallyFitsWrongFalsely : Prop := tallyFitsRow.holds Try.pinned (OpenSpec.ofChange tallyFitsWrong)

/-- 'jalousielaw19.TallySums': WHATEVER THE INPUT: true; the input reads as it did. -/
def tallySumsSpec : ChangeSpec := { name := "tallySums", fn := fun _ => fun
  | [d1, d2, d3, d4] => { results := [.lit (.bool true)], args := [d1, d2, d3, d4] }
  | _ => none }
def tallySumsRow : OpenClaim := { program := "ytmddikabilnokaa", sum := "d58db10fbae144ea3ecf161b6193eab1ae163f255fa799358e7ad19323ba8a34", func := "jalousie/jalousielaw19.TallySums", spec := "tallySums", unfollowed := true, recurses := true, plainKeys := false, apart := false }
def TallySumsSaid : Prop := tallySumsRow.holds Try.pinned (OpenSpec.ofChange tallySumsSpec)

/-- ITS FALSE NEIGHBOUR: 'it returns false'. Refute it at one input. -/
def tallySumsWrong : ChangeSpec := { name := "tallySums", fn := fun _ => fun
  | [d1, d2, d3, d4] => { results := [.lit (.bool false)], args := [d1, d2, d3, d4] }
  | _ => none }
def TallySumsWrongFalsely : Prop := tallySumsRow.holds Try.pinned (OpenSpec.ofChange tallySumsWrong)

/-- 'jalousielaw19.TallyBlind': WHATEVER THE INPUT: true; the input reads as it did. -/
def tallyBlindSpec : ChangeSpec := { name := "tallyBlind", fn := fun _ => fun
  | [d1, d2, d3] => { results := [.lit (.bool true)], args := [d1, d2, d3] }
  | _ => none }
def tallyBlindRow : OpenClaim := { program := "ytmddikabilnokaa", sum := "d58db10fbae144ea3ecf161b6193eab1ae163f255fa799358e7ad19323ba8a34", func := "jalousie/jalousielaw19.TallyBlind", spec := "tallyBlind", unfollowed := true, recurses := true, plainKeys := false, apart := false }
def TallyBlindSaid : Prop := tallyBlindRow.holds Try.pinned (OpenSpec.ofChange tallyBlindSpec)

/-- ITS FALSE NEIGHBOUR: 'it returns false'. Refute it at one input. -/
def tallyBlindWrong : ChangeSpec := { name := "tallyBlind", fn := fun _ => fun
  | [d1, d2, d3] => { results := [.lit (.bool false)], args := [d1, d2, d3] }
  | _ => none }
def TallyBlindWrongFalsely : Prop := tallyBlindRow.holds Try.pinned (OpenSpec.ofChange tallyBlindWrong)

/- THE SECOND FORM. 'bulk': how many values and letters a reading holds, each counted each time it is reached (what is shared counts as often as it is met; a slice's spare places count too). A statement '..UptoSaid' is the law's where the arguments, and the package variables that the reading takes, are together of bulk at most 1048576: NARROWER than '..Said'. Prove '..Said' where nothing that the law and all that it calls make is longer than what came in: it says more and counts as full. Else prove '..UptoSaid'. A law counts once. -/
mutual
def uptoBulk {H : Type} : DataW H → Nat
  | .lit (.string bytes) => bytes.length + 1
  | .lit _ => 1
  | .nil => 1
  | .ptr d => uptoBulk d + 1
  | .slice elems spare => uptoBulkAll elems + uptoBulkAll spare + 1
  | .agg parts => uptoBulkAll parts + 1
  | .iface _ d => uptoBulk d + 1
  | .map entries => uptoBulkEntries entries + 1
  | .held _ => 1
def uptoBulkAll {H : Type} : List (DataW H) → Nat
  | [] => 0
  | d :: r => uptoBulk d + uptoBulkAll r
def uptoBulkEntries {H : Type} : List (Lit × DataW H) → Nat
  | [] => 0
  | x :: r => uptoBulkEntry x + uptoBulkEntries r
def uptoBulkEntry {H : Type} : Lit × DataW H → Nat
  | (.string bytes, d) => bytes.length + uptoBulk d + 1
  | (_, d) => uptoBulk d + 1
 end
def uptoSmall : (H : Type) → List (DataW H) → Bool := fun _ ds => decide (uptoBulkAll ds ≤ 1048576)
def OpenSpec.upto (s : _root_.Go.ChangeSpec) : _root_.Go.OpenSpec := { _root_.Go.OpenSpec.ofChange s with cond := some uptoSmall }

/-- 'jalousielaw19.TallyCounts', WHERE WHAT IT READS IS OF BULK AT MOST 1048576: true; the input reads as it did. -/
def tallyCountsUptoRow : OpenClaim := { program := "ytmddikabilnokaa", sum := "d58db10fbae144ea3ecf161b6193eab1ae163f255fa799358e7ad19323ba8a34", func := "jalousie/jalousielaw19.TallyCounts", spec := "tallyCounts", unfollowed := true, recurses := true, plainKeys := false, apart := false, narrowed := true }
def TallyCountsUptoSaid : Prop := tallyCountsUptoRow.holds Try.pinned (OpenSpec.upto tallyCountsSpec)

/-- 'jalousielaw19.TallyFits', WHERE WHAT IT READS IS OF BULK AT MOST 1048576: true; the input reads as it did. -/
def tallyFitsUptoRow : OpenClaim := { program := "ytmddikabilnokaa", sum := "d58db10fbae144ea3ecf161b6193eab1ae163f255fa799358e7ad19323ba8a34", func := "jalousie/jalousielaw19.TallyFits", spec := "tallyFits", unfollowed := true, recurses := true, plainKeys := false, apart := false, narrowed := true }
def TallyFitsUptoSaid : Prop := tallyFitsUptoRow.holds Try.pinned (OpenSpec.upto tallyFitsSpec)

/-- 'jalousielaw19.TallySums', WHERE WHAT IT READS IS OF BULK AT MOST 1048576: true; the input reads as it did. -/
def tallySumsUptoRow : OpenClaim := { program := "ytmddikabilnokaa", sum := "d58db10fbae144ea3ecf161b6193eab1ae163f255fa799358e7ad19323ba8a34", func := "jalousie/jalousielaw19.TallySums", spec := "tallySums", unfollowed := true, recurses := true, plainKeys := false, apart := false, narrowed := true }
def TallySumsUptoSaid : Prop := tallySumsUptoRow.holds Try.pinned (OpenSpec.upto tallySumsSpec)

/-- 'jalousielaw19.TallyBlind', WHERE WHAT IT READS IS OF BULK AT MOST 1048576: true; the input reads as it did. -/
def tallyBlindUptoRow : OpenClaim := { program := "ytmddikabilnokaa", sum := "d58db10fbae144ea3ecf161b6193eab1ae163f255fa799358e7ad19323ba8a34", func := "jalousie/jalousielaw19.TallyBlind", spec := "tallyBlind", unfollowed := true, recurses := true, plainKeys := false, apart := false, narrowed := true }
def TallyBlindUptoSaid : Prop := tallyBlindUptoRow.holds Try.pinned (OpenSpec.upto tallyBlindSpec)

end Rows
end Go.Proofs.Ytmddikabilnokaa
