/-
  No cell of these rows narrows 'for every input' (looked for: loops, veiled, ifaces, maps, wideKeys, modest, calm, conditions, laid).
  DERIVED. THE GIVEN ROWS OF THIS SEAT. 11 by the template 'for every input the law returns true; each argument reads behind the call as it read before'; 0 by the template 'total and deterministic' (their statements: YtaejphdgfkljmaaTotals.lean).
  GIVEN WITH THE SEED: the statements are not yours to turn. If you find one false, say at which input.
  Laid BY PROGRAM, IN A SANDBOX (cutbox-rows.mjs): the forced cells as the released guide's own fill.sh prints them over the translation 36f1f1ae7e5fdb7f… (all of the seat's roots in one cut). By AI agents, Wed Nov 11 2026. No macro, syntax, notation, axiom, sorry.
-/
import Derived.Test.YtaejphdgfkljmaaChecked
import GoSem.Claim
import GoSem.ClaimJoined
import GoSem.ClaimMapViews
import Derived.JoinedTies
import Derived.KernelRfl
namespace Go.Proofs.Ytaejphdgfkljmaa
/- THE CELL 'sum', in the pinned program and in every row, IS THE sha256 OF THE DUMP (.gsa) THAT YtaejphdgfkljmaaProg.lean LOADS. Nothing in Lean hashes anything: it is a label: what it is worth is what the hold of that sum in a sandbox is worth. -/
noncomputable def Try.pinned : Pinned := { name := "ytaejphdgfkljmaa", sum := "36f1f1ae7e5fdb7f27c88f96bed877390872f0327dc314d477a7ee17ce095915", checked := Try.checked }
namespace Rows
def none {H : Type} : Left H := { results := [], args := [] }

/-- 'jalousielaw05.ViewShows': WHATEVER THE INPUT: true; the input reads as it did. -/
def viewShowsSpec : ChangeSpec := { name := "viewShows", fn := fun _ => fun
  | [d1, d2, d3] => { results := [.lit (.bool true)], args := [d1, d2, d3] }
  | _ => none }
def viewShowsRow : OpenClaim := { program := "ytaejphdgfkljmaa", sum := "36f1f1ae7e5fdb7f27c88f96bed877390872f0327dc314d477a7ee17ce095915", func := "jalousie/jalousielaw05.ViewShows", spec := "viewShows", unfollowed := true, recurses := true, plainKeys := false, apart := false }
def ViewShowsSaid : Prop := viewShowsRow.holds Try.pinned (OpenSpec.ofChange viewShowsSpec)

/-- ITS FALSE NEIGHBOUR: 'it returns false'. Refute it at one input. -/
def viewShowsWrong : ChangeSpec := { name := "viewShows", fn := fun _ => fun
  | [d1, d2, d3] => { results := [.lit (.bool false)], args := [d1, d2, d3] }
  | _ => none }
def ViewShowsWrongFalsely : Prop := viewShowsRow.holds Try.pinned (OpenSpec.ofChange viewShowsWrong)

/-- 'jalousielaw05.ViewFinds': WHATEVER THE INPUT: true; the input reads as it did. -/
def viewFindsSpec : ChangeSpec := { name := "viewFinds", fn := fun _ => fun
  | [d1, d2, d3] => { results := [.lit (.bool true)], args := [d1, d2, d3] }
  | _ => none }
def viewFindsRow : OpenClaim := { program := "ytaejphdgfkljmaa", sum := "36f1f1ae7e5fdb7f27c88f96bed877390872f0327dc314d477a7ee17ce095915", func := "jalousie/jalousielaw05.ViewFinds", spec := "viewFinds", unfollowed := true, recurses := true, plainKeys := false, apart := false }
def ViewFindsSaid : Prop := viewFindsRow.holds Try.pinned (OpenSpec.ofChange viewFindsSpec)

/-- ITS FALSE NEIGHBOUR: 'it returns false'. Refute it at one input. -/
def viewFindsWrong : ChangeSpec := { name := "viewFinds", fn := fun _ => fun
  | [d1, d2, d3] => { results := [.lit (.bool false)], args := [d1, d2, d3] }
  | _ => none }
def ViewFindsWrongFalsely : Prop := viewFindsRow.holds Try.pinned (OpenSpec.ofChange viewFindsWrong)

/-- 'jalousielaw05.ViewBlind': WHATEVER THE INPUT: true; the input reads as it did. -/
def viewBlindSpec : ChangeSpec := { name := "viewBlind", fn := fun _ => fun
  | [d1, d2, d3, d4] => { results := [.lit (.bool true)], args := [d1, d2, d3, d4] }
  | _ => none }
def viewBlindRow : OpenClaim := { program := "ytaejphdgfkljmaa", sum := "36f1f1ae7e5fdb7f27c88f96bed877390872f0327dc314d477a7ee17ce095915", func := "jalousie/jalousielaw05.ViewBlind", spec := "viewBlind", unfollowed := true, recurses := true, plainKeys := false, apart := false }
def ViewBlindSaid : Prop := viewBlindRow.holds Try.pinned (OpenSpec.ofChange viewBlindSpec)

/-- ITS FALSE NEIGHBOUR: 'it returns false'. Refute it at one input. -/
def viewBlindWrong : ChangeSpec := { name := "viewBlind", fn := fun _ => fun
  | [d1, d2, d3, d4] => { results := [.lit (.bool false)], args := [d1, d2, d3, d4] }
  | _ => none }
def ViewBlindWrongFalsely : Prop := viewBlindRow.holds Try.pinned (OpenSpec.ofChange viewBlindWrong)

/-- 'jalousielaw05.ViewMore': WHATEVER THE INPUT: true; the input reads as it did. -/
def viewMoreSpec : ChangeSpec := { name := "viewMore", fn := fun _ => fun
  | [d1, d2, d3, d4] => { results := [.lit (.bool true)], args := [d1, d2, d3, d4] }
  | _ => none }
def viewMoreRow : OpenClaim := { program := "ytaejphdgfkljmaa", sum := "36f1f1ae7e5fdb7f27c88f96bed877390872f0327dc314d477a7ee17ce095915", func := "jalousie/jalousielaw05.ViewMore", spec := "viewMore", unfollowed := true, recurses := true, plainKeys := false, apart := false }
def ViewMoreSaid : Prop := viewMoreRow.holds Try.pinned (OpenSpec.ofChange viewMoreSpec)

/-- ITS FALSE NEIGHBOUR: 'it returns false'. Refute it at one input. -/
def viewMoreWrong : ChangeSpec := { name := "viewMore", fn := fun _ => fun
  | [d1, d2, d3, d4] => { results := [.lit (.bool false)], args := [d1, d2, d3, d4] }
  | _ => none }
def ViewMoreWrongFalsely : Prop := viewMoreRow.holds Try.pinned (OpenSpec.ofChange viewMoreWrong)

/-- 'jalousielaw05.ViewPuts': WHATEVER THE INPUT: true; the input reads as it did. -/
def viewPutsSpec : ChangeSpec := { name := "viewPuts", fn := fun _ => fun
  | [d1, d2, d3, d4, d5] => { results := [.lit (.bool true)], args := [d1, d2, d3, d4, d5] }
  | _ => none }
def viewPutsRow : OpenClaim := { program := "ytaejphdgfkljmaa", sum := "36f1f1ae7e5fdb7f27c88f96bed877390872f0327dc314d477a7ee17ce095915", func := "jalousie/jalousielaw05.ViewPuts", spec := "viewPuts", unfollowed := true, recurses := true, plainKeys := false, apart := false }
def ViewPutsSaid : Prop := viewPutsRow.holds Try.pinned (OpenSpec.ofChange viewPutsSpec)

/-- ITS FALSE NEIGHBOUR: 'it returns false'. Refute it at one input. -/
def viewPutsWrong : ChangeSpec := { name := "viewPuts", fn := fun _ => fun
  | [d1, d2, d3, d4, d5] => { results := [.lit (.bool false)], args := [d1, d2, d3, d4, d5] }
  | _ => none }
def ViewPutsWrongFalsely : Prop := viewPutsRow.holds Try.pinned (OpenSpec.ofChange viewPutsWrong)

/-- 'jalousielaw05.ViewEnds': WHATEVER THE INPUT: true; the input reads as it did. -/
def viewEndsSpec : ChangeSpec := { name := "viewEnds", fn := fun _ => fun
  | [d1, d2, d3] => { results := [.lit (.bool true)], args := [d1, d2, d3] }
  | _ => none }
def viewEndsRow : OpenClaim := { program := "ytaejphdgfkljmaa", sum := "36f1f1ae7e5fdb7f27c88f96bed877390872f0327dc314d477a7ee17ce095915", func := "jalousie/jalousielaw05.ViewEnds", spec := "viewEnds", unfollowed := true, recurses := true, plainKeys := false, apart := false }
def ViewEndsSaid : Prop := viewEndsRow.holds Try.pinned (OpenSpec.ofChange viewEndsSpec)

/-- ITS FALSE NEIGHBOUR: 'it returns false'. Refute it at one input. -/
def viewEndsWrong : ChangeSpec := { name := "viewEnds", fn := fun _ => fun
  | [d1, d2, d3] => { results := [.lit (.bool false)], args := [d1, d2, d3] }
  | _ => none }
def ViewEndsWrongFalsely : Prop := viewEndsRow.holds Try.pinned (OpenSpec.ofChange viewEndsWrong)

/-- 'jalousielaw06.InternNumbers': WHATEVER THE INPUT: true; the input reads as it did. -/
def internNumbersSpec : ChangeSpec := { name := "internNumbers", fn := fun _ => fun
  | [d] => { results := [.lit (.bool true)], args := [d] }
  | _ => none }
def internNumbersRow : OpenClaim := { program := "ytaejphdgfkljmaa", sum := "36f1f1ae7e5fdb7f27c88f96bed877390872f0327dc314d477a7ee17ce095915", func := "jalousie/jalousielaw06.InternNumbers", spec := "internNumbers", recurses := true, plainKeys := false, apart := false }
def InternNumbersSaid : Prop := internNumbersRow.holds Try.pinned (OpenSpec.ofChange internNumbersSpec)

/-- ITS FALSE NEIGHBOUR: 'it returns false'. Refute it at one input. -/
def internNumbersWrong : ChangeSpec := { name := "internNumbers", fn := fun _ => fun
  | [d] => { results := [.lit (.bool false)], args := [d] }
  | _ => none }
def InternNumbersWrongFalsely : Prop := internNumbersRow.holds Try.pinned (OpenSpec.ofChange internNumbersWrong)

/-- 'jalousielaw06.InternAlike': WHATEVER THE INPUT: true; the input reads as it did. -/
def internAlikeSpec : ChangeSpec := { name := "internAlike", fn := fun _ => fun
  | [d] => { results := [.lit (.bool true)], args := [d] }
  | _ => none }
def internAlikeRow : OpenClaim := { program := "ytaejphdgfkljmaa", sum := "36f1f1ae7e5fdb7f27c88f96bed877390872f0327dc314d477a7ee17ce095915", func := "jalousie/jalousielaw06.InternAlike", spec := "internAlike", recurses := true, plainKeys := false, apart := false }
def InternAlikeSaid : Prop := internAlikeRow.holds Try.pinned (OpenSpec.ofChange internAlikeSpec)

/-- ITS FALSE NEIGHBOUR: 'it returns false'. Refute it at one input. -/
def internAlikeWrong : ChangeSpec := { name := "internAlike", fn := fun _ => fun
  | [d] => { results := [.lit (.bool false)], args := [d] }
  | _ => none }
def InternAlikeWrongFalsely : Prop := internAlikeRow.holds Try.pinned (OpenSpec.ofChange internAlikeWrong)

/-- 'jalousielaw06.InternEnds': WHATEVER THE INPUT: true; the input reads as it did. -/
def internEndsSpec : ChangeSpec := { name := "internEnds", fn := fun _ => fun
  | [d1, d2] => { results := [.lit (.bool true)], args := [d1, d2] }
  | _ => none }
def internEndsRow : OpenClaim := { program := "ytaejphdgfkljmaa", sum := "36f1f1ae7e5fdb7f27c88f96bed877390872f0327dc314d477a7ee17ce095915", func := "jalousie/jalousielaw06.InternEnds", spec := "internEnds", recurses := true, plainKeys := false, apart := false }
def InternEndsSaid : Prop := internEndsRow.holds Try.pinned (OpenSpec.ofChange internEndsSpec)

/-- ITS FALSE NEIGHBOUR: 'it returns false'. Refute it at one input. -/
def internEndsWrong : ChangeSpec := { name := "internEnds", fn := fun _ => fun
  | [d1, d2] => { results := [.lit (.bool false)], args := [d1, d2] }
  | _ => none }
def InternEndsWrongFalsely : Prop := internEndsRow.holds Try.pinned (OpenSpec.ofChange internEndsWrong)

/-- 'jalousielaw06.InternCounts': WHATEVER THE INPUT: true; the input reads as it did. -/
def internCountsSpec : ChangeSpec := { name := "internCounts", fn := fun _ => fun
  | [d1, d2] => { results := [.lit (.bool true)], args := [d1, d2] }
  | _ => none }
def internCountsRow : OpenClaim := { program := "ytaejphdgfkljmaa", sum := "36f1f1ae7e5fdb7f27c88f96bed877390872f0327dc314d477a7ee17ce095915", func := "jalousie/jalousielaw06.InternCounts", spec := "internCounts", recurses := true, plainKeys := false, apart := false }
def InternCountsSaid : Prop := internCountsRow.holds Try.pinned (OpenSpec.ofChange internCountsSpec)

/-- ITS FALSE NEIGHBOUR: 'it returns false'. Refute it at one input. -/
def internCountsWrong : ChangeSpec := { name := "internCounts", fn := fun _ => fun
  | [d1, d2] => { results := [.lit (.bool false)], args := [d1, d2] }
  | _ => none }
def InternCountsWrongFalsely : Prop := internCountsRow.holds Try.pinned (OpenSpec.ofChange internCountsWrong)

/-- 'jalousielaw06.InternOnce': WHATEVER THE INPUT: true; the input reads as it did. -/
def internOnceSpec : ChangeSpec := { name := "internOnce", fn := fun _ => fun
  | [d1, d2] => { results := [.lit (.bool true)], args := [d1, d2] }
  | _ => none }
def internOnceRow : OpenClaim := { program := "ytaejphdgfkljmaa", sum := "36f1f1ae7e5fdb7f27c88f96bed877390872f0327dc314d477a7ee17ce095915", func := "jalousie/jalousielaw06.InternOnce", spec := "internOnce", recurses := true, plainKeys := false, apart := false }
def InternOnceSaid : Prop := internOnceRow.holds Try.pinned (OpenSpec.ofChange internOnceSpec)

/-- ITS FALSE NEIGHBOUR: 'it returns false'. Refute it at one input. -/
def internOnceWrong : ChangeSpec := { name := "internOnce", fn := fun _ => fun
  | [d1, d2] => { results := [.lit (.bool false)], args := [d1, d2] }
  | _ => none }
def InternOnceWrongFalsely : Prop := internOnceRow.holds Try.pinned (OpenSpec.ofChange internOnceWrong)

/- THE SECOND FORM. 'bulk': how many values and letters a reading holds, each counted each time it is reached (what is shared counts as often as it is met; a slice's spare places count too). A statement '..UptoSaid' is the law's where the arguments, and the package variables that the reading takes, are together of bulk at most 1048576: NARROWER than '..Said'. Prove '..Said' where nothing that the law and all that it calls make is longer than what came in: it says more and counts as full. Else prove '..UptoSaid'. A law counts once. -/
mutual
def uptoBulk {H : Type} : DataW H → Nat
  | .lit (.string bytes) => bytes.length + 1
  | .lit _ => 1
  | .nil => 1
  | .ptr d => uptoBulk d + 1
  | .slice elems spare => uptoBulkAll elems + uptoBulkAll spare + 1
  | .agg parts => uptoBulkAll parts + 1
  | .iface _ d => uptoBulk d + 1
  | .map entries => uptoBulkEntries entries + 1
  | .held _ => 1
def uptoBulkAll {H : Type} : List (DataW H) → Nat
  | [] => 0
  | d :: r => uptoBulk d + uptoBulkAll r
def uptoBulkEntries {H : Type} : List (Lit × DataW H) → Nat
  | [] => 0
  | x :: r => uptoBulkEntry x + uptoBulkEntries r
def uptoBulkEntry {H : Type} : Lit × DataW H → Nat
  | (.string bytes, d) => bytes.length + uptoBulk d + 1
  | (_, d) => uptoBulk d + 1
 end
def uptoSmall : (H : Type) → List (DataW H) → Bool := fun _ ds => decide (uptoBulkAll ds ≤ 1048576)
def OpenSpec.upto (s : _root_.Go.ChangeSpec) : _root_.Go.OpenSpec := { _root_.Go.OpenSpec.ofChange s with cond := some uptoSmall }

/-- 'jalousielaw05.ViewShows', WHERE WHAT IT READS IS OF BULK AT MOST 1048576: true; the input reads as it did. -/
def viewShowsUptoRow : OpenClaim := { program := "ytaejphdgfkljmaa", sum := "36f1f1ae7e5fdb7f27c88f96bed877390872f0327dc314d477a7ee17ce095915", func := "jalousie/jalousielaw05.ViewShows", spec := "viewShows", unfollowed := true, recurses := true, plainKeys := false, apart := false, narrowed := true }
def ViewShowsUptoSaid : Prop := viewShowsUptoRow.holds Try.pinned (OpenSpec.upto viewShowsSpec)

/-- 'jalousielaw05.ViewFinds', WHERE WHAT IT READS IS OF BULK AT MOST 1048576: true; the input reads as it did. -/
def viewFindsUptoRow : OpenClaim := { program := "ytaejphdgfkljmaa", sum := "36f1f1ae7e5fdb7f27c88f96bed877390872f0327dc314d477a7ee17ce095915", func := "jalousie/jalousielaw05.ViewFinds", spec := "viewFinds", unfollowed := true, recurses := true, plainKeys := false, apart := false, narrowed := true }
def ViewFindsUptoSaid : Prop := viewFindsUptoRow.holds Try.pinned (OpenSpec.upto viewFindsSpec)

/-- 'jalousielaw05.ViewBlind', WHERE WHAT IT READS IS OF BULK AT MOST 1048576: true; the input reads as it did. -/
def viewBlindUptoRow : OpenClaim := { program := "ytaejphdgfkljmaa", sum := "36f1f1ae7e5fdb7f27c88f96bed877390872f0327dc314d477a7ee17ce095915", func := "jalousie/jalousielaw05.ViewBlind", spec := "viewBlind", unfollowed := true, recurses := true, plainKeys := false, apart := false, narrowed := true }
def ViewBlindUptoSaid : Prop := viewBlindUptoRow.holds Try.pinned (OpenSpec.upto viewBlindSpec)

/-- 'jalousielaw05.ViewMore', WHERE WHAT IT READS IS OF BULK AT MOST 1048576: true; the input reads as it did. -/
def viewMoreUptoRow : OpenClaim := { program := "ytaejphdgfkljmaa", sum := "36f1f1ae7e5fdb7f27c88f96bed877390872f0327dc314d477a7ee17ce095915", func := "jalousie/jalousielaw05.ViewMore", spec := "viewMore", unfollowed := true, recurses := true, plainKeys := false, apart := false, narrowed := true }
def ViewMoreUptoSaid : Prop := viewMoreUptoRow.holds Try.pinned (OpenSpec.upto viewMoreSpec)

/-- 'jalousielaw05.ViewPuts', WHERE WHAT IT READS IS OF BULK AT MOST 1048576: true; the input reads as it did. -/
def viewPutsUptoRow : OpenClaim := { program := "ytaejphdgfkljmaa", sum := "36f1f1ae7e5fdb7f27c88f96bed877390872f0327dc314d477a7ee17ce095915", func := "jalousie/jalousielaw05.ViewPuts", spec := "viewPuts", unfollowed := true, recurses := true, plainKeys := false, apart := false, narrowed := true }
def ViewPutsUptoSaid : Prop := viewPutsUptoRow.holds Try.pinned (OpenSpec.upto viewPutsSpec)

/-- 'jalousielaw05.ViewEnds', WHERE WHAT IT READS IS OF BULK AT MOST 1048576: true; the input reads as it did. -/
def viewEndsUptoRow : OpenClaim := { program := "ytaejphdgfkljmaa", sum := "36f1f1ae7e5fdb7f27c88f96bed877390872f0327dc314d477a7ee17ce095915", func := "jalousie/jalousielaw05.ViewEnds", spec := "viewEnds", unfollowed := true, recurses := true, plainKeys := false, apart := false, narrowed := true }
def ViewEndsUptoSaid : Prop := viewEndsUptoRow.holds Try.pinned (OpenSpec.upto viewEndsSpec)

/-- 'jalousielaw06.InternNumbers', WHERE WHAT IT READS IS OF BULK AT MOST 1048576: true; the input reads as it did. -/
def internNumbersUptoRow : OpenClaim := { program := "ytaejphdgfkljmaa", sum := "36f1f1ae7e5fdb7f27c88f96bed877390872f0327dc314d477a7ee17ce095915", func := "jalousie/jalousielaw06.InternNumbers", spec := "internNumbers", recurses := true, plainKeys := false, apart := false, narrowed := true }
def InternNumbersUptoSaid : Prop := internNumbersUptoRow.holds Try.pinned (OpenSpec.upto internNumbersSpec)

/-- 'jalousielaw06.InternAlike', WHERE WHAT IT READS IS OF BULK AT MOST 1048576: true; the input reads as it did. -/
def internAlikeUptoRow : OpenClaim := { program := "ytaejphdgfkljmaa", sum := "36f1f1ae7e5fdb7f27c88f96bed877390872f0327dc314d477a7ee17ce095915", func := "jalousie/jalousielaw06.InternAlike", spec := "internAlike", recurses := true, plainKeys := false, apart := false, narrowed := true }
def InternAlikeUptoSaid : Prop := internAlikeUptoRow.holds Try.pinned (OpenSpec.upto internAlikeSpec)

/-- 'jalousielaw06.InternEnds', WHERE WHAT IT READS IS OF BULK AT MOST 1048576: true; the input reads as it did. -/
def internEndsUptoRow : OpenClaim := { program := "ytaejphdgfkljmaa", sum := "36f1f1ae7e5fdb7f27c88f96bed877390872f0327dc314d477a7ee17ce095915", func := "jalousie/jalousielaw06.InternEnds", spec := "internEnds", recurses := true, plainKeys := false, apart := false, narrowed := true }
def InternEndsUptoSaid : Prop := internEndsUptoRow.holds Try.pinned (OpenSpec.upto internEndsSpec)

/-- 'jalousielaw06.InternCounts', WHERE WHAT IT READS IS OF BULK AT MOST 1048576: true; the input reads as it did. -/
def internCountsUptoRow : OpenClaim := { program := "ytaejphdgfkljmaa", sum := "36f1f1ae7e5fdb7f27c88f96bed877390872f0327dc314d477a7ee17ce095915", func := "jalousie/jalousielaw06.InternCounts", spec := "internCounts", recurses := true, plainKeys := false, apart := false, narrowed := true }
def InternCountsUptoSaid : Prop := internCountsUptoRow.holds Try.pinned (OpenSpec.upto internCountsSpec)

/-- 'jalousielaw06.InternOnce', WHERE WHAT IT READS IS OF BULK AT MOST 1048576: true; the input reads as it did. -/
def internOnceUptoRow : OpenClaim := { program := "ytaejphdgfkljmaa", sum := "36f1f1ae7e5fdb7f27c88f96bed877390872f0327dc314d477a7ee17ce095915", func := "jalousie/jalousielaw06.InternOnce", spec := "internOnce", recurses := true, plainKeys := false, apart := false, narrowed := true }
def InternOnceUptoSaid : Prop := internOnceUptoRow.holds Try.pinned (OpenSpec.upto internOnceSpec)

end Rows
end Go.Proofs.Ytaejphdgfkljmaa
