/-
  No cell of these rows narrows 'for every input' (looked for: loops, veiled, ifaces, maps, wideKeys, modest, calm, conditions, laid).
  DERIVED. THE GIVEN ROWS OF THIS SEAT. 4 by the template 'for every input the law returns true; each argument reads behind the call as it read before'; 0 by the template 'total and deterministic' (their statements: YtlkfmaeillnhhaaTotals.lean).
  GIVEN WITH THE SEED: the statements are not yours to turn. If you find one false, say at which input.
  Laid BY PROGRAM, IN A SANDBOX (cutbox-rows.mjs): the forced cells as the released guide's own fill.sh prints them over the translation 13929cfd845f4182… (all of the seat's roots in one cut). By AI agents, Wed Nov 11 2026. No macro, syntax, notation, axiom, sorry.
-/
import Derived.Test.YtlkfmaeillnhhaaChecked
import GoSem.Claim
import GoSem.ClaimJoined
import GoSem.ClaimMapViews
import Derived.JoinedTies
import Derived.KernelRfl
namespace Go.Proofs.Ytlkfmaeillnhhaa
/- THE CELL 'sum', in the pinned program and in every row, IS THE sha256 OF THE DUMP (.gsa) THAT YtlkfmaeillnhhaaProg.lean LOADS. Nothing in Lean hashes anything: it is a label: what it is worth is what the hold of that sum in a sandbox is worth. -/
noncomputable def Try.pinned : Pinned := { name := "ytlkfmaeillnhhaa", sum := "13929cfd845f4182708f1b305a950f40bd8b5f77bf96a0070fe3543b06b69188", checked := Try.checked }
namespace Rows
def none {H : Type} : Left H := { results := [], args := [] }

/-- 'jalousielaw17.RemapNumbers': WHATEVER THE INPUT: true; the input reads as it did. -/
def remapNumbersSpec : ChangeSpec := { name := "remapNumbers", fn := fun _ => fun
  | [d1, d2, d3] => { results := [.lit (.bool true)], args := [d1, d2, d3] }
  | _ => none }
def remapNumbersRow : OpenClaim := { program := "ytlkfmaeillnhhaa", sum := "13929cfd845f4182708f1b305a950f40bd8b5f77bf96a0070fe3543b06b69188", func := "jalousie/jalousielaw17.RemapNumbers", spec := "remapNumbers", unfollowed := true, recurses := true, apart := false }
def RemapNumbersSaid : Prop := remapNumbersRow.holds Try.pinned (OpenSpec.ofChange remapNumbersSpec)

/-- ITS FALSE NEIGHBOUR: 'it returns false'. Refute it at one input. -/
def remapNumbersWrong : ChangeSpec := { name := "remapNumbers", fn := fun _ => fun
  | [d1, d2, d3] => { results := [.lit (.bool false)], args := [d1, d2, d3] }
  | _ => none }
def RemapNumbersWrongFalsely : Prop := remapNumbersRow.holds Try.pinned (OpenSpec.ofChange remapNumbersWrong)

/-- 'jalousielaw17.RemapBlind': WHATEVER THE INPUT: true; the input reads as it did. -/
def remapBlindSpec : ChangeSpec := { name := "remapBlind", fn := fun _ => fun
  | [d1, d2, d3] => { results := [.lit (.bool true)], args := [d1, d2, d3] }
  | _ => none }
def remapBlindRow : OpenClaim := { program := "ytlkfmaeillnhhaa", sum := "13929cfd845f4182708f1b305a950f40bd8b5f77bf96a0070fe3543b06b69188", func := "jalousie/jalousielaw17.RemapBlind", spec := "remapBlind", unfollowed := true, recurses := true, apart := false }
def RemapBlindSaid : Prop := remapBlindRow.holds Try.pinned (OpenSpec.ofChange remapBlindSpec)

/-- ITS FALSE NEIGHBOUR: 'it returns false'. Refute it at one input. -/
def remapBlindWrong : ChangeSpec := { name := "remapBlind", fn := fun _ => fun
  | [d1, d2, d3] => { results := [.lit (.bool false)], args := [d1, d2, d3] }
  | _ => none }
def RemapBlindWrongFalsely : Prop := remapBlindRow.holds Try.pinned (OpenSpec.ofChange remapBlindWrong)

/-- 'jalousielaw17.RemapBack': WHATEVER THE INPUT: true; the input reads as it did. -/
def remapBackSpec : ChangeSpec := { name := "remapBack", fn := fun _ => fun
  | [d1, d2, d3, d4] => { results := [.lit (.bool true)], args := [d1, d2, d3, d4] }
  | _ => none }
def remapBackRow : OpenClaim := { program := "ytlkfmaeillnhhaa", sum := "13929cfd845f4182708f1b305a950f40bd8b5f77bf96a0070fe3543b06b69188", func := "jalousie/jalousielaw17.RemapBack", spec := "remapBack", unfollowed := true, recurses := true, apart := false }
def RemapBackSaid : Prop := remapBackRow.holds Try.pinned (OpenSpec.ofChange remapBackSpec)

/-- ITS FALSE NEIGHBOUR: 'it returns false'. Refute it at one input. -/
def remapBackWrong : ChangeSpec := { name := "remapBack", fn := fun _ => fun
  | [d1, d2, d3, d4] => { results := [.lit (.bool false)], args := [d1, d2, d3, d4] }
  | _ => none }
def RemapBackWrongFalsely : Prop := remapBackRow.holds Try.pinned (OpenSpec.ofChange remapBackWrong)

/-- 'jalousielaw17.RemapAdds': WHATEVER THE INPUT: true; the input reads as it did. -/
def remapAddsSpec : ChangeSpec := { name := "remapAdds", fn := fun _ => fun
  | [d1, d2, d3] => { results := [.lit (.bool true)], args := [d1, d2, d3] }
  | _ => none }
def remapAddsRow : OpenClaim := { program := "ytlkfmaeillnhhaa", sum := "13929cfd845f4182708f1b305a950f40bd8b5f77bf96a0070fe3543b06b69188", func := "jalousie/jalousielaw17.RemapAdds", spec := "remapAdds", unfollowed := true, recurses := true, apart := false }
def RemapAddsSaid : Prop := remapAddsRow.holds Try.pinned (OpenSpec.ofChange remapAddsSpec)

/-- ITS FALSE NEIGHBOUR: 'it returns false'. Refute it at one input. -/
def remapAddsWrong : ChangeSpec := { name := "remapAdds", fn := fun _ => fun
  | [d1, d2, d3] => { results := [.lit (.bool false)], args := [d1, d2, d3] }
  | _ => none }
def RemapAddsWrongFalsely : Prop := remapAddsRow.holds Try.pinned (OpenSpec.ofChange remapAddsWrong)

/- THE SECOND FORM. 'bulk': how many values and letters a reading holds, each counted each time it is reached (what is shared counts as often as it is met; a slice's spare places count too). A statement '..UptoSaid' is the law's where the arguments, and the package variables that the reading takes, are together of bulk at most 1048576: NARROWER than '..Said'. Prove '..Said' where nothing that the law and all that it calls make is longer than what came in: it says more and counts as full. Else prove '..UptoSaid'. A law counts once. -/
mutual
def uptoBulk {H : Type} : DataW H → Nat
  | .lit (.string bytes) => bytes.length + 1
  | .lit _ => 1
  | .nil => 1
  | .ptr d => uptoBulk d + 1
  | .slice elems spare => uptoBulkAll elems + uptoBulkAll spare + 1
  | .agg parts => uptoBulkAll parts + 1
  | .iface _ d => uptoBulk d + 1
  | .map entries => uptoBulkEntries entries + 1
  | .held _ => 1
def uptoBulkAll {H : Type} : List (DataW H) → Nat
  | [] => 0
  | d :: r => uptoBulk d + uptoBulkAll r
def uptoBulkEntries {H : Type} : List (Lit × DataW H) → Nat
  | [] => 0
  | x :: r => uptoBulkEntry x + uptoBulkEntries r
def uptoBulkEntry {H : Type} : Lit × DataW H → Nat
  | (.string bytes, d) => bytes.length + uptoBulk d + 1
  | (_, d) => uptoBulk d + 1
 end
def uptoSmall : (H : Type) → List (DataW H) → Bool := fun _ ds => decide (uptoBulkAll ds ≤ 1048576)
def OpenSpec.upto (s : _root_.Go.ChangeSpec) : _root_.Go.OpenSpec := { _root_.Go.OpenSpec.ofChange s with cond := some uptoSmall }

/-- 'jalousielaw17.RemapNumbers', WHERE WHAT IT READS IS OF BULK AT MOST 1048576: true; the input reads as it did. -/
def remapNumbersUptoRow : OpenClaim := { program := "ytlkfmaeillnhhaa", sum := "13929cfd845f4182708f1b305a950f40bd8b5f77bf96a0070fe3543b06b69188", func := "jalousie/jalousielaw17.RemapNumbers", spec := "remapNumbers", unfollowed := true, recurses := true, apart := false, narrowed := true }
def RemapNumbersUptoSaid : Prop := remapNumbersUptoRow.holds Try.pinned (OpenSpec.upto remapNumbersSpec)

/-- 'jalousielaw17.RemapBlind', WHERE WHAT IT READS IS OF BULK AT MOST 1048576: true; the input reads as it did. -/
def remapBlindUptoRow : OpenClaim := { program := "ytlkfmaeillnhhaa", sum := "13929cfd845f4182708f1b305a950f40bd8b5f77bf96a0070fe3543b06b69188", func := "jalousie/jalousielaw17.RemapBlind", spec := "remapBlind", unfollowed := true, recurses := true, apart := false, narrowed := true }
def RemapBlindUptoSaid : Prop := remapBlindUptoRow.holds Try.pinned (OpenSpec.upto remapBlindSpec)

/-- 'jalousielaw17.RemapBack', WHERE WHAT IT READS IS OF BULK AT MOST 1048576: true; the input reads as it did. -/
def remapBackUptoRow : OpenClaim := { program := "ytlkfmaeillnhhaa", sum := "13929cfd845f4182708f1b305a950f40bd8b5f77bf96a0070fe3543b06b69188", func := "jalousie/jalousielaw17.RemapBack", spec := "remapBack", unfollowed := true, recurses := true, apart := false, narrowed := true }
def RemapBackUptoSaid : Prop := remapBackUptoRow.holds Try.pinned (OpenSpec.upto remapBackSpec)

/-- 'jalousielaw17.RemapAdds', WHERE WHAT IT READS IS OF BULK AT MOST 1048576: true; the input reads as it did. -/
def remapAddsUptoRow : OpenClaim := { program := "ytlkfmaeillnhhaa", sum := "13929cfd845f4182708f1b305a950f40bd8b5f77bf96a0070fe3543b06b69188", func := "jalousie/jalousielaw17.RemapAdds", spec := "remapAdds", unfollowed := true, recurses := true, apart := false, narrowed := true }
def RemapAddsUptoSaid : Prop := remapAddsUptoRow.holds Try.pinned (OpenSpec.upto remapAddsSpec)

end Rows
end Go.Proofs.Ytlkfmaeillnhhaa
