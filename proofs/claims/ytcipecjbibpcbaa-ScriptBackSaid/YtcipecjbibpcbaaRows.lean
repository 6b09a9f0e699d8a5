/-
  No cell of these rows narrows 'for every input' (looked for: loops, veiled, ifaces, maps, wideKeys, modest, calm, conditions, laid).
  DERIVED. THE GIVEN ROWS OF THIS SEAT. 8 by the template 'for every input the law returns true; each argument reads behind the call as it read before'; 0 by the template 'total and deterministic' (their statements: YtcipecjbibpcbaaTotals.lean).
  GIVEN WITH THE SEED: the statements are not yours to turn. If you find one false, say at which input.
  Laid BY PROGRAM, IN A SANDBOX (cutbox-rows.mjs): the forced cells as the released guide's own fill.sh prints them over the translation ddadff6695ca4a84… (all of the seat's roots in one cut). By AI agents, Wed Nov 11 2026. No macro, syntax, notation, axiom, sorry.
-/
import Derived.Test.YtcipecjbibpcbaaChecked
import GoSem.Claim
import GoSem.ClaimJoined
import GoSem.ClaimMapViews
import Derived.JoinedTies
import Derived.KernelRfl
namespace Go.Proofs.Ytcipecjbibpcbaa
/- THE CELL 'sum', in the pinned program and in every row, IS THE sha256 OF THE DUMP (.gsa) THAT YtcipecjbibpcbaaProg.lean LOADS. Nothing in Lean hashes anything: it is a label: what it is worth is what the hold of that sum in a sandbox is worth. -/
noncomputable def Try.pinned : Pinned := { name := "ytcipecjbibpcbaa", sum := "ddadff6695ca4a845977b5dd2d9ad00205245c24fb4cf8123259091482df1478", checked := Try.checked }
namespace Rows
def none {H : Type} : Left H := { results := [], args := [] }

/-- 'jalousielaw08.ScriptMakes': WHATEVER THE INPUT: true; the input reads as it did. -/
def scriptMakesSpec : ChangeSpec := { name := "scriptMakes", fn := fun _ => fun
  | [d1, d2] => { results := [.lit (.bool true)], args := [d1, d2] }
  | _ => none }
def scriptMakesRow : OpenClaim := { program := "ytcipecjbibpcbaa", sum := "ddadff6695ca4a845977b5dd2d9ad00205245c24fb4cf8123259091482df1478", func := "jalousie/jalousielaw08.ScriptMakes", spec := "scriptMakes", unfollowed := true, recurses := true, plainKeys := false, apart := false }
def ScriptMakesSaid : Prop := scriptMakesRow.holds Try.pinned (OpenSpec.ofChange scriptMakesSpec)

/-- ITS FALSE NEIGHBOUR: 'it returns false'. Refute it at one input. -/
def scriptMakesWrong : ChangeSpec := { name := "scriptMakes", fn := fun _ => fun
  | [d1, d2] => { results := [.lit (.bool false)], args := [d1, d2] }
  | _ => none }
def ScriptMakesWrongFalsely : Prop := scriptMakesRow.holds Try.pinned (OpenSpec.ofChange scriptMakesWrong)

/-- 'jalousielaw08.ScriptBack': WHATEVER THE INPUT: true; the input reads as it did. -/
def scriptBackSpec : ChangeSpec := { name := "scriptBack", fn := fun _ => fun
  | [d1, d2] => { results := [.lit (.bool true)], args := [d1, d2] }
  | _ => none }
def scriptBackRow : OpenClaim := { program := "ytcipecjbibpcbaa", sum := "ddadff6695ca4a845977b5dd2d9ad00205245c24fb4cf8123259091482df1478", func := "jalousie/jalousielaw08.ScriptBack", spec := "scriptBack", unfollowed := true, recurses := true, plainKeys := false, apart := false }
def ScriptBackSaid : Prop := scriptBackRow.holds Try.pinned (OpenSpec.ofChange scriptBackSpec)

/-- ITS FALSE NEIGHBOUR: 'it returns false'. Refute it at one input. -/
def scriptBackWrong : ChangeSpec := { name := "scriptBack", fn := fun _ => fun
  | [d1, d2] => { results := [.lit (.bool false)], args := [d1, d2] }
  | _ => none }
def ScriptBackWrongFalsely : Prop := scriptBackRow.holds Try.pinned (OpenSpec.ofChange scriptBackWrong)

/-- 'jalousielaw08.ScriptShortest': WHATEVER THE INPUT: true; the input reads as it did. -/
def scriptShortestSpec : ChangeSpec := { name := "scriptShortest", fn := fun _ => fun
  | [d] => { results := [.lit (.bool true)], args := [d] }
  | _ => none }
def scriptShortestRow : OpenClaim := { program := "ytcipecjbibpcbaa", sum := "ddadff6695ca4a845977b5dd2d9ad00205245c24fb4cf8123259091482df1478", func := "jalousie/jalousielaw08.ScriptShortest", spec := "scriptShortest", unfollowed := true, recurses := true, plainKeys := false, apart := false }
def ScriptShortestSaid : Prop := scriptShortestRow.holds Try.pinned (OpenSpec.ofChange scriptShortestSpec)

/-- ITS FALSE NEIGHBOUR: 'it returns false'. Refute it at one input. -/
def scriptShortestWrong : ChangeSpec := { name := "scriptShortest", fn := fun _ => fun
  | [d] => { results := [.lit (.bool false)], args := [d] }
  | _ => none }
def ScriptShortestWrongFalsely : Prop := scriptShortestRow.holds Try.pinned (OpenSpec.ofChange scriptShortestWrong)

/-- 'jalousielaw08.ScriptSides': WHATEVER THE INPUT: true; the input reads as it did. -/
def scriptSidesSpec : ChangeSpec := { name := "scriptSides", fn := fun _ => fun
  | [d] => { results := [.lit (.bool true)], args := [d] }
  | _ => none }
def scriptSidesRow : OpenClaim := { program := "ytcipecjbibpcbaa", sum := "ddadff6695ca4a845977b5dd2d9ad00205245c24fb4cf8123259091482df1478", func := "jalousie/jalousielaw08.ScriptSides", spec := "scriptSides", unfollowed := true, recurses := true, plainKeys := false, apart := false }
def ScriptSidesSaid : Prop := scriptSidesRow.holds Try.pinned (OpenSpec.ofChange scriptSidesSpec)

/-- ITS FALSE NEIGHBOUR: 'it returns false'. Refute it at one input. -/
def scriptSidesWrong : ChangeSpec := { name := "scriptSides", fn := fun _ => fun
  | [d] => { results := [.lit (.bool false)], args := [d] }
  | _ => none }
def ScriptSidesWrongFalsely : Prop := scriptSidesRow.holds Try.pinned (OpenSpec.ofChange scriptSidesWrong)

/-- 'jalousielaw08.ScriptNormals': WHATEVER THE INPUT: true; the input reads as it did. -/
def scriptNormalsSpec : ChangeSpec := { name := "scriptNormals", fn := fun _ => fun
  | [d] => { results := [.lit (.bool true)], args := [d] }
  | _ => none }
def scriptNormalsRow : OpenClaim := { program := "ytcipecjbibpcbaa", sum := "ddadff6695ca4a845977b5dd2d9ad00205245c24fb4cf8123259091482df1478", func := "jalousie/jalousielaw08.ScriptNormals", spec := "scriptNormals", unfollowed := true, recurses := true, plainKeys := false, apart := false }
def ScriptNormalsSaid : Prop := scriptNormalsRow.holds Try.pinned (OpenSpec.ofChange scriptNormalsSpec)

/-- ITS FALSE NEIGHBOUR: 'it returns false'. Refute it at one input. -/
def scriptNormalsWrong : ChangeSpec := { name := "scriptNormals", fn := fun _ => fun
  | [d] => { results := [.lit (.bool false)], args := [d] }
  | _ => none }
def ScriptNormalsWrongFalsely : Prop := scriptNormalsRow.holds Try.pinned (OpenSpec.ofChange scriptNormalsWrong)

/-- 'jalousielaw08.ScriptApplies': WHATEVER THE INPUT: true; the input reads as it did. -/
def scriptAppliesSpec : ChangeSpec := { name := "scriptApplies", fn := fun _ => fun
  | [d1, d2] => { results := [.lit (.bool true)], args := [d1, d2] }
  | _ => none }
def scriptAppliesRow : OpenClaim := { program := "ytcipecjbibpcbaa", sum := "ddadff6695ca4a845977b5dd2d9ad00205245c24fb4cf8123259091482df1478", func := "jalousie/jalousielaw08.ScriptApplies", spec := "scriptApplies", unfollowed := true, recurses := true, plainKeys := false, apart := false }
def ScriptAppliesSaid : Prop := scriptAppliesRow.holds Try.pinned (OpenSpec.ofChange scriptAppliesSpec)

/-- ITS FALSE NEIGHBOUR: 'it returns false'. Refute it at one input. -/
def scriptAppliesWrong : ChangeSpec := { name := "scriptApplies", fn := fun _ => fun
  | [d1, d2] => { results := [.lit (.bool false)], args := [d1, d2] }
  | _ => none }
def ScriptAppliesWrongFalsely : Prop := scriptAppliesRow.holds Try.pinned (OpenSpec.ofChange scriptAppliesWrong)

/-- 'jalousielaw08.ScriptOwn': WHATEVER THE INPUT: true; the input reads as it did. -/
def scriptOwnSpec : ChangeSpec := { name := "scriptOwn", fn := fun _ => fun
  | [d] => { results := [.lit (.bool true)], args := [d] }
  | _ => none }
def scriptOwnRow : OpenClaim := { program := "ytcipecjbibpcbaa", sum := "ddadff6695ca4a845977b5dd2d9ad00205245c24fb4cf8123259091482df1478", func := "jalousie/jalousielaw08.ScriptOwn", spec := "scriptOwn", unfollowed := true, recurses := true, plainKeys := false, apart := false }
def ScriptOwnSaid : Prop := scriptOwnRow.holds Try.pinned (OpenSpec.ofChange scriptOwnSpec)

/-- ITS FALSE NEIGHBOUR: 'it returns false'. Refute it at one input. -/
def scriptOwnWrong : ChangeSpec := { name := "scriptOwn", fn := fun _ => fun
  | [d] => { results := [.lit (.bool false)], args := [d] }
  | _ => none }
def ScriptOwnWrongFalsely : Prop := scriptOwnRow.holds Try.pinned (OpenSpec.ofChange scriptOwnWrong)

/-- 'jalousielaw08.ScriptOnce': WHATEVER THE INPUT: true; the input reads as it did. -/
def scriptOnceSpec : ChangeSpec := { name := "scriptOnce", fn := fun _ => fun
  | [d] => { results := [.lit (.bool true)], args := [d] }
  | _ => none }
def scriptOnceRow : OpenClaim := { program := "ytcipecjbibpcbaa", sum := "ddadff6695ca4a845977b5dd2d9ad00205245c24fb4cf8123259091482df1478", func := "jalousie/jalousielaw08.ScriptOnce", spec := "scriptOnce", unfollowed := true, recurses := true, plainKeys := false, apart := false }
def ScriptOnceSaid : Prop := scriptOnceRow.holds Try.pinned (OpenSpec.ofChange scriptOnceSpec)

/-- ITS FALSE NEIGHBOUR: 'it returns false'. Refute it at one input. -/
def scriptOnceWrong : ChangeSpec := { name := "scriptOnce", fn := fun _ => fun
  | [d] => { results := [.lit (.bool false)], args := [d] }
  | _ => none }
def ScriptOnceWrongFalsely : Prop := scriptOnceRow.holds Try.pinned (OpenSpec.ofChange scriptOnceWrong)

/- THE SECOND FORM. 'bulk': how many values and letters a reading holds, each counted each time it is reached (what is shared counts as often as it is met; a slice's spare places count too). A statement '..UptoSaid' is the law's where the arguments, and the package variables that the reading takes, are together of bulk at most 1048576: NARROWER than '..Said'. Prove '..Said' where nothing that the law and all that it calls make is longer than what came in: it says more and counts as full. Else prove '..UptoSaid'. A law counts once. -/
mutual
def uptoBulk {H : Type} : DataW H → Nat
  | .lit (.string bytes) => bytes.length + 1
  | .lit _ => 1
  | .nil => 1
  | .ptr d => uptoBulk d + 1
  | .slice elems spare => uptoBulkAll elems + uptoBulkAll spare + 1
  | .agg parts => uptoBulkAll parts + 1
  | .iface _ d => uptoBulk d + 1
  | .map entries => uptoBulkEntries entries + 1
  | .held _ => 1
def uptoBulkAll {H : Type} : List (DataW H) → Nat
  | [] => 0
  | d :: r => uptoBulk d + uptoBulkAll r
def uptoBulkEntries {H : Type} : List (Lit × DataW H) → Nat
  | [] => 0
  | x :: r => uptoBulkEntry x + uptoBulkEntries r
def uptoBulkEntry {H : Type} : Lit × DataW H → Nat
  | (.string bytes, d) => bytes.length + uptoBulk d + 1
  | (_, d) => uptoBulk d + 1
 end
def uptoSmall : (H : Type) → List (DataW H) → Bool := fun _ ds => decide (uptoBulkAll ds ≤ 1048576)
def OpenSpec.upto (s : _root_.Go.ChangeSpec) : _root_.Go.OpenSpec := { _root_.Go.OpenSpec.ofChange s with cond := some uptoSmall }

/-- 'jalousielaw08.ScriptMakes', WHERE WHAT IT READS IS OF BULK AT MOST 1048576: true; the input reads as it did. -/
def scriptMakesUptoRow : OpenClaim := { program := "ytcipecjbibpcbaa", sum := "ddadff6695ca4a845977b5dd2d9ad00205245c24fb4cf8123259091482df1478", func := "jalousie/jalousielaw08.ScriptMakes", spec := "scriptMakes", unfollowed := true, recurses := true, plainKeys := false, apart := false, narrowed := true }
def ScriptMakesUptoSaid : Prop := scriptMakesUptoRow.holds Try.pinned (OpenSpec.upto scriptMakesSpec)

/-- 'jalousielaw08.ScriptBack', WHERE WHAT IT READS IS OF BULK AT MOST 1048576: true; the input reads as it did. -/
def scriptBackUptoRow : OpenClaim := { program := "ytcipecjbibpcbaa", sum := "ddadff6695ca4a845977b5dd2d9ad00205245c24fb4cf8123259091482df1478", func := "jalousie/jalousielaw08.ScriptBack", spec := "scriptBack", unfollowed := true, recurses := true, plainKeys := false, apart := false, narrowed := true }
def ScriptBackUptoSaid : Prop := scriptBackUptoRow.holds Try.pinned (OpenSpec.upto scriptBackSpec)

/-- 'jalousielaw08.ScriptShortest', WHERE WHAT IT READS IS OF BULK AT MOST 1048576: true; the input reads as it did. -/
def scriptShortestUptoRow : OpenClaim := { program := "ytcipecjbibpcbaa", sum := "ddadff6695ca4a845977b5dd2d9ad00205245c24fb4cf8123259091482df1478", func := "jalousie/jalousielaw08.ScriptShortest", spec := "scriptShortest", unfollowed := true, recurses := true, plainKeys := false, apart := false, narrowed := true }
def ScriptShortestUptoSaid : Prop := scriptShortestUptoRow.holds Try.pinned (OpenSpec.upto scriptShortestSpec)

/-- 'jalousielaw08.ScriptSides', WHERE WHAT IT READS IS OF BULK AT MOST 1048576: true; the input reads as it did. -/
def scriptSidesUptoRow : OpenClaim := { program := "ytcipecjbibpcbaa", sum := "ddadff6695ca4a845977b5dd2d9ad00205245c24fb4cf8123259091482df1478", func := "jalousie/jalousielaw08.ScriptSides", spec := "scriptSides", unfollowed := true, recurses := true, plainKeys := false, apart := false, narrowed := true }
def ScriptSidesUptoSaid : Prop := scriptSidesUptoRow.holds Try.pinned (OpenSpec.upto scriptSidesSpec)

/-- 'jalousielaw08.ScriptNormals', WHERE WHAT IT READS IS OF BULK AT MOST 1048576: true; the input reads as it did. -/
def scriptNormalsUptoRow : OpenClaim := { program := "ytcipecjbibpcbaa", sum := "ddadff6695ca4a845977b5dd2d9ad00205245c24fb4cf8123259091482df1478", func := "jalousie/jalousielaw08.ScriptNormals", spec := "scriptNormals", unfollowed := true, recurses := true, plainKeys := false, apart := false, narrowed := true }
def ScriptNormalsUptoSaid : Prop := scriptNormalsUptoRow.holds Try.pinned (OpenSpec.upto scriptNormalsSpec)

/-- 'jalousielaw08.ScriptApplies', WHERE WHAT IT READS IS OF BULK AT MOST 1048576: true; the input reads as it did. -/
def scriptAppliesUptoRow : OpenClaim := { program := "ytcipecjbibpcbaa", sum := "ddadff6695ca4a845977b5dd2d9ad00205245c24fb4cf8123259091482df1478", func := "jalousie/jalousielaw08.ScriptApplies", spec := "scriptApplies", unfollowed := true, recurses := true, plainKeys := false, apart := false, narrowed := true }
def ScriptAppliesUptoSaid : Prop := scriptAppliesUptoRow.holds Try.pinned (OpenSpec.upto scriptAppliesSpec)

/-- 'jalousielaw08.ScriptOwn', WHERE WHAT IT READS IS OF BULK AT MOST 1048576: true; the input reads as it did. -/
def scriptOwnUptoRow : OpenClaim := { program := "ytcipecjbibpcbaa", sum := "ddadff6695ca4a845977b5dd2d9ad00205245c24fb4cf8123259091482df1478", func := "jalousie/jalousielaw08.ScriptOwn", spec := "scriptOwn", unfollowed := true, recurses := true, plainKeys := false, apart := false, narrowed := true }
def ScriptOwnUptoSaid : Prop := scriptOwnUptoRow.holds Try.pinned (OpenSpec.upto scriptOwnSpec)

/-- 'jalousielaw08.ScriptOnce', WHERE WHAT IT READS IS OF BULK AT MOST 1048576: true; the input reads as it did. -/
def scriptOnceUptoRow : OpenClaim := { program := "ytcipecjbibpcbaa", sum := "ddadff6695ca4a845977b5dd2d9ad00205245c24fb4cf8123259091482df1478", func := "jalousie/jalousielaw08.ScriptOnce", spec := "scriptOnce", unfollowed := true, recurses := true, plainKeys := false, apart := false, narrowed := true }
def ScriptOnceUptoSaid : Prop := scriptOnceUptoRow.holds Try.pinned (OpenSpec.upto scriptOnceSpec)

end Rows
end Go.Proofs.Ytcipecjbibpcbaa
