/-
  No cell of these rows narrows 'for every input' (looked for: loops, veiled, ifaces, maps, wideKeys, modest, calm, conditions, laid).
  DERIVED. THE GIVEN ROWS OF THIS SEAT. 3 by the template 'for every input the law returns true; each argument reads behind the call as it read before'; 0 by the template 'total and deterministic' (their statements: YtllgeffjkjdadaaTotals.lean).
  GIVEN WITH THE SEED: the statements are not yours to turn. If you find one false, say at which input.
  Laid BY PROGRAM, IN A SANDBOX (cutbox-rows.mjs): the forced cells as the released guide's own fill.sh prints them over the translation 5babd75e5e6c5eb2… (all of the seat's roots in one cut). By AI agents, Wed Nov 11 2026. No macro, syntax, notation, axiom, sorry.
-/
import Derived.Test.YtllgeffjkjdadaaChecked
import GoSem.Claim
import GoSem.ClaimJoined
import GoSem.ClaimMapViews
import Derived.JoinedTies
import Derived.KernelRfl
namespace Go.Proofs.Ytllgeffjkjdadaa
/- THE CELL 'sum', in the pinned program and in every row, IS THE sha256 OF THE DUMP (.gsa) THAT YtllgeffjkjdadaaProg.lean LOADS. Nothing in Lean hashes anything: it is a label: what it is worth is what the hold of that sum in a sandbox is worth. -/
noncomputable def Try.pinned : Pinned := { name := "ytllgeffjkjdadaa", sum := "5babd75e5e6c5eb2ce9c1ee454ddddf515317efa18acaa88dc12574c2d249e35", checked := Try.checked }
namespace Rows
def none {H : Type} : Left H := { results := [], args := [] }

/-- 'jalousielaw05.ViewPuts': WHATEVER THE INPUT: true; the input reads as it did. -/
def viewPutsSpec : ChangeSpec := { name := "viewPuts", fn := fun _ => fun
  | [d1, d2, d3, d4, d5] => { results := [.lit (.bool true)], args := [d1, d2, d3, d4, d5] }
  | _ => none }
def viewPutsRow : OpenClaim := { program := "ytllgeffjkjdadaa", sum := "5babd75e5e6c5eb2ce9c1ee454ddddf515317efa18acaa88dc12574c2d249e35", func := "jalousie/jalousielaw05.ViewPuts", spec := "viewPuts", unfollowed := true, recurses := true, plainKeys := false, apart := false }
def ViewPutsSaid : Prop := viewPutsRow.holds Try.pinned (OpenSpec.ofChange viewPutsSpec)

/-- ITS FALSE NEIGHBOUR: 'it returns false'. Refute it at one input. -/
def viewPutsWrong : ChangeSpec := { name := "viewPuts", fn := fun _ => fun
  | [d1, d2, d3, d4, d5] => { results := [.lit (.bool false)], args := [d1, d2, d3, d4, d5] }
  | _ => none }
def ViewPutsWrongFalsely : Prop := viewPutsRow.holds Try.pinned (OpenSpec.ofChange viewPutsWrong)

/-- 'jalousielaw06.InternCounts': WHATEVER THE INPUT: true; the input reads as it did. -/
def internCountsSpec : ChangeSpec := { name := "internCounts", fn := fun _ => fun
  | [d1, d2] => { results := [.lit (.bool true)], args := [d1, d2] }
  | _ => none }
def internCountsRow : OpenClaim := { program := "ytllgeffjkjdadaa", sum := "5babd75e5e6c5eb2ce9c1ee454ddddf515317efa18acaa88dc12574c2d249e35", func := "jalousie/jalousielaw06.InternCounts", spec := "internCounts", recurses := true, plainKeys := false, apart := false }
def InternCountsSaid : Prop := internCountsRow.holds Try.pinned (OpenSpec.ofChange internCountsSpec)

/-- ITS FALSE NEIGHBOUR: 'it returns false'. Refute it at one input. -/
def internCountsWrong : ChangeSpec := { name := "internCounts", fn := fun _ => fun
  | [d1, d2] => { results := [.lit (.bool false)], args := [d1, d2] }
  | _ => none }
def InternCountsWrongFalsely : Prop := internCountsRow.holds Try.pinned (OpenSpec.ofChange internCountsWrong)

/-- 'jalousielaw06.InternOnce': WHATEVER THE INPUT: true; the input reads as it did. -/
def internOnceSpec : ChangeSpec := { name := "internOnce", fn := fun _ => fun
  | [d1, d2] => { results := [.lit (.bool true)], args := [d1, d2] }
  | _ => none }
def internOnceRow : OpenClaim := { program := "ytllgeffjkjdadaa", sum := "5babd75e5e6c5eb2ce9c1ee454ddddf515317efa18acaa88dc12574c2d249e35", func := "jalousie/jalousielaw06.InternOnce", spec := "internOnce", recurses := true, plainKeys := false, apart := false }
def InternOnceSaid : Prop := internOnceRow.holds Try.pinned (OpenSpec.ofChange internOnceSpec)

/-- ITS FALSE NEIGHBOUR: 'it returns false'. Refute it at one input. -/
def internOnceWrong : ChangeSpec := { name := "internOnce", fn := fun _ => fun
  | [d1, d2] => { results := [.lit (.bool false)], args := [d1, d2] }
  | _ => none }
def InternOnceWrongFalsely : Prop := internOnceRow.holds Try.pinned (OpenSpec.ofChange internOnceWrong)

/- THE SECOND FORM. 'bulk': how many values and letters a reading holds, each counted each time it is reached (what is shared counts as often as it is met; a slice's spare places count too). A statement '..UptoSaid' is the law's where the arguments, and the package variables that the reading takes, are together of bulk at most 1048576: NARROWER than '..Said'. Prove '..Said' where nothing that the law and all that it calls make is longer than what came in: it says more and counts as full. Else prove '..UptoSaid'. A law counts once. -/
mutual
def uptoBulk {H : Type} : DataW H → Nat
  | .lit (.string bytes) => bytes.length + 1
  | .lit _ => 1
  | .nil => 1
  | .ptr d => uptoBulk d + 1
  | .slice elems spare => uptoBulkAll elems + uptoBulkAll spare + 1
  | .agg parts => uptoBulkAll parts + 1
  | .iface _ d => uptoBulk d + 1
  | .map entries => uptoBulkEntries entries + 1
  | .held _ => 1
def uptoBulkAll {H : Type} : List (DataW H) → Nat
  | [] => 0
  | d :: r => uptoBulk d + uptoBulkAll r
def uptoBulkEntries {H : Type} : List (Lit × DataW H) → Nat
  | [] => 0
  | x :: r => uptoBulkEntry x + uptoBulkEntries r
def uptoBulkEntry {H : Type} : Lit × DataW H → Nat
  | (.string bytes, d) => bytes.length + uptoBulk d + 1
  | (_, d) => uptoBulk d + 1
 end
def uptoSmall : (H : Type) → List (DataW H) → Bool := fun _ ds => decide (uptoBulkAll ds ≤ 1048576)
def OpenSpec.upto (s : _root_.Go.ChangeSpec) : _root_.Go.OpenSpec := { _root_.Go.OpenSpec.ofChange s with cond := some uptoSmall }

/-- 'jalousielaw05.ViewPuts', WHERE WHAT IT READS IS OF BULK AT MOST 1048576: true; the input reads as it did. -/
def viewPutsUptoRow : OpenClaim := { program := "ytllgeffjkjdadaa", sum := "5babd75e5e6c5eb2ce9c1ee454ddddf515317efa18acaa88dc12574c2d249e35", func := "jalousie/jalousielaw05.ViewPuts", spec := "viewPuts", unfollowed := true, recurses := true, plainKeys := false, apart := false, narrowed := true }
def ViewPutsUptoSaid : Prop := viewPutsUptoRow.holds Try.pinned (OpenSpec.upto viewPutsSpec)

/-- 'jalousielaw06.InternCounts', WHERE WHAT IT READS IS OF BULK AT MOST 1048576: true; the input reads as it did. -/
def internCountsUptoRow : OpenClaim := { program := "ytllgeffjkjdadaa", sum := "5babd75e5e6c5eb2ce9c1ee454ddddf515317efa18acaa88dc12574c2d249e35", func := "jalousie/jalousielaw06.InternCounts", spec := "internCounts", recurses := true, plainKeys := false, apart := false, narrowed := true }
def InternCountsUptoSaid : Prop := internCountsUptoRow.holds Try.pinned (OpenSpec.upto internCountsSpec)

/-- 'jalousielaw06.InternOnce', WHERE WHAT IT READS IS OF BULK AT MOST 1048576: true; the input reads as it did. -/
def internOnceUptoRow : OpenClaim := { program := "ytllgeffjkjdadaa", sum := "5babd75e5e6c5eb2ce9c1ee454ddddf515317efa18acaa88dc12574c2d249e35", func := "jalousie/jalousielaw06.InternOnce", spec := "internOnce", recurses := true, plainKeys := false, apart := false, narrowed := true }
def InternOnceUptoSaid : Prop := internOnceUptoRow.holds Try.pinned (OpenSpec.upto internOnceSpec)

end Rows
end Go.Proofs.Ytllgeffjkjdadaa
