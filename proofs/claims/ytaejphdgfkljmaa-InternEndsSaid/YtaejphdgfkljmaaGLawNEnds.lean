/-
  The law InternEnds.
-/
import Derived.Test.YtaejphdgfkljmaaGnc
namespace Go.Proofs.Ytaejphdgfkljmaa.N
set_option linter.unusedVariables false
set_option linter.unusedSimpArgs false
open Go.RowKit
open T
open V (grown_of IntsIn numCells numCells_snoc ints_own drawn_below LvC LvC.at)
open I (alloc1 own_at own_below)

set_option maxRecDepth 100000 in
set_option maxHeartbeats 2000000 in
theorem nends_law {A B : Option Addr} {a b : List Int} {c c' : Nat} {w : World} (hA : IntsIn w A a) (hB : IntsIn w B b) (ha : a.length ≤ maxLen) (hb : b.length ≤ maxLen) (hc : a.length ≤ c) (hc' : b.length ≤ c') :
    Calls Try.prog 11 #[.slice A a.length c, .slice B b.length c'] w fun e w' => e = .returned (.bool true) ∧ Below w.heap.size w w' := by
  have HE := Lib.hid (ends_is a b ha hb w A B c c' hA hB)
  have HR := Lib.hid (fun (W : World) (h : Below w.heap.size w W) => rends_is a b ha hb W A B c c' (hA.below h) (hB.below h) hc hc')
  have HL := Lib.hid live6
  clear hA hB ha hb hc hc'
  obtain ⟨k, hk⟩ : ∃ k : Int, k = (cpl a b : Nat) := ⟨_, rfl⟩
  obtain ⟨m, hm⟩ : ∃ m : Int, m = (csl a b : Nat) := ⟨_, rfl⟩
  rw [← hk, ← hm] at HE
  have HKM := Lib.hid (And.intro hk hm)
  clear hk hm
  go_enter Try.func11, Try.ntmps11
  go_wp2_with fail
  with_reducible refine (HE.out).mono ?_
  rintro e w1 ⟨rfl, hb1⟩
  have HR1 := Lib.hid (HR.out w1 hb1)
  rw [← HKM.out.1, ← HKM.out.2] at HR1
  have HB1 := Lib.hid hb1
  clear hb1
  go_wp2_with fail
  with_reducible refine (HR1.out).mono ?_
  rintro e w2 ⟨rfl, hb2⟩
  have HB2 := Lib.hid (HB1.out.trans (hb2.mono HB1.out.size))
  clear hb2
  go_wp2_with fail
  with_reducible refine (HL.out.at _).mono ?_
  rintro e w3 ⟨rfl, hb3⟩
  have HB3 := Lib.hid (HB2.out.trans (hb3.mono HB2.out.size))
  clear hb3
  go_wp2_with fail
  go_ret
  exact ⟨rfl, HB3.out⟩
end Go.Proofs.Ytaejphdgfkljmaa.N
