/-
  The law MyersWays.
-/
import Derived.Test.YtmloggjcincnbaaGmt
namespace Go.Proofs.Ytmloggjcincnbaa.M
set_option linter.unusedVariables false
set_option linter.unusedSimpArgs false
open Go.RowKit
open T
open V (IntsIn numCells numCells_snoc ints_own drawn_below rints_any)
open I (alloc1 own_at own_below)
open N (prCells prCells_snoc prCells_length PrIn pr_own rsame_any)

set_option maxRecDepth 100000 in
set_option maxHeartbeats 2000000 in
theorem mways_law {A B : Option Addr} {a b : List Int} {ca cb : Nat} {w : World} (hA : IntsIn w A a) (hB : IntsIn w B b) (ha : a.length ≤ maxLen) (hb : b.length ≤ maxLen) (hca : a.length ≤ ca) (hcb : b.length ≤ cb) :
    Calls Try.prog 3 #[.slice A a.length ca, .slice B b.length cb] w fun e w' => e = .returned (.bool true) ∧ Below w.heap.size w w' := by
  have HL := Lib.hid live7
  have HFA := Lib.hid (fun W => few_any A a ca W ha hca)
  have HFB := Lib.hid (fun W => few_any B b cb W hb hcb)
  have HA := Lib.hid (ints_take hA 40)
  have HB := Lib.hid (ints_take hB 40)
  have h1 : (a.take 40).length ≤ 40 := List.length_take_le _ _
  have h2 : (b.take 40).length ≤ 40 := List.length_take_le _ _
  clear hA hB ha hb hca hcb
  generalize a.take 40 = x at *
  generalize b.take 40 = y at *
  have HS1 := Lib.hid (fun (W : World) (h : Below w.heap.size w W) => steps_any A B x y ca cb W (HA.out.below h) (HB.out.below h) (by omega) (by omega))
  have HS2 := Lib.hid (fun (W : World) (h : Below w.heap.size w W) => rsteps_any A B x y ca cb W (HA.out.below h) (HB.out.below h) (by omega) (by omega))
  have HP1 := Lib.hid (fun (W : World) (h : Below w.heap.size w W) => pairs_any A B x y ca cb W (HA.out.below h) (HB.out.below h) (by omega) (by omega))
  have HP2 := Lib.hid (fun (W : World) (h : Below w.heap.size w W) => rpairs_any A B x y ca cb W (HA.out.below h) (HB.out.below h) (by omega) (by omega))
  have HD1 := Lib.hid (fun (W : World) (h : Below w.heap.size w W) => dist_any A B x y ca cb W (HA.out.below h) (HB.out.below h) (by omega) (by omega))
  have HD2 := Lib.hid (fun (W : World) (h : Below w.heap.size w W) => rdist_any A B x y ca cb W (HA.out.below h) (HB.out.below h) (by omega) (by omega))
  have HWL := Lib.hid (way_le _ x y (Nat.le_refl _))
  have HPL := Lib.hid (pairs_length x y)
  obtain ⟨s, hs⟩ : ∃ s, s = way x y := ⟨_, rfl⟩
  obtain ⟨p, hp⟩ : ∃ p, p = pairs x y := ⟨_, rfl⟩
  obtain ⟨d, hd⟩ : ∃ d : Int, d = ((ed x y : Nat) : Int) := ⟨_, rfl⟩
  rw [← hs] at HS1 HS2 HWL
  rw [← hp] at HP1 HP2 HPL
  rw [← hd] at HD1 HD2
  have hsl : s.length ≤ 1000 := by have := HWL.out; omega
  have hpl : p.length ≤ 1000000 := by have := HPL.out; omega
  have hself : (d == d) = true := by simp
  clear hs hp hd HWL HPL
  go_enter Try.func3, Try.ntmps3
  go_wp2_with fail
  with_reducible refine (HFA.out _).mono ?_
  rintro e w' ⟨rfl, rfl⟩
  go_wp2_with fail
  with_reducible refine (HFB.out _).mono ?_
  rintro e w' ⟨rfl, rfl⟩
  go_wp2_with fail
  with_reducible refine (HL.out.at _).mono ?_
  rintro e w1 ⟨rfl, hb1⟩
  have HB1 := Lib.hid hb1
  clear hb1
  go_wp2_with fail
  with_reducible refine (HS1.out w1 HB1.out).mono ?_
  rintro e w2 ⟨SA, sc, rfl, hso, hb2⟩
  have HB2 := Lib.hid (HB1.out.trans (hb2.mono HB1.out.size))
  have HO2 := Lib.hid hso
  clear hb2 hso
  go_wp2_with fail
  with_reducible refine (HS2.out w2 HB2.out).mono ?_
  rintro e w3 ⟨SB, sc', rfl, hso, hb3⟩
  have HB3 := Lib.hid (HB2.out.trans (hb3.mono HB2.out.size))
  have HSQ := Lib.hid (rsteqs_any SA SB sc sc' _ _ s w3 (own_below HO2.out hb3) hso hsl)
  clear hb3 hso HO2
  go_wp2_with fail
  with_reducible refine (HSQ.out).mono ?_
  rintro e w4 ⟨rfl, hb4⟩
  have HB4 := Lib.hid (HB3.out.trans (hb4.mono HB3.out.size))
  clear hb4
  go_wp2_with fail
  with_reducible refine (HP1.out w4 HB4.out).mono ?_
  rintro e w5 ⟨PA, pc, rfl, hpo, hb5⟩
  have HB5 := Lib.hid (HB4.out.trans (hb5.mono HB4.out.size))
  have HO5 := Lib.hid (pr_own hpo)
  clear hb5 hpo
  go_wp2_with fail
  with_reducible refine (HP2.out w5 HB5.out).mono ?_
  rintro e w6 ⟨PB, pc', rfl, hpo, hb6⟩
  have HB6 := Lib.hid (HB5.out.trans (hb6.mono HB5.out.size))
  have HPQ := Lib.hid (rsame_any PA PB pc pc' p w6 (HO5.out.below hb6) (pr_own hpo) hpl)
  clear hb6 hpo HO5
  go_wp2_with fail
  with_reducible refine (HPQ.out).mono ?_
  rintro e w7 ⟨rfl, hb7⟩
  have HB7 := Lib.hid (HB6.out.trans (hb7.mono HB6.out.size))
  clear hb7
  go_wp2_with fail
  with_reducible refine (HD1.out w7 HB7.out).mono ?_
  rintro e w8 ⟨rfl, hb8⟩
  have HB8 := Lib.hid (HB7.out.trans (hb8.mono HB7.out.size))
  clear hb8
  go_wp2_with fail
  with_reducible refine (HD2.out w8 HB8.out).mono ?_
  rintro e w9 ⟨rfl, hb9⟩
  go_wp2_with fail
  go_ret
  exact ⟨rfl, HB8.out.trans (hb9.mono HB8.out.size)⟩
end Go.Proofs.Ytmloggjcincnbaa.M
