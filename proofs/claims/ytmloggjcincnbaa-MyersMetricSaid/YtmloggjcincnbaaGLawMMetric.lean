/-
  The law MyersMetric.
-/
import Derived.Test.YtmloggjcincnbaaGmf
namespace Go.Proofs.Ytmloggjcincnbaa.M
set_option linter.unusedVariables false
set_option linter.unusedSimpArgs false
open Go.RowKit
open T
open V (IntsIn numCells numCells_snoc ints_own drawn_below rints_any)
open I (alloc1 own_at own_below)

set_option maxRecDepth 100000 in
set_option maxHeartbeats 2000000 in
theorem mmetric_law {A B C : Option Addr} {a b c : List Int} {ca cb cc : Nat} {w : World} (hA : IntsIn w A a) (hB : IntsIn w B b) (hC : IntsIn w C c) (ha : a.length ≤ maxLen) (hb : b.length ≤ maxLen) (hc : c.length ≤ maxLen) (hca : a.length ≤ ca) (hcb : b.length ≤ cb) (hcc : c.length ≤ cc) :
    Calls Try.prog 5 #[.slice A a.length ca, .slice B b.length cb, .slice C c.length cc] w fun e w' => e = .returned (.bool true) ∧ Below w.heap.size w w' := by
  have HL := Lib.hid live7
  have HFA := Lib.hid (fun W => few_any A a ca W ha hca)
  have HFB := Lib.hid (fun W => few_any B b cb W hb hcb)
  have HFC := Lib.hid (fun W => few_any C c cc W hc hcc)
  have HA := Lib.hid (ints_take hA 40)
  have HB := Lib.hid (ints_take hB 40)
  have HC := Lib.hid (ints_take hC 40)
  have h1 : (a.take 40).length ≤ 40 := List.length_take_le _ _
  have h2 : (b.take 40).length ≤ 40 := List.length_take_le _ _
  have h3 : (c.take 40).length ≤ 40 := List.length_take_le _ _
  clear hA hB hC ha hb hc hca hcb hcc
  generalize a.take 40 = x at *
  generalize b.take 40 = y at *
  generalize c.take 40 = z at *
  have HTR := Lib.hid (ed_tri x y z)
  have HSY := Lib.hid (ed_symm y x)
  have HZ := Lib.hid (ed_zero x y)
  have HE1 := Lib.hid (ed_le x y)
  have HE2 := Lib.hid (ed_le y z)
  have HE3 := Lib.hid (ed_le x z)
  have HDAB := Lib.hid (fun (W : World) (h : Below w.heap.size w W) => dist_any A B x y ca cb W (HA.out.below h) (HB.out.below h) (by omega) (by omega))
  have HDBC := Lib.hid (fun (W : World) (h : Below w.heap.size w W) => dist_any B C y z cb cc W (HB.out.below h) (HC.out.below h) (by omega) (by omega))
  have HDAC := Lib.hid (fun (W : World) (h : Below w.heap.size w W) => dist_any A C x z ca cc W (HA.out.below h) (HC.out.below h) (by omega) (by omega))
  have HDBA := Lib.hid (fun (W : World) (h : Below w.heap.size w W) => dist_any B A y x cb ca W (HB.out.below h) (HA.out.below h) (by omega) (by omega))
  have HRI := Lib.hid (fun (W : World) (h : Below w.heap.size w W) => rints_any A B ca cb x y W (by unfold maxLen; omega) (HA.out.below h) (HB.out.below h))
  rw [HSY.out] at HDBA
  obtain ⟨d1, hd1⟩ : ∃ d : Int, d = ((ed x y : Nat) : Int) := ⟨_, rfl⟩
  obtain ⟨d2, hd2⟩ : ∃ d : Int, d = ((ed y z : Nat) : Int) := ⟨_, rfl⟩
  obtain ⟨d3, hd3⟩ : ∃ d : Int, d = ((ed x z : Nat) : Int) := ⟨_, rfl⟩
  have b1 : 0 ≤ d1 ∧ d1 ≤ 80 := by have := HE1.out; omega
  have b2 : 0 ≤ d2 ∧ d2 ≤ 80 := by have := HE2.out; omega
  have b3 : 0 ≤ d3 ∧ d3 ≤ d1 + d2 := by have := HTR.out; omega
  rw [← hd1] at HDAB HDBA
  rw [← hd2] at HDBC
  rw [← hd3] at HDAC
  have HQ : Hid ((d1 == 0) = decide (x = y)) := Lib.hid (by
    rw [Bool.eq_iff_iff, beq_iff_eq, decide_eq_true_iff, ← HZ.out]; omega)
  clear hd1 hd2 hd3 HTR HSY HZ HE1 HE2 HE3
  obtain ⟨q, hq⟩ : ∃ q, q = decide (x = y) := ⟨_, rfl⟩
  rw [← hq] at HQ HRI
  have hqq := HQ.out
  have hself : (d1 == d1) = true := by simp
  clear hq HQ
  obtain ⟨b11, b12⟩ := b1
  obtain ⟨b21, b22⟩ := b2
  obtain ⟨b31, b32⟩ := b3
  go_enter Try.func5, Try.ntmps5
  go_wp2_with fail
  with_reducible refine (HFA.out _).mono ?_
  rintro e w' ⟨rfl, rfl⟩
  go_wp2_with fail
  with_reducible refine (HFB.out _).mono ?_
  rintro e w' ⟨rfl, rfl⟩
  go_wp2_with fail
  with_reducible refine (HFC.out _).mono ?_
  rintro e w' ⟨rfl, rfl⟩
  go_wp2_with fail
  with_reducible refine (HDAB.out w (Below.refl _ _)).mono ?_
  rintro e w1 ⟨rfl, hb1⟩
  have HB1 := Lib.hid hb1
  clear hb1
  go_wp2_with fail
  with_reducible refine (HDBC.out w1 HB1.out).mono ?_
  rintro e w2 ⟨rfl, hb2⟩
  have HB2 := Lib.hid (HB1.out.trans (hb2.mono HB1.out.size))
  clear hb2
  go_wp2_with fail
  with_reducible refine (HDAC.out w2 HB2.out).mono ?_
  rintro e w3 ⟨rfl, hb3⟩
  have HB3 := Lib.hid (HB2.out.trans (hb3.mono HB2.out.size))
  clear hb3
  go_wp2_with fail
  with_reducible refine (HL.out.at _).mono ?_
  rintro e w4 ⟨rfl, hb4⟩
  have HB4 := Lib.hid (HB3.out.trans (hb4.mono HB3.out.size))
  clear hb4
  go_wp2_with fail
  with_reducible refine (HRI.out w4 HB4.out).mono ?_
  rintro e w5 ⟨rfl, hb5⟩
  have HB5 := Lib.hid (HB4.out.trans (hb5.mono HB4.out.size))
  clear hb5
  have hqs : (q == q) = true := by simp
  go_wp2_with fail
  with_reducible refine (HDBA.out w5 HB5.out).mono ?_
  rintro e w6 ⟨rfl, hb6⟩
  have HB6 := Lib.hid (HB5.out.trans (hb6.mono HB5.out.size))
  clear hb6
  go_wp2_with fail
  go_ret
  exact ⟨rfl, HB6.out⟩
end Go.Proofs.Ytmloggjcincnbaa.M
