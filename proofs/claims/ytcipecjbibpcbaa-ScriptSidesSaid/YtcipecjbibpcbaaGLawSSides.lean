/-
  The law ScriptSides.
-/
import Derived.Test.YtcipecjbibpcbaaGsh
namespace Go.Proofs.Ytcipecjbibpcbaa.S
set_option linter.unusedVariables false
set_option linter.unusedSimpArgs false
open Go.RowKit
open T
open V (grown_of IntsIn numCells numCells_snoc ints_own drawn_below)
open I (alloc1 own_at own_below)
open N (Ln)
open M (Lv)

set_option maxRecDepth 100000 in
set_option maxHeartbeats 4000000 in
theorem ssides_law {A : Option Addr} {c : Nat} {es : List Ed} {w : World} (hE : EdsIn 0 w A es) (hok : EdsOk es) :
    Calls Try.prog 6 #[.slice A es.length c] w fun e w' => e = .returned (.bool true) ∧ Below w.heap.size w w' := by
  have HE := Lib.hid hE
  have HS := Lib.hid (c_sides hok)
  have HRS := Lib.hid (c_rsides hok)
  have HK := Lib.hid (c_check hok)
  have HRK := Lib.hid (c_rcheck hok)
  have HG := Lib.hid (c_changed hok)
  have HRG := Lib.hid (c_rchanged hok)
  have HX := Lib.hid (c_lsame (l := (sides es).1) (by have := (sides_len es).1; unfold maxLen; omega))
  have HY := Lib.hid (c_lsame (l := (sides es).2) (by have := (sides_len es).2; unfold maxLen; omega))
  have HV := Lib.hid live8
  clear hE hok
  generalize (sides es).1 = x at *
  generalize (sides es).2 = y at *
  generalize ck es = q at *
  generalize chg es = r at *
  have hqq : (q == q) = true := by simp
  have hrr : (r == r) = true := by simp
  have HB0 : Hid (Below w.heap.size w w) := Lib.hid (Below.refl _ _)
  go_enter Try.func6, Try.ntmps6
  go_wp2_with fail
  with_reducible refine (HS.out.at c HE.out).mono ?_
  rintro e w1 ⟨A1, c1, B1, d1, rfl, hx, hy, hb⟩
  have HE_1 := Lib.hid (HE.out.below hb)
  have HX1_1 := Lib.hid hx
  have HY1_1 := Lib.hid hy
  have HB1 := Lib.hid (HB0.out.trans (hb.mono HB0.out.size))
  clear hb HB0 HE hx hy
  go_wp2_with fail
  with_reducible refine (HRS.out.at c HE_1.out).mono ?_
  rintro e w2 ⟨A2, c2, B2, d2, rfl, hx, hy, hb⟩
  have HE_2 := Lib.hid (HE_1.out.below hb)
  have HX1_2 := Lib.hid (HX1_1.out.below hb)
  have HY1_2 := Lib.hid (HY1_1.out.below hb)
  have HX2_2 := Lib.hid hx
  have HY2_2 := Lib.hid hy
  have HB2 := Lib.hid (HB1.out.trans (hb.mono HB1.out.size))
  clear hb HB1 HE_1 HX1_1 HY1_1 hx hy
  go_wp2_with fail
  with_reducible refine (HV.out.at _).mono ?_
  rintro e w3 ⟨rfl, hb⟩
  have HE_3 := Lib.hid (HE_2.out.below hb)
  have HX1_3 := Lib.hid (HX1_2.out.below hb)
  have HY1_3 := Lib.hid (HY1_2.out.below hb)
  have HX2_3 := Lib.hid (HX2_2.out.below hb)
  have HY2_3 := Lib.hid (HY2_2.out.below hb)
  have HB3 := Lib.hid (HB2.out.trans (hb.mono HB2.out.size))
  clear hb HB2 HE_2 HX1_2 HY1_2 HX2_2 HY2_2
  go_wp2_with fail
  with_reducible refine (HX.out.at c1 c2 HX1_3.out HX2_3.out).mono ?_
  rintro e w4 ⟨rfl, hb⟩
  have HE_4 := Lib.hid (HE_3.out.below hb)
  have HX1_4 := Lib.hid (HX1_3.out.below hb)
  have HY1_4 := Lib.hid (HY1_3.out.below hb)
  have HX2_4 := Lib.hid (HX2_3.out.below hb)
  have HY2_4 := Lib.hid (HY2_3.out.below hb)
  have HB4 := Lib.hid (HB3.out.trans (hb.mono HB3.out.size))
  clear hb HB3 HE_3 HX1_3 HY1_3 HX2_3 HY2_3
  go_wp2_with fail
  with_reducible refine (HY.out.at d1 d2 HY1_4.out HY2_4.out).mono ?_
  rintro e w5 ⟨rfl, hb⟩
  have HE_5 := Lib.hid (HE_4.out.below hb)
  have HX1_5 := Lib.hid (HX1_4.out.below hb)
  have HY1_5 := Lib.hid (HY1_4.out.below hb)
  have HX2_5 := Lib.hid (HX2_4.out.below hb)
  have HY2_5 := Lib.hid (HY2_4.out.below hb)
  have HB5 := Lib.hid (HB4.out.trans (hb.mono HB4.out.size))
  clear hb HB4 HE_4 HX1_4 HY1_4 HX2_4 HY2_4
  go_wp2_with fail
  with_reducible refine (HK.out.at c HE_5.out).mono ?_
  rintro e w6 ⟨rfl, hb⟩
  have HE_6 := Lib.hid (HE_5.out.below hb)
  have HX1_6 := Lib.hid (HX1_5.out.below hb)
  have HY1_6 := Lib.hid (HY1_5.out.below hb)
  have HX2_6 := Lib.hid (HX2_5.out.below hb)
  have HY2_6 := Lib.hid (HY2_5.out.below hb)
  have HB6 := Lib.hid (HB5.out.trans (hb.mono HB5.out.size))
  clear hb HB5 HE_5 HX1_5 HY1_5 HX2_5 HY2_5
  go_wp2_with fail
  with_reducible refine (HRK.out.at c HE_6.out).mono ?_
  rintro e w7 ⟨rfl, hb⟩
  have HE_7 := Lib.hid (HE_6.out.below hb)
  have HX1_7 := Lib.hid (HX1_6.out.below hb)
  have HY1_7 := Lib.hid (HY1_6.out.below hb)
  have HX2_7 := Lib.hid (HX2_6.out.below hb)
  have HY2_7 := Lib.hid (HY2_6.out.below hb)
  have HB7 := Lib.hid (HB6.out.trans (hb.mono HB6.out.size))
  clear hb HB6 HE_6 HX1_6 HY1_6 HX2_6 HY2_6
  go_wp2_with fail
  with_reducible refine (HG.out.at c HE_7.out).mono ?_
  rintro e w8 ⟨rfl, hb⟩
  have HE_8 := Lib.hid (HE_7.out.below hb)
  have HX1_8 := Lib.hid (HX1_7.out.below hb)
  have HY1_8 := Lib.hid (HY1_7.out.below hb)
  have HX2_8 := Lib.hid (HX2_7.out.below hb)
  have HY2_8 := Lib.hid (HY2_7.out.below hb)
  have HB8 := Lib.hid (HB7.out.trans (hb.mono HB7.out.size))
  clear hb HB7 HE_7 HX1_7 HY1_7 HX2_7 HY2_7
  go_wp2_with fail
  with_reducible refine (HRG.out.at c HE_8.out).mono ?_
  rintro e w9 ⟨rfl, hb⟩
  have HE_9 := Lib.hid (HE_8.out.below hb)
  have HX1_9 := Lib.hid (HX1_8.out.below hb)
  have HY1_9 := Lib.hid (HY1_8.out.below hb)
  have HX2_9 := Lib.hid (HX2_8.out.below hb)
  have HY2_9 := Lib.hid (HY2_8.out.below hb)
  have HB9 := Lib.hid (HB8.out.trans (hb.mono HB8.out.size))
  clear hb HB8 HE_8 HX1_8 HY1_8 HX2_8 HY2_8
  go_wp2_with fail
  go_ret
  exact ⟨rfl, HB9.out⟩
end Go.Proofs.Ytcipecjbibpcbaa.S
