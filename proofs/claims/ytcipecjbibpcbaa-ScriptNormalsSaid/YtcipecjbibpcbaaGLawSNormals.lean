/-
  The law ScriptNormals.
-/
import Derived.Test.YtcipecjbibpcbaaGsh
namespace Go.Proofs.Ytcipecjbibpcbaa.S
set_option linter.unusedVariables false
set_option linter.unusedSimpArgs false
open Go.RowKit
open T
open V (grown_of IntsIn numCells numCells_snoc ints_own drawn_below)
open I (alloc1 own_at own_below)
open N (Ln)
open M (Lv)

set_option maxRecDepth 100000 in
set_option maxHeartbeats 4000000 in
theorem snormals_law {A : Option Addr} {c : Nat} {es : List Ed} {w : World} (hE : EdsIn 0 w A es) (hok : EdsOk es) (hsz : es.length * 32 ≤ 140737488351232) :
    Calls Try.prog 7 #[.slice A es.length c] w fun e w' => e = .returned (.bool true) ∧ Below w.heap.size w w' := by
  have HE := Lib.hid hE
  have HN := Lib.hid (c_normal hok)
  have HRN := Lib.hid (c_rnormal hok)
  have HI := Lib.hid (c_invert hok)
  have HRI := Lib.hid (c_rinvert hok hsz)
  have HSN := Lib.hid (c_esame (EdsOk.of_ck (nrm_ck es)))
  have HSI := Lib.hid (c_esame (EdsOk.of_ck (inv_ck es)))
  have HS := Lib.hid (c_sides hok)
  have HS2 := Lib.hid (c_sides (EdsOk.of_ck (nrm_ck es)))
  have HS3 := Lib.hid (c_sides (EdsOk.of_ck (inv_ck es)))
  rw [sides_nrm] at HS2
  rw [sides_inv] at HS3
  have HX := Lib.hid (c_lsame (l := (sides es).1) (by have := (sides_len es).1; unfold maxLen; omega))
  have HY := Lib.hid (c_lsame (l := (sides es).2) (by have := (sides_len es).2; unfold maxLen; omega))
  have HV := Lib.hid live8
  clear hE hok hsz
  simp only at HS3
  generalize (sides es).1 = x at *
  generalize (sides es).2 = y at *
  generalize ck (nrm es) = q2 at *
  generalize ck (inv es) = q3 at *
  generalize ck es = q at *
  generalize nrm es = n at *
  generalize inv es = v at *
  have hqq : (q != q) = false := by simp
  have HB0 : Hid (Below w.heap.size w w) := Lib.hid (Below.refl _ _)
  go_enter Try.func7, Try.ntmps7
  go_wp2_with fail
  with_reducible refine (HN.out.at c HE.out).mono ?_
  rintro e w1 ⟨A1, c1, rfl, he, hb⟩
  have HE_1 := Lib.hid (HE.out.below hb)
  have HN1_1 := Lib.hid he
  have HB1 := Lib.hid (HB0.out.trans (hb.mono HB0.out.size))
  clear hb HB0 HE he
  go_wp2_with fail
  with_reducible refine (HRN.out.at c HE_1.out).mono ?_
  rintro e w2 ⟨A2, c2, rfl, he, hb⟩
  have HE_2 := Lib.hid (HE_1.out.below hb)
  have HN1_2 := Lib.hid (HN1_1.out.below hb)
  have HN2_2 := Lib.hid he
  have HB2 := Lib.hid (HB1.out.trans (hb.mono HB1.out.size))
  clear hb HB1 HE_1 HN1_1 he
  go_wp2_with fail
  with_reducible refine (HI.out.at c HE_2.out).mono ?_
  rintro e w3 ⟨A3, c3, rfl, he, hb⟩
  have HE_3 := Lib.hid (HE_2.out.below hb)
  have HN1_3 := Lib.hid (HN1_2.out.below hb)
  have HN2_3 := Lib.hid (HN2_2.out.below hb)
  have HI1_3 := Lib.hid he
  have HB3 := Lib.hid (HB2.out.trans (hb.mono HB2.out.size))
  clear hb HB2 HE_2 HN1_2 HN2_2 he
  go_wp2_with fail
  with_reducible refine (HRI.out.at c HE_3.out).mono ?_
  rintro e w4 ⟨A4, c4, rfl, he, hb⟩
  have HE_4 := Lib.hid (HE_3.out.below hb)
  have HN1_4 := Lib.hid (HN1_3.out.below hb)
  have HN2_4 := Lib.hid (HN2_3.out.below hb)
  have HI1_4 := Lib.hid (HI1_3.out.below hb)
  have HI2_4 := Lib.hid he
  have HB4 := Lib.hid (HB3.out.trans (hb.mono HB3.out.size))
  clear hb HB3 HE_3 HN1_3 HN2_3 HI1_3 he
  go_wp2_with fail
  with_reducible refine (HSN.out.at c1 c2 HN1_4.out HN2_4.out).mono ?_
  rintro e w5 ⟨rfl, hb⟩
  have HE_5 := Lib.hid (HE_4.out.below hb)
  have HN1_5 := Lib.hid (HN1_4.out.below hb)
  have HN2_5 := Lib.hid (HN2_4.out.below hb)
  have HI1_5 := Lib.hid (HI1_4.out.below hb)
  have HI2_5 := Lib.hid (HI2_4.out.below hb)
  have HB5 := Lib.hid (HB4.out.trans (hb.mono HB4.out.size))
  clear hb HB4 HE_4 HN1_4 HN2_4 HI1_4 HI2_4
  go_wp2_with fail
  with_reducible refine (HSI.out.at c3 c4 HI1_5.out HI2_5.out).mono ?_
  rintro e w6 ⟨rfl, hb⟩
  have HE_6 := Lib.hid (HE_5.out.below hb)
  have HN1_6 := Lib.hid (HN1_5.out.below hb)
  have HN2_6 := Lib.hid (HN2_5.out.below hb)
  have HI1_6 := Lib.hid (HI1_5.out.below hb)
  have HI2_6 := Lib.hid (HI2_5.out.below hb)
  have HB6 := Lib.hid (HB5.out.trans (hb.mono HB5.out.size))
  clear hb HB5 HE_5 HN1_5 HN2_5 HI1_5 HI2_5
  go_wp2_with fail
  with_reducible refine (HS.out.at c HE_6.out).mono ?_
  rintro e w7 ⟨A5, c5, B5, d5, rfl, hx, hy, hb⟩
  have HE_7 := Lib.hid (HE_6.out.below hb)
  have HN1_7 := Lib.hid (HN1_6.out.below hb)
  have HN2_7 := Lib.hid (HN2_6.out.below hb)
  have HI1_7 := Lib.hid (HI1_6.out.below hb)
  have HI2_7 := Lib.hid (HI2_6.out.below hb)
  have HX1_7 := Lib.hid hx
  have HY1_7 := Lib.hid hy
  have HB7 := Lib.hid (HB6.out.trans (hb.mono HB6.out.size))
  clear hb HB6 HE_6 HN1_6 HN2_6 HI1_6 HI2_6 hx hy
  go_wp2_with fail
  with_reducible refine (HS2.out.at c1 HN1_7.out).mono ?_
  rintro e w8 ⟨A6, c6, B6, d6, rfl, hx, hy, hb⟩
  have HE_8 := Lib.hid (HE_7.out.below hb)
  have HN1_8 := Lib.hid (HN1_7.out.below hb)
  have HN2_8 := Lib.hid (HN2_7.out.below hb)
  have HI1_8 := Lib.hid (HI1_7.out.below hb)
  have HI2_8 := Lib.hid (HI2_7.out.below hb)
  have HX1_8 := Lib.hid (HX1_7.out.below hb)
  have HY1_8 := Lib.hid (HY1_7.out.below hb)
  have HX2_8 := Lib.hid hx
  have HY2_8 := Lib.hid hy
  have HB8 := Lib.hid (HB7.out.trans (hb.mono HB7.out.size))
  clear hb HB7 HE_7 HN1_7 HN2_7 HI1_7 HI2_7 HX1_7 HY1_7 hx hy
  go_wp2_with fail
  with_reducible refine (HS3.out.at c3 HI1_8.out).mono ?_
  rintro e w9 ⟨A7, c7, B7, d7, rfl, hx, hy, hb⟩
  have HE_9 := Lib.hid (HE_8.out.below hb)
  have HN1_9 := Lib.hid (HN1_8.out.below hb)
  have HN2_9 := Lib.hid (HN2_8.out.below hb)
  have HI1_9 := Lib.hid (HI1_8.out.below hb)
  have HI2_9 := Lib.hid (HI2_8.out.below hb)
  have HX1_9 := Lib.hid (HX1_8.out.below hb)
  have HY1_9 := Lib.hid (HY1_8.out.below hb)
  have HX2_9 := Lib.hid (HX2_8.out.below hb)
  have HY2_9 := Lib.hid (HY2_8.out.below hb)
  have HY3_9 := Lib.hid hx
  have HX3_9 := Lib.hid hy
  have HB9 := Lib.hid (HB8.out.trans (hb.mono HB8.out.size))
  clear hb HB8 HE_8 HN1_8 HN2_8 HI1_8 HI2_8 HX1_8 HY1_8 HX2_8 HY2_8 hx hy
  go_wp2_with fail
  with_reducible refine (HV.out.at _).mono ?_
  rintro e w10 ⟨rfl, hb⟩
  have HE_10 := Lib.hid (HE_9.out.below hb)
  have HN1_10 := Lib.hid (HN1_9.out.below hb)
  have HN2_10 := Lib.hid (HN2_9.out.below hb)
  have HI1_10 := Lib.hid (HI1_9.out.below hb)
  have HI2_10 := Lib.hid (HI2_9.out.below hb)
  have HX1_10 := Lib.hid (HX1_9.out.below hb)
  have HY1_10 := Lib.hid (HY1_9.out.below hb)
  have HX2_10 := Lib.hid (HX2_9.out.below hb)
  have HY2_10 := Lib.hid (HY2_9.out.below hb)
  have HY3_10 := Lib.hid (HY3_9.out.below hb)
  have HX3_10 := Lib.hid (HX3_9.out.below hb)
  have HB10 := Lib.hid (HB9.out.trans (hb.mono HB9.out.size))
  clear hb HB9 HE_9 HN1_9 HN2_9 HI1_9 HI2_9 HX1_9 HY1_9 HX2_9 HY2_9 HY3_9 HX3_9
  go_wp2_with fail
  with_reducible refine (HX.out.at c5 c6 HX1_10.out HX2_10.out).mono ?_
  rintro e w11 ⟨rfl, hb⟩
  have HE_11 := Lib.hid (HE_10.out.below hb)
  have HN1_11 := Lib.hid (HN1_10.out.below hb)
  have HN2_11 := Lib.hid (HN2_10.out.below hb)
  have HI1_11 := Lib.hid (HI1_10.out.below hb)
  have HI2_11 := Lib.hid (HI2_10.out.below hb)
  have HX1_11 := Lib.hid (HX1_10.out.below hb)
  have HY1_11 := Lib.hid (HY1_10.out.below hb)
  have HX2_11 := Lib.hid (HX2_10.out.below hb)
  have HY2_11 := Lib.hid (HY2_10.out.below hb)
  have HY3_11 := Lib.hid (HY3_10.out.below hb)
  have HX3_11 := Lib.hid (HX3_10.out.below hb)
  have HB11 := Lib.hid (HB10.out.trans (hb.mono HB10.out.size))
  clear hb HB10 HE_10 HN1_10 HN2_10 HI1_10 HI2_10 HX1_10 HY1_10 HX2_10 HY2_10 HY3_10 HX3_10
  go_wp2_with fail
  with_reducible refine (HY.out.at d5 d6 HY1_11.out HY2_11.out).mono ?_
  rintro e w12 ⟨rfl, hb⟩
  have HE_12 := Lib.hid (HE_11.out.below hb)
  have HN1_12 := Lib.hid (HN1_11.out.below hb)
  have HN2_12 := Lib.hid (HN2_11.out.below hb)
  have HI1_12 := Lib.hid (HI1_11.out.below hb)
  have HI2_12 := Lib.hid (HI2_11.out.below hb)
  have HX1_12 := Lib.hid (HX1_11.out.below hb)
  have HY1_12 := Lib.hid (HY1_11.out.below hb)
  have HX2_12 := Lib.hid (HX2_11.out.below hb)
  have HY2_12 := Lib.hid (HY2_11.out.below hb)
  have HY3_12 := Lib.hid (HY3_11.out.below hb)
  have HX3_12 := Lib.hid (HX3_11.out.below hb)
  have HB12 := Lib.hid (HB11.out.trans (hb.mono HB11.out.size))
  clear hb HB11 HE_11 HN1_11 HN2_11 HI1_11 HI2_11 HX1_11 HY1_11 HX2_11 HY2_11 HY3_11 HX3_11
  go_wp2_with fail
  with_reducible refine (HX.out.at c5 d7 HX1_12.out HX3_12.out).mono ?_
  rintro e w13 ⟨rfl, hb⟩
  have HE_13 := Lib.hid (HE_12.out.below hb)
  have HN1_13 := Lib.hid (HN1_12.out.below hb)
  have HN2_13 := Lib.hid (HN2_12.out.below hb)
  have HI1_13 := Lib.hid (HI1_12.out.below hb)
  have HI2_13 := Lib.hid (HI2_12.out.below hb)
  have HX1_13 := Lib.hid (HX1_12.out.below hb)
  have HY1_13 := Lib.hid (HY1_12.out.below hb)
  have HX2_13 := Lib.hid (HX2_12.out.below hb)
  have HY2_13 := Lib.hid (HY2_12.out.below hb)
  have HY3_13 := Lib.hid (HY3_12.out.below hb)
  have HX3_13 := Lib.hid (HX3_12.out.below hb)
  have HB13 := Lib.hid (HB12.out.trans (hb.mono HB12.out.size))
  clear hb HB12 HE_12 HN1_12 HN2_12 HI1_12 HI2_12 HX1_12 HY1_12 HX2_12 HY2_12 HY3_12 HX3_12
  go_wp2_with fail
  with_reducible refine (HY.out.at d5 c7 HY1_13.out HY3_13.out).mono ?_
  rintro e w14 ⟨rfl, hb⟩
  have HE_14 := Lib.hid (HE_13.out.below hb)
  have HN1_14 := Lib.hid (HN1_13.out.below hb)
  have HN2_14 := Lib.hid (HN2_13.out.below hb)
  have HI1_14 := Lib.hid (HI1_13.out.below hb)
  have HI2_14 := Lib.hid (HI2_13.out.below hb)
  have HX1_14 := Lib.hid (HX1_13.out.below hb)
  have HY1_14 := Lib.hid (HY1_13.out.below hb)
  have HX2_14 := Lib.hid (HX2_13.out.below hb)
  have HY2_14 := Lib.hid (HY2_13.out.below hb)
  have HY3_14 := Lib.hid (HY3_13.out.below hb)
  have HX3_14 := Lib.hid (HX3_13.out.below hb)
  have HB14 := Lib.hid (HB13.out.trans (hb.mono HB13.out.size))
  clear hb HB13 HE_13 HN1_13 HN2_13 HI1_13 HI2_13 HX1_13 HY1_13 HX2_13 HY2_13 HY3_13 HX3_13
  go_wp2_with fail
  go_ret
  exact ⟨rfl, HB14.out⟩
end Go.Proofs.Ytcipecjbibpcbaa.S
