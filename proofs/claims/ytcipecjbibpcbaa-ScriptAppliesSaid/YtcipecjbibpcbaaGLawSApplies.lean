/-
  The law ScriptApplies.
-/
import Derived.Test.YtcipecjbibpcbaaGsh
namespace Go.Proofs.Ytcipecjbibpcbaa.S
set_option linter.unusedVariables false
set_option linter.unusedSimpArgs false
open Go.RowKit
open T
open V (grown_of IntsIn numCells numCells_snoc ints_own drawn_below)
open I (alloc1 own_at own_below)
open N (Ln)
open M (Lv)

theorem apl_len (es : List Ed) (a : List Ln) : (apl es a).1.length ≤ 800 := by
  unfold apl
  split
  · rename_i hc
    have := (ck_ok hc).2.1
    have := sd_len 2 es
    split
    · simp only; omega
    · simp
  · simp
set_option maxRecDepth 100000 in
set_option maxHeartbeats 4000000 in
theorem sapplies_law {A B : Option Addr} {c c' : Nat} {es : List Ed} {a : List Ln} {w : World} (hE : EdsIn 0 w A es) (hok : EdsOk es) (hL : LinesIn w B a) (ha : a.length ≤ maxLen) :
    Calls Try.prog 8 #[.slice A es.length c, .slice B a.length c'] w fun e w' => e = .returned (.bool true) ∧ Below w.heap.size w w' := by
  have HE := Lib.hid hE
  have HL := Lib.hid hL
  have HA := Lib.hid (c_apply hok ha)
  have HRA := Lib.hid (c_rapply hok ha)
  have HX := Lib.hid (c_lsame (l := (apl es a).1) (by unfold maxLen; have := apl_len es a; omega))
  have HV := Lib.hid live8
  clear hE hL hok ha
  generalize (apl es a).1 = x at *
  generalize (apl es a).2 = q at *
  have hqq : (q == q) = true := by simp
  have HB0 : Hid (Below w.heap.size w w) := Lib.hid (Below.refl _ _)
  go_enter Try.func8, Try.ntmps8
  go_wp2_with fail
  with_reducible refine (HA.out.at c c' HE.out HL.out).mono ?_
  rintro e w1 ⟨A1, c1, rfl, hx, hb⟩
  have HE_1 := Lib.hid (HE.out.below hb)
  have HL_1 := Lib.hid (HL.out.below hb)
  have HX1_1 := Lib.hid hx
  have HB1 := Lib.hid (HB0.out.trans (hb.mono HB0.out.size))
  clear hb HB0 HE HL hx
  go_wp2_with fail
  with_reducible refine (HRA.out.at c c' HE_1.out HL_1.out).mono ?_
  rintro e w2 ⟨A2, c2, rfl, hx, hb⟩
  have HE_2 := Lib.hid (HE_1.out.below hb)
  have HL_2 := Lib.hid (HL_1.out.below hb)
  have HX1_2 := Lib.hid (HX1_1.out.below hb)
  have HX2_2 := Lib.hid hx
  have HB2 := Lib.hid (HB1.out.trans (hb.mono HB1.out.size))
  clear hb HB1 HE_1 HL_1 HX1_1 hx
  go_wp2_with fail
  with_reducible refine (HV.out.at _).mono ?_
  rintro e w3 ⟨rfl, hb⟩
  have HE_3 := Lib.hid (HE_2.out.below hb)
  have HL_3 := Lib.hid (HL_2.out.below hb)
  have HX1_3 := Lib.hid (HX1_2.out.below hb)
  have HX2_3 := Lib.hid (HX2_2.out.below hb)
  have HB3 := Lib.hid (HB2.out.trans (hb.mono HB2.out.size))
  clear hb HB2 HE_2 HL_2 HX1_2 HX2_2
  go_wp2_with fail
  with_reducible refine (HX.out.at c1 c2 HX1_3.out HX2_3.out).mono ?_
  rintro e w4 ⟨rfl, hb⟩
  have HE_4 := Lib.hid (HE_3.out.below hb)
  have HL_4 := Lib.hid (HL_3.out.below hb)
  have HX1_4 := Lib.hid (HX1_3.out.below hb)
  have HX2_4 := Lib.hid (HX2_3.out.below hb)
  have HB4 := Lib.hid (HB3.out.trans (hb.mono HB3.out.size))
  clear hb HB3 HE_3 HL_3 HX1_3 HX2_3
  go_wp2_with fail
  go_ret
  exact ⟨rfl, HB4.out⟩
end Go.Proofs.Ytcipecjbibpcbaa.S
