/-
  The law MergeOne.
-/
import Derived.Test.YtkflhcfopejigaaGgu
import Derived.BigQuiet
import Derived.Deep.RegionHeld3
namespace Go.Proofs.Ytkflhcfopejigaa.Mg
set_option linter.unusedVariables false
set_option linter.unusedSimpArgs false
open Go.RowKit
open T
open V (drawn_below)
open I (alloc1 own_at own_below)
open Mt (Pr fnd Rt right right_iff)
open N (PrIn PrIn.below pr_own)
open Ck

set_option maxRecDepth 100000 in
set_option maxHeartbeats 4000000 in
theorem gone_walk {O A : Option Addr} {co ca n0 n1 : Nat} {o a : List Ln} {pa po : List Pr} {l1 l2 l3 : List Pc} (w : World) (F0 : Hid (FwM O co n0 o.length)) (F1 : Hid (FwM A ca n1 a.length)) (hO : Tx w O co o) (hA : Tx w A ca a) (HRO : Hid (RgM o true)) (HRA : Hid (RgM a true)) (HPA : Hid (PtM o a pa)) (HPO : Hid (PtM o o po)) (HO1 : Hid (OfM 10 o a o pa po l1 0)) (HO2 : Hid (OfM 10 o o a po pa l2 0)) (HO3 : Hid (OfM 10 o a a pa pa l3 0)) (HL1 : Hid (LmC 16 l1 o a o a 0)) (HL2 : Hid (LmC 16 l2 o o a a 0)) (HL3 : Hid (LmC 16 l3 o a a a 0)) (HS : Hid (SlM a a true)) :
    Calls Try.prog 5 #[.slice O n0 co, .slice A n1 ca] w fun e w' => e = .returned (.bool true) ∧ Below w.heap.size w w' := by
  have HXO := Lib.hid hO
  have HXA := Lib.hid hA
  clear hO hA
  have HB0 : Hid (Below w.heap.size w w) := Lib.hid (Below.refl _ _)
  go_enter Try.func5, Try.ntmps5
  go_wp2_with fail
  with_reducible refine (F0.out.bel _).mono ?_
  rintro e w1 ⟨rfl, hb⟩
  have HO_1 := Lib.hid (HXO.out.below hb)
  have HA_1 := Lib.hid (HXA.out.below hb)
  have HB1 := Lib.hid (HB0.out.trans (hb.mono HB0.out.size))
  clear hb HB0 HXO HXA
  go_wp2_with fail
  with_reducible refine (F1.out.bel _).mono ?_
  rintro e w2 ⟨rfl, hb⟩
  have HO_2 := Lib.hid (HO_1.out.below hb)
  have HA_2 := Lib.hid (HA_1.out.below hb)
  have HB2 := Lib.hid (HB1.out.trans (hb.mono HB1.out.size))
  clear hb HB1 HO_1 HA_1
  go_wp2_with fail
  with_reducible refine (HRO.out.at co HO_2.out.i).mono ?_
  rintro e w3 ⟨rfl, hb⟩
  have HO_3 := Lib.hid (HO_2.out.below hb)
  have HA_3 := Lib.hid (HA_2.out.below hb)
  have HB3 := Lib.hid (HB2.out.trans (hb.mono HB2.out.size))
  clear hb HB2 HO_2 HA_2
  go_wp2_with fail
  with_reducible refine (HRA.out.at ca HA_3.out.i).mono ?_
  rintro e w4 ⟨rfl, hb⟩
  have HO_4 := Lib.hid (HO_3.out.below hb)
  have HA_4 := Lib.hid (HA_3.out.below hb)
  have HB4 := Lib.hid (HB3.out.trans (hb.mono HB3.out.size))
  clear hb HB3 HO_3 HA_3
  go_wp2_with fail
  with_reducible refine (HPA.out.at HO_4.out HA_4.out).mono ?_
  rintro e w5 ⟨P1, c1, rfl, hc, hb⟩
  have HO_5 := Lib.hid (HO_4.out.below hb)
  have HA_5 := Lib.hid (HA_4.out.below hb)
  have HPA_5 := Lib.hid hc
  have HB5 := Lib.hid (HB4.out.trans (hb.mono HB4.out.size))
  clear hb HB4 HO_4 HA_4 hc
  go_wp2_with fail
  with_reducible refine (HPO.out.at HO_5.out HO_5.out).mono ?_
  rintro e w6 ⟨P2, c2, rfl, hc, hb⟩
  have HO_6 := Lib.hid (HO_5.out.below hb)
  have HA_6 := Lib.hid (HA_5.out.below hb)
  have HPA_6 := Lib.hid (HPA_5.out.below hb)
  have HPO_6 := Lib.hid hc
  have HB6 := Lib.hid (HB5.out.trans (hb.mono HB5.out.size))
  clear hb HB5 HO_5 HA_5 HPA_5 hc
  go_wp2_with fail
  with_reducible refine (HO1.out.at c1 c2 HO_6.out HA_6.out HO_6.out HPA_6.out HPO_6.out).mono ?_
  rintro e w7 ⟨C0, k0, rfl, hc, hb⟩
  have HO_7 := Lib.hid (HO_6.out.below hb)
  have HA_7 := Lib.hid (HA_6.out.below hb)
  have HPA_7 := Lib.hid (HPA_6.out.below hb)
  have HPO_7 := Lib.hid (HPO_6.out.below hb)
  have HL0_7 := Lib.hid hc
  have HB7 := Lib.hid (HB6.out.trans (hb.mono HB6.out.size))
  clear hb HB6 HO_6 HA_6 HPA_6 HPO_6 hc
  go_wp2_with fail
  with_reducible refine (HL1.out.at k0 HL0_7.out HO_7.out HA_7.out HO_7.out).mono ?_
  rintro e w8 ⟨D0, m0, rfl, hc, hb⟩
  have HO_8 := Lib.hid (HO_7.out.below hb)
  have HA_8 := Lib.hid (HA_7.out.below hb)
  have HPA_8 := Lib.hid (HPA_7.out.below hb)
  have HPO_8 := Lib.hid (HPO_7.out.below hb)
  have HL0_8 := Lib.hid (HL0_7.out.below hb)
  have HX0_8 := Lib.hid hc
  have HB8 := Lib.hid (HB7.out.trans (hb.mono HB7.out.size))
  clear hb HB7 HO_7 HA_7 HPA_7 HPO_7 HL0_7 hc
  go_wp2_with fail
  with_reducible refine (HO2.out.at c2 c1 HO_8.out HO_8.out HA_8.out HPO_8.out HPA_8.out).mono ?_
  rintro e w9 ⟨C1, k1, rfl, hc, hb⟩
  have HO_9 := Lib.hid (HO_8.out.below hb)
  have HA_9 := Lib.hid (HA_8.out.below hb)
  have HPA_9 := Lib.hid (HPA_8.out.below hb)
  have HPO_9 := Lib.hid (HPO_8.out.below hb)
  have HL0_9 := Lib.hid (HL0_8.out.below hb)
  have HX0_9 := Lib.hid (HX0_8.out.below hb)
  have HL1_9 := Lib.hid hc
  have HB9 := Lib.hid (HB8.out.trans (hb.mono HB8.out.size))
  clear hb HB8 HO_8 HA_8 HPA_8 HPO_8 HL0_8 HX0_8 hc
  go_wp2_with fail
  with_reducible refine (HL2.out.at k1 HL1_9.out HO_9.out HO_9.out HA_9.out).mono ?_
  rintro e w10 ⟨D1, m1, rfl, hc, hb⟩
  have HO_10 := Lib.hid (HO_9.out.below hb)
  have HA_10 := Lib.hid (HA_9.out.below hb)
  have HPA_10 := Lib.hid (HPA_9.out.below hb)
  have HPO_10 := Lib.hid (HPO_9.out.below hb)
  have HL0_10 := Lib.hid (HL0_9.out.below hb)
  have HX0_10 := Lib.hid (HX0_9.out.below hb)
  have HL1_10 := Lib.hid (HL1_9.out.below hb)
  have HX1_10 := Lib.hid hc
  have HB10 := Lib.hid (HB9.out.trans (hb.mono HB9.out.size))
  clear hb HB9 HO_9 HA_9 HPA_9 HPO_9 HL0_9 HX0_9 HL1_9 hc
  go_wp2_with fail
  with_reducible refine (HO3.out.at c1 c1 HO_10.out HA_10.out HA_10.out HPA_10.out HPA_10.out).mono ?_
  rintro e w11 ⟨C2, k2, rfl, hc, hb⟩
  have HO_11 := Lib.hid (HO_10.out.below hb)
  have HA_11 := Lib.hid (HA_10.out.below hb)
  have HPA_11 := Lib.hid (HPA_10.out.below hb)
  have HPO_11 := Lib.hid (HPO_10.out.below hb)
  have HL0_11 := Lib.hid (HL0_10.out.below hb)
  have HX0_11 := Lib.hid (HX0_10.out.below hb)
  have HL1_11 := Lib.hid (HL1_10.out.below hb)
  have HX1_11 := Lib.hid (HX1_10.out.below hb)
  have HL2_11 := Lib.hid hc
  have HB11 := Lib.hid (HB10.out.trans (hb.mono HB10.out.size))
  clear hb HB10 HO_10 HA_10 HPA_10 HPO_10 HL0_10 HX0_10 HL1_10 HX1_10 hc
  go_wp2_with fail
  with_reducible refine (HL3.out.at k2 HL2_11.out HO_11.out HA_11.out HA_11.out).mono ?_
  rintro e w12 ⟨D2, m2, rfl, hc, hb⟩
  have HO_12 := Lib.hid (HO_11.out.below hb)
  have HA_12 := Lib.hid (HA_11.out.below hb)
  have HPA_12 := Lib.hid (HPA_11.out.below hb)
  have HPO_12 := Lib.hid (HPO_11.out.below hb)
  have HL0_12 := Lib.hid (HL0_11.out.below hb)
  have HX0_12 := Lib.hid (HX0_11.out.below hb)
  have HL1_12 := Lib.hid (HL1_11.out.below hb)
  have HX1_12 := Lib.hid (HX1_11.out.below hb)
  have HL2_12 := Lib.hid (HL2_11.out.below hb)
  have HX2_12 := Lib.hid hc
  have HB12 := Lib.hid (HB11.out.trans (hb.mono HB11.out.size))
  clear hb HB11 HO_11 HA_11 HPA_11 HPO_11 HL0_11 HX0_11 HL1_11 HX1_11 HL2_11 hc
  go_wp2_with fail
  with_reducible refine (live14.at _).mono ?_
  rintro e w13 ⟨rfl, hb⟩
  have HO_13 := Lib.hid (HO_12.out.below hb)
  have HA_13 := Lib.hid (HA_12.out.below hb)
  have HPA_13 := Lib.hid (HPA_12.out.below hb)
  have HPO_13 := Lib.hid (HPO_12.out.below hb)
  have HL0_13 := Lib.hid (HL0_12.out.below hb)
  have HX0_13 := Lib.hid (HX0_12.out.below hb)
  have HL1_13 := Lib.hid (HL1_12.out.below hb)
  have HX1_13 := Lib.hid (HX1_12.out.below hb)
  have HL2_13 := Lib.hid (HL2_12.out.below hb)
  have HX2_13 := Lib.hid (HX2_12.out.below hb)
  have HB13 := Lib.hid (HB12.out.trans (hb.mono HB12.out.size))
  clear hb HB12 HO_12 HA_12 HPA_12 HPO_12 HL0_12 HX0_12 HL1_12 HX1_12 HL2_12 HX2_12
  go_wp2_with fail
  with_reducible refine (HS.out.at m0 ca HX0_13.out HA_13.out.i).mono ?_
  rintro e w14 ⟨rfl, hb⟩
  have HO_14 := Lib.hid (HO_13.out.below hb)
  have HA_14 := Lib.hid (HA_13.out.below hb)
  have HPA_14 := Lib.hid (HPA_13.out.below hb)
  have HPO_14 := Lib.hid (HPO_13.out.below hb)
  have HL0_14 := Lib.hid (HL0_13.out.below hb)
  have HX0_14 := Lib.hid (HX0_13.out.below hb)
  have HL1_14 := Lib.hid (HL1_13.out.below hb)
  have HX1_14 := Lib.hid (HX1_13.out.below hb)
  have HL2_14 := Lib.hid (HL2_13.out.below hb)
  have HX2_14 := Lib.hid (HX2_13.out.below hb)
  have HB14 := Lib.hid (HB13.out.trans (hb.mono HB13.out.size))
  clear hb HB13 HO_13 HA_13 HPA_13 HPO_13 HL0_13 HX0_13 HL1_13 HX1_13 HL2_13 HX2_13
  go_wp2_with fail
  with_reducible refine (HS.out.at m1 ca HX1_14.out HA_14.out.i).mono ?_
  rintro e w15 ⟨rfl, hb⟩
  have HO_15 := Lib.hid (HO_14.out.below hb)
  have HA_15 := Lib.hid (HA_14.out.below hb)
  have HPA_15 := Lib.hid (HPA_14.out.below hb)
  have HPO_15 := Lib.hid (HPO_14.out.below hb)
  have HL0_15 := Lib.hid (HL0_14.out.below hb)
  have HX0_15 := Lib.hid (HX0_14.out.below hb)
  have HL1_15 := Lib.hid (HL1_14.out.below hb)
  have HX1_15 := Lib.hid (HX1_14.out.below hb)
  have HL2_15 := Lib.hid (HL2_14.out.below hb)
  have HX2_15 := Lib.hid (HX2_14.out.below hb)
  have HB15 := Lib.hid (HB14.out.trans (hb.mono HB14.out.size))
  clear hb HB14 HO_14 HA_14 HPA_14 HPO_14 HL0_14 HX0_14 HL1_14 HX1_14 HL2_14 HX2_14
  go_wp2_with fail
  with_reducible refine (HS.out.at m2 ca HX2_15.out HA_15.out.i).mono ?_
  rintro e w16 ⟨rfl, hb⟩
  have HO_16 := Lib.hid (HO_15.out.below hb)
  have HA_16 := Lib.hid (HA_15.out.below hb)
  have HPA_16 := Lib.hid (HPA_15.out.below hb)
  have HPO_16 := Lib.hid (HPO_15.out.below hb)
  have HL0_16 := Lib.hid (HL0_15.out.below hb)
  have HX0_16 := Lib.hid (HX0_15.out.below hb)
  have HL1_16 := Lib.hid (HL1_15.out.below hb)
  have HX1_16 := Lib.hid (HX1_15.out.below hb)
  have HL2_16 := Lib.hid (HL2_15.out.below hb)
  have HX2_16 := Lib.hid (HX2_15.out.below hb)
  have HB16 := Lib.hid (HB15.out.trans (hb.mono HB15.out.size))
  clear hb HB15 HO_15 HA_15 HPA_15 HPO_15 HL0_15 HX0_15 HL1_15 HX1_15 HL2_15 HX2_15
  go_wp2_with fail
  go_ret
  exact ⟨rfl, HB16.out⟩
set_option maxRecDepth 100000 in
set_option maxHeartbeats 4000000 in
theorem gone_bad1 {O A : Option Addr} {co ca n0 n1 : Nat} {o a : List Ln} (w : World) (F0 : Hid (FwM O co n0 o.length)) (F1 : Hid (FwM A ca n1 a.length)) (hO : Tx w O co o) (hA : Tx w A ca a) (HRO : Hid (RgM o false)) :
    Calls Try.prog 5 #[.slice O n0 co, .slice A n1 ca] w fun e w' => e = .returned (.bool true) ∧ Below w.heap.size w w' := by
  have HXO := Lib.hid hO
  have HXA := Lib.hid hA
  clear hO hA
  have HB0 : Hid (Below w.heap.size w w) := Lib.hid (Below.refl _ _)
  go_enter Try.func5, Try.ntmps5
  go_wp2_with fail
  with_reducible refine (F0.out.bel _).mono ?_
  rintro e w1 ⟨rfl, hb⟩
  have HO_1 := Lib.hid (HXO.out.below hb)
  have HA_1 := Lib.hid (HXA.out.below hb)
  have HB1 := Lib.hid (HB0.out.trans (hb.mono HB0.out.size))
  clear hb HB0 HXO HXA
  go_wp2_with fail
  with_reducible refine (F1.out.bel _).mono ?_
  rintro e w2 ⟨rfl, hb⟩
  have HO_2 := Lib.hid (HO_1.out.below hb)
  have HA_2 := Lib.hid (HA_1.out.below hb)
  have HB2 := Lib.hid (HB1.out.trans (hb.mono HB1.out.size))
  clear hb HB1 HO_1 HA_1
  go_wp2_with fail
  with_reducible refine (HRO.out.at co HO_2.out.i).mono ?_
  rintro e w3 ⟨rfl, hb⟩
  have HO_3 := Lib.hid (HO_2.out.below hb)
  have HA_3 := Lib.hid (HA_2.out.below hb)
  have HB3 := Lib.hid (HB2.out.trans (hb.mono HB2.out.size))
  clear hb HB2 HO_2 HA_2
  go_wp2_with fail
  with_reducible refine (live14.at _).mono ?_
  rintro e w4 ⟨rfl, hb⟩
  have HO_4 := Lib.hid (HO_3.out.below hb)
  have HA_4 := Lib.hid (HA_3.out.below hb)
  have HB4 := Lib.hid (HB3.out.trans (hb.mono HB3.out.size))
  clear hb HB3 HO_3 HA_3
  go_wp2_with fail
  go_ret
  exact ⟨rfl, HB4.out⟩
set_option maxRecDepth 100000 in
set_option maxHeartbeats 4000000 in
theorem gone_bad2 {O A : Option Addr} {co ca n0 n1 : Nat} {o a : List Ln} (w : World) (F0 : Hid (FwM O co n0 o.length)) (F1 : Hid (FwM A ca n1 a.length)) (hO : Tx w O co o) (hA : Tx w A ca a) (HRO : Hid (RgM o true)) (HRA : Hid (RgM a false)) :
    Calls Try.prog 5 #[.slice O n0 co, .slice A n1 ca] w fun e w' => e = .returned (.bool true) ∧ Below w.heap.size w w' := by
  have HXO := Lib.hid hO
  have HXA := Lib.hid hA
  clear hO hA
  have HB0 : Hid (Below w.heap.size w w) := Lib.hid (Below.refl _ _)
  go_enter Try.func5, Try.ntmps5
  go_wp2_with fail
  with_reducible refine (F0.out.bel _).mono ?_
  rintro e w1 ⟨rfl, hb⟩
  have HO_1 := Lib.hid (HXO.out.below hb)
  have HA_1 := Lib.hid (HXA.out.below hb)
  have HB1 := Lib.hid (HB0.out.trans (hb.mono HB0.out.size))
  clear hb HB0 HXO HXA
  go_wp2_with fail
  with_reducible refine (F1.out.bel _).mono ?_
  rintro e w2 ⟨rfl, hb⟩
  have HO_2 := Lib.hid (HO_1.out.below hb)
  have HA_2 := Lib.hid (HA_1.out.below hb)
  have HB2 := Lib.hid (HB1.out.trans (hb.mono HB1.out.size))
  clear hb HB1 HO_1 HA_1
  go_wp2_with fail
  with_reducible refine (HRO.out.at co HO_2.out.i).mono ?_
  rintro e w3 ⟨rfl, hb⟩
  have HO_3 := Lib.hid (HO_2.out.below hb)
  have HA_3 := Lib.hid (HA_2.out.below hb)
  have HB3 := Lib.hid (HB2.out.trans (hb.mono HB2.out.size))
  clear hb HB2 HO_2 HA_2
  go_wp2_with fail
  with_reducible refine (HRA.out.at ca HA_3.out.i).mono ?_
  rintro e w4 ⟨rfl, hb⟩
  have HO_4 := Lib.hid (HO_3.out.below hb)
  have HA_4 := Lib.hid (HA_3.out.below hb)
  have HB4 := Lib.hid (HB3.out.trans (hb.mono HB3.out.size))
  clear hb HB3 HO_3 HA_3
  go_wp2_with fail
  with_reducible refine (live14.at _).mono ?_
  rintro e w5 ⟨rfl, hb⟩
  have HO_5 := Lib.hid (HO_4.out.below hb)
  have HA_5 := Lib.hid (HA_4.out.below hb)
  have HB5 := Lib.hid (HB4.out.trans (hb.mono HB4.out.size))
  clear hb HB4 HO_4 HA_4
  go_wp2_with fail
  go_ret
  exact ⟨rfl, HB5.out⟩
theorem gone_law {O A : Option Addr} {co ca : Nat} {o a : List Ln} {w : World} (hO : Tx w O co o) (hA : Tx w A ca a) (ho : ∀ y ∈ o, y.1.length ≤ maxLen) (ha : ∀ y ∈ a, y.1.length ≤ maxLen) :
    Calls Try.prog 5 #[.slice O o.length co, .slice A a.length ca] w fun e w' => e = .returned (.bool true) ∧ Below w.heap.size w w' := by
  have l1 := len40 o
  have l2 := len40 a
  have F0 := Lib.hid (c_few (A := O) hO.s hO.r)
  have F1 := Lib.hid (c_few (A := A) hA.s hA.r)
  have tO := hO.take
  have tA := hA.take
  have R0 := c_rright (x := o.take 40) (by omega) (fun y hy => ho y (List.mem_of_mem_take hy))
  have R1 := c_rright (x := a.take 40) (by omega) (fun y hy => ha y (List.mem_of_mem_take hy))
  generalize o.take 40 = x at *
  generalize a.take 40 = y at *
  cases h0 : P.right x with
  | false => rw [h0] at R0; exact gone_bad1 w F0 F1 tO tA (Lib.hid R0)
  | true =>
    rw [h0] at R0
    cases h1 : P.right y with
    | false => rw [h1] at R1; exact gone_bad2 w F0 F1 tO tA (Lib.hid R0) (Lib.hid R1)
    | true =>
      rw [h1] at R1
      have m1 := Nat.le_trans (mt_len x y) (show x.length ≤ 1000 by omega)
      have m2 := Nat.le_trans (mt_len x x) (show x.length ≤ 1000 by omega)
      have e1 := one_lns (o := x) (a := y) (by omega) (by omega) h1
      have e2 := both_lns (o := x) (a := y) (by omega) (by omega) h1
      have o1 := c_of x y x (mt x y) (mt x x) m1 m2
      have o2 := c_of x x y (mt x x) (mt x y) m2 m1
      have o3 := c_of x y y (mt x y) (mt x y) m1 m1
      rw [mt_err (by omega) (by omega) (by omega)] at o1 o2 o3
      have g1 := c_lines (small_of (o := x) (a := y) (b := x) (p := mt x y) (q := mt x x) (by omega) (by omega) (by omega))
      have g2 := c_lines (small_of (o := x) (a := x) (b := y) (p := mt x x) (q := mt x y) (by omega) (by omega) (by omega))
      have g3 := c_lines (small_of (o := x) (a := y) (b := y) (p := mt x y) (q := mt x y) (by omega) (by omega) (by omega))
      rw [e1.1, e1.2.1] at g1
      rw [e1.2.2.1, e1.2.2.2] at g2
      rw [e2.1, e2.2] at g3
      exact gone_walk w F0 F1 tO tA (Lib.hid R0) (Lib.hid R1) (Lib.hid (c_pairs (by omega) (by omega))) (Lib.hid (c_pairs (by omega) (by omega))) (Lib.hid o1) (Lib.hid o2) (Lib.hid o3) (Lib.hid g1) (Lib.hid g2) (Lib.hid g3) (Lib.hid (c_lself tA.s))

end Go.Proofs.Ytkflhcfopejigaa.Mg
