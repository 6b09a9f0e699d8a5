/-
  The law MergeTurns.
-/
import Derived.Test.YtkflhcfopejigaaGgu
import Derived.BigQuiet
import Derived.Deep.RegionHeld3
namespace Go.Proofs.Ytkflhcfopejigaa.Mg
set_option linter.unusedVariables false
set_option linter.unusedSimpArgs false
open Go.RowKit
open T
open V (drawn_below)
open I (alloc1 own_at own_below)
open Mt (Pr fnd Rt right right_iff)
open N (PrIn PrIn.below pr_own)
open Ck

set_option maxRecDepth 100000 in
set_option maxHeartbeats 4000000 in
theorem gturns_bad0 {O A B : Option Addr} {co ca cb n0 n1 n2 : Nat} {o a b : List Ln} (w : World) (F0 : Hid (FwM O co n0 o.length)) (F1 : Hid (FwM A ca n1 a.length)) (F2 : Hid (FwM B cb n2 b.length)) (hO : Tx w O co o) (hA : Tx w A ca a) (hB : Tx w B cb b) (HRO : Hid (RgM o false)) :
    Calls Try.prog 6 #[.slice O n0 co, .slice A n1 ca, .slice B n2 cb] w fun e w' => e = .returned (.bool true) ∧ Below w.heap.size w w' := by
  have HXO := Lib.hid hO
  have HXA := Lib.hid hA
  have HXB := Lib.hid hB
  clear hO hA hB
  have HB0 : Hid (Below w.heap.size w w) := Lib.hid (Below.refl _ _)
  go_enter Try.func6, Try.ntmps6
  go_wp2_with fail
  with_reducible refine (F0.out.bel _).mono ?_
  rintro e w1 ⟨rfl, hb⟩
  have HO_1 := Lib.hid (HXO.out.below hb)
  have HA_1 := Lib.hid (HXA.out.below hb)
  have HB_1 := Lib.hid (HXB.out.below hb)
  have HB1 := Lib.hid (HB0.out.trans (hb.mono HB0.out.size))
  clear hb HB0 HXO HXA HXB
  go_wp2_with fail
  with_reducible refine (F1.out.bel _).mono ?_
  rintro e w2 ⟨rfl, hb⟩
  have HO_2 := Lib.hid (HO_1.out.below hb)
  have HA_2 := Lib.hid (HA_1.out.below hb)
  have HB_2 := Lib.hid (HB_1.out.below hb)
  have HB2 := Lib.hid (HB1.out.trans (hb.mono HB1.out.size))
  clear hb HB1 HO_1 HA_1 HB_1
  go_wp2_with fail
  with_reducible refine (F2.out.bel _).mono ?_
  rintro e w3 ⟨rfl, hb⟩
  have HO_3 := Lib.hid (HO_2.out.below hb)
  have HA_3 := Lib.hid (HA_2.out.below hb)
  have HB_3 := Lib.hid (HB_2.out.below hb)
  have HB3 := Lib.hid (HB2.out.trans (hb.mono HB2.out.size))
  clear hb HB2 HO_2 HA_2 HB_2
  go_wp2_with fail
  with_reducible refine (HRO.out.at co HO_3.out.i).mono ?_
  rintro e w4 ⟨rfl, hb⟩
  have HO_4 := Lib.hid (HO_3.out.below hb)
  have HA_4 := Lib.hid (HA_3.out.below hb)
  have HB_4 := Lib.hid (HB_3.out.below hb)
  have HB4 := Lib.hid (HB3.out.trans (hb.mono HB3.out.size))
  clear hb HB3 HO_3 HA_3 HB_3
  go_wp2_with fail
  with_reducible refine (live14.at _).mono ?_
  rintro e w5 ⟨rfl, hb⟩
  have HO_5 := Lib.hid (HO_4.out.below hb)
  have HA_5 := Lib.hid (HA_4.out.below hb)
  have HB_5 := Lib.hid (HB_4.out.below hb)
  have HB5 := Lib.hid (HB4.out.trans (hb.mono HB4.out.size))
  clear hb HB4 HO_4 HA_4 HB_4
  go_wp2_with fail
  go_ret
  exact ⟨rfl, HB5.out⟩
set_option maxRecDepth 100000 in
set_option maxHeartbeats 4000000 in
theorem gturns_bad1 {O A B : Option Addr} {co ca cb n0 n1 n2 : Nat} {o a b : List Ln} (w : World) (F0 : Hid (FwM O co n0 o.length)) (F1 : Hid (FwM A ca n1 a.length)) (F2 : Hid (FwM B cb n2 b.length)) (hO : Tx w O co o) (hA : Tx w A ca a) (hB : Tx w B cb b) (HRO : Hid (RgM o true)) (HRA : Hid (RgM a false)) :
    Calls Try.prog 6 #[.slice O n0 co, .slice A n1 ca, .slice B n2 cb] w fun e w' => e = .returned (.bool true) ∧ Below w.heap.size w w' := by
  have HXO := Lib.hid hO
  have HXA := Lib.hid hA
  have HXB := Lib.hid hB
  clear hO hA hB
  have HB0 : Hid (Below w.heap.size w w) := Lib.hid (Below.refl _ _)
  go_enter Try.func6, Try.ntmps6
  go_wp2_with fail
  with_reducible refine (F0.out.bel _).mono ?_
  rintro e w1 ⟨rfl, hb⟩
  have HO_1 := Lib.hid (HXO.out.below hb)
  have HA_1 := Lib.hid (HXA.out.below hb)
  have HB_1 := Lib.hid (HXB.out.below hb)
  have HB1 := Lib.hid (HB0.out.trans (hb.mono HB0.out.size))
  clear hb HB0 HXO HXA HXB
  go_wp2_with fail
  with_reducible refine (F1.out.bel _).mono ?_
  rintro e w2 ⟨rfl, hb⟩
  have HO_2 := Lib.hid (HO_1.out.below hb)
  have HA_2 := Lib.hid (HA_1.out.below hb)
  have HB_2 := Lib.hid (HB_1.out.below hb)
  have HB2 := Lib.hid (HB1.out.trans (hb.mono HB1.out.size))
  clear hb HB1 HO_1 HA_1 HB_1
  go_wp2_with fail
  with_reducible refine (F2.out.bel _).mono ?_
  rintro e w3 ⟨rfl, hb⟩
  have HO_3 := Lib.hid (HO_2.out.below hb)
  have HA_3 := Lib.hid (HA_2.out.below hb)
  have HB_3 := Lib.hid (HB_2.out.below hb)
  have HB3 := Lib.hid (HB2.out.trans (hb.mono HB2.out.size))
  clear hb HB2 HO_2 HA_2 HB_2
  go_wp2_with fail
  with_reducible refine (HRO.out.at co HO_3.out.i).mono ?_
  rintro e w4 ⟨rfl, hb⟩
  have HO_4 := Lib.hid (HO_3.out.below hb)
  have HA_4 := Lib.hid (HA_3.out.below hb)
  have HB_4 := Lib.hid (HB_3.out.below hb)
  have HB4 := Lib.hid (HB3.out.trans (hb.mono HB3.out.size))
  clear hb HB3 HO_3 HA_3 HB_3
  go_wp2_with fail
  with_reducible refine (HRA.out.at ca HA_4.out.i).mono ?_
  rintro e w5 ⟨rfl, hb⟩
  have HO_5 := Lib.hid (HO_4.out.below hb)
  have HA_5 := Lib.hid (HA_4.out.below hb)
  have HB_5 := Lib.hid (HB_4.out.below hb)
  have HB5 := Lib.hid (HB4.out.trans (hb.mono HB4.out.size))
  clear hb HB4 HO_4 HA_4 HB_4
  go_wp2_with fail
  with_reducible refine (live14.at _).mono ?_
  rintro e w6 ⟨rfl, hb⟩
  have HO_6 := Lib.hid (HO_5.out.below hb)
  have HA_6 := Lib.hid (HA_5.out.below hb)
  have HB_6 := Lib.hid (HB_5.out.below hb)
  have HB6 := Lib.hid (HB5.out.trans (hb.mono HB5.out.size))
  clear hb HB5 HO_5 HA_5 HB_5
  go_wp2_with fail
  go_ret
  exact ⟨rfl, HB6.out⟩
set_option maxRecDepth 100000 in
set_option maxHeartbeats 4000000 in
theorem gturns_bad2 {O A B : Option Addr} {co ca cb n0 n1 n2 : Nat} {o a b : List Ln} (w : World) (F0 : Hid (FwM O co n0 o.length)) (F1 : Hid (FwM A ca n1 a.length)) (F2 : Hid (FwM B cb n2 b.length)) (hO : Tx w O co o) (hA : Tx w A ca a) (hB : Tx w B cb b) (HRO : Hid (RgM o true)) (HRA : Hid (RgM a true)) (HRB : Hid (RgM b false)) :
    Calls Try.prog 6 #[.slice O n0 co, .slice A n1 ca, .slice B n2 cb] w fun e w' => e = .returned (.bool true) ∧ Below w.heap.size w w' := by
  have HXO := Lib.hid hO
  have HXA := Lib.hid hA
  have HXB := Lib.hid hB
  clear hO hA hB
  have HB0 : Hid (Below w.heap.size w w) := Lib.hid (Below.refl _ _)
  go_enter Try.func6, Try.ntmps6
  go_wp2_with fail
  with_reducible refine (F0.out.bel _).mono ?_
  rintro e w1 ⟨rfl, hb⟩
  have HO_1 := Lib.hid (HXO.out.below hb)
  have HA_1 := Lib.hid (HXA.out.below hb)
  have HB_1 := Lib.hid (HXB.out.below hb)
  have HB1 := Lib.hid (HB0.out.trans (hb.mono HB0.out.size))
  clear hb HB0 HXO HXA HXB
  go_wp2_with fail
  with_reducible refine (F1.out.bel _).mono ?_
  rintro e w2 ⟨rfl, hb⟩
  have HO_2 := Lib.hid (HO_1.out.below hb)
  have HA_2 := Lib.hid (HA_1.out.below hb)
  have HB_2 := Lib.hid (HB_1.out.below hb)
  have HB2 := Lib.hid (HB1.out.trans (hb.mono HB1.out.size))
  clear hb HB1 HO_1 HA_1 HB_1
  go_wp2_with fail
  with_reducible refine (F2.out.bel _).mono ?_
  rintro e w3 ⟨rfl, hb⟩
  have HO_3 := Lib.hid (HO_2.out.below hb)
  have HA_3 := Lib.hid (HA_2.out.below hb)
  have HB_3 := Lib.hid (HB_2.out.below hb)
  have HB3 := Lib.hid (HB2.out.trans (hb.mono HB2.out.size))
  clear hb HB2 HO_2 HA_2 HB_2
  go_wp2_with fail
  with_reducible refine (HRO.out.at co HO_3.out.i).mono ?_
  rintro e w4 ⟨rfl, hb⟩
  have HO_4 := Lib.hid (HO_3.out.below hb)
  have HA_4 := Lib.hid (HA_3.out.below hb)
  have HB_4 := Lib.hid (HB_3.out.below hb)
  have HB4 := Lib.hid (HB3.out.trans (hb.mono HB3.out.size))
  clear hb HB3 HO_3 HA_3 HB_3
  go_wp2_with fail
  with_reducible refine (HRA.out.at ca HA_4.out.i).mono ?_
  rintro e w5 ⟨rfl, hb⟩
  have HO_5 := Lib.hid (HO_4.out.below hb)
  have HA_5 := Lib.hid (HA_4.out.below hb)
  have HB_5 := Lib.hid (HB_4.out.below hb)
  have HB5 := Lib.hid (HB4.out.trans (hb.mono HB4.out.size))
  clear hb HB4 HO_4 HA_4 HB_4
  go_wp2_with fail
  with_reducible refine (HRB.out.at cb HB_5.out.i).mono ?_
  rintro e w6 ⟨rfl, hb⟩
  have HO_6 := Lib.hid (HO_5.out.below hb)
  have HA_6 := Lib.hid (HA_5.out.below hb)
  have HB_6 := Lib.hid (HB_5.out.below hb)
  have HB6 := Lib.hid (HB5.out.trans (hb.mono HB5.out.size))
  clear hb HB5 HO_5 HA_5 HB_5
  go_wp2_with fail
  with_reducible refine (live14.at _).mono ?_
  rintro e w7 ⟨rfl, hb⟩
  have HO_7 := Lib.hid (HO_6.out.below hb)
  have HA_7 := Lib.hid (HA_6.out.below hb)
  have HB_7 := Lib.hid (HB_6.out.below hb)
  have HB7 := Lib.hid (HB6.out.trans (hb.mono HB6.out.size))
  clear hb HB6 HO_6 HA_6 HB_6
  go_wp2_with fail
  go_ret
  exact ⟨rfl, HB7.out⟩
set_option maxRecDepth 100000 in
set_option maxHeartbeats 4000000 in
theorem gturns_true {O A B : Option Addr} {co ca cb n0 n1 n2 : Nat} {o a b x : List Ln} {pa pb : List Pr} {l m : List Pc} {z : Int} (w : World) (F0 : Hid (FwM O co n0 o.length)) (F1 : Hid (FwM A ca n1 a.length)) (F2 : Hid (FwM B cb n2 b.length)) (hO : Tx w O co o) (hA : Tx w A ca a) (hB : Tx w B cb b) (HRO : Hid (RgM o true)) (HRA : Hid (RgM a true)) (HRB : Hid (RgM b true)) (HPA : Hid (PtM o a pa)) (HPB : Hid (PtM o b pb)) (HO1 : Hid (OfM 10 o a b pa pb l 0)) (hl4 : l.length ≤ 4000) (HO2 : Hid (OfM 10 o b a pb pa m 0)) (HML : Hid (m.length = l.length)) (HMS : Hid (∀ k (h : k < l.length), (m[k]'(by rw [HML.out]; exact h)).sd = tsd l[k].sd)) (HC1 : Hid (ClM 14 l true)) (HC2 : Hid (ClM 14 m true)) (HL1 : Hid (LmC 16 l o a b x z)) (HL2 : Hid (LmC 16 m o b a x z)) (HS : Hid (SlM x x true))  :
    Calls Try.prog 6 #[.slice O n0 co, .slice A n1 ca, .slice B n2 cb] w fun e w' => e = .returned (.bool true) ∧ Below w.heap.size w w' := by
  have HXO := Lib.hid hO
  have HXA := Lib.hid hA
  have HXB := Lib.hid hB
  clear hO hA hB
  have HB0 : Hid (Below w.heap.size w w) := Lib.hid (Below.refl _ _)
  go_enter Try.func6, Try.ntmps6
  go_wp2_with fail
  with_reducible refine (F0.out.bel _).mono ?_
  rintro e w1 ⟨rfl, hb⟩
  have HO_1 := Lib.hid (HXO.out.below hb)
  have HA_1 := Lib.hid (HXA.out.below hb)
  have HB_1 := Lib.hid (HXB.out.below hb)
  have HB1 := Lib.hid (HB0.out.trans (hb.mono HB0.out.size))
  clear hb HB0 HXO HXA HXB
  go_wp2_with fail
  with_reducible refine (F1.out.bel _).mono ?_
  rintro e w2 ⟨rfl, hb⟩
  have HO_2 := Lib.hid (HO_1.out.below hb)
  have HA_2 := Lib.hid (HA_1.out.below hb)
  have HB_2 := Lib.hid (HB_1.out.below hb)
  have HB2 := Lib.hid (HB1.out.trans (hb.mono HB1.out.size))
  clear hb HB1 HO_1 HA_1 HB_1
  go_wp2_with fail
  with_reducible refine (F2.out.bel _).mono ?_
  rintro e w3 ⟨rfl, hb⟩
  have HO_3 := Lib.hid (HO_2.out.below hb)
  have HA_3 := Lib.hid (HA_2.out.below hb)
  have HB_3 := Lib.hid (HB_2.out.below hb)
  have HB3 := Lib.hid (HB2.out.trans (hb.mono HB2.out.size))
  clear hb HB2 HO_2 HA_2 HB_2
  go_wp2_with fail
  with_reducible refine (HRO.out.at co HO_3.out.i).mono ?_
  rintro e w4 ⟨rfl, hb⟩
  have HO_4 := Lib.hid (HO_3.out.below hb)
  have HA_4 := Lib.hid (HA_3.out.below hb)
  have HB_4 := Lib.hid (HB_3.out.below hb)
  have HB4 := Lib.hid (HB3.out.trans (hb.mono HB3.out.size))
  clear hb HB3 HO_3 HA_3 HB_3
  go_wp2_with fail
  with_reducible refine (HRA.out.at ca HA_4.out.i).mono ?_
  rintro e w5 ⟨rfl, hb⟩
  have HO_5 := Lib.hid (HO_4.out.below hb)
  have HA_5 := Lib.hid (HA_4.out.below hb)
  have HB_5 := Lib.hid (HB_4.out.below hb)
  have HB5 := Lib.hid (HB4.out.trans (hb.mono HB4.out.size))
  clear hb HB4 HO_4 HA_4 HB_4
  go_wp2_with fail
  with_reducible refine (HRB.out.at cb HB_5.out.i).mono ?_
  rintro e w6 ⟨rfl, hb⟩
  have HO_6 := Lib.hid (HO_5.out.below hb)
  have HA_6 := Lib.hid (HA_5.out.below hb)
  have HB_6 := Lib.hid (HB_5.out.below hb)
  have HB6 := Lib.hid (HB5.out.trans (hb.mono HB5.out.size))
  clear hb HB5 HO_5 HA_5 HB_5
  go_wp2_with fail
  with_reducible refine (HPA.out.at HO_6.out HA_6.out).mono ?_
  rintro e w7 ⟨P1, c1, rfl, hc, hb⟩
  have HO_7 := Lib.hid (HO_6.out.below hb)
  have HA_7 := Lib.hid (HA_6.out.below hb)
  have HB_7 := Lib.hid (HB_6.out.below hb)
  have HPA_7 := Lib.hid hc
  have HB7 := Lib.hid (HB6.out.trans (hb.mono HB6.out.size))
  clear hb HB6 HO_6 HA_6 HB_6 hc
  go_wp2_with fail
  with_reducible refine (HPB.out.at HO_7.out HB_7.out).mono ?_
  rintro e w8 ⟨P2, c2, rfl, hc, hb⟩
  have HO_8 := Lib.hid (HO_7.out.below hb)
  have HA_8 := Lib.hid (HA_7.out.below hb)
  have HB_8 := Lib.hid (HB_7.out.below hb)
  have HPA_8 := Lib.hid (HPA_7.out.below hb)
  have HPB_8 := Lib.hid hc
  have HB8 := Lib.hid (HB7.out.trans (hb.mono HB7.out.size))
  clear hb HB7 HO_7 HA_7 HB_7 HPA_7 hc
  go_wp2_with fail
  with_reducible refine (HO1.out.at c1 c2 HO_8.out HA_8.out HB_8.out HPA_8.out HPB_8.out).mono ?_
  rintro e w9 ⟨C1, k1, rfl, hc, hb⟩
  have HO_9 := Lib.hid (HO_8.out.below hb)
  have HA_9 := Lib.hid (HA_8.out.below hb)
  have HB_9 := Lib.hid (HB_8.out.below hb)
  have HPA_9 := Lib.hid (HPA_8.out.below hb)
  have HPB_9 := Lib.hid (HPB_8.out.below hb)
  have HL_9 := Lib.hid hc
  have HB9 := Lib.hid (HB8.out.trans (hb.mono HB8.out.size))
  clear hb HB8 HO_8 HA_8 HB_8 HPA_8 HPB_8 hc
  go_wp2_with fail
  with_reducible refine (HO2.out.at c2 c1 HO_9.out HB_9.out HA_9.out HPB_9.out HPA_9.out).mono ?_
  rintro e w10 ⟨C2, k2, rfl, hc, hb⟩
  have HO_10 := Lib.hid (HO_9.out.below hb)
  have HA_10 := Lib.hid (HA_9.out.below hb)
  have HB_10 := Lib.hid (HB_9.out.below hb)
  have HPA_10 := Lib.hid (HPA_9.out.below hb)
  have HPB_10 := Lib.hid (HPB_9.out.below hb)
  have HL_10 := Lib.hid (HL_9.out.below hb)
  have HM_10 := Lib.hid hc
  have HB10 := Lib.hid (HB9.out.trans (hb.mono HB9.out.size))
  clear hb HB9 HO_9 HA_9 HB_9 HPA_9 HPB_9 HL_9 hc
  have hne : ((l.length : Int) != (m.length : Int)) = false := by rw [HML.out]; simp
  go_wp2_with fail
  with_reducible refine (HC1.out.at k1 HL_10.out).mono ?_
  rintro e w11 ⟨rfl, hb⟩
  have HO_11 := Lib.hid (HO_10.out.below hb)
  have HA_11 := Lib.hid (HA_10.out.below hb)
  have HB_11 := Lib.hid (HB_10.out.below hb)
  have HPA_11 := Lib.hid (HPA_10.out.below hb)
  have HPB_11 := Lib.hid (HPB_10.out.below hb)
  have HL_11 := Lib.hid (HL_10.out.below hb)
  have HM_11 := Lib.hid (HM_10.out.below hb)
  have HB11 := Lib.hid (HB10.out.trans (hb.mono HB10.out.size))
  clear hb HB10 HO_10 HA_10 HB_10 HPA_10 HPB_10 HL_10 HM_10
  go_wp2_with fail
  with_reducible refine (HC2.out.at k2 HM_11.out).mono ?_
  rintro e w12 ⟨rfl, hb⟩
  have HO_12 := Lib.hid (HO_11.out.below hb)
  have HA_12 := Lib.hid (HA_11.out.below hb)
  have HB_12 := Lib.hid (HB_11.out.below hb)
  have HPA_12 := Lib.hid (HPA_11.out.below hb)
  have HPB_12 := Lib.hid (HPB_11.out.below hb)
  have HL_12 := Lib.hid (HL_11.out.below hb)
  have HM_12 := Lib.hid (HM_11.out.below hb)
  have HB12 := Lib.hid (HB11.out.trans (hb.mono HB11.out.size))
  clear hb HB11 HO_11 HA_11 HB_11 HPA_11 HPB_11 HL_11 HM_11
  go_wp2_with fail
  go_loopg [13, 14] l.length (fun mm i t wr => ∃ k : Nat, k ≤ l.length ∧ i = .int .i64 (k : Int) ∧ l.length - k ≤ mm ∧ Below w12.heap.size w12 wr)
  case atStart => exact ⟨0, Nat.zero_le _, rfl, by omega, Below.refl _ _⟩
  case round =>
    obtain ⟨k, hk, rfl, hm, hbr⟩ := hrel
    by_cases hlt : k < l.length
    · obtain ⟨bk, off, hAe, hbk, hI⟩ := (HL_12.out.below hbr) (by omega)
      obtain ⟨bk2, off2, hAe2, hbk2, hI2⟩ := (HM_12.out.below hbr) (by rw [HML.out]; omega)
      subst hAe hAe2
      have g0 := (hI k hlt).1
      have d0 := (hI2 k (by rw [HML.out]; exact hlt)).1
      rw [HMS.out k hlt] at d0
      have h0k : (0 : Int) ≤ (k : Int) := by omega
      have hki : (k : Int) < (l.length : Int) := by omega
      have hki2 : (k : Int) < (m.length : Int) := by rw [HML.out]; omega
      have HBR := Lib.hid hbr
      generalize (l[k]'hlt).sd = sd at *
      clear hI hI2 hbk hbk2 hbr
      by_cases h2 : sd = 2
      · subst h2
        rw [show tsd 2 = 3 from rfl] at d0
        go_wp2_with fail
        go_roundg (l.length - (k + 1))
        case rel => exact ⟨k + 1, by omega, by go_num, Nat.le_refl _, HBR.out⟩
        case measure => omega
      · by_cases h3 : sd = 3
        · subst h3
          rw [show tsd 3 = 2 from rfl] at d0
          clear h2
          go_wp2_with fail
          go_roundg (l.length - (k + 1))
          case rel => exact ⟨k + 1, by omega, by go_num, Nat.le_refl _, HBR.out⟩
          case measure => omega
        · rw [show tsd sd = sd from by unfold tsd; rw [if_neg h2, if_neg h3]] at d0
          go_wp2_with fail
          go_roundg (l.length - (k + 1))
          case rel => exact ⟨k + 1, by omega, by go_num, Nat.le_refl _, HBR.out⟩
          case measure => omega
    · obtain rfl : k = l.length := by omega
      have HO_13 := Lib.hid (HO_12.out.below hbr)
      have HA_13 := Lib.hid (HA_12.out.below hbr)
      have HB_13 := Lib.hid (HB_12.out.below hbr)
      have HPA_13 := Lib.hid (HPA_12.out.below hbr)
      have HPB_13 := Lib.hid (HPB_12.out.below hbr)
      have HL_13 := Lib.hid (HL_12.out.below hbr)
      have HM_13 := Lib.hid (HM_12.out.below hbr)
      have HB13 := Lib.hid (HB12.out.trans (hbr.mono HB12.out.size))
      clear hbr HB12 HO_12 HA_12 HB_12 HPA_12 HPB_12 HL_12 HM_12
      go_wp2_with fail
      with_reducible refine (HL1.out.at k1 HL_13.out HO_13.out HA_13.out HB_13.out).mono ?_
      rintro e w14 ⟨C3, k3, rfl, hc, hb⟩
      have HO_14 := Lib.hid (HO_13.out.below hb)
      have HA_14 := Lib.hid (HA_13.out.below hb)
      have HB_14 := Lib.hid (HB_13.out.below hb)
      have HPA_14 := Lib.hid (HPA_13.out.below hb)
      have HPB_14 := Lib.hid (HPB_13.out.below hb)
      have HL_14 := Lib.hid (HL_13.out.below hb)
      have HM_14 := Lib.hid (HM_13.out.below hb)
      have HX_14 := Lib.hid hc
      have HB14 := Lib.hid (HB13.out.trans (hb.mono HB13.out.size))
      clear hb HB13 HO_13 HA_13 HB_13 HPA_13 HPB_13 HL_13 HM_13 hc
      go_wp2_with fail
      with_reducible refine (HL2.out.at k2 HM_14.out HO_14.out HB_14.out HA_14.out).mono ?_
      rintro e w15 ⟨C4, k4, rfl, hc, hb⟩
      have HO_15 := Lib.hid (HO_14.out.below hb)
      have HA_15 := Lib.hid (HA_14.out.below hb)
      have HB_15 := Lib.hid (HB_14.out.below hb)
      have HPA_15 := Lib.hid (HPA_14.out.below hb)
      have HPB_15 := Lib.hid (HPB_14.out.below hb)
      have HL_15 := Lib.hid (HL_14.out.below hb)
      have HM_15 := Lib.hid (HM_14.out.below hb)
      have HX_15 := Lib.hid (HX_14.out.below hb)
      have HY_15 := Lib.hid hc
      have HB15 := Lib.hid (HB14.out.trans (hb.mono HB14.out.size))
      clear hb HB14 HO_14 HA_14 HB_14 HPA_14 HPB_14 HL_14 HM_14 HX_14 hc
      go_wp2_with fail
      with_reducible refine (live14.at _).mono ?_
      rintro e w16 ⟨rfl, hb⟩
      have HO_16 := Lib.hid (HO_15.out.below hb)
      have HA_16 := Lib.hid (HA_15.out.below hb)
      have HB_16 := Lib.hid (HB_15.out.below hb)
      have HPA_16 := Lib.hid (HPA_15.out.below hb)
      have HPB_16 := Lib.hid (HPB_15.out.below hb)
      have HL_16 := Lib.hid (HL_15.out.below hb)
      have HM_16 := Lib.hid (HM_15.out.below hb)
      have HX_16 := Lib.hid (HX_15.out.below hb)
      have HY_16 := Lib.hid (HY_15.out.below hb)
      have HB16 := Lib.hid (HB15.out.trans (hb.mono HB15.out.size))
      clear hb HB15 HO_15 HA_15 HB_15 HPA_15 HPB_15 HL_15 HM_15 HX_15 HY_15
      go_wp2_with fail
      with_reducible refine (HS.out.at k3 k4 HX_16.out HY_16.out).mono ?_
      rintro e w17 ⟨rfl, hb⟩
      have HO_17 := Lib.hid (HO_16.out.below hb)
      have HA_17 := Lib.hid (HA_16.out.below hb)
      have HB_17 := Lib.hid (HB_16.out.below hb)
      have HPA_17 := Lib.hid (HPA_16.out.below hb)
      have HPB_17 := Lib.hid (HPB_16.out.below hb)
      have HL_17 := Lib.hid (HL_16.out.below hb)
      have HM_17 := Lib.hid (HM_16.out.below hb)
      have HX_17 := Lib.hid (HX_16.out.below hb)
      have HY_17 := Lib.hid (HY_16.out.below hb)
      have HB17 := Lib.hid (HB16.out.trans (hb.mono HB16.out.size))
      clear hb HB16 HO_16 HA_16 HB_16 HPA_16 HPB_16 HL_16 HM_16 HX_16 HY_16
      go_wp2_with fail
      go_ret
      exact ⟨rfl, HB17.out⟩
set_option maxRecDepth 100000 in
set_option maxHeartbeats 4000000 in
theorem gturns_false {O A B : Option Addr} {co ca cb n0 n1 n2 : Nat} {o a b x : List Ln} {pa pb : List Pr} {l m : List Pc} {z : Int} (w : World) (F0 : Hid (FwM O co n0 o.length)) (F1 : Hid (FwM A ca n1 a.length)) (F2 : Hid (FwM B cb n2 b.length)) (hO : Tx w O co o) (hA : Tx w A ca a) (hB : Tx w B cb b) (HRO : Hid (RgM o true)) (HRA : Hid (RgM a true)) (HRB : Hid (RgM b true)) (HPA : Hid (PtM o a pa)) (HPB : Hid (PtM o b pb)) (HO1 : Hid (OfM 10 o a b pa pb l 0)) (hl4 : l.length ≤ 4000) (HO2 : Hid (OfM 10 o b a pb pa m 0)) (HML : Hid (m.length = l.length)) (HMS : Hid (∀ k (h : k < l.length), (m[k]'(by rw [HML.out]; exact h)).sd = tsd l[k].sd)) (HC1 : Hid (ClM 14 l false)) (HC2 : Hid (ClM 14 m false)) (HL1 : Hid (LmC 16 l o a b x z)) (HL2 : Hid (LmC 16 m o b a x z)) (HS : Hid (SlM x x true))  :
    Calls Try.prog 6 #[.slice O n0 co, .slice A n1 ca, .slice B n2 cb] w fun e w' => e = .returned (.bool true) ∧ Below w.heap.size w w' := by
  have HXO := Lib.hid hO
  have HXA := Lib.hid hA
  have HXB := Lib.hid hB
  clear hO hA hB
  have HB0 : Hid (Below w.heap.size w w) := Lib.hid (Below.refl _ _)
  go_enter Try.func6, Try.ntmps6
  go_wp2_with fail
  with_reducible refine (F0.out.bel _).mono ?_
  rintro e w1 ⟨rfl, hb⟩
  have HO_1 := Lib.hid (HXO.out.below hb)
  have HA_1 := Lib.hid (HXA.out.below hb)
  have HB_1 := Lib.hid (HXB.out.below hb)
  have HB1 := Lib.hid (HB0.out.trans (hb.mono HB0.out.size))
  clear hb HB0 HXO HXA HXB
  go_wp2_with fail
  with_reducible refine (F1.out.bel _).mono ?_
  rintro e w2 ⟨rfl, hb⟩
  have HO_2 := Lib.hid (HO_1.out.below hb)
  have HA_2 := Lib.hid (HA_1.out.below hb)
  have HB_2 := Lib.hid (HB_1.out.below hb)
  have HB2 := Lib.hid (HB1.out.trans (hb.mono HB1.out.size))
  clear hb HB1 HO_1 HA_1 HB_1
  go_wp2_with fail
  with_reducible refine (F2.out.bel _).mono ?_
  rintro e w3 ⟨rfl, hb⟩
  have HO_3 := Lib.hid (HO_2.out.below hb)
  have HA_3 := Lib.hid (HA_2.out.below hb)
  have HB_3 := Lib.hid (HB_2.out.below hb)
  have HB3 := Lib.hid (HB2.out.trans (hb.mono HB2.out.size))
  clear hb HB2 HO_2 HA_2 HB_2
  go_wp2_with fail
  with_reducible refine (HRO.out.at co HO_3.out.i).mono ?_
  rintro e w4 ⟨rfl, hb⟩
  have HO_4 := Lib.hid (HO_3.out.below hb)
  have HA_4 := Lib.hid (HA_3.out.below hb)
  have HB_4 := Lib.hid (HB_3.out.below hb)
  have HB4 := Lib.hid (HB3.out.trans (hb.mono HB3.out.size))
  clear hb HB3 HO_3 HA_3 HB_3
  go_wp2_with fail
  with_reducible refine (HRA.out.at ca HA_4.out.i).mono ?_
  rintro e w5 ⟨rfl, hb⟩
  have HO_5 := Lib.hid (HO_4.out.below hb)
  have HA_5 := Lib.hid (HA_4.out.below hb)
  have HB_5 := Lib.hid (HB_4.out.below hb)
  have HB5 := Lib.hid (HB4.out.trans (hb.mono HB4.out.size))
  clear hb HB4 HO_4 HA_4 HB_4
  go_wp2_with fail
  with_reducible refine (HRB.out.at cb HB_5.out.i).mono ?_
  rintro e w6 ⟨rfl, hb⟩
  have HO_6 := Lib.hid (HO_5.out.below hb)
  have HA_6 := Lib.hid (HA_5.out.below hb)
  have HB_6 := Lib.hid (HB_5.out.below hb)
  have HB6 := Lib.hid (HB5.out.trans (hb.mono HB5.out.size))
  clear hb HB5 HO_5 HA_5 HB_5
  go_wp2_with fail
  with_reducible refine (HPA.out.at HO_6.out HA_6.out).mono ?_
  rintro e w7 ⟨P1, c1, rfl, hc, hb⟩
  have HO_7 := Lib.hid (HO_6.out.below hb)
  have HA_7 := Lib.hid (HA_6.out.below hb)
  have HB_7 := Lib.hid (HB_6.out.below hb)
  have HPA_7 := Lib.hid hc
  have HB7 := Lib.hid (HB6.out.trans (hb.mono HB6.out.size))
  clear hb HB6 HO_6 HA_6 HB_6 hc
  go_wp2_with fail
  with_reducible refine (HPB.out.at HO_7.out HB_7.out).mono ?_
  rintro e w8 ⟨P2, c2, rfl, hc, hb⟩
  have HO_8 := Lib.hid (HO_7.out.below hb)
  have HA_8 := Lib.hid (HA_7.out.below hb)
  have HB_8 := Lib.hid (HB_7.out.below hb)
  have HPA_8 := Lib.hid (HPA_7.out.below hb)
  have HPB_8 := Lib.hid hc
  have HB8 := Lib.hid (HB7.out.trans (hb.mono HB7.out.size))
  clear hb HB7 HO_7 HA_7 HB_7 HPA_7 hc
  go_wp2_with fail
  with_reducible refine (HO1.out.at c1 c2 HO_8.out HA_8.out HB_8.out HPA_8.out HPB_8.out).mono ?_
  rintro e w9 ⟨C1, k1, rfl, hc, hb⟩
  have HO_9 := Lib.hid (HO_8.out.below hb)
  have HA_9 := Lib.hid (HA_8.out.below hb)
  have HB_9 := Lib.hid (HB_8.out.below hb)
  have HPA_9 := Lib.hid (HPA_8.out.below hb)
  have HPB_9 := Lib.hid (HPB_8.out.below hb)
  have HL_9 := Lib.hid hc
  have HB9 := Lib.hid (HB8.out.trans (hb.mono HB8.out.size))
  clear hb HB8 HO_8 HA_8 HB_8 HPA_8 HPB_8 hc
  go_wp2_with fail
  with_reducible refine (HO2.out.at c2 c1 HO_9.out HB_9.out HA_9.out HPB_9.out HPA_9.out).mono ?_
  rintro e w10 ⟨C2, k2, rfl, hc, hb⟩
  have HO_10 := Lib.hid (HO_9.out.below hb)
  have HA_10 := Lib.hid (HA_9.out.below hb)
  have HB_10 := Lib.hid (HB_9.out.below hb)
  have HPA_10 := Lib.hid (HPA_9.out.below hb)
  have HPB_10 := Lib.hid (HPB_9.out.below hb)
  have HL_10 := Lib.hid (HL_9.out.below hb)
  have HM_10 := Lib.hid hc
  have HB10 := Lib.hid (HB9.out.trans (hb.mono HB9.out.size))
  clear hb HB9 HO_9 HA_9 HB_9 HPA_9 HPB_9 HL_9 hc
  have hne : ((l.length : Int) != (m.length : Int)) = false := by rw [HML.out]; simp
  go_wp2_with fail
  with_reducible refine (HC1.out.at k1 HL_10.out).mono ?_
  rintro e w11 ⟨rfl, hb⟩
  have HO_11 := Lib.hid (HO_10.out.below hb)
  have HA_11 := Lib.hid (HA_10.out.below hb)
  have HB_11 := Lib.hid (HB_10.out.below hb)
  have HPA_11 := Lib.hid (HPA_10.out.below hb)
  have HPB_11 := Lib.hid (HPB_10.out.below hb)
  have HL_11 := Lib.hid (HL_10.out.below hb)
  have HM_11 := Lib.hid (HM_10.out.below hb)
  have HB11 := Lib.hid (HB10.out.trans (hb.mono HB10.out.size))
  clear hb HB10 HO_10 HA_10 HB_10 HPA_10 HPB_10 HL_10 HM_10
  go_wp2_with fail
  with_reducible refine (HC2.out.at k2 HM_11.out).mono ?_
  rintro e w12 ⟨rfl, hb⟩
  have HO_12 := Lib.hid (HO_11.out.below hb)
  have HA_12 := Lib.hid (HA_11.out.below hb)
  have HB_12 := Lib.hid (HB_11.out.below hb)
  have HPA_12 := Lib.hid (HPA_11.out.below hb)
  have HPB_12 := Lib.hid (HPB_11.out.below hb)
  have HL_12 := Lib.hid (HL_11.out.below hb)
  have HM_12 := Lib.hid (HM_11.out.below hb)
  have HB12 := Lib.hid (HB11.out.trans (hb.mono HB11.out.size))
  clear hb HB11 HO_11 HA_11 HB_11 HPA_11 HPB_11 HL_11 HM_11
  go_wp2_with fail
  go_loopg [13, 14] l.length (fun mm i t wr => ∃ k : Nat, k ≤ l.length ∧ i = .int .i64 (k : Int) ∧ l.length - k ≤ mm ∧ Below w12.heap.size w12 wr)
  case atStart => exact ⟨0, Nat.zero_le _, rfl, by omega, Below.refl _ _⟩
  case round =>
    obtain ⟨k, hk, rfl, hm, hbr⟩ := hrel
    by_cases hlt : k < l.length
    · obtain ⟨bk, off, hAe, hbk, hI⟩ := (HL_12.out.below hbr) (by omega)
      obtain ⟨bk2, off2, hAe2, hbk2, hI2⟩ := (HM_12.out.below hbr) (by rw [HML.out]; omega)
      subst hAe hAe2
      have g0 := (hI k hlt).1
      have d0 := (hI2 k (by rw [HML.out]; exact hlt)).1
      rw [HMS.out k hlt] at d0
      have h0k : (0 : Int) ≤ (k : Int) := by omega
      have hki : (k : Int) < (l.length : Int) := by omega
      have hki2 : (k : Int) < (m.length : Int) := by rw [HML.out]; omega
      have HBR := Lib.hid hbr
      generalize (l[k]'hlt).sd = sd at *
      clear hI hI2 hbk hbk2 hbr
      by_cases h2 : sd = 2
      · subst h2
        rw [show tsd 2 = 3 from rfl] at d0
        go_wp2_with fail
        go_roundg (l.length - (k + 1))
        case rel => exact ⟨k + 1, by omega, by go_num, Nat.le_refl _, HBR.out⟩
        case measure => omega
      · by_cases h3 : sd = 3
        · subst h3
          rw [show tsd 3 = 2 from rfl] at d0
          clear h2
          go_wp2_with fail
          go_roundg (l.length - (k + 1))
          case rel => exact ⟨k + 1, by omega, by go_num, Nat.le_refl _, HBR.out⟩
          case measure => omega
        · rw [show tsd sd = sd from by unfold tsd; rw [if_neg h2, if_neg h3]] at d0
          go_wp2_with fail
          go_roundg (l.length - (k + 1))
          case rel => exact ⟨k + 1, by omega, by go_num, Nat.le_refl _, HBR.out⟩
          case measure => omega
    · obtain rfl : k = l.length := by omega
      have HO_13 := Lib.hid (HO_12.out.below hbr)
      have HA_13 := Lib.hid (HA_12.out.below hbr)
      have HB_13 := Lib.hid (HB_12.out.below hbr)
      have HPA_13 := Lib.hid (HPA_12.out.below hbr)
      have HPB_13 := Lib.hid (HPB_12.out.below hbr)
      have HL_13 := Lib.hid (HL_12.out.below hbr)
      have HM_13 := Lib.hid (HM_12.out.below hbr)
      have HB13 := Lib.hid (HB12.out.trans (hbr.mono HB12.out.size))
      clear hbr HB12 HO_12 HA_12 HB_12 HPA_12 HPB_12 HL_12 HM_12
      go_wp2_with fail
      with_reducible refine (HL1.out.at k1 HL_13.out HO_13.out HA_13.out HB_13.out).mono ?_
      rintro e w14 ⟨C3, k3, rfl, hc, hb⟩
      have HO_14 := Lib.hid (HO_13.out.below hb)
      have HA_14 := Lib.hid (HA_13.out.below hb)
      have HB_14 := Lib.hid (HB_13.out.below hb)
      have HPA_14 := Lib.hid (HPA_13.out.below hb)
      have HPB_14 := Lib.hid (HPB_13.out.below hb)
      have HL_14 := Lib.hid (HL_13.out.below hb)
      have HM_14 := Lib.hid (HM_13.out.below hb)
      have HX_14 := Lib.hid hc
      have HB14 := Lib.hid (HB13.out.trans (hb.mono HB13.out.size))
      clear hb HB13 HO_13 HA_13 HB_13 HPA_13 HPB_13 HL_13 HM_13 hc
      go_wp2_with fail
      with_reducible refine (HL2.out.at k2 HM_14.out HO_14.out HB_14.out HA_14.out).mono ?_
      rintro e w15 ⟨C4, k4, rfl, hc, hb⟩
      have HO_15 := Lib.hid (HO_14.out.below hb)
      have HA_15 := Lib.hid (HA_14.out.below hb)
      have HB_15 := Lib.hid (HB_14.out.below hb)
      have HPA_15 := Lib.hid (HPA_14.out.below hb)
      have HPB_15 := Lib.hid (HPB_14.out.below hb)
      have HL_15 := Lib.hid (HL_14.out.below hb)
      have HM_15 := Lib.hid (HM_14.out.below hb)
      have HX_15 := Lib.hid (HX_14.out.below hb)
      have HY_15 := Lib.hid hc
      have HB15 := Lib.hid (HB14.out.trans (hb.mono HB14.out.size))
      clear hb HB14 HO_14 HA_14 HB_14 HPA_14 HPB_14 HL_14 HM_14 HX_14 hc
      go_wp2_with fail
      with_reducible refine (live14.at _).mono ?_
      rintro e w16 ⟨rfl, hb⟩
      have HO_16 := Lib.hid (HO_15.out.below hb)
      have HA_16 := Lib.hid (HA_15.out.below hb)
      have HB_16 := Lib.hid (HB_15.out.below hb)
      have HPA_16 := Lib.hid (HPA_15.out.below hb)
      have HPB_16 := Lib.hid (HPB_15.out.below hb)
      have HL_16 := Lib.hid (HL_15.out.below hb)
      have HM_16 := Lib.hid (HM_15.out.below hb)
      have HX_16 := Lib.hid (HX_15.out.below hb)
      have HY_16 := Lib.hid (HY_15.out.below hb)
      have HB16 := Lib.hid (HB15.out.trans (hb.mono HB15.out.size))
      clear hb HB15 HO_15 HA_15 HB_15 HPA_15 HPB_15 HL_15 HM_15 HX_15 HY_15
      go_wp2_with fail
      with_reducible refine (HS.out.at k3 k4 HX_16.out HY_16.out).mono ?_
      rintro e w17 ⟨rfl, hb⟩
      have HO_17 := Lib.hid (HO_16.out.below hb)
      have HA_17 := Lib.hid (HA_16.out.below hb)
      have HB_17 := Lib.hid (HB_16.out.below hb)
      have HPA_17 := Lib.hid (HPA_16.out.below hb)
      have HPB_17 := Lib.hid (HPB_16.out.below hb)
      have HL_17 := Lib.hid (HL_16.out.below hb)
      have HM_17 := Lib.hid (HM_16.out.below hb)
      have HX_17 := Lib.hid (HX_16.out.below hb)
      have HY_17 := Lib.hid (HY_16.out.below hb)
      have HB17 := Lib.hid (HB16.out.trans (hb.mono HB16.out.size))
      clear hb HB16 HO_16 HA_16 HB_16 HPA_16 HPB_16 HL_16 HM_16 HX_16 HY_16
      go_wp2_with fail
      go_ret
      exact ⟨rfl, HB17.out⟩
theorem gturns_law {O A B : Option Addr} {co ca cb : Nat} {o a b : List Ln} {w : World} (hO : Tx w O co o) (hA : Tx w A ca a) (hB : Tx w B cb b) (ho : ∀ y ∈ o, y.1.length ≤ maxLen) (ha : ∀ y ∈ a, y.1.length ≤ maxLen) (hb : ∀ y ∈ b, y.1.length ≤ maxLen) :
    Calls Try.prog 6 #[.slice O o.length co, .slice A a.length ca, .slice B b.length cb] w fun e w' => e = .returned (.bool true) ∧ Below w.heap.size w w' := by
  have l1 := len40 o
  have l2 := len40 a
  have l3 := len40 b
  have F0 := Lib.hid (c_few (A := O) hO.s hO.r)
  have F1 := Lib.hid (c_few (A := A) hA.s hA.r)
  have F2 := Lib.hid (c_few (A := B) hB.s hB.r)
  have tO := hO.take
  have tA := hA.take
  have tB := hB.take
  have R0 := c_rright (x := o.take 40) (by omega) (fun y hy => ho y (List.mem_of_mem_take hy))
  have R1 := c_rright (x := a.take 40) (by omega) (fun y hy => ha y (List.mem_of_mem_take hy))
  have R2 := c_rright (x := b.take 40) (by omega) (fun y hy => hb y (List.mem_of_mem_take hy))
  generalize o.take 40 = x at *
  generalize a.take 40 = y at *
  generalize b.take 40 = z at *
  cases h0 : P.right x with
  | false => rw [h0] at R0; exact gturns_bad0 w F0 F1 F2 tO tA tB (Lib.hid R0)
  | true =>
    rw [h0] at R0
    cases h1 : P.right y with
    | false => rw [h1] at R1; exact gturns_bad1 w F0 F1 F2 tO tA tB (Lib.hid R0) (Lib.hid R1)
    | true =>
      rw [h1] at R1
      cases h2 : P.right z with
      | false => rw [h2] at R2; exact gturns_bad2 w F0 F1 F2 tO tA tB (Lib.hid R0) (Lib.hid R1) (Lib.hid R2)
      | true =>
        rw [h2] at R2
        have m1 := Nat.le_trans (mt_len x y) (show x.length ≤ 1000 by omega)
        have m2 := Nat.le_trans (mt_len x z) (show x.length ≤ 1000 by omega)
        have o1 := c_of x y z (mt x y) (mt x z) m1 m2
        rw [mt_err (by omega) (by omega) (by omega)] at o1
        have hf := mt_fits (o := x) (a := y) (b := z) (by omega) (by omega) (by omega)
        have hs := small_of (o := x) (a := y) (b := z) (p := mt x y) (q := mt x z) (by omega) (by omega) (by omega)
        have hf2 := mt_fits (o := x) (a := z) (b := y) (by omega) (by omega) (by omega)
        have hs2 := small_of (o := x) (a := z) (b := y) (p := mt x z) (q := mt x y) (by omega) (by omega) (by omega)
        have o2 := c_of x z y (mt x z) (mt x y) m2 m1
        rw [mt_err (by omega) (by omega) (by omega)] at o2
        have hn := c_lines hs
        have hn2 := c_lines hs2
        have hc := c_clean (l := pieces x y z (mt x y) (mt x z)) hs.l
        have hc2 := c_clean (l := pieces x z y (mt x z) (mt x y)) hs2.l
        have hp := (pieces_turn x y z (mt x y) (mt x z)).1
        have hml : (pieces x z y (mt x z) (mt x y)).length = (pieces x y z (mt x y) (mt x z)).length := by rw [hp, List.length_map]
        have hms : ∀ k (h : k < (pieces x y z (mt x y) (mt x z)).length), ((pieces x z y (mt x z) (mt x y))[k]'(by rw [hml]; exact h)).sd = tsd (pieces x y z (mt x y) (mt x z))[k].sd := fun k h => by
          have : (pieces x z y (mt x z) (mt x y))[k]? = ((pieces x y z (mt x y) (mt x z)).map pturn)[k]? := by rw [hp]
          rw [List.getElem?_map, List.getElem?_eq_getElem (by rw [hml]; exact h), List.getElem?_eq_getElem h] at this
          rw [Option.some.inj this]; rfl
        have hct : clean (pieces x z y (mt x z) (mt x y)) = clean (pieces x y z (mt x y) (mt x z)) := by rw [hp, clean_turn]
        cases hcl : clean (pieces x y z (mt x y) (mt x z)) with
        | true =>
          rw [hcl] at hct
          have hwt := whole_turn (mt_like x y) (mt_like x z) hcl
          rw [(lns_clean hf hcl).1, (lns_clean hf hcl).2] at hn
          rw [(lns_clean hf2 hct).1, (lns_clean hf2 hct).2, hwt] at hn2
          rw [hcl] at hc
          rw [hct] at hc2
          have hsm : SlM (whole (pieces x y z (mt x y) (mt x z)) x y z) (whole (pieces x y z (mt x y) (mt x z)) x y z) true := c_lself (by have := hs.flat; unfold whole maxLen; rw [bared_len]; omega)
          exact gturns_true w F0 F1 F2 tO tA tB (Lib.hid R0) (Lib.hid R1) (Lib.hid R2) (Lib.hid (c_pairs (by omega) (by omega))) (Lib.hid (c_pairs (by omega) (by omega))) (Lib.hid o1) hs.l (Lib.hid o2) (Lib.hid hml) (Lib.hid hms) (Lib.hid hc) (Lib.hid hc2) (Lib.hid hn) (Lib.hid hn2) (Lib.hid hsm)
        | false =>
          rw [hcl] at hct
          rw [show lns (pieces x y z (mt x y) (mt x z)) x y z = [] by unfold lns; rw [if_pos hf, if_neg (by rw [hcl]; decide)], show lne (pieces x y z (mt x y) (mt x z)) x y z = 10 by unfold lne; rw [if_pos hf, if_neg (by rw [hcl]; decide)]] at hn
          rw [show lns (pieces x z y (mt x z) (mt x y)) x z y = [] by unfold lns; rw [if_pos hf2, if_neg (by rw [hct]; decide)], show lne (pieces x z y (mt x z) (mt x y)) x z y = 10 by unfold lne; rw [if_pos hf2, if_neg (by rw [hct]; decide)]] at hn2
          rw [hcl] at hc
          rw [hct] at hc2
          exact gturns_false w F0 F1 F2 tO tA tB (Lib.hid R0) (Lib.hid R1) (Lib.hid R2) (Lib.hid (c_pairs (by omega) (by omega))) (Lib.hid (c_pairs (by omega) (by omega))) (Lib.hid o1) hs.l (Lib.hid o2) (Lib.hid hml) (Lib.hid hms) (Lib.hid hc) (Lib.hid hc2) (Lib.hid hn) (Lib.hid hn2) (Lib.hid (c_lself (x := []) (Nat.zero_le _)))

end Go.Proofs.Ytkflhcfopejigaa.Mg
