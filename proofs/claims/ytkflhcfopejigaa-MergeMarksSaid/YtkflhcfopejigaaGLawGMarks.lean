/-
  The law MergeMarks.
-/
import Derived.Test.YtkflhcfopejigaaGgu
import Derived.BigQuiet
import Derived.Deep.RegionHeld3
namespace Go.Proofs.Ytkflhcfopejigaa.Mg
set_option linter.unusedVariables false
set_option linter.unusedSimpArgs false
open Go.RowKit
open T
open V (drawn_below)
open I (alloc1 own_at own_below)
open Mt (Pr fnd Rt right right_iff)
open N (PrIn PrIn.below pr_own)
open Ck

set_option maxRecDepth 100000 in
set_option maxHeartbeats 4000000 in
theorem gmarks_bad0 {O A B : Option Addr} {co ca cb n0 n1 n2 : Nat} {o a b : List Ln} (w : World) (F0 : Hid (FwM O co n0 o.length)) (F1 : Hid (FwM A ca n1 a.length)) (F2 : Hid (FwM B cb n2 b.length)) (hO : Tx w O co o) (hA : Tx w A ca a) (hB : Tx w B cb b) (HRO : Hid (RgM o false)) :
    Calls Try.prog 8 #[.slice O n0 co, .slice A n1 ca, .slice B n2 cb] w fun e w' => e = .returned (.bool true) ∧ Below w.heap.size w w' := by
  have HXO := Lib.hid hO
  have HXA := Lib.hid hA
  have HXB := Lib.hid hB
  clear hO hA hB
  have HB0 : Hid (Below w.heap.size w w) := Lib.hid (Below.refl _ _)
  go_enter Try.func8, Try.ntmps8
  go_wp2_with fail
  with_reducible refine (F0.out.bel _).mono ?_
  rintro e w1 ⟨rfl, hb⟩
  have HO_1 := Lib.hid (HXO.out.below hb)
  have HA_1 := Lib.hid (HXA.out.below hb)
  have HB_1 := Lib.hid (HXB.out.below hb)
  have HB1 := Lib.hid (HB0.out.trans (hb.mono HB0.out.size))
  clear hb HB0 HXO HXA HXB
  go_wp2_with fail
  with_reducible refine (F1.out.bel _).mono ?_
  rintro e w2 ⟨rfl, hb⟩
  have HO_2 := Lib.hid (HO_1.out.below hb)
  have HA_2 := Lib.hid (HA_1.out.below hb)
  have HB_2 := Lib.hid (HB_1.out.below hb)
  have HB2 := Lib.hid (HB1.out.trans (hb.mono HB1.out.size))
  clear hb HB1 HO_1 HA_1 HB_1
  go_wp2_with fail
  with_reducible refine (F2.out.bel _).mono ?_
  rintro e w3 ⟨rfl, hb⟩
  have HO_3 := Lib.hid (HO_2.out.below hb)
  have HA_3 := Lib.hid (HA_2.out.below hb)
  have HB_3 := Lib.hid (HB_2.out.below hb)
  have HB3 := Lib.hid (HB2.out.trans (hb.mono HB2.out.size))
  clear hb HB2 HO_2 HA_2 HB_2
  go_wp2_with fail
  with_reducible refine (HRO.out.at co HO_3.out.i).mono ?_
  rintro e w4 ⟨rfl, hb⟩
  have HO_4 := Lib.hid (HO_3.out.below hb)
  have HA_4 := Lib.hid (HA_3.out.below hb)
  have HB_4 := Lib.hid (HB_3.out.below hb)
  have HB4 := Lib.hid (HB3.out.trans (hb.mono HB3.out.size))
  clear hb HB3 HO_3 HA_3 HB_3
  go_wp2_with fail
  with_reducible refine (live14.at _).mono ?_
  rintro e w5 ⟨rfl, hb⟩
  have HO_5 := Lib.hid (HO_4.out.below hb)
  have HA_5 := Lib.hid (HA_4.out.below hb)
  have HB_5 := Lib.hid (HB_4.out.below hb)
  have HB5 := Lib.hid (HB4.out.trans (hb.mono HB4.out.size))
  clear hb HB4 HO_4 HA_4 HB_4
  go_wp2_with fail
  go_ret
  exact ⟨rfl, HB5.out⟩
set_option maxRecDepth 100000 in
set_option maxHeartbeats 4000000 in
theorem gmarks_bad1 {O A B : Option Addr} {co ca cb n0 n1 n2 : Nat} {o a b : List Ln} (w : World) (F0 : Hid (FwM O co n0 o.length)) (F1 : Hid (FwM A ca n1 a.length)) (F2 : Hid (FwM B cb n2 b.length)) (hO : Tx w O co o) (hA : Tx w A ca a) (hB : Tx w B cb b) (HRO : Hid (RgM o true)) (HRA : Hid (RgM a false)) :
    Calls Try.prog 8 #[.slice O n0 co, .slice A n1 ca, .slice B n2 cb] w fun e w' => e = .returned (.bool true) ∧ Below w.heap.size w w' := by
  have HXO := Lib.hid hO
  have HXA := Lib.hid hA
  have HXB := Lib.hid hB
  clear hO hA hB
  have HB0 : Hid (Below w.heap.size w w) := Lib.hid (Below.refl _ _)
  go_enter Try.func8, Try.ntmps8
  go_wp2_with fail
  with_reducible refine (F0.out.bel _).mono ?_
  rintro e w1 ⟨rfl, hb⟩
  have HO_1 := Lib.hid (HXO.out.below hb)
  have HA_1 := Lib.hid (HXA.out.below hb)
  have HB_1 := Lib.hid (HXB.out.below hb)
  have HB1 := Lib.hid (HB0.out.trans (hb.mono HB0.out.size))
  clear hb HB0 HXO HXA HXB
  go_wp2_with fail
  with_reducible refine (F1.out.bel _).mono ?_
  rintro e w2 ⟨rfl, hb⟩
  have HO_2 := Lib.hid (HO_1.out.below hb)
  have HA_2 := Lib.hid (HA_1.out.below hb)
  have HB_2 := Lib.hid (HB_1.out.below hb)
  have HB2 := Lib.hid (HB1.out.trans (hb.mono HB1.out.size))
  clear hb HB1 HO_1 HA_1 HB_1
  go_wp2_with fail
  with_reducible refine (F2.out.bel _).mono ?_
  rintro e w3 ⟨rfl, hb⟩
  have HO_3 := Lib.hid (HO_2.out.below hb)
  have HA_3 := Lib.hid (HA_2.out.below hb)
  have HB_3 := Lib.hid (HB_2.out.below hb)
  have HB3 := Lib.hid (HB2.out.trans (hb.mono HB2.out.size))
  clear hb HB2 HO_2 HA_2 HB_2
  go_wp2_with fail
  with_reducible refine (HRO.out.at co HO_3.out.i).mono ?_
  rintro e w4 ⟨rfl, hb⟩
  have HO_4 := Lib.hid (HO_3.out.below hb)
  have HA_4 := Lib.hid (HA_3.out.below hb)
  have HB_4 := Lib.hid (HB_3.out.below hb)
  have HB4 := Lib.hid (HB3.out.trans (hb.mono HB3.out.size))
  clear hb HB3 HO_3 HA_3 HB_3
  go_wp2_with fail
  with_reducible refine (HRA.out.at ca HA_4.out.i).mono ?_
  rintro e w5 ⟨rfl, hb⟩
  have HO_5 := Lib.hid (HO_4.out.below hb)
  have HA_5 := Lib.hid (HA_4.out.below hb)
  have HB_5 := Lib.hid (HB_4.out.below hb)
  have HB5 := Lib.hid (HB4.out.trans (hb.mono HB4.out.size))
  clear hb HB4 HO_4 HA_4 HB_4
  go_wp2_with fail
  with_reducible refine (live14.at _).mono ?_
  rintro e w6 ⟨rfl, hb⟩
  have HO_6 := Lib.hid (HO_5.out.below hb)
  have HA_6 := Lib.hid (HA_5.out.below hb)
  have HB_6 := Lib.hid (HB_5.out.below hb)
  have HB6 := Lib.hid (HB5.out.trans (hb.mono HB5.out.size))
  clear hb HB5 HO_5 HA_5 HB_5
  go_wp2_with fail
  go_ret
  exact ⟨rfl, HB6.out⟩
set_option maxRecDepth 100000 in
set_option maxHeartbeats 4000000 in
theorem gmarks_bad2 {O A B : Option Addr} {co ca cb n0 n1 n2 : Nat} {o a b : List Ln} (w : World) (F0 : Hid (FwM O co n0 o.length)) (F1 : Hid (FwM A ca n1 a.length)) (F2 : Hid (FwM B cb n2 b.length)) (hO : Tx w O co o) (hA : Tx w A ca a) (hB : Tx w B cb b) (HRO : Hid (RgM o true)) (HRA : Hid (RgM a true)) (HRB : Hid (RgM b false)) :
    Calls Try.prog 8 #[.slice O n0 co, .slice A n1 ca, .slice B n2 cb] w fun e w' => e = .returned (.bool true) ∧ Below w.heap.size w w' := by
  have HXO := Lib.hid hO
  have HXA := Lib.hid hA
  have HXB := Lib.hid hB
  clear hO hA hB
  have HB0 : Hid (Below w.heap.size w w) := Lib.hid (Below.refl _ _)
  go_enter Try.func8, Try.ntmps8
  go_wp2_with fail
  with_reducible refine (F0.out.bel _).mono ?_
  rintro e w1 ⟨rfl, hb⟩
  have HO_1 := Lib.hid (HXO.out.below hb)
  have HA_1 := Lib.hid (HXA.out.below hb)
  have HB_1 := Lib.hid (HXB.out.below hb)
  have HB1 := Lib.hid (HB0.out.trans (hb.mono HB0.out.size))
  clear hb HB0 HXO HXA HXB
  go_wp2_with fail
  with_reducible refine (F1.out.bel _).mono ?_
  rintro e w2 ⟨rfl, hb⟩
  have HO_2 := Lib.hid (HO_1.out.below hb)
  have HA_2 := Lib.hid (HA_1.out.below hb)
  have HB_2 := Lib.hid (HB_1.out.below hb)
  have HB2 := Lib.hid (HB1.out.trans (hb.mono HB1.out.size))
  clear hb HB1 HO_1 HA_1 HB_1
  go_wp2_with fail
  with_reducible refine (F2.out.bel _).mono ?_
  rintro e w3 ⟨rfl, hb⟩
  have HO_3 := Lib.hid (HO_2.out.below hb)
  have HA_3 := Lib.hid (HA_2.out.below hb)
  have HB_3 := Lib.hid (HB_2.out.below hb)
  have HB3 := Lib.hid (HB2.out.trans (hb.mono HB2.out.size))
  clear hb HB2 HO_2 HA_2 HB_2
  go_wp2_with fail
  with_reducible refine (HRO.out.at co HO_3.out.i).mono ?_
  rintro e w4 ⟨rfl, hb⟩
  have HO_4 := Lib.hid (HO_3.out.below hb)
  have HA_4 := Lib.hid (HA_3.out.below hb)
  have HB_4 := Lib.hid (HB_3.out.below hb)
  have HB4 := Lib.hid (HB3.out.trans (hb.mono HB3.out.size))
  clear hb HB3 HO_3 HA_3 HB_3
  go_wp2_with fail
  with_reducible refine (HRA.out.at ca HA_4.out.i).mono ?_
  rintro e w5 ⟨rfl, hb⟩
  have HO_5 := Lib.hid (HO_4.out.below hb)
  have HA_5 := Lib.hid (HA_4.out.below hb)
  have HB_5 := Lib.hid (HB_4.out.below hb)
  have HB5 := Lib.hid (HB4.out.trans (hb.mono HB4.out.size))
  clear hb HB4 HO_4 HA_4 HB_4
  go_wp2_with fail
  with_reducible refine (HRB.out.at cb HB_5.out.i).mono ?_
  rintro e w6 ⟨rfl, hb⟩
  have HO_6 := Lib.hid (HO_5.out.below hb)
  have HA_6 := Lib.hid (HA_5.out.below hb)
  have HB_6 := Lib.hid (HB_5.out.below hb)
  have HB6 := Lib.hid (HB5.out.trans (hb.mono HB5.out.size))
  clear hb HB5 HO_5 HA_5 HB_5
  go_wp2_with fail
  with_reducible refine (live14.at _).mono ?_
  rintro e w7 ⟨rfl, hb⟩
  have HO_7 := Lib.hid (HO_6.out.below hb)
  have HA_7 := Lib.hid (HA_6.out.below hb)
  have HB_7 := Lib.hid (HB_6.out.below hb)
  have HB7 := Lib.hid (HB6.out.trans (hb.mono HB6.out.size))
  clear hb HB6 HO_6 HA_6 HB_6
  go_wp2_with fail
  go_ret
  exact ⟨rfl, HB7.out⟩
set_option maxRecDepth 100000 in
set_option maxHeartbeats 4000000 in
theorem gmarks_true {O A B : Option Addr} {co ca cb n0 n1 n2 : Nat} {o a b x : List Ln} {pa pb : List Pr} {l : List Pc} {psk : Nat → Int} (w : World) (F0 : Hid (FwM O co n0 o.length)) (F1 : Hid (FwM A ca n1 a.length)) (F2 : Hid (FwM B cb n2 b.length)) (hO : Tx w O co o) (hA : Tx w A ca a) (hB : Tx w B cb b) (HRO : Hid (RgM o true)) (HRA : Hid (RgM a true)) (HRB : Hid (RgM b true)) (HPA : Hid (PtM o a pa)) (HPB : Hid (PtM o b pb)) (HO1 : Hid (OfM 10 o a b pa pb l 0)) (hl4 : l.length ≤ 4000) (HM : Hid (LmC 18 l o a b x 0)) (HN : Hid (LmC 16 l o a b x 0)) (HC : Hid (ClM 14 l true)) (HS : Hid (SlM x x true)) (HS0 : Hid (psk 0 = 0)) (HSK : Hid (∀ k (h : k < l.length), psk (k + 1) = psk k + if l[k].sd = 2 then l[k].ck.an else if l[k].sd = 4 then l[k].ck.an + l[k].ck.on + l[k].ck.bn + 4 else l[k].ck.bn)) (HSB : Hid (∀ k, 0 ≤ psk k ∧ psk k ≤ 900000)) (HIN : Hid (∀ y ∈ l, (0 ≤ y.ck.on ∧ y.ck.on ≤ 60) ∧ (0 ≤ y.ck.an ∧ y.ck.an ≤ 60) ∧ (0 ≤ y.ck.bn ∧ y.ck.bn ≤ 60))) (HSX : Hid (psk l.length = (x.length : Int))) :
    Calls Try.prog 8 #[.slice O n0 co, .slice A n1 ca, .slice B n2 cb] w fun e w' => e = .returned (.bool true) ∧ Below w.heap.size w w' := by
  have HXO := Lib.hid hO
  have HXA := Lib.hid hA
  have HXB := Lib.hid hB
  clear hO hA hB
  have HB0 : Hid (Below w.heap.size w w) := Lib.hid (Below.refl _ _)
  go_enter Try.func8, Try.ntmps8
  go_wp2_with fail
  with_reducible refine (F0.out.bel _).mono ?_
  rintro e w1 ⟨rfl, hb⟩
  have HO_1 := Lib.hid (HXO.out.below hb)
  have HA_1 := Lib.hid (HXA.out.below hb)
  have HB_1 := Lib.hid (HXB.out.below hb)
  have HB1 := Lib.hid (HB0.out.trans (hb.mono HB0.out.size))
  clear hb HB0 HXO HXA HXB
  go_wp2_with fail
  with_reducible refine (F1.out.bel _).mono ?_
  rintro e w2 ⟨rfl, hb⟩
  have HO_2 := Lib.hid (HO_1.out.below hb)
  have HA_2 := Lib.hid (HA_1.out.below hb)
  have HB_2 := Lib.hid (HB_1.out.below hb)
  have HB2 := Lib.hid (HB1.out.trans (hb.mono HB1.out.size))
  clear hb HB1 HO_1 HA_1 HB_1
  go_wp2_with fail
  with_reducible refine (F2.out.bel _).mono ?_
  rintro e w3 ⟨rfl, hb⟩
  have HO_3 := Lib.hid (HO_2.out.below hb)
  have HA_3 := Lib.hid (HA_2.out.below hb)
  have HB_3 := Lib.hid (HB_2.out.below hb)
  have HB3 := Lib.hid (HB2.out.trans (hb.mono HB2.out.size))
  clear hb HB2 HO_2 HA_2 HB_2
  go_wp2_with fail
  with_reducible refine (HRO.out.at co HO_3.out.i).mono ?_
  rintro e w4 ⟨rfl, hb⟩
  have HO_4 := Lib.hid (HO_3.out.below hb)
  have HA_4 := Lib.hid (HA_3.out.below hb)
  have HB_4 := Lib.hid (HB_3.out.below hb)
  have HB4 := Lib.hid (HB3.out.trans (hb.mono HB3.out.size))
  clear hb HB3 HO_3 HA_3 HB_3
  go_wp2_with fail
  with_reducible refine (HRA.out.at ca HA_4.out.i).mono ?_
  rintro e w5 ⟨rfl, hb⟩
  have HO_5 := Lib.hid (HO_4.out.below hb)
  have HA_5 := Lib.hid (HA_4.out.below hb)
  have HB_5 := Lib.hid (HB_4.out.below hb)
  have HB5 := Lib.hid (HB4.out.trans (hb.mono HB4.out.size))
  clear hb HB4 HO_4 HA_4 HB_4
  go_wp2_with fail
  with_reducible refine (HRB.out.at cb HB_5.out.i).mono ?_
  rintro e w6 ⟨rfl, hb⟩
  have HO_6 := Lib.hid (HO_5.out.below hb)
  have HA_6 := Lib.hid (HA_5.out.below hb)
  have HB_6 := Lib.hid (HB_5.out.below hb)
  have HB6 := Lib.hid (HB5.out.trans (hb.mono HB5.out.size))
  clear hb HB5 HO_5 HA_5 HB_5
  go_wp2_with fail
  with_reducible refine (HPA.out.at HO_6.out HA_6.out).mono ?_
  rintro e w7 ⟨P1, c1, rfl, hc, hb⟩
  have HO_7 := Lib.hid (HO_6.out.below hb)
  have HA_7 := Lib.hid (HA_6.out.below hb)
  have HB_7 := Lib.hid (HB_6.out.below hb)
  have HPA_7 := Lib.hid hc
  have HB7 := Lib.hid (HB6.out.trans (hb.mono HB6.out.size))
  clear hb HB6 HO_6 HA_6 HB_6 hc
  go_wp2_with fail
  with_reducible refine (HPB.out.at HO_7.out HB_7.out).mono ?_
  rintro e w8 ⟨P2, c2, rfl, hc, hb⟩
  have HO_8 := Lib.hid (HO_7.out.below hb)
  have HA_8 := Lib.hid (HA_7.out.below hb)
  have HB_8 := Lib.hid (HB_7.out.below hb)
  have HPA_8 := Lib.hid (HPA_7.out.below hb)
  have HPB_8 := Lib.hid hc
  have HB8 := Lib.hid (HB7.out.trans (hb.mono HB7.out.size))
  clear hb HB7 HO_7 HA_7 HB_7 HPA_7 hc
  go_wp2_with fail
  with_reducible refine (HO1.out.at c1 c2 HO_8.out HA_8.out HB_8.out HPA_8.out HPB_8.out).mono ?_
  rintro e w9 ⟨C1, k1, rfl, hc, hb⟩
  have HO_9 := Lib.hid (HO_8.out.below hb)
  have HA_9 := Lib.hid (HA_8.out.below hb)
  have HB_9 := Lib.hid (HB_8.out.below hb)
  have HPA_9 := Lib.hid (HPA_8.out.below hb)
  have HPB_9 := Lib.hid (HPB_8.out.below hb)
  have HL_9 := Lib.hid hc
  have HB9 := Lib.hid (HB8.out.trans (hb.mono HB8.out.size))
  clear hb HB8 HO_8 HA_8 HB_8 HPA_8 HPB_8 hc
  go_wp2_with fail
  with_reducible refine (HM.out.at k1 HL_9.out HO_9.out HA_9.out HB_9.out).mono ?_
  rintro e w10 ⟨C2, k2, rfl, hc, hb⟩
  have HO_10 := Lib.hid (HO_9.out.below hb)
  have HA_10 := Lib.hid (HA_9.out.below hb)
  have HB_10 := Lib.hid (HB_9.out.below hb)
  have HPA_10 := Lib.hid (HPA_9.out.below hb)
  have HPB_10 := Lib.hid (HPB_9.out.below hb)
  have HL_10 := Lib.hid (HL_9.out.below hb)
  have HX_10 := Lib.hid hc
  have HB10 := Lib.hid (HB9.out.trans (hb.mono HB9.out.size))
  clear hb HB9 HO_9 HA_9 HB_9 HPA_9 HPB_9 HL_9 hc
  go_wp2_with fail
  with_reducible refine (HN.out.at k1 HL_10.out HO_10.out HA_10.out HB_10.out).mono ?_
  rintro e w11 ⟨C3, k3, rfl, hc, hb⟩
  have HO_11 := Lib.hid (HO_10.out.below hb)
  have HA_11 := Lib.hid (HA_10.out.below hb)
  have HB_11 := Lib.hid (HB_10.out.below hb)
  have HPA_11 := Lib.hid (HPA_10.out.below hb)
  have HPB_11 := Lib.hid (HPB_10.out.below hb)
  have HL_11 := Lib.hid (HL_10.out.below hb)
  have HX_11 := Lib.hid (HX_10.out.below hb)
  have HY_11 := Lib.hid hc
  have HB11 := Lib.hid (HB10.out.trans (hb.mono HB10.out.size))
  clear hb HB10 HO_10 HA_10 HB_10 HPA_10 HPB_10 HL_10 HX_10 hc
  go_wp2_with fail
  go_loopg [13, 14] l.length (fun mm n i wr => ∃ k : Nat, k ≤ l.length ∧ i = .int .i64 (k : Int) ∧ n = .int .i64 (psk k) ∧ l.length - k ≤ mm ∧ Below w11.heap.size w11 wr)
  case atStart => exact ⟨0, Nat.zero_le _, rfl, by rw [HS0.out], by omega, Below.refl _ _⟩
  case round =>
    obtain ⟨k, hk, rfl, rfl, hm, hbr⟩ := hrel
    by_cases hlt : k < l.length
    · obtain ⟨bk, off, hAe, hbk, hI⟩ := (HL_11.out.below hbr) (by omega)
      subst hAe
      obtain ⟨g0, g1, g2, g3, g4, g5, g6, g7⟩ := hI k hlt
      have HK := Lib.hid (HSK.out k hlt)
      have b0 := HSB.out k
      have b1 := HSB.out (k + 1)
      have b2 := HIN.out _ (List.getElem_mem hlt)
      have h0k : (0 : Int) ≤ (k : Int) := by omega
      have hki : (k : Int) < (l.length : Int) := by omega
      obtain ⟨x9, hx⟩ : ∃ x9, x9 = l[k]'hlt := ⟨_, rfl⟩
      rw [← hx] at g0 g1 g2 g3 g4 g5 g6 g7 HK b2
      obtain ⟨sd, x0, x1, x2, x3, x4, x5, x6⟩ := x9
      simp only at g0 g1 g2 g3 g4 g5 g6 g7 HK b2
      clear hI hx hbk g1 g2 g4 g6
      by_cases h2 : sd = 2
      · subst h2
        have HV := Lib.hid (HK.out.trans (by rw [if_pos rfl]))
        have hw : IntKind.i64.wrap (psk k + x4) = psk k + x4 := by rw [IntKind.wrap_i64]; have := HV.out; omega
        have hw2 : wrap64 (psk k + x4) = psk k + x4 := by unfold wrap64; have := HV.out; omega
        have HBR := Lib.hid hbr
        clear HK b0 b1 b2 hbr
        go_wp2_with fail
        go_roundg (l.length - (k + 1))
        case rel => exact ⟨k + 1, by omega, by go_num, by rw [HV.out], Nat.le_refl _, HBR.out⟩
        case measure => omega
      · by_cases h4 : sd = 4
        · subst h4
          have HV := Lib.hid (HK.out.trans (by rw [if_neg h2, if_pos rfl]))
          have hw1 : IntKind.i64.wrap (x4 + x2) = x4 + x2 := by rw [IntKind.wrap_i64]; omega
          have hw2 : IntKind.i64.wrap (x4 + x2 + x6) = x4 + x2 + x6 := by rw [IntKind.wrap_i64]; omega
          have hw3 : IntKind.i64.wrap (x4 + x2 + x6 + 4) = x4 + x2 + x6 + 4 := by rw [IntKind.wrap_i64]; omega
          have hw4 : IntKind.i64.wrap (psk k + (x4 + x2 + x6 + 4)) = psk k + (x4 + x2 + x6 + 4) := by rw [IntKind.wrap_i64]; have := HV.out; omega
          have hv1 : wrap64 (x4 + x2) = x4 + x2 := by unfold wrap64; omega
          have hv2 : wrap64 (x4 + x2 + x6) = x4 + x2 + x6 := by unfold wrap64; omega
          have hv3 : wrap64 (x4 + x2 + x6 + 4) = x4 + x2 + x6 + 4 := by unfold wrap64; omega
          have hv4 : wrap64 (psk k + (x4 + x2 + x6 + 4)) = psk k + (x4 + x2 + x6 + 4) := by unfold wrap64; have := HV.out; omega
          have HBR := Lib.hid hbr
          clear HK b0 b1 b2 hbr h2
          go_wp2_with fail
          go_quiet (fail)
          go_wp2_with fail
          go_roundg (l.length - (k + 1))
          case rel => exact ⟨k + 1, by omega, by go_num, by rw [HV.out], Nat.le_refl _, HBR.out.trans ((drawn_below _ _).mono HBR.out.size)⟩
          case measure => omega
        · have HV := Lib.hid (HK.out.trans (by rw [if_neg h2, if_neg h4]))
          have hw : IntKind.i64.wrap (psk k + x6) = psk k + x6 := by rw [IntKind.wrap_i64]; have := HV.out; omega
          have hw2 : wrap64 (psk k + x6) = psk k + x6 := by unfold wrap64; have := HV.out; omega
          have n2 : ¬ (2 : Int) = sd := fun e => h2 e.symm
          have n4 : ¬ (4 : Int) = sd := fun e => h4 e.symm
          have HBR := Lib.hid hbr
          clear HK b0 b1 b2 hbr
          go_wp2_with fail
          go_roundg (l.length - (k + 1))
          case rel => exact ⟨k + 1, by omega, by go_num, by rw [HV.out], Nat.le_refl _, HBR.out⟩
          case measure => omega
    · obtain rfl : k = l.length := by omega
      rw [HSX.out]
      clear HSK HSB HIN
      have HO_12 := Lib.hid (HO_11.out.below hbr)
      have HA_12 := Lib.hid (HA_11.out.below hbr)
      have HB_12 := Lib.hid (HB_11.out.below hbr)
      have HPA_12 := Lib.hid (HPA_11.out.below hbr)
      have HPB_12 := Lib.hid (HPB_11.out.below hbr)
      have HL_12 := Lib.hid (HL_11.out.below hbr)
      have HX_12 := Lib.hid (HX_11.out.below hbr)
      have HY_12 := Lib.hid (HY_11.out.below hbr)
      have HB12 := Lib.hid (HB11.out.trans (hbr.mono HB11.out.size))
      clear hbr HB11 HO_11 HA_11 HB_11 HPA_11 HPB_11 HL_11 HX_11 HY_11
      go_wp2_with fail
      with_reducible refine (live14.at _).mono ?_
      rintro e w13 ⟨rfl, hb⟩
      have HO_13 := Lib.hid (HO_12.out.below hb)
      have HA_13 := Lib.hid (HA_12.out.below hb)
      have HB_13 := Lib.hid (HB_12.out.below hb)
      have HPA_13 := Lib.hid (HPA_12.out.below hb)
      have HPB_13 := Lib.hid (HPB_12.out.below hb)
      have HL_13 := Lib.hid (HL_12.out.below hb)
      have HX_13 := Lib.hid (HX_12.out.below hb)
      have HY_13 := Lib.hid (HY_12.out.below hb)
      have HB13 := Lib.hid (HB12.out.trans (hb.mono HB12.out.size))
      clear hb HB12 HO_12 HA_12 HB_12 HPA_12 HPB_12 HL_12 HX_12 HY_12
      go_wp2_with fail
      with_reducible refine (HC.out.at k1 HL_13.out).mono ?_
      rintro e w14 ⟨rfl, hb⟩
      have HO_14 := Lib.hid (HO_13.out.below hb)
      have HA_14 := Lib.hid (HA_13.out.below hb)
      have HB_14 := Lib.hid (HB_13.out.below hb)
      have HPA_14 := Lib.hid (HPA_13.out.below hb)
      have HPB_14 := Lib.hid (HPB_13.out.below hb)
      have HL_14 := Lib.hid (HL_13.out.below hb)
      have HX_14 := Lib.hid (HX_13.out.below hb)
      have HY_14 := Lib.hid (HY_13.out.below hb)
      have HB14 := Lib.hid (HB13.out.trans (hb.mono HB13.out.size))
      clear hb HB13 HO_13 HA_13 HB_13 HPA_13 HPB_13 HL_13 HX_13 HY_13
      go_wp2_with fail
      with_reducible refine (HS.out.at k2 k3 HX_14.out HY_14.out).mono ?_
      rintro e w15 ⟨rfl, hb⟩
      have HO_15 := Lib.hid (HO_14.out.below hb)
      have HA_15 := Lib.hid (HA_14.out.below hb)
      have HB_15 := Lib.hid (HB_14.out.below hb)
      have HPA_15 := Lib.hid (HPA_14.out.below hb)
      have HPB_15 := Lib.hid (HPB_14.out.below hb)
      have HL_15 := Lib.hid (HL_14.out.below hb)
      have HX_15 := Lib.hid (HX_14.out.below hb)
      have HY_15 := Lib.hid (HY_14.out.below hb)
      have HB15 := Lib.hid (HB14.out.trans (hb.mono HB14.out.size))
      clear hb HB14 HO_14 HA_14 HB_14 HPA_14 HPB_14 HL_14 HX_14 HY_14
      go_wp2_with fail
      go_ret
      exact ⟨rfl, HB15.out⟩
set_option maxRecDepth 100000 in
set_option maxHeartbeats 4000000 in
theorem gmarks_false {O A B : Option Addr} {co ca cb n0 n1 n2 : Nat} {o a b x : List Ln} {pa pb : List Pr} {l : List Pc} {psk : Nat → Int} (w : World) (F0 : Hid (FwM O co n0 o.length)) (F1 : Hid (FwM A ca n1 a.length)) (F2 : Hid (FwM B cb n2 b.length)) (hO : Tx w O co o) (hA : Tx w A ca a) (hB : Tx w B cb b) (HRO : Hid (RgM o true)) (HRA : Hid (RgM a true)) (HRB : Hid (RgM b true)) (HPA : Hid (PtM o a pa)) (HPB : Hid (PtM o b pb)) (HO1 : Hid (OfM 10 o a b pa pb l 0)) (hl4 : l.length ≤ 4000) (HM : Hid (LmC 18 l o a b x 0)) (HN : Hid (LmC 16 l o a b [] 10)) (HC : Hid (ClM 14 l false)) (HS0 : Hid (psk 0 = 0)) (HSK : Hid (∀ k (h : k < l.length), psk (k + 1) = psk k + if l[k].sd = 2 then l[k].ck.an else if l[k].sd = 4 then l[k].ck.an + l[k].ck.on + l[k].ck.bn + 4 else l[k].ck.bn)) (HSB : Hid (∀ k, 0 ≤ psk k ∧ psk k ≤ 900000)) (HIN : Hid (∀ y ∈ l, (0 ≤ y.ck.on ∧ y.ck.on ≤ 60) ∧ (0 ≤ y.ck.an ∧ y.ck.an ≤ 60) ∧ (0 ≤ y.ck.bn ∧ y.ck.bn ≤ 60))) (HSX : Hid (psk l.length = (x.length : Int))) :
    Calls Try.prog 8 #[.slice O n0 co, .slice A n1 ca, .slice B n2 cb] w fun e w' => e = .returned (.bool true) ∧ Below w.heap.size w w' := by
  have HXO := Lib.hid hO
  have HXA := Lib.hid hA
  have HXB := Lib.hid hB
  clear hO hA hB
  have HB0 : Hid (Below w.heap.size w w) := Lib.hid (Below.refl _ _)
  go_enter Try.func8, Try.ntmps8
  go_wp2_with fail
  with_reducible refine (F0.out.bel _).mono ?_
  rintro e w1 ⟨rfl, hb⟩
  have HO_1 := Lib.hid (HXO.out.below hb)
  have HA_1 := Lib.hid (HXA.out.below hb)
  have HB_1 := Lib.hid (HXB.out.below hb)
  have HB1 := Lib.hid (HB0.out.trans (hb.mono HB0.out.size))
  clear hb HB0 HXO HXA HXB
  go_wp2_with fail
  with_reducible refine (F1.out.bel _).mono ?_
  rintro e w2 ⟨rfl, hb⟩
  have HO_2 := Lib.hid (HO_1.out.below hb)
  have HA_2 := Lib.hid (HA_1.out.below hb)
  have HB_2 := Lib.hid (HB_1.out.below hb)
  have HB2 := Lib.hid (HB1.out.trans (hb.mono HB1.out.size))
  clear hb HB1 HO_1 HA_1 HB_1
  go_wp2_with fail
  with_reducible refine (F2.out.bel _).mono ?_
  rintro e w3 ⟨rfl, hb⟩
  have HO_3 := Lib.hid (HO_2.out.below hb)
  have HA_3 := Lib.hid (HA_2.out.below hb)
  have HB_3 := Lib.hid (HB_2.out.below hb)
  have HB3 := Lib.hid (HB2.out.trans (hb.mono HB2.out.size))
  clear hb HB2 HO_2 HA_2 HB_2
  go_wp2_with fail
  with_reducible refine (HRO.out.at co HO_3.out.i).mono ?_
  rintro e w4 ⟨rfl, hb⟩
  have HO_4 := Lib.hid (HO_3.out.below hb)
  have HA_4 := Lib.hid (HA_3.out.below hb)
  have HB_4 := Lib.hid (HB_3.out.below hb)
  have HB4 := Lib.hid (HB3.out.trans (hb.mono HB3.out.size))
  clear hb HB3 HO_3 HA_3 HB_3
  go_wp2_with fail
  with_reducible refine (HRA.out.at ca HA_4.out.i).mono ?_
  rintro e w5 ⟨rfl, hb⟩
  have HO_5 := Lib.hid (HO_4.out.below hb)
  have HA_5 := Lib.hid (HA_4.out.below hb)
  have HB_5 := Lib.hid (HB_4.out.below hb)
  have HB5 := Lib.hid (HB4.out.trans (hb.mono HB4.out.size))
  clear hb HB4 HO_4 HA_4 HB_4
  go_wp2_with fail
  with_reducible refine (HRB.out.at cb HB_5.out.i).mono ?_
  rintro e w6 ⟨rfl, hb⟩
  have HO_6 := Lib.hid (HO_5.out.below hb)
  have HA_6 := Lib.hid (HA_5.out.below hb)
  have HB_6 := Lib.hid (HB_5.out.below hb)
  have HB6 := Lib.hid (HB5.out.trans (hb.mono HB5.out.size))
  clear hb HB5 HO_5 HA_5 HB_5
  go_wp2_with fail
  with_reducible refine (HPA.out.at HO_6.out HA_6.out).mono ?_
  rintro e w7 ⟨P1, c1, rfl, hc, hb⟩
  have HO_7 := Lib.hid (HO_6.out.below hb)
  have HA_7 := Lib.hid (HA_6.out.below hb)
  have HB_7 := Lib.hid (HB_6.out.below hb)
  have HPA_7 := Lib.hid hc
  have HB7 := Lib.hid (HB6.out.trans (hb.mono HB6.out.size))
  clear hb HB6 HO_6 HA_6 HB_6 hc
  go_wp2_with fail
  with_reducible refine (HPB.out.at HO_7.out HB_7.out).mono ?_
  rintro e w8 ⟨P2, c2, rfl, hc, hb⟩
  have HO_8 := Lib.hid (HO_7.out.below hb)
  have HA_8 := Lib.hid (HA_7.out.below hb)
  have HB_8 := Lib.hid (HB_7.out.below hb)
  have HPA_8 := Lib.hid (HPA_7.out.below hb)
  have HPB_8 := Lib.hid hc
  have HB8 := Lib.hid (HB7.out.trans (hb.mono HB7.out.size))
  clear hb HB7 HO_7 HA_7 HB_7 HPA_7 hc
  go_wp2_with fail
  with_reducible refine (HO1.out.at c1 c2 HO_8.out HA_8.out HB_8.out HPA_8.out HPB_8.out).mono ?_
  rintro e w9 ⟨C1, k1, rfl, hc, hb⟩
  have HO_9 := Lib.hid (HO_8.out.below hb)
  have HA_9 := Lib.hid (HA_8.out.below hb)
  have HB_9 := Lib.hid (HB_8.out.below hb)
  have HPA_9 := Lib.hid (HPA_8.out.below hb)
  have HPB_9 := Lib.hid (HPB_8.out.below hb)
  have HL_9 := Lib.hid hc
  have HB9 := Lib.hid (HB8.out.trans (hb.mono HB8.out.size))
  clear hb HB8 HO_8 HA_8 HB_8 HPA_8 HPB_8 hc
  go_wp2_with fail
  with_reducible refine (HM.out.at k1 HL_9.out HO_9.out HA_9.out HB_9.out).mono ?_
  rintro e w10 ⟨C2, k2, rfl, hc, hb⟩
  have HO_10 := Lib.hid (HO_9.out.below hb)
  have HA_10 := Lib.hid (HA_9.out.below hb)
  have HB_10 := Lib.hid (HB_9.out.below hb)
  have HPA_10 := Lib.hid (HPA_9.out.below hb)
  have HPB_10 := Lib.hid (HPB_9.out.below hb)
  have HL_10 := Lib.hid (HL_9.out.below hb)
  have HX_10 := Lib.hid hc
  have HB10 := Lib.hid (HB9.out.trans (hb.mono HB9.out.size))
  clear hb HB9 HO_9 HA_9 HB_9 HPA_9 HPB_9 HL_9 hc
  go_wp2_with fail
  with_reducible refine (HN.out.at k1 HL_10.out HO_10.out HA_10.out HB_10.out).mono ?_
  rintro e w11 ⟨C3, k3, rfl, hc, hb⟩
  have HO_11 := Lib.hid (HO_10.out.below hb)
  have HA_11 := Lib.hid (HA_10.out.below hb)
  have HB_11 := Lib.hid (HB_10.out.below hb)
  have HPA_11 := Lib.hid (HPA_10.out.below hb)
  have HPB_11 := Lib.hid (HPB_10.out.below hb)
  have HL_11 := Lib.hid (HL_10.out.below hb)
  have HX_11 := Lib.hid (HX_10.out.below hb)
  have HY_11 := Lib.hid hc
  have HB11 := Lib.hid (HB10.out.trans (hb.mono HB10.out.size))
  clear hb HB10 HO_10 HA_10 HB_10 HPA_10 HPB_10 HL_10 HX_10 hc
  go_wp2_with fail
  go_loopg [13, 14] l.length (fun mm n i wr => ∃ k : Nat, k ≤ l.length ∧ i = .int .i64 (k : Int) ∧ n = .int .i64 (psk k) ∧ l.length - k ≤ mm ∧ Below w11.heap.size w11 wr)
  case atStart => exact ⟨0, Nat.zero_le _, rfl, by rw [HS0.out], by omega, Below.refl _ _⟩
  case round =>
    obtain ⟨k, hk, rfl, rfl, hm, hbr⟩ := hrel
    by_cases hlt : k < l.length
    · obtain ⟨bk, off, hAe, hbk, hI⟩ := (HL_11.out.below hbr) (by omega)
      subst hAe
      obtain ⟨g0, g1, g2, g3, g4, g5, g6, g7⟩ := hI k hlt
      have HK := Lib.hid (HSK.out k hlt)
      have b0 := HSB.out k
      have b1 := HSB.out (k + 1)
      have b2 := HIN.out _ (List.getElem_mem hlt)
      have h0k : (0 : Int) ≤ (k : Int) := by omega
      have hki : (k : Int) < (l.length : Int) := by omega
      obtain ⟨x9, hx⟩ : ∃ x9, x9 = l[k]'hlt := ⟨_, rfl⟩
      rw [← hx] at g0 g1 g2 g3 g4 g5 g6 g7 HK b2
      obtain ⟨sd, x0, x1, x2, x3, x4, x5, x6⟩ := x9
      simp only at g0 g1 g2 g3 g4 g5 g6 g7 HK b2
      clear hI hx hbk g1 g2 g4 g6
      by_cases h2 : sd = 2
      · subst h2
        have HV := Lib.hid (HK.out.trans (by rw [if_pos rfl]))
        have hw : IntKind.i64.wrap (psk k + x4) = psk k + x4 := by rw [IntKind.wrap_i64]; have := HV.out; omega
        have hw2 : wrap64 (psk k + x4) = psk k + x4 := by unfold wrap64; have := HV.out; omega
        have HBR := Lib.hid hbr
        clear HK b0 b1 b2 hbr
        go_wp2_with fail
        go_roundg (l.length - (k + 1))
        case rel => exact ⟨k + 1, by omega, by go_num, by rw [HV.out], Nat.le_refl _, HBR.out⟩
        case measure => omega
      · by_cases h4 : sd = 4
        · subst h4
          have HV := Lib.hid (HK.out.trans (by rw [if_neg h2, if_pos rfl]))
          have hw1 : IntKind.i64.wrap (x4 + x2) = x4 + x2 := by rw [IntKind.wrap_i64]; omega
          have hw2 : IntKind.i64.wrap (x4 + x2 + x6) = x4 + x2 + x6 := by rw [IntKind.wrap_i64]; omega
          have hw3 : IntKind.i64.wrap (x4 + x2 + x6 + 4) = x4 + x2 + x6 + 4 := by rw [IntKind.wrap_i64]; omega
          have hw4 : IntKind.i64.wrap (psk k + (x4 + x2 + x6 + 4)) = psk k + (x4 + x2 + x6 + 4) := by rw [IntKind.wrap_i64]; have := HV.out; omega
          have hv1 : wrap64 (x4 + x2) = x4 + x2 := by unfold wrap64; omega
          have hv2 : wrap64 (x4 + x2 + x6) = x4 + x2 + x6 := by unfold wrap64; omega
          have hv3 : wrap64 (x4 + x2 + x6 + 4) = x4 + x2 + x6 + 4 := by unfold wrap64; omega
          have hv4 : wrap64 (psk k + (x4 + x2 + x6 + 4)) = psk k + (x4 + x2 + x6 + 4) := by unfold wrap64; have := HV.out; omega
          have HBR := Lib.hid hbr
          clear HK b0 b1 b2 hbr h2
          go_wp2_with fail
          go_quiet (fail)
          go_wp2_with fail
          go_roundg (l.length - (k + 1))
          case rel => exact ⟨k + 1, by omega, by go_num, by rw [HV.out], Nat.le_refl _, HBR.out.trans ((drawn_below _ _).mono HBR.out.size)⟩
          case measure => omega
        · have HV := Lib.hid (HK.out.trans (by rw [if_neg h2, if_neg h4]))
          have hw : IntKind.i64.wrap (psk k + x6) = psk k + x6 := by rw [IntKind.wrap_i64]; have := HV.out; omega
          have hw2 : wrap64 (psk k + x6) = psk k + x6 := by unfold wrap64; have := HV.out; omega
          have n2 : ¬ (2 : Int) = sd := fun e => h2 e.symm
          have n4 : ¬ (4 : Int) = sd := fun e => h4 e.symm
          have HBR := Lib.hid hbr
          clear HK b0 b1 b2 hbr
          go_wp2_with fail
          go_roundg (l.length - (k + 1))
          case rel => exact ⟨k + 1, by omega, by go_num, by rw [HV.out], Nat.le_refl _, HBR.out⟩
          case measure => omega
    · obtain rfl : k = l.length := by omega
      rw [HSX.out]
      clear HSK HSB HIN
      have HO_12 := Lib.hid (HO_11.out.below hbr)
      have HA_12 := Lib.hid (HA_11.out.below hbr)
      have HB_12 := Lib.hid (HB_11.out.below hbr)
      have HPA_12 := Lib.hid (HPA_11.out.below hbr)
      have HPB_12 := Lib.hid (HPB_11.out.below hbr)
      have HL_12 := Lib.hid (HL_11.out.below hbr)
      have HX_12 := Lib.hid (HX_11.out.below hbr)
      have HY_12 := Lib.hid (HY_11.out.below hbr)
      have HB12 := Lib.hid (HB11.out.trans (hbr.mono HB11.out.size))
      clear hbr HB11 HO_11 HA_11 HB_11 HPA_11 HPB_11 HL_11 HX_11 HY_11
      go_wp2_with fail
      with_reducible refine (live14.at _).mono ?_
      rintro e w13 ⟨rfl, hb⟩
      have HO_13 := Lib.hid (HO_12.out.below hb)
      have HA_13 := Lib.hid (HA_12.out.below hb)
      have HB_13 := Lib.hid (HB_12.out.below hb)
      have HPA_13 := Lib.hid (HPA_12.out.below hb)
      have HPB_13 := Lib.hid (HPB_12.out.below hb)
      have HL_13 := Lib.hid (HL_12.out.below hb)
      have HX_13 := Lib.hid (HX_12.out.below hb)
      have HY_13 := Lib.hid (HY_12.out.below hb)
      have HB13 := Lib.hid (HB12.out.trans (hb.mono HB12.out.size))
      clear hb HB12 HO_12 HA_12 HB_12 HPA_12 HPB_12 HL_12 HX_12 HY_12
      go_wp2_with fail
      with_reducible refine (HC.out.at k1 HL_13.out).mono ?_
      rintro e w14 ⟨rfl, hb⟩
      have HO_14 := Lib.hid (HO_13.out.below hb)
      have HA_14 := Lib.hid (HA_13.out.below hb)
      have HB_14 := Lib.hid (HB_13.out.below hb)
      have HPA_14 := Lib.hid (HPA_13.out.below hb)
      have HPB_14 := Lib.hid (HPB_13.out.below hb)
      have HL_14 := Lib.hid (HL_13.out.below hb)
      have HX_14 := Lib.hid (HX_13.out.below hb)
      have HY_14 := Lib.hid (HY_13.out.below hb)
      have HB14 := Lib.hid (HB13.out.trans (hb.mono HB13.out.size))
      clear hb HB13 HO_13 HA_13 HB_13 HPA_13 HPB_13 HL_13 HX_13 HY_13
      go_wp2_with fail
      go_ret
      exact ⟨rfl, HB14.out⟩
theorem psum_snoc : ∀ (l : List Pc) (x : Pc), psum (l ++ [x]) = psum l + if x.sd = 2 then x.ck.an else if x.sd = 4 then x.ck.an + x.ck.on + x.ck.bn + 4 else x.ck.bn
  | [], x => by simp [psum]
  | y :: r, x => by rw [List.cons_append, psum, psum, psum_snoc r x]; omega
theorem psum_take {l : List Pc} {k : Nat} (h : k < l.length) : psum (l.take (k + 1)) = psum (l.take k) + if l[k].sd = 2 then l[k].ck.an else if l[k].sd = 4 then l[k].ck.an + l[k].ck.on + l[k].ck.bn + 4 else l[k].ck.bn := by
  rw [← psum_snoc, List.take_append_getElem h]
theorem psum_bound {o a b : List Ln} {l : List Pc} (hs : Small l o a b) (hf : fits l o.length a.length b.length = true) (k : Nat) : 0 ≤ psum (l.take k) ∧ psum (l.take k) ≤ 900000 := by
  have h1 := fits_in3 hf
  have h2 := flat_len (l := l.take k) (o := o) (a := a) (b := b) fun x hx => by
    have := h1 x (List.mem_of_mem_take hx)
    exact ⟨this.1, this.2, this.3⟩
  have h3 : ((l.take k).flatMap (plines o a b)).length ≤ 900000 := Small.flat ⟨by have := hs.l; rw [List.length_take]; omega, hs.o, hs.a, hs.b⟩
  omega
theorem gmarks_law {O A B : Option Addr} {co ca cb : Nat} {o a b : List Ln} {w : World} (hO : Tx w O co o) (hA : Tx w A ca a) (hB : Tx w B cb b) (ho : ∀ y ∈ o, y.1.length ≤ maxLen) (ha : ∀ y ∈ a, y.1.length ≤ maxLen) (hb : ∀ y ∈ b, y.1.length ≤ maxLen) :
    Calls Try.prog 8 #[.slice O o.length co, .slice A a.length ca, .slice B b.length cb] w fun e w' => e = .returned (.bool true) ∧ Below w.heap.size w w' := by
  have l1 := len40 o
  have l2 := len40 a
  have l3 := len40 b
  have F0 := Lib.hid (c_few (A := O) hO.s hO.r)
  have F1 := Lib.hid (c_few (A := A) hA.s hA.r)
  have F2 := Lib.hid (c_few (A := B) hB.s hB.r)
  have tO := hO.take
  have tA := hA.take
  have tB := hB.take
  have R0 := c_rright (x := o.take 40) (by omega) (fun y hy => ho y (List.mem_of_mem_take hy))
  have R1 := c_rright (x := a.take 40) (by omega) (fun y hy => ha y (List.mem_of_mem_take hy))
  have R2 := c_rright (x := b.take 40) (by omega) (fun y hy => hb y (List.mem_of_mem_take hy))
  generalize o.take 40 = x at *
  generalize a.take 40 = y at *
  generalize b.take 40 = z at *
  cases h0 : P.right x with
  | false => rw [h0] at R0; exact gmarks_bad0 w F0 F1 F2 tO tA tB (Lib.hid R0)
  | true =>
    rw [h0] at R0
    cases h1 : P.right y with
    | false => rw [h1] at R1; exact gmarks_bad1 w F0 F1 F2 tO tA tB (Lib.hid R0) (Lib.hid R1)
    | true =>
      rw [h1] at R1
      cases h2 : P.right z with
      | false => rw [h2] at R2; exact gmarks_bad2 w F0 F1 F2 tO tA tB (Lib.hid R0) (Lib.hid R1) (Lib.hid R2)
      | true =>
        rw [h2] at R2
        have m1 := Nat.le_trans (mt_len x y) (show x.length ≤ 1000 by omega)
        have m2 := Nat.le_trans (mt_len x z) (show x.length ≤ 1000 by omega)
        have o1 := c_of x y z (mt x y) (mt x z) m1 m2
        rw [mt_err (by omega) (by omega) (by omega)] at o1
        have hf := mt_fits (o := x) (a := y) (b := z) (by omega) (by omega) (by omega)
        have hs := small_of (o := x) (a := y) (b := z) (p := mt x y) (q := mt x z) (by omega) (by omega) (by omega)
        have hm := c_marked hs
        have hn := c_lines hs
        have hc := c_clean (l := pieces x y z (mt x y) (mt x z)) hs.l
        have hw := whole_len (mt_can (o := x) (a := y) (b := z) (by omega) (by omega) (by omega)) ⟨(mt_like x y).like, (mt_like x z).like⟩
        have e1 : mkd (pieces x y z (mt x y) (mt x z)) x y z = whole (pieces x y z (mt x y) (mt x z)) x y z := if_pos hf
        have e2 : mke (pieces x y z (mt x y) (mt x z)) x y z = 0 := if_pos hf
        rw [e1, e2] at hm
        have hsm : SlM (whole (pieces x y z (mt x y) (mt x z)) x y z) (whole (pieces x y z (mt x y) (mt x z)) x y z) true := c_lself (by have := hs.flat; unfold whole maxLen; rw [bared_len]; omega)
        have hin : ∀ q ∈ pieces x y z (mt x y) (mt x z), (0 ≤ q.ck.on ∧ q.ck.on ≤ 60) ∧ (0 ≤ q.ck.an ∧ q.ck.an ≤ 60) ∧ (0 ≤ q.ck.bn ∧ q.ck.bn ≤ 60) := fun q hq => by
          have := fits_in3 hf q hq
          have k1 := this.fo
          have k2 := this.fa
          have k3 := this.fb
          omega
        have hsb := psum_bound hs hf
        have hsx : psum ((pieces x y z (mt x y) (mt x z)).take (pieces x y z (mt x y) (mt x z)).length) = ((whole (pieces x y z (mt x y) (mt x z)) x y z).length : Int) := by rw [List.take_length, hw]
        cases hcl : clean (pieces x y z (mt x y) (mt x z)) with
        | true =>
          rw [(lns_clean hf hcl).1, (lns_clean hf hcl).2] at hn
          rw [hcl] at hc
          exact gmarks_true w F0 F1 F2 tO tA tB (Lib.hid R0) (Lib.hid R1) (Lib.hid R2) (Lib.hid (c_pairs (by omega) (by omega))) (Lib.hid (c_pairs (by omega) (by omega))) (Lib.hid o1) hs.l (Lib.hid hm) (Lib.hid hn) (Lib.hid hc) (Lib.hid hsm) (psk := fun k => psum ((pieces x y z (mt x y) (mt x z)).take k)) (Lib.hid rfl) (Lib.hid fun k h => psum_take h) (Lib.hid hsb) (Lib.hid hin) (Lib.hid hsx)
        | false =>
          rw [show lns (pieces x y z (mt x y) (mt x z)) x y z = [] by unfold lns; rw [if_pos hf, if_neg (by rw [hcl]; decide)], show lne (pieces x y z (mt x y) (mt x z)) x y z = 10 by unfold lne; rw [if_pos hf, if_neg (by rw [hcl]; decide)]] at hn
          rw [hcl] at hc
          exact gmarks_false w F0 F1 F2 tO tA tB (Lib.hid R0) (Lib.hid R1) (Lib.hid R2) (Lib.hid (c_pairs (by omega) (by omega))) (Lib.hid (c_pairs (by omega) (by omega))) (Lib.hid o1) hs.l (Lib.hid hm) (Lib.hid hn) (Lib.hid hc) (psk := fun k => psum ((pieces x y z (mt x y) (mt x z)).take k)) (Lib.hid rfl) (Lib.hid fun k h => psum_take h) (Lib.hid hsb) (Lib.hid hin) (Lib.hid hsx)

end Go.Proofs.Ytkflhcfopejigaa.Mg
