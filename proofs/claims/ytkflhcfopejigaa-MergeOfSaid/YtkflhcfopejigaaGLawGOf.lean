/-
  The law MergeOf.
-/
import Derived.Test.YtkflhcfopejigaaGgu
import Derived.BigQuiet
import Derived.Deep.RegionHeld3
namespace Go.Proofs.Ytkflhcfopejigaa.Mg
set_option linter.unusedVariables false
set_option linter.unusedSimpArgs false
open Go.RowKit
open T
open V (drawn_below)
open I (alloc1 own_at own_below)
open Mt (Pr fnd Rt right right_iff)
open N (PrIn PrIn.below pr_own)
open Ck

set_option maxRecDepth 100000 in
set_option maxHeartbeats 4000000 in
theorem gof_walk {O A B P Q : Option Addr} {co ca cb cp cq n0 n1 n2 n3 n4 : Nat} {o a b : List Ln} {p q : List Pr} {l : List Pc} {z : Int} {v : Bool} (w : World) (F0 : Hid (FwM O co n0 o.length)) (F1 : Hid (FwM A ca n1 a.length)) (F2 : Hid (FwM B cb n2 b.length)) (hO : Tx w O co o) (hA : Tx w A ca a) (hB : Tx w B cb b) (hP : PrIn w P p) (hQ : PrIn w Q q) (hp : min (n3 : Int) 40 = (p.length : Int)) (hq : min (n4 : Int) 40 = (q.length : Int)) (hp2 : p.length ≤ n3) (hq2 : q.length ≤ n4) (hp3 : n3 ≤ cp) (hq3 : n4 ≤ cq) (hp4 : n3 ≤ 9223372036854775807) (hq4 : n4 ≤ 9223372036854775807) (HO : Hid (OfM 10 o a b p q l z)) (HR : Hid (OfM 11 o a b p q l z)) (HS : Hid (SmM l)) (HC : Hid (ClM 14 l v)) (HD : Hid (ClM 15 l v)) :
    Calls Try.prog 3 #[.slice O n0 co, .slice A n1 ca, .slice B n2 cb, .slice P n3 cp, .slice Q n4 cq] w fun e w' => e = .returned (.bool true) ∧ Below w.heap.size w w' := by
  have HXO := Lib.hid hO
  have HXA := Lib.hid hA
  have HXB := Lib.hid hB
  have HXP := Lib.hid hP
  have HXQ := Lib.hid hQ
  clear hO hA hB hP hQ
  have hp5 : p.length ≤ cp := by omega
  have hq5 : q.length ≤ cq := by omega
  go_enter Try.func3, Try.ntmps3
  go_wp2_with fail
  go_region_held3 (fun w' => Below w.heap.size w w')
    (first | exact (Below.refl _ _).drew | with_reducible exact (by assumption))
    (first
      | (go_at_call 9; with_reducible refine (F0.out.at _).mono ?_; rintro r wq ⟨rfl, rfl⟩)
      | (go_at_call 9; with_reducible refine (F1.out.at _).mono ?_; rintro r wq ⟨rfl, rfl⟩)
      | (go_at_call 9; with_reducible refine (F2.out.at _).mono ?_; rintro r wq ⟨rfl, rfl⟩))
  all_goals
    have hbh : Below w.heap.size w _ := (by assumption)
    have HB1 := Lib.hid hbh
    have HO_1 := Lib.hid (HXO.out.below hbh)
    have HA_1 := Lib.hid (HXA.out.below hbh)
    have HB_1 := Lib.hid (HXB.out.below hbh)
    have HP_1 := Lib.hid (HXP.out.below hbh)
    have HQ_1 := Lib.hid (HXQ.out.below hbh)
    clear hbh HXO HXA HXB HXP HXQ F0 F1 F2
    go_wp2_with fail
    with_reducible refine (HO.out.at cp cq HO_1.out HA_1.out HB_1.out HP_1.out HQ_1.out).mono ?_
    rintro e w2 ⟨C1, k1, rfl, hc, hb⟩
    have HO_2 := Lib.hid (HO_1.out.below hb)
    have HA_2 := Lib.hid (HA_1.out.below hb)
    have HB_2 := Lib.hid (HB_1.out.below hb)
    have HP_2 := Lib.hid (HP_1.out.below hb)
    have HQ_2 := Lib.hid (HQ_1.out.below hb)
    have HL_2 := Lib.hid hc
    have HB2 := Lib.hid (HB1.out.trans (hb.mono HB1.out.size))
    clear hb HB1 HO_1 HA_1 HB_1 HP_1 HQ_1 hc
    go_wp2_with fail
    with_reducible refine (HR.out.at cp cq HO_2.out HA_2.out HB_2.out HP_2.out HQ_2.out).mono ?_
    rintro e w3 ⟨C2, k2, rfl, hc, hb⟩
    have HO_3 := Lib.hid (HO_2.out.below hb)
    have HA_3 := Lib.hid (HA_2.out.below hb)
    have HB_3 := Lib.hid (HB_2.out.below hb)
    have HP_3 := Lib.hid (HP_2.out.below hb)
    have HQ_3 := Lib.hid (HQ_2.out.below hb)
    have HL_3 := Lib.hid (HL_2.out.below hb)
    have HM_3 := Lib.hid hc
    have HB3 := Lib.hid (HB2.out.trans (hb.mono HB2.out.size))
    clear hb HB2 HO_2 HA_2 HB_2 HP_2 HQ_2 HL_2 hc
    go_wp2_with fail
    with_reducible refine (live14.at _).mono ?_
    rintro e w4 ⟨rfl, hb⟩
    have HO_4 := Lib.hid (HO_3.out.below hb)
    have HA_4 := Lib.hid (HA_3.out.below hb)
    have HB_4 := Lib.hid (HB_3.out.below hb)
    have HP_4 := Lib.hid (HP_3.out.below hb)
    have HQ_4 := Lib.hid (HQ_3.out.below hb)
    have HL_4 := Lib.hid (HL_3.out.below hb)
    have HM_4 := Lib.hid (HM_3.out.below hb)
    have HB4 := Lib.hid (HB3.out.trans (hb.mono HB3.out.size))
    clear hb HB3 HO_3 HA_3 HB_3 HP_3 HQ_3 HL_3 HM_3
    go_wp2_with fail
    with_reducible refine (HS.out.at k1 k2 HL_4.out HM_4.out).mono ?_
    rintro e w5 ⟨rfl, hb⟩
    have HO_5 := Lib.hid (HO_4.out.below hb)
    have HA_5 := Lib.hid (HA_4.out.below hb)
    have HB_5 := Lib.hid (HB_4.out.below hb)
    have HP_5 := Lib.hid (HP_4.out.below hb)
    have HQ_5 := Lib.hid (HQ_4.out.below hb)
    have HL_5 := Lib.hid (HL_4.out.below hb)
    have HM_5 := Lib.hid (HM_4.out.below hb)
    have HB5 := Lib.hid (HB4.out.trans (hb.mono HB4.out.size))
    clear hb HB4 HO_4 HA_4 HB_4 HP_4 HQ_4 HL_4 HM_4
    go_wp2_with fail
    with_reducible refine (HC.out.at k1 HL_5.out).mono ?_
    rintro e w6 ⟨rfl, hb⟩
    have HO_6 := Lib.hid (HO_5.out.below hb)
    have HA_6 := Lib.hid (HA_5.out.below hb)
    have HB_6 := Lib.hid (HB_5.out.below hb)
    have HP_6 := Lib.hid (HP_5.out.below hb)
    have HQ_6 := Lib.hid (HQ_5.out.below hb)
    have HL_6 := Lib.hid (HL_5.out.below hb)
    have HM_6 := Lib.hid (HM_5.out.below hb)
    have HB6 := Lib.hid (HB5.out.trans (hb.mono HB5.out.size))
    clear hb HB5 HO_5 HA_5 HB_5 HP_5 HQ_5 HL_5 HM_5
    go_wp2_with fail
    with_reducible refine (HD.out.at k2 HM_6.out).mono ?_
    rintro e w7 ⟨rfl, hb⟩
    have HO_7 := Lib.hid (HO_6.out.below hb)
    have HA_7 := Lib.hid (HA_6.out.below hb)
    have HB_7 := Lib.hid (HB_6.out.below hb)
    have HP_7 := Lib.hid (HP_6.out.below hb)
    have HQ_7 := Lib.hid (HQ_6.out.below hb)
    have HL_7 := Lib.hid (HL_6.out.below hb)
    have HM_7 := Lib.hid (HM_6.out.below hb)
    have HB7 := Lib.hid (HB6.out.trans (hb.mono HB6.out.size))
    clear hb HB6 HO_6 HA_6 HB_6 HP_6 HQ_6 HL_6 HM_6
    go_wp2_with fail
    go_ret
    exact ⟨by simp, HB7.out⟩
theorem gof_law {O A B P Q : Option Addr} {co ca cb cp cq : Nat} {o a b : List Ln} {p q : List Pr} {w : World} (hO : Tx w O co o) (hA : Tx w A ca a) (hB : Tx w B cb b) (hP : PrIn w P p) (hQ : PrIn w Q q) (hp : p.length ≤ maxLen) (hq : q.length ≤ maxLen) (hp3 : p.length ≤ cp) (hq3 : q.length ≤ cq) :
    Calls Try.prog 3 #[.slice O o.length co, .slice A a.length ca, .slice B b.length cb, .slice P p.length cp, .slice Q q.length cq] w fun e w' => e = .returned (.bool true) ∧ Below w.heap.size w w' := by
  have l1 := len40 p
  have l2 := len40 q
  unfold maxLen at hp hq
  have hl := Nat.le_trans (pieces_le (o.take 40) (a.take 40) (b.take 40) (p.take 40) (q.take 40)) (show 1200 ≤ 4000 by decide)
  exact gof_walk w (Lib.hid (c_few (A := O) hO.s hO.r)) (Lib.hid (c_few (A := A) hA.s hA.r)) (Lib.hid (c_few (A := B) hB.s hB.r)) hO.take hA.take hB.take (pr_take hP 40) (pr_take hQ 40) (by rw [List.length_take]; omega) (by rw [List.length_take]; omega) (by rw [List.length_take]; omega) (by rw [List.length_take]; omega) hp3 hq3 (by omega) (by omega) (Lib.hid (c_of _ _ _ _ _ (by omega) (by omega))) (Lib.hid (c_rof _ _ _ _ _ (by omega) (by omega))) (Lib.hid (c_psame hl)) (Lib.hid (c_clean hl)) (Lib.hid (c_rclean hl))

end Go.Proofs.Ytkflhcfopejigaa.Mg
